/- The contracts of spec.l04Rows and spec.KeyOf; condition: numbers are ints. -/
import Derived.Test.YtmjpdccfdaajmaaDoorSgn1
import Derived.Test.YtmjpdccfdaajmaaDoorStrB
import Derived.Test.YtmjpdccfdaajmaaDoorCut2
import Derived.Test.YtmjpdccfdaajmaaDoorIntS
import Derived.Test.YtmjpdccfdaajmaaDoorCur
namespace Go.Proofs.YtmjpdccfdaajmaaDoor.P4
set_option maxRecDepth 8000
open Go.RowKit P1 P3

/-- Two by two. -/
def pairs : List (List UInt8) → List (List UInt8)
  | a :: b :: r => node a b :: pairs r
  | _ => []

/-- The rows of the tree, from below. -/
def lev (seed : Int) : Nat → List (List UInt8)
  | 0 => lev0 seed
  | s + 1 => pairs (lev seed s)

def levLen (s : Nat) : Nat := if s = 0 then 4 else if s = 1 then 2 else 1

theorem lev_length (seed : Int) (s : Nat) (hs : s ≤ 2) : (lev seed s).length = levLen s := by
  match s, hs with
  | 0, _ => rfl
  | 1, _ => rfl
  | 2, _ => rfl

theorem lev_eight (seed : Int) (s : Nat) (hs : s ≤ 2) : ∀ x ∈ lev seed s, x.length = 8 := by
  match s, hs with
  | 0, _ => intro x hx; simp [lev, lev0] at hx; rcases hx with rfl | rfl | rfl | rfl <;> exact leafKey_length _ _
  | 1, _ => intro x hx; simp [lev, lev0, pairs] at hx; rcases hx with rfl | rfl <;> exact node_length _ _
  | 2, _ => intro x hx; simp [lev, lev0, pairs] at hx; rw [hx]; exact node_length _ _

theorem lev_next (seed : Int) (s j : Nat) (hs : s < 2) (hj : 2 * j + 1 < levLen s) :
    (lev seed (s + 1)).take (j + 1) = (lev seed (s + 1)).take j ++ [node ((lev seed s).getD (2 * j) []) ((lev seed s).getD (2 * j + 1) [])] := by
  have hs' : s = 0 ∨ s = 1 := by omega
  rcases hs' with rfl | rfl
  · have hj' : j = 0 ∨ j = 1 := by simp [levLen] at hj; omega
    rcases hj' with rfl | rfl <;> rfl
  · have hj' : j = 0 := by simp [levLen] at hj; omega
    subst hj'
    rfl

theorem lev0_next (seed : Int) (k : Nat) (hk : k < 4) : (lev0 seed).take (k + 1) = (lev0 seed).take k ++ [leafKey seed k] := by
  have hk' : k = 0 ∨ k = 1 ∨ k = 2 ∨ k = 3 := by omega
  rcases hk' with rfl | rfl | rfl | rfl <;> rfl

def slLen : Value → Nat | .slice _ n _ => n | _ => 0

/-- What the rows' slice reads as: the slices of its rows, and these as texts. -/
def RowsAt (w : World) (v : Value) (seed : Int) : Prop :=
  ∃ v0 v1 v2 g cap, v = .slice (some ⟨g, 0, none⟩) 3 cap ∧ w.cell? ⟨g, 0, none⟩ = some v0 ∧ w.cell? ⟨g, 1, none⟩ = some v1 ∧ w.cell? ⟨g, 2, none⟩ = some v2 ∧ TextsAt w v0 (lev seed 0) ∧ TextsAt w v1 (lev seed 1) ∧ TextsAt w v2 (lev seed 2)

/-- v is a slice in block g that reads as the texts l. -/
def TextsG (w : World) (v : Value) (l : List (List UInt8)) (g : Nat) : Prop :=
  ∃ cap, v = .slice (some ⟨g, 0, none⟩) l.length cap ∧ g < w.heap.size ∧ ∀ j (hj : j < l.length), w.cell? ⟨g, j, none⟩ = some (.string ⟨(l[j]).toArray⟩)

theorem TextsG.grown {w w' : World} {v : Value} {l : List (List UInt8)} {g : Nat} {r : Option Nat} (h : TextsG w v l g) (hg : w.grownBy w' r) (hne : r ≠ some g) : TextsG w' v l g := by
  obtain ⟨cap, h1, h2, h3⟩ := h
  have hb : w'.heap[g]? = w.heap[g]? := hg.block g h2 (fun e => hne e.symm)
  exact ⟨cap, h1, Nat.lt_of_lt_of_le h2 hg.size, fun j hj => by rw [World.cell?_of_block (w := w) hb]; exact h3 j hj⟩

theorem TextsG.below {w w' : World} {v : Value} {l : List (List UInt8)} {g : Nat} (h : TextsG w v l g) (hb : Below w.heap.size w w') : TextsG w' v l g :=
  h.grown (r := none) ⟨hb.os, hb.tape, hb.output, hb.size, fun k hk _ => hb.block k hk⟩ (fun e => by cases e)

theorem TextsG.at_ {w : World} {v : Value} {l : List (List UInt8)} {g : Nat} (h : TextsG w v l g) : TextsAt w v l := by
  obtain ⟨cap, h1, h2, h3⟩ := h
  exact ⟨_, cap, h1, fun j hj => ⟨g, 0, rfl, h2, by rw [Nat.zero_add]; exact h3 j hj⟩⟩

theorem TextsG.of_own {B : Nat} {w : World} {e : TypeId} {v : Value} {l : List (List UInt8)} (h : w.ownsRow B e 1 v l.length (cellsS l)) (hl : 0 < l.length) : ∃ g, B ≤ g ∧ TextsG w v l g ∧ v.ownBlock = some g := by
  have h0 := h
  rcases h.2 with ⟨rfl, hn⟩ | ⟨g, cap, cur, rfl, h1, h2, -, -, -, -⟩
  · omega
  · exact ⟨g, h1, ⟨cap, rfl, (Array.getElem?_eq_some_iff.1 h2).1, fun j hj => by rw [h0.cellAt j (by omega)]; simp [cellsS, hj]⟩, rfl⟩

/-- The rows made so far, and the slice that holds them. -/
structure RM (w : World) (seed : Int) (s : Nat) (B : Nat) (out : Value) (vs : List Value) (gs : List Nat) : Prop where
  le : s ≤ 2
  lv : vs.length = s + 1
  lg : gs.length = s + 1
  txt : ∀ i (h1 : i < vs.length) (h2 : i < gs.length), TextsG w vs[i] (lev seed i) gs[i]
  own : w.ownsRow B 27 1 out (s + 1) vs

theorem RM.below {w w' : World} {seed : Int} {s B : Nat} {out : Value} {vs : List Value} {gs : List Nat} (m : RM w seed s B out vs gs) (hb : Below w.heap.size w w') : RM w' seed s B out vs gs :=
  { m with txt := fun i h1 h2 => (m.txt i h1 h2).below hb, own := own_below m.own hb }

theorem own_belowB {a b : World} {B B1 : Nat} {e : TypeId} {v : Value} {n : Nat} {xs : List Value} (h : a.ownsRow B e 1 v n xs) (hb : Below B1 a b) (hv : ∀ g, v.ownBlock = some g → g < B1) : b.ownsRow B e 1 v n xs := by
  rcases h.2 with ⟨rfl, h0⟩ | ⟨g, cap, cur, rfl, h1, h2, h3⟩
  · exact ⟨h.1, .inl ⟨rfl, h0⟩⟩
  · exact ⟨h.1, .inr ⟨g, cap, cur, rfl, h1, (hb.block g (hv g rfl)).trans h2, h3⟩⟩

theorem RM.belowB {w w' : World} {seed : Int} {s B B1 : Nat} {out : Value} {vs : List Value} {gs : List Nat} (m : RM w seed s B out vs gs) (hb : Below B1 w w') (hg : ∀ i (h : i < gs.length), gs[i] < B1) (hv : ∀ g, out.ownBlock = some g → g < B1) : RM w' seed s B out vs gs :=
  { m with
    txt := fun i h1 h2 => by
      obtain ⟨cap, e1, e2, e3⟩ := m.txt i h1 h2
      have hbl := hb.block gs[i] (hg i h2)
      exact ⟨cap, e1, Nat.lt_of_lt_of_le e2 hb.size, fun j hj => by rw [World.cell?_of_block (w := w) hbl]; exact e3 j hj⟩
    own := own_belowB m.own hb hv }

theorem RM.lt {w : World} {seed : Int} {s B : Nat} {out : Value} {vs : List Value} {gs : List Nat} (m : RM w seed s B out vs gs) : (∀ i (h : i < gs.length), gs[i] < w.heap.size) ∧ ∀ g, out.ownBlock = some g → g < w.heap.size := by
  refine ⟨fun i h => ?_, fun g hg => (m.own.lt g hg).2⟩
  have hv := m.lv
  have hgl := m.lg
  obtain ⟨_, _, h2, _⟩ := m.txt i (by omega) h
  exact h2

theorem lev_pos (seed : Int) (s : Nat) (hs : s ≤ 2) : 0 < (lev seed s).length := by
  rw [lev_length seed s hs]
  unfold levLen
  split
  · omega
  · split <;> omega

/-- The slice of rows lies in no row's block. -/
theorem RM.apart {w : World} {seed : Int} {s B : Nat} {out : Value} {vs : List Value} {gs : List Nat} (m : RM w seed s B out vs gs) (i : Nat) (h : i < gs.length) : out.ownBlock ≠ some gs[i] := by
  intro e
  have hle := m.le
  have hlv := m.lv
  have hlg := m.lg
  have hown := m.own
  rcases hown.2 with ⟨_, h0⟩ | ⟨g, cap, cur, rfl, h1, h2, -, -, -, -⟩
  · omega
  · have eg : g = gs[i] := by simpa [Value.ownBlock] using e
    have c1 := hown.cellAt 0 (by omega)
    obtain ⟨cp, e1, _, _⟩ := m.txt 0 (by omega) (by omega)
    rw [List.getElem?_eq_getElem (by omega), e1] at c1
    obtain ⟨_, _, _, e3⟩ := m.txt i (by omega) h
    have c2 := e3 0 (lev_pos seed i (by omega))
    rw [← eg, c1] at c2
    cases c2

theorem levLen_cases (s : Nat) (hs : s < 2) : (levLen s = 4 ∧ s = 0) ∨ (levLen s = 2 ∧ s = 1) := by
  have : s = 0 ∨ s = 1 := by omega
  rcases this with rfl | rfl
  · exact .inl ⟨rfl, rfl⟩
  · exact .inr ⟨rfl, rfl⟩

set_option maxHeartbeats 2000000 in
theorem rows_calls (seed : Int) (w : World) :
    Calls Tryd.prog 64 #[.int .i64 seed] w fun e w' => ∃ v, e = .returned v ∧ RowsAt w' v seed ∧ Below w.heap.size w w' := by
  obtain ⟨i0, hi, hz0, hz1, hz2⟩ := info_parts info_str
  obtain ⟨i1, hi1, hy0, hy1, hy2⟩ := info_parts info_strs
  go_enter Tryd.func64, Tryd.ntmps64
  go_wp2_with fail
  have hown0 : (w.alloc (.cells #[] 9)).ownsRow w.heap.size 9 1 (.slice (some ⟨w.heap.size, 0, none⟩) 0 0) 0 [] := World.ownsRow_lit _ _ 0 (Nat.le_refl _) (by decide) rfl
  have hb0 : Below w.heap.size w (w.alloc (.cells #[] 9)) := (Below.refl _ _).alloc (Nat.le_refl _) _
  obtain ⟨g0, hg0⟩ : ∃ g0, g0 = w.heap.size := ⟨_, rfl⟩
  rw [← hg0]
  have HO : Hid ((w.alloc (.cells #[] 9)).ownsRow w.heap.size 9 1 (.slice (some ⟨g0, 0, none⟩) 0 0) 0 []) := by rw [hg0]; exact hown0
  have HB := hide hb0
  clear hown0 hb0 hg0
  generalize w.alloc (.cells #[] 9) = w0 at HO HB ⊢
  go_loopw [3, 4] (fun v i wr => ∃ k : Nat, ∃ L : List (List UInt8), k ≤ 4 ∧ i = .int .i64 k ∧ L = (lev0 seed).take k ∧ wr.ownsRow w.heap.size 9 1 v L.length (cellsS L) ∧ Below w.heap.size w wr) (fun _ i _ => 4 - (intOf i).toNat)
  case atStart => exact ⟨0, [], by omega, rfl, rfl, HO.out, HB.out⟩
  case round =>
    clear HO HB
    obtain ⟨k, L, hk, rfl, hL, hown, hb⟩ := hrel
    have HO := hide hown
    have HB := hide hb
    have HL := hide hL
    have hll : L.length ≤ 4 := by rw [hL, List.length_take]; omega
    have HLL := hide hll
    clear hown hb hL hll
    by_cases hlt : k < 4
    · have HN := hide (lev0_next seed k hlt)
      rw [← HL.out] at HN
      have HK := hide (fun wx => specLeafKey_calls seed k wx)
      obtain ⟨z, Ez⟩ : ∃ z, Hid (z = leafKey seed k) := ⟨_, rfl⟩
      rw [← Ez.out] at HN
      simp only [← Ez.out] at HK
      clear Ez
      go_wp2_with fail
      refine (HK.out _).mono ?_
      rintro e w1 ⟨rfl, hb1⟩
      have HO1 := hide (own_below HO.out hb1)
      have HB1 := hide (HB.out.trans (hb1.mono HB.out.size))
      clear hb1 HO HB
      go_wp2_with (at_builtin; refine wpList_append_one (cs := #[.string ⟨z.toArray⟩]) HB1.out (Nat.le_refl _) rfl (.tmp 13) (.tmp 17) 27 rfl 9 i0 (.string ⟨#[]⟩) 1 16 Tryd.underlying27 hi hz0 hz1 hz2 rfl (by decide) rfl (by simp [Value.oneCell']) _ _ _ rfl HO1.out 1 rfl (by have := HLL.out; omega) (by have := HLL.out; omega) ?_)
      intro v' w2 hown2 hb2
      have HO2 := hide (own_snocS hown2)
      have HB2 := hide hb2
      clear hown2 hb2
      go_wp2_with fail
      go_roundw
      case rel => exact ⟨k + 1, L ++ [z], by omega, by go_num, HN.out.symm, HO2.out, HB2.out⟩
      case measure => simp [intOf]; omega
    · have hk4 : k = 4 := by omega
      have hLe : L = lev0 seed := by rw [HL.out, hk4]; rfl
      subst hLe
      have hd4 : decide ((k : Int) < 4) = false := by simp; omega
      clear HL HLL hk4
      obtain ⟨g1, hg1, htx, hob⟩ := TextsG.of_own HO.out (by show 0 < 4; omega)
      have HBw := hide HB.out
      have HTX := hide htx
      obtain ⟨cap1, hu3, -, -⟩ := htx
      have hlw : g1 < wr.heap.size := by obtain ⟨_, _, h, _⟩ := HTX.out; exact h
      clear HO HB hob
      subst hu3
      have hl4 : (lev0 seed).length = 4 := rfl
      rw [hl4] at HTX ⊢
      go_wp2_with fail
      have hown0 : (wr.alloc (.cells #[.slice (some ⟨g1, 0, none⟩) 4 cap1] 27)).ownsRow wr.heap.size 27 1 (.slice (some ⟨wr.heap.size, 0, none⟩) 1 1) 1 [.slice (some ⟨g1, 0, none⟩) 4 cap1] := World.ownsRow_lit _ _ 1 (Nat.le_refl _) (by decide) rfl
      have hbA : Below wr.heap.size wr (wr.alloc (.cells #[.slice (some ⟨g1, 0, none⟩) 4 cap1] 27)) := (Below.refl _ _).alloc (Nat.le_refl _) _
      have hrm : RM (wr.alloc (.cells #[.slice (some ⟨g1, 0, none⟩) 4 cap1] 27)) seed 0 wr.heap.size (.slice (some ⟨wr.heap.size, 0, none⟩) 1 1) [.slice (some ⟨g1, 0, none⟩) 4 cap1] [g1] := by
        refine ⟨by omega, rfl, rfl, fun i h1 h2 => ?_, hown0⟩
        obtain rfl : i = 0 := by simp at h1; omega
        exact HTX.out.below hbA
      have HRM := hide hrm
      have HBA := hide hbA
      clear hown0 hbA hrm HTX
      obtain ⟨BW, hBW⟩ : ∃ BW, BW = wr.heap.size := ⟨_, rfl⟩
      rw [← hBW] at HRM HBA hlw ⊢
      generalize wr.alloc (.cells #[.slice (some ⟨g1, 0, none⟩) 4 cap1] 27) = w1 at HRM HBA ⊢
      clear hd4 hlt hk
      have HB1 := hide (HBw.out.trans (HBA.out.mono (by have := HBw.out.size; omega)))
      have hBWw : w.heap.size ≤ BW := by have := HBw.out.size; omega
      clear HBA HBw hBW
      go_loopw [3, 5] (fun row out wx => ∃ (s : Nat) (vs : List Value) (gs : List Nat), row = vs.getD s undef ∧ RM wx seed s BW out vs gs ∧ Below w.heap.size w wx) (fun row _ _ => slLen row)
      case atStart => exact ⟨0, _, _, rfl, HRM.out, HB1.out⟩
      case round =>
        clear HRM HB1
        obtain ⟨s, vs, gs, hrow, hm, hb⟩ := hrel
        have hs2 := hm.le
        have hvl := hm.lv
        have hgl := hm.lg
        have hvs : vs.getD s undef = vs[s] := by simp [List.getD_eq_getElem?_getD, show s < vs.length by omega]
        have htx := hm.txt s (by omega) (by omega)
        obtain ⟨cap, hv, hglt, hcells⟩ := htx
        rw [lev_length seed s hs2] at hv
        rw [hvs, hv] at hrow
        subst hrow
        have HM := hide hm
        have HB := hide hb
        have HCL := hide hcells
        have HVL := hide hvl
        have HGL := hide hgl
        generalize gs[s] = gr at *
        clear hm hb hvs hcells hvl hgl hv
        by_cases hlt2 : s < 2
        · have hn : (levLen s = 4 ∧ s = 0) ∨ (levLen s = 2 ∧ s = 1) := levLen_cases s hlt2
          have hgt : decide (1 < ((levLen s : Nat) : Int)) = true := by simp; omega
          obtain ⟨hg1', hg2'⟩ := HM.out.lt
          have HGS := hide hg1'
          have HOB := hide hg2'
          clear hg1' hg2'
          go_wp2_with fail
          have hown0 : (wr.alloc (.cells #[] 9)).ownsRow wr.heap.size 9 1 (.slice (some ⟨wr.heap.size, 0, none⟩) 0 0) 0 [] := World.ownsRow_lit _ _ 0 (Nat.le_refl _) (by decide) rfl
          have hbA : Below wr.heap.size wr (wr.alloc (.cells #[] 9)) := (Below.refl _ _).alloc (Nat.le_refl _) _
          have HM3 := hide (HM.out.below hbA)
          have HB3 := hide (HB.out.trans (hbA.mono HB.out.size))
          have hz3 : wr.heap.size ≤ (wr.alloc (.cells #[] 9)).heap.size := hbA.size
          have hwB : w.heap.size ≤ wr.heap.size := HB.out.size
          have hBB : BW ≤ wr.heap.size ∨ True := .inr trivial
          have hcl3 : ∀ j (hj : j < (lev seed s).length), (wr.alloc (.cells #[] 9)).cell? ⟨gr, j, none⟩ = some (.string ⟨((lev seed s)[j]).toArray⟩) := fun j hj => by rw [hbA.cell (p := ⟨gr, j, none⟩) hglt]; exact HCL.out j hj
          have HCL3 := hide hcl3
          obtain ⟨B1, hB1⟩ : ∃ B1, B1 = wr.heap.size := ⟨_, rfl⟩
          rw [← hB1] at hown0 hglt hz3 hwB HGS HOB ⊢
          have HO3 := hide hown0
          clear hown0 hbA hcl3 HM HB HCL hBB hB1
          generalize wr.alloc (.cells #[] 9) = w3 at *
          go_loopw [6, 7] (fun nx i wz => ∃ (j : Nat) (L : List (List UInt8)), 2 * j ≤ levLen s ∧ i = .int .i64 (2 * (j : Int)) ∧ L = (lev seed (s + 1)).take j ∧ wz.ownsRow B1 9 1 nx L.length (cellsS L) ∧ RM wz seed s BW u5 vs gs ∧ Below w.heap.size w wz ∧ B1 ≤ wz.heap.size ∧ ∀ j (hj : j < (lev seed s).length), wz.cell? ⟨gr, j, none⟩ = some (.string ⟨((lev seed s)[j]).toArray⟩)) (fun _ i _ => levLen s - (intOf i).toNat)
          case atStart => exact ⟨0, [], by omega, rfl, rfl, HO3.out, HM3.out, HB3.out, hz3, HCL3.out⟩
          case round =>
            clear HM3 HB3 HCL3 hz3 HO3
            obtain ⟨j, L, hj, rfl, hL, hown, hm, hb, hz, hcl⟩ := hrel
            have HO := hide hown
            have HM := hide hm
            have HB := hide hb
            have HCL := hide hcl
            have HL := hide hL
            clear hown hm hb hcl hL
            by_cases hlt3 : 2 * j + 1 < levLen s
            · have hd : decide (2 * (j : Int) + 1 < ((levLen s : Nat) : Int)) = true := by simp; omega
              have HN := hide (lev_next seed s j hlt2 hlt3)
              rw [← HL.out] at HN
              have hle := lev_length seed s hs2
              have k0 : (lev seed s).getD (2 * j) [] = (lev seed s)[2 * j] := by simp [List.getD_eq_getElem?_getD, show 2 * j < (lev seed s).length by omega]
              have k1 : (lev seed s).getD (2 * j + 1) [] = (lev seed s)[2 * j + 1] := by simp [List.getD_eq_getElem?_getD, show 2 * j + 1 < (lev seed s).length by omega]
              have c0 := HCL.out (2 * j) (by omega)
              have c1 := HCL.out (2 * j + 1) (by omega)
              have l0 := lev_eight seed s hs2 _ (List.getElem_mem (show 2 * j < (lev seed s).length by omega))
              have l1 := lev_eight seed s hs2 _ (List.getElem_mem (show 2 * j + 1 < (lev seed s).length by omega))
              rw [k0, k1] at HN
              generalize (lev seed s)[2 * j] = x0 at *
              generalize (lev seed s)[2 * j + 1] = x1 at *
              have hll : L.length ≤ 4 := by rw [HL.out, List.length_take]; omega
              have HLL := hide hll
              have HCT := hide (fun wx => cut_calls (110 :: (x0 ++ x1)) (by simp; omega) wx)
              have e1 : (⟨#[110]⟩ : ByteArray) ++ ⟨x0.toArray⟩ = ⟨(110 :: x0).toArray⟩ := ByteArray.mk_append_mk [110] x0
              have e2 : (⟨(110 :: x0).toArray⟩ : ByteArray) ++ ⟨x1.toArray⟩ = ⟨(110 :: (x0 ++ x1)).toArray⟩ := by rw [ByteArray.mk_append_mk]; simp
              have s1 : (110 :: x0).length = 9 := by simp [l0]
              have s2 : (110 :: (x0 ++ x1)).length = 17 := by simp [l0, l1]
              have HNC : Hid (node x0 x1 = cut8 (110 :: (x0 ++ x1))) := rfl
              rw [← HNC.out] at HCT
              generalize node x0 x1 = nd at *
              generalize 110 :: (x0 ++ x1) = t2 at *
              generalize 110 :: x0 = t1 at *
              clear k0 k1 hll HNC HL
              go_wp2_with fail
              refine wp_region_open (fun wd => Below wr.heap.size wr wd) ((Below.refl _ _).drew) (by kernel_rfl) ?_
              intro wd hbd
              have grl : gr < wr.heap.size := by omega
              have c0' : wd.cell? ⟨gr, 2 * j, none⟩ = some (.string ⟨x0.toArray⟩) := by rw [hbd.cell (p := ⟨gr, 2 * j, none⟩) grl]; exact c0
              have c1' : wd.cell? ⟨gr, 2 * j + 1, none⟩ = some (.string ⟨x1.toArray⟩) := by rw [hbd.cell (p := ⟨gr, 2 * j + 1, none⟩) grl]; exact c1
              have HBD := hide hbd
              clear hbd c0 c1
              refine wpAny_seg_lit 0 1 15 rfl (by decide) (by kernel_rfl) (by kernel_rfl) (fun _ _ _ _ _ h => h) ?_
              simp only [List.take_succ_cons, List.take_zero, List.drop_zero]
              repeat (go_big_quiet_step (fail))
              refine wpQuiet_nil ?_
              refine wpAny_cut 1 12 6 (fun w' => w' = wd) rfl (by decide) rfl (by kernel_rfl) (by kernel_rfl) (by kernel_rfl) (by kernel_rfl) ?_
              simp only [List.take_succ_cons, List.take_zero, List.drop_succ_cons, List.drop_zero]
              repeat (go_big_quiet_step (fail))
              refine wpQuiet_nil ?_
              rintro wd' rfl
              refine wpAny_rest 12 rfl (by kernel_rfl) ?_
              simp only [List.drop_succ_cons, List.drop_zero]
              go_wp2_with fail
              refine (HCT.out _).mono ?_
              rintro e w5 ⟨rfl, hb5⟩
              have hbt := HBD.out.trans (hb5.mono HBD.out.size)
              have HBT := hide hbt
              have hz5 : B1 ≤ w5.heap.size := Nat.le_trans hz hbt.size
              have HO5 := hide (own_below HO.out hbt)
              clear hb5 hbt HBD c0' c1'
              go_wp2_with (at_builtin; refine wpList_append_one (cs := #[.string ⟨nd.toArray⟩]) (Below.refl B1 _) hz5 rfl (.tmp 32) (.tmp 45) 27 rfl 9 i0 (.string ⟨#[]⟩) 1 16 Tryd.underlying27 hi hz0 hz1 hz2 rfl (by decide) rfl (by simp [Value.oneCell']) _ _ _ rfl HO5.out 1 rfl (by have := HLL.out; omega) (by have := HLL.out; omega) ?_)
              intro v' w6 hown6 hb6
              have HO6 := hide (own_snocS hown6)
              have HM6 := hide ((HM.out.below HBT.out).belowB hb6 HGS.out HOB.out)
              have hbw := HB.out.trans (HBT.out.mono HB.out.size)
              have HB6 := hide (hbw.trans (hb6.mono hwB))
              have hz6 : B1 ≤ w6.heap.size := Nat.le_trans hz5 hb6.size
              have hcl6 : ∀ j (hj : j < (lev seed s).length), w6.cell? ⟨gr, j, none⟩ = some (.string ⟨((lev seed s)[j]).toArray⟩) := fun j hj => by rw [hb6.cell (p := ⟨gr, j, none⟩) hglt, HBT.out.cell (p := ⟨gr, j, none⟩) grl]; exact HCL.out j hj
              have HCL6 := hide hcl6
              clear hown6 hb6 hbw hcl6 HBT HO5 HM HB HCL HO
              go_wp2_with fail
              go_roundw
              case rel => exact ⟨j + 1, L ++ [nd], by omega, by go_num, HN.out.symm, HO6.out, HM6.out, HB6.out, hz6, HCL6.out⟩
              case measure => simp [intOf]; omega
            · have hd : decide (2 * (j : Int) + 1 < ((levLen s : Nat) : Int)) = false := by simp; omega
              have hle1 := lev_length seed (s + 1) (by omega)
              have hj2 : levLen (s + 1) = j := by
                rcases hn with ⟨h4, rfl⟩ | ⟨h4, rfl⟩
                · show 2 = j; omega
                · show 1 = j; omega
              have hLe : L = lev seed (s + 1) := by rw [HL.out]; exact List.take_of_length_le (by omega)
              have hpos := lev_pos seed (s + 1) (by omega)
              rw [hLe] at HO
              obtain ⟨gn, hgn, htn, hobn⟩ := TextsG.of_own HO.out hpos
              have HTN := hide htn
              obtain ⟨cn, hnx, hgnl, -⟩ := htn
              rw [hle1] at hnx
              subst hnx
              have HJ2 := hide hj2
              clear HO HL hLe hobn hj2 hle1
              have hbA : Below wr.heap.size wr (wr.alloc (.cells #[.slice (some ⟨gn, 0, none⟩) (levLen (s + 1)) cn] 27)) := (Below.refl _ _).alloc (Nat.le_refl _) _
              have HMA := hide (HM.out.below hbA)
              have HTA := hide (HTN.out.below hbA)
              have HBA := hide (HB.out.trans (hbA.mono HB.out.size))
              have hBWr : BW ≤ wr.heap.size := by
                rcases HM.out.own.2 with ⟨_, h0⟩ | ⟨g, _, _, _, h1, h2, -⟩
                · omega
                · exact Nat.le_trans h1 (Nat.le_of_lt (Array.getElem?_eq_some_iff.1 h2).1)
              have hnw : ∀ j u, [Value.slice (some ⟨gn, 0, none⟩) (levLen (s + 1)) cn][j]? = some u → (wr.alloc (.cells #[.slice (some ⟨gn, 0, none⟩) (levLen (s + 1)) cn] 27)).cell? ((⟨wr.heap.size, 0, none⟩ : Addr).add j) = some u := by
                intro j u hju
                match j, hju with
                | 0, hju => simp at hju; subst hju; simp [Addr.add]
              have HNW := hide hnw
              have HOA := hide HMA.out.own
              clear hbA hnw HM HB HTN
              go_wp2_with (at_builtin; refine wpList_append_own _ rfl (.tmp 47) (.tmp 49) 79 rfl BW 27 i1 (.slice none 0 0) 1 24 Tryd.underlying79 hi1 hy0 hy1 hy2 rfl (by decide) _ (s + 1) vs rfl HOA.out ⟨wr.heap.size, 0, none⟩ 1 1 [.slice (some ⟨gn, 0, none⟩) (levLen (s + 1)) cn] rfl rfl HNW.out (by simp [Value.oneCell']) (by unfold maxLen; omega) (by omega) (by simp; omega) ?_)
              intro v' w6 hown6 hgr6 _
              have hrm : RM w6 seed (s + 1) BW v' (vs ++ [.slice (some ⟨gn, 0, none⟩) (levLen (s + 1)) cn]) (gs ++ [gn]) := by
                refine ⟨by omega, by rw [List.length_append, HVL.out]; rfl, by rw [List.length_append, HGL.out]; rfl, fun i h1 h2 => ?_, hown6⟩
                have hvl := HVL.out
                have hgl := HGL.out
                by_cases hi : i < s + 1
                · rw [List.getElem_append_left (by omega), List.getElem_append_left (by omega)]
                  exact (HMA.out.txt i (by omega) (by omega)).grown hgr6 (HMA.out.apart i (by omega))
                · have hi2 : i = s + 1 := by rw [List.length_append, HVL.out] at h1; simp at h1; omega
                  subst hi2
                  rw [List.getElem_append_right (by omega), List.getElem_append_right (by omega)]
                  simp only [hvl, hgl, Nat.sub_self, List.getElem_cons_zero]
                  refine HTA.out.grown hgr6 (fun e => ?_)
                  have := HOB.out gn e
                  omega
              have HRM := hide hrm
              have HB6 := hide (HBA.out.grown hgr6 HBA.out.size (fun k hk => Nat.le_trans hBWw (HOA.out.lt k hk).1))
              have hslv : (vs ++ [Value.slice (some ⟨gn, 0, none⟩) (levLen (s + 1)) cn]).getD (s + 1) undef = .slice (some ⟨gn, 0, none⟩) (levLen (s + 1)) cn := by
                rw [List.getD_eq_getElem?_getD, List.getElem?_append_right (by rw [HVL.out]; omega), HVL.out, Nat.sub_self]
                rfl
              have HSL := hide hslv
              clear hown6 hgr6 hrm hslv HMA HTA HBA HNW HOA
              go_wp2_with fail
              go_roundw
              case rel => exact ⟨s + 1, _, _, HSL.out.symm, HRM.out, HB6.out⟩
              case measure => have hj3 := HJ2.out; simp [slLen]; omega
        · have hs : s = 2 := by omega
          subst hs
          have hd : decide (1 < ((levLen 2 : Nat) : Int)) = false := by decide
          have hvl := HVL.out
          have hgl := HGL.out
          obtain ⟨go, co, hgo, hgo1, hgo2, hco, hcs, -⟩ := own_at HM.out.own (by omega)
          subst hgo
          have hra : RowsAt wr (.slice (some ⟨go, 0, none⟩) 3 co) seed := by
            refine ⟨vs[0], vs[1], vs[2], go, co, rfl, ?_, ?_, ?_, (HM.out.txt 0 (by omega) (by omega)).at_, (HM.out.txt 1 (by omega) (by omega)).at_, (HM.out.txt 2 (by omega) (by omega)).at_⟩
            · rw [hcs 0 (by omega)]; exact List.getElem?_eq_getElem (by omega)
            · rw [hcs 1 (by omega)]; exact List.getElem?_eq_getElem (by omega)
            · rw [hcs 2 (by omega)]; exact List.getElem?_eq_getElem (by omega)
          have HRA := hide hra
          clear hra hcs HM HCL
          go_wp2_with fail
          go_ret
          exact ⟨_, rfl, HRA.out, HB.out⟩
end Go.Proofs.YtmjpdccfdaajmaaDoor.P4
