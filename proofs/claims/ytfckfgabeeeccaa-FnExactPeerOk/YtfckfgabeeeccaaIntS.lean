/- The laws' own helpers over slices of ints: toIntS, eqIntS, markIntS, heldIntS; condition: at most 2^30 of them. -/
import Derived.Test.YtfckfgabeeeccaaKit2
import Derived.Test.YtfckfgabeeeccaaFrame
import Derived.Test.YtfckfgabeeeccaaRows
import Derived.WalkKit
namespace Go.Proofs.Ytfckfgabeeeccaa.P1
set_option maxRecDepth 8000
open Go.RowKit

/-- v is a slice that reads as the ints l. -/
def IntsAt (w : World) (v : Value) (l : List Int) : Prop :=
  ∃ a cap, v = .slice a l.length cap ∧ ∀ j (hj : j < l.length), ∃ g off, a = some ⟨g, off, none⟩ ∧ g < w.heap.size ∧ w.cell? ⟨g, off + j, none⟩ = some (.int .i64 l[j])

theorem cell_lt' {w : World} {a : Addr} {v : Value} (h : w.cell? a = some v) : a.block < w.heap.size := by
  unfold World.cell? at h
  rcases Nat.lt_or_ge a.block w.heap.size with h' | h'
  · exact h'
  · rw [Array.getElem?_eq_none h'] at h; simp at h

theorem IntsAt.below {B : Nat} {w w' : World} {v : Value} {l : List Int} (h : IntsAt w v l) (hb : Below B w w') (hB : w.heap.size ≤ B) : IntsAt w' v l := by
  obtain ⟨a, cap, h1, h2⟩ := h
  refine ⟨a, cap, h1, fun j hj => ?_⟩
  obtain ⟨g, off, e1, e2, e3⟩ := h2 j hj
  exact ⟨g, off, e1, Nat.lt_of_lt_of_le e2 hb.size, by rw [hb.cell (p := ⟨g, off + j, none⟩) (by show g < B; omega)]; exact e3⟩

theorem IntsAt.of_own {B : Nat} {w : World} {e : TypeId} {v : Value} {l : List Int} (h : w.ownsRow B e 1 v l.length (cellsI l)) : IntsAt w v l := by
  have h0 := h
  rcases h.2 with ⟨rfl, hn⟩ | ⟨g, cap, cur, rfl, h1, h2, -, -, -, -⟩
  · exact ⟨none, 0, by rw [hn], fun j hj => by omega⟩
  · exact ⟨_, cap, rfl, fun j hj => ⟨g, 0, rfl, (Array.getElem?_eq_some_iff.1 h2).1, by rw [Nat.zero_add, h0.cellAt j (by omega)]; simp [cellsI, hj]⟩⟩

theorem IntsAt.of_row {w : World} {a : Option Addr} {len cap : Nat} {zs : List Int} (h : Frame.IsRow .i64 w a len cap zs) : IntsAt w (.slice a len cap) (zs.take len) := by
  rcases h with ⟨rfl, rfl, rfl, rfl⟩ | ⟨x, rfl, h1, _, h3, h4, _⟩
  · exact ⟨none, 0, rfl, fun j hj => by simp at hj⟩
  · have hl : (zs.take len).length = len := by rw [List.length_take]; omega
    refine ⟨some x, cap, by rw [hl], fun j hj => ?_⟩
    obtain ⟨b, off, rfl, hc⟩ := ints_at h4 (by omega)
    have hj' : j < zs.length := by omega
    refine ⟨b, off, rfl, cell_lt' (hc j hj'), ?_⟩
    rw [hc j hj']
    simp [List.getD_eq_getElem?_getD, hj']

theorem IntsAt.drewN {w : World} {v : Value} {l : List Int} (h : IntsAt w v l) (n : Nat) : IntsAt (w.drewN n) v l := h

theorem drewN2 (w : World) (a b : Nat) : (w.drewN a).drewN b = w.drewN (a + b) := by simp [World.drewN, Nat.add_assoc]

set_option maxHeartbeats 400000 in
theorem eqInts_calls (w : World) (v u : Value) (l m : List Int) (hv : IntsAt w v l) (hu : IntsAt w u m) (hl : l.length ≤ 1073741824) (hm : m.length ≤ 1073741824) :
    Calls Try.prog 27 #[v, u] w fun e w' => e = .returned (.bool (decide (l = m))) ∧ ∃ n, w' = w.drewN n := by
  obtain ⟨a, ca, rfl, HA⟩ := hv
  obtain ⟨b, cb, rfl, HB⟩ := hu
  replace HA := hide HA
  replace HB := hide HB
  by_cases hlen : l.length = m.length
  · have hd : (((l.length : Int)) != ((m.length : Int))) = false := by simp; omega
    go_enter Try.func27, Try.ntmps27
    go_wp2
    clear hd
    go_loopw [5] (fun i wr => ∃ k : Nat, k ≤ l.length ∧ i = .int .i64 k ∧ l.take k = m.take k ∧ ∃ n, wr = w.drewN n) (fun i _ => l.length - (intOf i).toNat)
    case atStart => exact ⟨0, Nat.zero_le _, rfl, rfl, 0, rfl⟩
    case round =>
      obtain ⟨k, hk, rfl, htk, n, rfl⟩ := hrel
      have HT := hide htk
      clear htk
      by_cases hlt : k < l.length
      · obtain ⟨ga, oa, rfl, ha2, ha3⟩ := HA.out k hlt
        obtain ⟨gb, ob, rfl, hb2, hb3⟩ := HB.out k (by omega)
        have hltm : k < m.length := by omega
        by_cases heq : l[k] = m[k]
        · have hne : (l[k] != m[k]) = false := by simpa using heq
          have HN : Hid (l.take (k + 1) = m.take (k + 1)) := by
            show l.take (k + 1) = m.take (k + 1)
            rw [List.take_succ_eq_append_getElem hlt, List.take_succ_eq_append_getElem hltm, HT.out, heq]
          clear heq HT
          generalize l[k] = x at *
          generalize m[k] = y at *
          go_wp2
          go_quiet (fail)
          go_wp2
          go_roundw
          case rel => exact ⟨k + 1, by omega, by go_num, HN.out, _, rfl⟩
          case measure => simp [intOf]; omega
        · have hne : (l[k] != m[k]) = true := by simpa using heq
          have HN : Hid (decide (l = m) = false) := by
            show decide (l = m) = false
            rw [decide_eq_false_iff_not]
            intro h
            apply heq
            subst h
            rfl
          clear heq HT
          generalize l[k] = x at *
          generalize m[k] = y at *
          go_wp2
          go_quiet (fail)
          go_wp2
          go_ret
          exact ⟨by rw [HN.out]; rfl, _, drewN2 _ _ _⟩
      · have HE : Hid (decide (l = m) = true) := by
          show decide (l = m) = true
          rw [decide_eq_true_iff]
          have := HT.out
          rw [List.take_of_length_le (by omega), List.take_of_length_le (by omega)] at this
          exact this
        go_wp2
        go_ret
        exact ⟨by rw [HE.out]; rfl, _, rfl⟩
  · have hd : (((l.length : Int)) != ((m.length : Int))) = true := by simp; omega
    have HE : Hid (decide (l = m) = false) := by
      show decide (l = m) = false
      rw [decide_eq_false_iff_not]
      intro h
      exact hlen (by rw [h])
    go_enter Try.func27, Try.ntmps27
    go_wp2
    go_ret
    exact ⟨by rw [HE.out]; rfl, 0, rfl⟩

theorem info_i64 : (Try.prog.info? 3).map (fun i => (i.zero, i.size, i.bytes)) = some (some (.int .i64 0), 1, 8) := by kernel_rfl

theorem cellsI_zeros (n : Nat) : (madeCells #[Value.int .i64 0] n).toList = cellsI (List.replicate n 0) := by
  rw [toList_madeCells_one]
  simp [cellsI]

theorem cellsI_set (l : List Int) (k : Nat) (x : Int) : (cellsI l).set k (.int .i64 x) = cellsI (l.set k x) := by
  simp [cellsI]

/-- The first k of l, noughts behind. -/
def half (l : List Int) (k : Nat) : List Int := l.take k ++ List.replicate (l.length - k) 0

theorem half_length (l : List Int) (k : Nat) (hk : k ≤ l.length) : (half l k).length = l.length := by simp [half]; omega

theorem half_set (l : List Int) (k : Nat) (hk : k < l.length) : (half l k).set k l[k] = half l (k + 1) := by
  unfold half
  have h1 : (l.take k).length = k := by rw [List.length_take]; omega
  rw [List.set_append_right _ _ (by omega), h1, Nat.sub_self, List.take_succ_eq_append_getElem hk]
  rw [show l.length - k = (l.length - (k + 1)) + 1 by omega, List.replicate_succ, List.set_cons_zero, List.append_assoc, List.singleton_append]

theorem half_all (l : List Int) (k : Nat) (hk : l.length ≤ k) : half l k = l := by
  unfold half
  rw [List.take_of_length_le hk, show l.length - k = 0 by omega]
  simp

set_option maxHeartbeats 400000 in
theorem toInts_calls (w : World) (v : Value) (l : List Int) (hv : IntsAt w v l) (hl : l.length ≤ 1073741824) :
    Calls Try.prog 19 #[v] w fun e w' => ∃ v', e = .returned v' ∧ w'.ownsRow w.heap.size 3 1 v' l.length (cellsI l) ∧ Below w.heap.size w w' := by
  have HV := hide hv
  obtain ⟨a, ca, rfl, HA⟩ := hv
  replace HA := hide HA
  obtain ⟨i0, hi, hz0, hz1, hz2⟩ := info_parts info_i64
  go_enter Try.func19, Try.ntmps19
  go_wp2_with (at_make; refine wpList_make_full _ rfl (.tmp 6) (.tmp 6) 22 rfl w.heap.size 3 i0 (.int .i64 0) 1 Try.underlying22 hi hz0 hz1 .i64 .i64 _ _ l.length rfl rfl (by omega) (by omega) (by rw [hz2]; omega) (by unfold maxLen; omega) (Nat.le_refl _) ?_)
  intro w2 hown2 hgr2
  rw [cellsI_zeros] at hown2
  have hb2 : Below w.heap.size w w2 := (Below.refl _ _).grown hgr2 (Nat.le_refl _) (by intro k hk; cases hk)
  have HO2 := hide hown2
  have HB2 := hide hb2
  clear hown2 hgr2 hb2
  obtain ⟨g, hg⟩ : ∃ g, g = w.heap.size := ⟨_, rfl⟩
  go_wp2
  rw [← hg]
  have hgw : w.heap.size ≤ g := by omega
  have HG := hide hg
  clear hg
  go_loopw [4] (fun i wr => ∃ k : Nat, k ≤ l.length ∧ i = .int .i64 k ∧ wr.ownsRow w.heap.size 3 1 (.slice (some ⟨g, 0, none⟩) l.length l.length) l.length (cellsI (half l k)) ∧ Below w.heap.size w wr) (fun i _ => l.length - (intOf i).toNat)
  case atStart => exact ⟨0, Nat.zero_le _, rfl, by rw [HG.out]; simpa [half] using HO2.out, HB2.out⟩
  case round =>
    clear HO2 HB2
    obtain ⟨k, hk, rfl, hown, hbel⟩ := hrel
    have HO := hide hown
    have HB := hide hbel
    clear hown hbel
    by_cases hlt : k < l.length
    · obtain ⟨ga, oa, rfl, ha2, ha3⟩ := HA.out k hlt
      have hc1 := HB.out.cell (p := ⟨ga, oa + k, none⟩) ha2
      rw [ha3] at hc1
      have hc2 : ∃ x, wr.cell? ⟨g, k, none⟩ = some x := by rw [HO.out.cellAt k (by omega)]; exact ⟨_, List.getElem?_eq_getElem (by rw [cellsI_length, half_length l k hk]; omega)⟩
      obtain ⟨x0, hc2⟩ := hc2
      have hf2 := HO.out.frozenAt k
      have HS := hide (half_set l k hlt)
      clear ha3
      go_wp2
      go_roundw
      case rel =>
        refine ⟨k + 1, by omega, by go_num, ?_, HB.out.setCell hgw _⟩
        have h1 := (HO.out.stored k (.int .i64 l[k])).1
        rw [cellsI_set, HS.out] at h1
        exact h1
      case measure => simp [intOf]; omega
    · have HE := hide (half_all l k (by omega))
      go_wp2
      go_ret
      exact ⟨_, rfl, by rw [← HE.out]; rw [HE.out]; simpa [HE.out] using HO.out, HB.out⟩

/-- The marks from k on. -/
def marks (k : Int) (n : Nat) : List Int := (List.range n).map fun (i : Nat) => k + (i : Int)

theorem marks_length (k : Int) (n : Nat) : (marks k n).length = n := by simp [marks]

theorem marks_get (k : Int) (n j : Nat) (hj : j < (marks k n).length) : (marks k n)[j] = k + (j : Int) := by simp [marks]

/-- The first j marked. -/
def marked (l : List Int) (k : Int) (j : Nat) : List Int := marks k j ++ l.drop j

theorem marks_snoc (k : Int) (j : Nat) : marks k (j + 1) = marks k j ++ [k + (j : Int)] := by simp [marks, List.range_succ]

theorem marked_length (l : List Int) (k : Int) (j : Nat) (hj : j ≤ l.length) : (marked l k j).length = l.length := by simp [marked, marks_length]; omega

theorem marked_set (l : List Int) (k : Int) (j : Nat) (hj : j < l.length) : (marked l k j).set j (k + (j : Int)) = marked l k (j + 1) := by
  unfold marked
  have h1 := marks_length k j
  rw [List.set_append_right _ _ (by omega), h1, Nat.sub_self, List.drop_eq_getElem_cons hj, List.set_cons_zero, marks_snoc, List.append_assoc, List.singleton_append]

theorem marked_all (l : List Int) (k : Int) (j : Nat) (hj : j = l.length) : marked l k j = marks k l.length := by
  subst hj
  simp [marked]

theorem own_below {w w' : World} {B : Nat} {e : TypeId} {size : Nat} {v : Value} {n : Nat} {xs : List Value} (h : w.ownsRow B e size v n xs) (hb : Below w.heap.size w w') : w'.ownsRow B e size v n xs :=
  h.kept (row := none) ⟨hb.os, hb.tape, hb.output, hb.size, fun k hk _ => hb.block k hk⟩ (by cases v.ownBlock <;> simp)

theorem own_apart {w w' : World} {B : Nat} {e e' : TypeId} {size size' n n' : Nat} {v v' : Value} {xs xs' : List Value} (h : w.ownsRow B e size v n xs) (h' : w'.ownsRow w.heap.size e' size' v' n' xs') : v.ownBlock = none ∨ v.ownBlock ≠ v'.ownBlock := by
  cases hb : v.ownBlock with
  | none => exact .inl rfl
  | some k =>
    right
    intro he
    have h1 := (h.lt k hb).2
    have h2 := (h'.lt k he.symm).1
    omega

theorem own_apart_r {w w' : World} {B : Nat} {e e' : TypeId} {size size' n n' : Nat} {v v' : Value} {xs xs' : List Value} (h : w.ownsRow B e size v n xs) (h' : w'.ownsRow w.heap.size e' size' v' n' xs') : v'.ownBlock = none ∨ v'.ownBlock ≠ v.ownBlock := by
  cases hb : v'.ownBlock with
  | none => exact .inl rfl
  | some k =>
    right
    intro he
    have h1 := (h.lt k he.symm).2
    have h2 := (h'.lt k hb).1
    omega

theorem below_drewN {B : Nat} {a w : World} (h : Below B a w) (n : Nat) : Below B a (w.drewN n) := ⟨h.os, h.tape, h.output, h.size, h.block⟩
end Go.Proofs.Ytfckfgabeeeccaa.P1
