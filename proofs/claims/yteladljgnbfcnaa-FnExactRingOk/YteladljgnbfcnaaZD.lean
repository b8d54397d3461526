/- The frame that the laws' proofs share: a call that returns true and leaves all old memory as it was meets a law's row, whatever its parameters' types; no condition.
Slices of texts: what they read as; rows of texts that a call made; no condition.
The laws' own helpers over slices of ints: toIntS, eqIntS, markIntS, heldIntS; condition: at most 2^30 of them.
The cursor of the draws: what is drawn is some number within its bounds; the cursor alone is written.
The laws' own helpers over rows of texts: markText, eqStringS, markStringS, heldStringS; conditions: rows of at most 2^20 texts that are owned. -/
import Derived.Test.YteladljgnbfcnaaZA
import Derived.Test.YteladljgnbfcnaaRows
import Derived.Test.YteladljgnbfcnaaZP
import Derived.OpenVars
import Derived.ProofKit
import Derived.OpenShut
import Derived.WalkKit
import Derived.Laws.Bits128
namespace Go.Proofs.Yteladljgnbfcnaa.Frame
open Go.RowKit Go.ChangeShapes Go.WideElems

/-- One closed fact: each parameter's type can be read and is a row of the table. -/
def rowed (P : Program) (ts : List TypeId) : Bool := ts.all fun t => P.readableRec t && decide (t < P.types.size)

theorem below_trodAll {H : Type} {enc : TypeId × Value → H} {P : Program} (hl : laidOutB P = true) {W W' : World} (hb : Below W.heap.size W W') :
    ∀ {ts : List TypeId} {vs : List Value} {ds : List (DataW H)} {ps : List MemPlace}, rowed P ts = true → DataW.TrodAll enc P W 0 (fun _ => true) true ts vs ds ps → (∀ x ∈ ps, x.block < W.heap.size) →
      DataW.TrodAll enc P W' 0 (fun b => decide (b < W.heap.size)) true ts vs ds ps
  | [], [], [], _, _, h, _ => h
  | [], [], _ :: _, _, _, h, _ => h.elim
  | [], _ :: _, [], _, _, h, _ => h.elim
  | [], _ :: _, _ :: _, _, _, h, _ => h.elim
  | _ :: _, [], [], _, _, h, _ => h.elim
  | _ :: _, [], _ :: _, _, _, h, _ => h.elim
  | _ :: _, _ :: _, [], _, _, h, _ => h.elim
  | t :: ts, v :: vs, d :: ds, ps, hr, h, hlt => by
    obtain ⟨p, q, h1, h2, rfl⟩ := h
    simp only [rowed, List.all_cons, Bool.and_eq_true, decide_eq_true_eq] at hr
    exact ⟨p, q, Below.trod hl hr.1.1 hr.1.2 h1 hb (fun x hx => hlt x (by simp [hx])), below_trodAll hl hb hr.2 h2 (fun x hx => hlt x (by simp [hx])), rfl⟩

/-- A law's row is met by a call that answers true and turns nothing that was there. -/
theorem post_law {H : Type} {enc : TypeId × Value → H} {P : Program} {fn : Func} {s : ChangeSpec} {W W' : World} {args : Array Value} {ds gs : List (DataW H)} {before : List MemPlace} {tb : TypeId}
    (hl : laidOutB P = true) (hp : rowed P fn.params.toList = true) (hv : varsRowed P s.vars = true) (hres : fn.resultTypes = #[tb]) (htb : P.underlying tb = some .bool)
    (hW : DataW.Whole enc P fn.params.toList s.vars false W args.toList ds gs before)
    (hfn : s.fn H (ds ++ gs) = { results := [.lit (.bool true)], args := ds, vars := gs }) (hb : Below W.heap.size W W') :
    s.post enc P fn false true false false W args (.bool true) W' := by
  have hW0 := hW
  have hlt := hW.lt
  obtain ⟨p, q, hA, hV, rfl, hfz, hnd⟩ := hW
  refine ⟨ds, gs, p ++ q, [], p, q, hW0, ?_, ?_, ?_, hb.frame _, fun h => by cases h⟩
  · rw [hres, hfn]
    exact trodAll_mk1 (shut_bool htb true)
  · rw [hfn]
    exact below_trodAll hl hb hp hA (fun x hx => hlt x (by simp [hx]))
  · rw [hfn]
    exact Below.trodVars hl hb hv hV

/-- What the walk is told of a slice of integers that came in: it is nil; or it leads to a row of 'cap' cells that hold the numbers zs, each fitting its kind. -/
def IsRow (k : IntKind) (w : World) (a : Option Addr) (len cap : Nat) (zs : List Int) : Prop :=
  (a = none ∧ len = 0 ∧ cap = 0 ∧ zs = []) ∨
  ∃ x, a = some x ∧ len ≤ cap ∧ cap ≤ maxLen ∧ zs.length = cap ∧ (∀ i, i < zs.length → w.cell? (x.add i) = some (.int k (zs.getD i 0))) ∧ ∀ n ∈ zs, (Lit.int k n).wf = true

theorem open_row {H : Type} {enc : TypeId × Value → H} {P : Program} {W : World} {base : Nat} {held : Bool} {t e : TypeId} {k : IntKind} {a : Option Addr} {len cap : Nat} {d : DataW H} {ps : List MemPlace}
    (ht : P.underlying t = some (.slice e)) (he : P.underlying e = some (.int k)) (hc : P.cellsOf e = 1) (h : DataW.Trod enc P W base (fun _ => true) held t (.slice a len cap) d ps) : ∃ zs, IsRow k W a len cap zs := by
  obtain ⟨fuel, hf⟩ := h
  rcases open_ints ht he hc hf with ⟨hcs, _⟩ | ⟨x, l, c, zs, hcs, _, hl, hm, hz, _, hcell, hwz⟩
  · simp [Value.cells] at hcs
    obtain ⟨rfl, rfl, rfl⟩ := hcs
    exact ⟨[], .inl ⟨rfl, rfl, rfl, rfl⟩⟩
  · simp [Value.cells] at hcs
    obtain ⟨rfl, rfl, rfl⟩ := hcs
    exact ⟨zs, .inr ⟨_, rfl, hl, hm, by simpa using hz, hcell, hwz⟩⟩

end Go.Proofs.Yteladljgnbfcnaa.Frame
namespace Go.Proofs.Yteladljgnbfcnaa.P1
open Go.RowKit

/-- v is a slice that reads as the texts l. -/
def TextsAt (w : World) (v : Value) (l : List (List UInt8)) : Prop :=
  ∃ a cap, v = .slice a l.length cap ∧ ∀ j (hj : j < l.length), ∃ g off, a = some ⟨g, off, none⟩ ∧ g < w.heap.size ∧ w.cell? ⟨g, off + j, none⟩ = some (.string ⟨(l[j]).toArray⟩)

theorem TextsAt.below {B : Nat} {w w' : World} {v : Value} {l : List (List UInt8)} (h : TextsAt w v l) (hb : Below B w w') (hB : w.heap.size ≤ B) : TextsAt w' v l := by
  obtain ⟨a, cap, h1, h2⟩ := h
  refine ⟨a, cap, h1, fun j hj => ?_⟩
  obtain ⟨g, off, e1, e2, e3⟩ := h2 j hj
  exact ⟨g, off, e1, Nat.lt_of_lt_of_le e2 hb.size, by rw [hb.cell (p := ⟨g, off + j, none⟩) (by show g < B; omega)]; exact e3⟩

/-- The cells of a list of texts. -/
def cellsS (l : List (List UInt8)) : List Value := l.map fun b => Value.string ⟨b.toArray⟩

theorem TextsAt.of_own {B : Nat} {w : World} {e : TypeId} {v : Value} {l : List (List UInt8)} (h : w.ownsRow B e 1 v l.length (cellsS l)) : TextsAt w v l := by
  have h0 := h
  rcases h.2 with ⟨rfl, hn⟩ | ⟨g, cap, cur, rfl, h1, h2, -, -, -, -⟩
  · exact ⟨none, 0, by rw [hn], fun j hj => by omega⟩
  · exact ⟨_, cap, rfl, fun j hj => ⟨g, 0, rfl, (Array.getElem?_eq_some_iff.1 h2).1, by rw [Nat.zero_add, h0.cellAt j (by omega)]; simp [cellsS, hj]⟩⟩

theorem TextsAt.drewN {w : World} {v : Value} {l : List (List UInt8)} (h : TextsAt w v l) (n : Nat) : TextsAt (w.drewN n) v l := h

end Go.Proofs.Yteladljgnbfcnaa.P1
namespace Go.Proofs.Yteladljgnbfcnaa.P1
set_option maxRecDepth 8000
open Go.RowKit

/-- v is a slice that reads as the ints l. -/
def IntsAt (w : World) (v : Value) (l : List Int) : Prop :=
  ∃ a cap, v = .slice a l.length cap ∧ ∀ j (hj : j < l.length), ∃ g off, a = some ⟨g, off, none⟩ ∧ g < w.heap.size ∧ w.cell? ⟨g, off + j, none⟩ = some (.int .i64 l[j])

theorem cell_lt' {w : World} {a : Addr} {v : Value} (h : w.cell? a = some v) : a.block < w.heap.size := by
  unfold World.cell? at h
  rcases Nat.lt_or_ge a.block w.heap.size with h' | h'
  · exact h'
  · rw [Array.getElem?_eq_none h'] at h; simp at h

theorem IntsAt.below {B : Nat} {w w' : World} {v : Value} {l : List Int} (h : IntsAt w v l) (hb : Below B w w') (hB : w.heap.size ≤ B) : IntsAt w' v l := by
  obtain ⟨a, cap, h1, h2⟩ := h
  refine ⟨a, cap, h1, fun j hj => ?_⟩
  obtain ⟨g, off, e1, e2, e3⟩ := h2 j hj
  exact ⟨g, off, e1, Nat.lt_of_lt_of_le e2 hb.size, by rw [hb.cell (p := ⟨g, off + j, none⟩) (by show g < B; omega)]; exact e3⟩

theorem IntsAt.of_own {B : Nat} {w : World} {e : TypeId} {v : Value} {l : List Int} (h : w.ownsRow B e 1 v l.length (cellsI l)) : IntsAt w v l := by
  have h0 := h
  rcases h.2 with ⟨rfl, hn⟩ | ⟨g, cap, cur, rfl, h1, h2, -, -, -, -⟩
  · exact ⟨none, 0, by rw [hn], fun j hj => by omega⟩
  · exact ⟨_, cap, rfl, fun j hj => ⟨g, 0, rfl, (Array.getElem?_eq_some_iff.1 h2).1, by rw [Nat.zero_add, h0.cellAt j (by omega)]; simp [cellsI, hj]⟩⟩

theorem IntsAt.of_row {w : World} {a : Option Addr} {len cap : Nat} {zs : List Int} (h : Frame.IsRow .i64 w a len cap zs) : IntsAt w (.slice a len cap) (zs.take len) := by
  rcases h with ⟨rfl, rfl, rfl, rfl⟩ | ⟨x, rfl, h1, _, h3, h4, _⟩
  · exact ⟨none, 0, rfl, fun j hj => by simp at hj⟩
  · have hl : (zs.take len).length = len := by rw [List.length_take]; omega
    refine ⟨some x, cap, by rw [hl], fun j hj => ?_⟩
    obtain ⟨b, off, rfl, hc⟩ := ints_at h4 (by omega)
    have hj' : j < zs.length := by omega
    refine ⟨b, off, rfl, cell_lt' (hc j hj'), ?_⟩
    rw [hc j hj']
    simp [List.getD_eq_getElem?_getD, hj']

theorem IntsAt.drewN {w : World} {v : Value} {l : List Int} (h : IntsAt w v l) (n : Nat) : IntsAt (w.drewN n) v l := h

theorem drewN2 (w : World) (a b : Nat) : (w.drewN a).drewN b = w.drewN (a + b) := by simp [World.drewN, Nat.add_assoc]

set_option maxHeartbeats 400000 in
theorem eqInts_calls (w : World) (v u : Value) (l m : List Int) (hv : IntsAt w v l) (hu : IntsAt w u m) (hl : l.length ≤ 1073741824) (hm : m.length ≤ 1073741824) :
    Calls Try.prog 13 #[v, u] w fun e w' => e = .returned (.bool (decide (l = m))) ∧ ∃ n, w' = w.drewN n := by
  obtain ⟨a, ca, rfl, HA⟩ := hv
  obtain ⟨b, cb, rfl, HB⟩ := hu
  replace HA := hide HA
  replace HB := hide HB
  by_cases hlen : l.length = m.length
  · have hd : (((l.length : Int)) != ((m.length : Int))) = false := by simp; omega
    go_enter Try.func13, Try.ntmps13
    go_wp2
    clear hd
    go_loopw [5] (fun i wr => ∃ k : Nat, k ≤ l.length ∧ i = .int .i64 k ∧ l.take k = m.take k ∧ ∃ n, wr = w.drewN n) (fun i _ => l.length - (intOf i).toNat)
    case atStart => exact ⟨0, Nat.zero_le _, rfl, rfl, 0, rfl⟩
    case round =>
      obtain ⟨k, hk, rfl, htk, n, rfl⟩ := hrel
      have HT := hide htk
      clear htk
      by_cases hlt : k < l.length
      · obtain ⟨ga, oa, rfl, ha2, ha3⟩ := HA.out k hlt
        obtain ⟨gb, ob, rfl, hb2, hb3⟩ := HB.out k (by omega)
        have hltm : k < m.length := by omega
        by_cases heq : l[k] = m[k]
        · have hne : (l[k] != m[k]) = false := by simpa using heq
          have HN : Hid (l.take (k + 1) = m.take (k + 1)) := by
            show l.take (k + 1) = m.take (k + 1)
            rw [List.take_succ_eq_append_getElem hlt, List.take_succ_eq_append_getElem hltm, HT.out, heq]
          clear heq HT
          generalize l[k] = x at *
          generalize m[k] = y at *
          go_wp2
          go_quiet (fail)
          go_wp2
          go_roundw
          case rel => exact ⟨k + 1, by omega, by go_num, HN.out, _, rfl⟩
          case measure => simp [intOf]; omega
        · have hne : (l[k] != m[k]) = true := by simpa using heq
          have HN : Hid (decide (l = m) = false) := by
            show decide (l = m) = false
            rw [decide_eq_false_iff_not]
            intro h
            apply heq
            subst h
            rfl
          clear heq HT
          generalize l[k] = x at *
          generalize m[k] = y at *
          go_wp2
          go_quiet (fail)
          go_wp2
          go_ret
          exact ⟨by rw [HN.out]; rfl, _, drewN2 _ _ _⟩
      · have HE : Hid (decide (l = m) = true) := by
          show decide (l = m) = true
          rw [decide_eq_true_iff]
          have := HT.out
          rw [List.take_of_length_le (by omega), List.take_of_length_le (by omega)] at this
          exact this
        go_wp2
        go_ret
        exact ⟨by rw [HE.out]; rfl, _, rfl⟩
  · have hd : (((l.length : Int)) != ((m.length : Int))) = true := by simp; omega
    have HE : Hid (decide (l = m) = false) := by
      show decide (l = m) = false
      rw [decide_eq_false_iff_not]
      intro h
      exact hlen (by rw [h])
    go_enter Try.func13, Try.ntmps13
    go_wp2
    go_ret
    exact ⟨by rw [HE.out]; rfl, 0, rfl⟩

theorem info_i64 : (Try.prog.info? 3).map (fun i => (i.zero, i.size, i.bytes)) = some (some (.int .i64 0), 1, 8) := by kernel_rfl

theorem cellsI_zeros (n : Nat) : (madeCells #[Value.int .i64 0] n).toList = cellsI (List.replicate n 0) := by
  rw [toList_madeCells_one]
  simp [cellsI]

theorem cellsI_set (l : List Int) (k : Nat) (x : Int) : (cellsI l).set k (.int .i64 x) = cellsI (l.set k x) := by
  simp [cellsI]

/-- The first k of l, noughts behind. -/
def half (l : List Int) (k : Nat) : List Int := l.take k ++ List.replicate (l.length - k) 0

theorem half_length (l : List Int) (k : Nat) (hk : k ≤ l.length) : (half l k).length = l.length := by simp [half]; omega

theorem half_set (l : List Int) (k : Nat) (hk : k < l.length) : (half l k).set k l[k] = half l (k + 1) := by
  unfold half
  have h1 : (l.take k).length = k := by rw [List.length_take]; omega
  rw [List.set_append_right _ _ (by omega), h1, Nat.sub_self, List.take_succ_eq_append_getElem hk]
  rw [show l.length - k = (l.length - (k + 1)) + 1 by omega, List.replicate_succ, List.set_cons_zero, List.append_assoc, List.singleton_append]

theorem half_all (l : List Int) (k : Nat) (hk : l.length ≤ k) : half l k = l := by
  unfold half
  rw [List.take_of_length_le hk, show l.length - k = 0 by omega]
  simp

set_option maxHeartbeats 400000 in
theorem toInts_calls (w : World) (v : Value) (l : List Int) (hv : IntsAt w v l) (hl : l.length ≤ 1073741824) :
    Calls Try.prog 11 #[v] w fun e w' => ∃ v', e = .returned v' ∧ w'.ownsRow w.heap.size 3 1 v' l.length (cellsI l) ∧ Below w.heap.size w w' := by
  have HV := hide hv
  obtain ⟨a, ca, rfl, HA⟩ := hv
  replace HA := hide HA
  obtain ⟨i0, hi, hz0, hz1, hz2⟩ := info_parts info_i64
  go_enter Try.func11, Try.ntmps11
  go_wp2_with (at_make; refine wpList_make_full _ rfl (.tmp 6) (.tmp 6) 33 rfl w.heap.size 3 i0 (.int .i64 0) 1 Try.underlying33 hi hz0 hz1 .i64 .i64 _ _ l.length rfl rfl (by omega) (by omega) (by rw [hz2]; omega) (by unfold maxLen; omega) (Nat.le_refl _) ?_)
  intro w2 hown2 hgr2
  rw [cellsI_zeros] at hown2
  have hb2 : Below w.heap.size w w2 := (Below.refl _ _).grown hgr2 (Nat.le_refl _) (by intro k hk; cases hk)
  have HO2 := hide hown2
  have HB2 := hide hb2
  clear hown2 hgr2 hb2
  obtain ⟨g, hg⟩ : ∃ g, g = w.heap.size := ⟨_, rfl⟩
  go_wp2
  rw [← hg]
  have hgw : w.heap.size ≤ g := by omega
  have HG := hide hg
  clear hg
  go_loopw [4] (fun i wr => ∃ k : Nat, k ≤ l.length ∧ i = .int .i64 k ∧ wr.ownsRow w.heap.size 3 1 (.slice (some ⟨g, 0, none⟩) l.length l.length) l.length (cellsI (half l k)) ∧ Below w.heap.size w wr) (fun i _ => l.length - (intOf i).toNat)
  case atStart => exact ⟨0, Nat.zero_le _, rfl, by rw [HG.out]; simpa [half] using HO2.out, HB2.out⟩
  case round =>
    clear HO2 HB2
    obtain ⟨k, hk, rfl, hown, hbel⟩ := hrel
    have HO := hide hown
    have HB := hide hbel
    clear hown hbel
    by_cases hlt : k < l.length
    · obtain ⟨ga, oa, rfl, ha2, ha3⟩ := HA.out k hlt
      have hc1 := HB.out.cell (p := ⟨ga, oa + k, none⟩) ha2
      rw [ha3] at hc1
      have hc2 : ∃ x, wr.cell? ⟨g, k, none⟩ = some x := by rw [HO.out.cellAt k (by omega)]; exact ⟨_, List.getElem?_eq_getElem (by rw [cellsI_length, half_length l k hk]; omega)⟩
      obtain ⟨x0, hc2⟩ := hc2
      have hf2 := HO.out.frozenAt k
      have HS := hide (half_set l k hlt)
      clear ha3
      go_wp2
      go_roundw
      case rel =>
        refine ⟨k + 1, by omega, by go_num, ?_, HB.out.setCell hgw _⟩
        have h1 := (HO.out.stored k (.int .i64 l[k])).1
        rw [cellsI_set, HS.out] at h1
        exact h1
      case measure => simp [intOf]; omega
    · have HE := hide (half_all l k (by omega))
      go_wp2
      go_ret
      exact ⟨_, rfl, by rw [← HE.out]; rw [HE.out]; simpa [HE.out] using HO.out, HB.out⟩

/-- The marks from k on. -/
def marks (k : Int) (n : Nat) : List Int := (List.range n).map fun (i : Nat) => k + (i : Int)

theorem marks_length (k : Int) (n : Nat) : (marks k n).length = n := by simp [marks]

theorem marks_get (k : Int) (n j : Nat) (hj : j < (marks k n).length) : (marks k n)[j] = k + (j : Int) := by simp [marks]

set_option maxHeartbeats 400000 in
theorem heldInts_calls (w : World) (v : Value) (k : Nat) (n : Nat) (hv : IntsAt w v (marks k n)) (hk : k ≤ 1073741824) (hn : n ≤ 1073741824) :
    Calls Try.prog 54 #[v, .int .i64 k] w fun e w' => e = .returned (.int .i64 ((k + n : Nat) : Int)) ∧ w' = w := by
  obtain ⟨a, ca, rfl, HA⟩ := hv
  rw [marks_length] at *
  replace HA := hide HA
  go_enter Try.func54, Try.ntmps54
  go_wp2
  go_loop [1, 5] (fun q i => ∃ j : Nat, j ≤ n ∧ i = .int .i64 j ∧ q = .int .i64 ((k : Int) + (j : Int))) (fun _ i => n - (intOf i).toNat)
  case atStart => exact ⟨0, Nat.zero_le _, rfl, by simp⟩
  case round =>
    obtain ⟨j, hj, rfl, rfl⟩ := hrel
    by_cases hlt : j < n
    · obtain ⟨g, off, rfl, h2, h3⟩ := HA.out j (by rw [marks_length]; exact hlt)
      rw [marks_get] at h3
      go_wp2
      go_round
      case rel => exact ⟨j + 1, by omega, by go_num, by go_num⟩
      case measure => simp [intOf]; omega
    · obtain rfl : j = n := by omega
      go_wp2
      go_ret
      exact ⟨by go_num, rfl⟩

/-- The first j marked. -/
def marked (l : List Int) (k : Int) (j : Nat) : List Int := marks k j ++ l.drop j

theorem marks_snoc (k : Int) (j : Nat) : marks k (j + 1) = marks k j ++ [k + (j : Int)] := by simp [marks, List.range_succ]

theorem marked_length (l : List Int) (k : Int) (j : Nat) (hj : j ≤ l.length) : (marked l k j).length = l.length := by simp [marked, marks_length]; omega

theorem marked_set (l : List Int) (k : Int) (j : Nat) (hj : j < l.length) : (marked l k j).set j (k + (j : Int)) = marked l k (j + 1) := by
  unfold marked
  have h1 := marks_length k j
  rw [List.set_append_right _ _ (by omega), h1, Nat.sub_self, List.drop_eq_getElem_cons hj, List.set_cons_zero, marks_snoc, List.append_assoc, List.singleton_append]

theorem marked_all (l : List Int) (k : Int) (j : Nat) (hj : j = l.length) : marked l k j = marks k l.length := by
  subst hj
  simp [marked]

set_option maxHeartbeats 400000 in
theorem markInts_calls (w : World) (B : Nat) (v : Value) (l : List Int) (k : Nat) (hv : w.ownsRow B 3 1 v l.length (cellsI l)) (hk : k ≤ 1073741824) (hn : l.length ≤ 1073741824) :
    Calls Try.prog 14 #[v, .int .i64 k] w fun e w' => e = .returned (.int .i64 ((k + l.length : Nat) : Int)) ∧ w'.ownsRow B 3 1 v l.length (cellsI (marks k l.length)) ∧ w.grownBy w' v.ownBlock := by
  have HV := hide hv
  rcases hv.2 with ⟨rfl, h0⟩ | ⟨g, cap, cur, rfl, hb, hg, hnc, -, -, -⟩
  · have hl0 : l = [] := List.eq_nil_of_length_eq_zero h0
    subst hl0
    clear hv
    go_enter Try.func14, Try.ntmps14
    go_wp2
    go_loop [1, 5] (fun q i => i = .int .i64 0 ∧ q = .int .i64 (k : Int)) (fun _ _ => 0)
    case atStart => exact ⟨rfl, rfl⟩
    case round =>
      obtain ⟨rfl, rfl⟩ := hrel
      go_wp2
      go_ret
      exact ⟨by simp, World.ownsRow_nil _ _ _ _, ⟨rfl, rfl, rfl, Nat.le_refl _, fun _ _ _ => rfl⟩⟩
  · clear hv hg
    go_enter Try.func14, Try.ntmps14
    go_wp2
    go_loopw [1, 5] (fun q i wr => ∃ j : Nat, j ≤ l.length ∧ i = .int .i64 j ∧ q = .int .i64 ((k : Int) + (j : Int)) ∧ wr.ownsRow B 3 1 (.slice (some ⟨g, 0, none⟩) l.length cap) l.length (cellsI (marked l k j)) ∧ w.grownBy wr (some g)) (fun _ i _ => l.length - (intOf i).toNat)
    case atStart => exact ⟨0, Nat.zero_le _, rfl, by simp, by simpa [marked, marks] using HV.out, ⟨rfl, rfl, rfl, Nat.le_refl _, fun _ _ _ => rfl⟩⟩
    case round =>
      clear HV
      obtain ⟨j, hj, rfl, rfl, hown, hgr⟩ := hrel
      have HO := hide hown
      have HG := hide hgr
      clear hown hgr
      by_cases hlt : j < l.length
      · have hc2 : ∃ x, wr.cell? ⟨g, j, none⟩ = some x := by rw [HO.out.cellAt j (by omega)]; exact ⟨_, List.getElem?_eq_getElem (by rw [cellsI_length, marked_length l k j hj]; omega)⟩
        obtain ⟨x0, hc2⟩ := hc2
        have hf2 := HO.out.frozenAt j
        have HS := hide (marked_set l k j hlt)
        go_wp2
        go_roundw
        case rel =>
          have h1 := HO.out.stored j (.int .i64 ((k : Int) + (j : Int)))
          rw [cellsI_set, HS.out] at h1
          refine ⟨j + 1, by omega, by go_num, by go_num, h1.1, ?_⟩
          have hg2 := HG.out
          have hg3 := h1.2
          exact ⟨hg3.os.trans hg2.os, hg3.tape.trans hg2.tape, hg3.output.trans hg2.output, Nat.le_trans hg2.size hg3.size, fun i hi hne => (hg3.block i (Nat.lt_of_lt_of_le hi hg2.size) hne).trans (hg2.block i hi hne)⟩
        case measure => simp [intOf]; omega
      · have hjl : j = l.length := by omega
        have HE := hide (marked_all l k j hjl)
        have hown2 := HO.out
        rw [HE.out] at hown2
        have HO2 := hide hown2
        clear hown2 HO HE
        subst hjl
        go_wp2
        go_ret
        exact ⟨by go_num, HO2.out, HG.out⟩

theorem own_below {w w' : World} {B : Nat} {e : TypeId} {size : Nat} {v : Value} {n : Nat} {xs : List Value} (h : w.ownsRow B e size v n xs) (hb : Below w.heap.size w w') : w'.ownsRow B e size v n xs :=
  h.kept (row := none) ⟨hb.os, hb.tape, hb.output, hb.size, fun k hk _ => hb.block k hk⟩ (by cases v.ownBlock <;> simp)

theorem below_drewN {B : Nat} {a w : World} (h : Below B a w) (n : Nat) : Below B a (w.drewN n) := ⟨h.os, h.tape, h.output, h.size, h.block⟩
end Go.Proofs.Yteladljgnbfcnaa.P1
namespace Go.Proofs.Yteladljgnbfcnaa.Cu
open Go.RowKit P1

/-- The bytes that a cursor goes over: below B. -/
def Code (B : Nat) (w : World) (v : Value) (n : Nat) : Prop :=
  ∃ a cap, v = .slice a n cap ∧ n ≤ 1048576 ∧ ∀ j, j < n → ∃ b off, ∃ x : Int, a = some ⟨b, off, none⟩ ∧ b < B ∧ 0 ≤ x ∧ x < 256 ∧ w.cell? ⟨b, off + j, none⟩ = some (.int .u8 x)

theorem Code.below {B : Nat} {w w' : World} {v : Value} {n : Nat} (h : Code B w v n) (hb : ∀ k, k < B → w'.heap[k]? = w.heap[k]?) : Code B w' v n := by
  obtain ⟨a, cap, h1, h2, h3⟩ := h
  refine ⟨a, cap, h1, h2, fun j hj => ?_⟩
  obtain ⟨b, off, x, e1, e2, e3, e4, e5⟩ := h3 j hj
  exact ⟨b, off, x, e1, e2, e3, e4, by rw [World.cell?_of_block (w := w) (hb b e2)]; exact e5⟩

theorem Code.more {B B' : Nat} {w : World} {v : Value} {n : Nat} (h : Code B w v n) (hB : B ≤ B') : Code B' w v n := by
  obtain ⟨a, cap, h1, h2, h3⟩ := h
  refine ⟨a, cap, h1, h2, fun j hj => ?_⟩
  obtain ⟨b, off, x, e1, e2, e3⟩ := h3 j hj
  exact ⟨b, off, x, e1, by omega, e3⟩

theorem grown_set (w : World) (g o : Nat) (v : Value) : w.grownBy (w.setCell ⟨g, o, none⟩ v) (some g) :=
  ⟨rfl, rfl, rfl, by simp [World.setCell], fun k _ hne => Below.heap_setCell _ _ _ _ (fun e => hne (by rw [e]))⟩

end Go.Proofs.Yteladljgnbfcnaa.Cu
namespace Go.Proofs.Yteladljgnbfcnaa.Sr
set_option maxRecDepth 8000
open Go.RowKit P1

theorem one_text (W : World) (z : Int) (h0 : 0 ≤ z) (h1 : z < 256) :
    (convert 105 9 (.slice (some ⟨W.heap.size, 0, none⟩) 1 1)).run Try.prog (W.alloc (.cells #[.int .u8 z] 5)) = .ok (.string ⟨[UInt8.ofNat z.toNat].toArray⟩) (W.alloc (.cells #[.int .u8 z] 5)) := by
  refine run_convert_bytes_back _ 105 9 5 ⟨W.heap.size, 0, none⟩ 1 [UInt8.ofNat z.toNat] Try.underlying105 Try.underlying5 Try.underlying9 ?_
  intro j hj
  obtain rfl : j = 0 := by simp at hj; exact hj
  have hb := byte_of z.toNat (by omega)
  simp only [List.getElem_cons_zero, hb]
  rw [show ((z.toNat : Nat) : Int) = z by omega]
  simp [Addr.add]

/-- The k-th mark. -/
def mtext (k : Nat) : List UInt8 := 109 :: Lib.decDigits k

set_option maxHeartbeats 400000 in
theorem markText_calls (N : Nat) (h0 : 1 ≤ N) (h1 : N ≤ 1000000000) (w : World) :
    Calls Try.prog 74 #[.int .i64 (N : Int)] w fun e w' => e = .returned (.string ⟨(mtext N).toArray⟩) ∧ Below w.heap.size w w' := by
  go_enter Try.func74, Try.ntmps74
  go_wp2
  go_loopw [0, 3] (fun n v wr => ∃ c : Nat, ∃ t : List UInt8, Dec (N : Int) (c : Int) t ∧ n = .int .i64 (c : Int) ∧ v = .string ⟨t.toArray⟩ ∧ Below w.heap.size w wr) (fun n _ _ => (intOf n).toNat)
  case atStart => exact ⟨N, [], Dec.start _ (by omega), rfl, rfl, Below.refl _ _⟩
  case round =>
    obtain ⟨c, t, hd, rfl, rfl, hbel⟩ := hrel
    have hlen := hd.len (by omega) (by omega)
    have hcN := (hd.high (by omega)).2
    have Hd := hide hd
    clear hd
    by_cases hc : 0 < c
    · have hn := Hd.out.next (c' := ((c / 10 : Nat) : Int)) (by omega) (by omega) (by omega) (by omega)
      have hcv := one_text wr (48 + (c : Int) % 10) (by omega) (by omega)
      rw [show UInt8.ofNat (48 + (c : Int) % 10).toNat = UInt8.ofNat (48 + ((c : Int)).natAbs % 10) by congr 1] at hcv
      generalize UInt8.ofNat (48 + ((c : Int)).natAbs % 10) = b at hn hcv
      have Hn := hide hn
      clear hn Hd
      go_wp2
      go_roundw
      case rel => exact ⟨c / 10, _, Hn.out, by go_num, congrArg Value.string (ByteArray.mk_append_mk [b] t), hbel.alloc hbel.size _⟩
      case measure => simp [intOf]; omega
    · obtain rfl : c = 0 := by omega
      have Ht := hide (Hd.out.none_ rfl)
      have hs1 : (⟨#[109]⟩ : ByteArray) ++ ⟨t.toArray⟩ = ⟨(109 :: t).toArray⟩ := ByteArray.mk_append_mk [109] t
      go_wp2
      go_ret
      refine ⟨?_, hbel⟩
      have e1 : mtext N = 109 :: t := by rw [← Ht.out]; rfl
      rw [e1]
      show Ending.returned (Value.string ((⟨#[109]⟩ : ByteArray) ++ ⟨t.toArray⟩)) = _
      rw [hs1]

/-- So many marks from k on. -/
def marks (k n : Nat) : List (List UInt8) := (List.range n).map fun j => mtext (k + j)

theorem marks_length (k n : Nat) : (marks k n).length = n := by simp [marks]
theorem marks_get (k n j : Nat) (h : j < (marks k n).length) : (marks k n)[j] = mtext (k + j) := by simp [marks]

/-- The first j are marks. -/
def marked (l : List (List UInt8)) (k j : Nat) : List (List UInt8) := (marks k l.length).take j ++ l.drop j

theorem marked_length (l : List (List UInt8)) (k j : Nat) (h : j ≤ l.length) : (marked l k j).length = l.length := by simp [marked, marks_length]; omega

end Go.Proofs.Yteladljgnbfcnaa.Sr
