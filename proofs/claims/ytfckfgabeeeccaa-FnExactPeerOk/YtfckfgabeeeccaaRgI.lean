/- The laws' szShelf, szShelfS, szIntS, szPeer, szPeerS, szRing: how much there is; no condition but that lengths are ints. -/
import Derived.Test.YtfckfgabeeeccaaRgH
import Derived.Deep.CutRange
namespace Go.Proofs.Ytfckfgabeeeccaa.P9
set_option maxRecDepth 8000
open Go.RowKit P1 P8 Da

theorem szRes_neg {m s : Nat} (h : ¬ s ≤ m) : szRes m s = -1 := by unfold szRes; rw [if_neg h]
theorem szRes_pos {m s : Nat} (h : s ≤ m) : szRes m s = ((m - s : Nat) : Int) := by unfold szRes; rw [if_pos h]; omega

/-- Lengths that are ints. -/
def FitsI (l : List It) : Prop := l.length ≤ 9223372036854775807 ∧ ∀ y ∈ l, y.t.length ≤ 9223372036854775807
def FitsS (l : List Shf) : Prop := l.length ≤ 9223372036854775807 ∧ ∀ x ∈ l, FitsI x.items
def FitsP (p : Pr) : Prop := p.behind.length ≤ 9223372036854775807 ∧ p.fingers.length ≤ 9223372036854775807 ∧ FitsS p.shelves

set_option maxHeartbeats 400000 in
theorem szShelf_calls (w : World) (key : Int) (l : List It) (v : Value) (left : Nat) (hv : ItemsAt w v l) (hf : FitsI l) (hm : left ≤ 1048576) :
    Calls Try.prog 36 #[.agg #[.int .i64 key, v], .int .i64 left] w fun e w' => e = .returned (.int .i64 (szRes left (szItL l))) ∧ Below w.heap.size w w' := by
  obtain ⟨a, ca, hsa, -⟩ := hv.open_
  subst hsa
  have h1 := (Below.refl w.heap.size w).alloc (Nat.le_refl _) (.cells #[.int .i64 key, .slice a l.length ca] 72)
  have HC := hide (szItems_calls _ _ l left (hv.below h1 (Nat.le_refl _)) hf.1 hf.2 hm)
  have HB := hide h1
  clear h1 hv hf
  by_cases hs : szItL l ≤ left
  · rw [szRes_pos hs] at HC ⊢
    have hnn : decide (((left - szItL l : Nat) : Int) < 0) = false := decide_eq_false (by omega)
    generalize left - szItL l = r at *
    go_enter Try.func36, Try.ntmps36
    go_wp2_with fail
    refine HC.out.mono ?_
    rintro e w3 ⟨rfl, hb3⟩
    have HB3 := hide (HB.out.trans (hb3.mono HB.out.size))
    clear hb3 HB HC
    go_wp2_with fail
    go_ret
    exact ⟨rfl, HB3.out⟩
  · rw [szRes_neg hs] at HC ⊢
    go_enter Try.func36, Try.ntmps36
    go_wp2_with fail
    refine HC.out.mono ?_
    rintro e w3 ⟨rfl, hb3⟩
    have HB3 := hide (HB.out.trans (hb3.mono HB.out.size))
    clear hb3 HB HC
    go_wp2_with fail
    go_ret
    exact ⟨rfl, HB3.out⟩

def szSh (x : Shf) : Nat := szItL x.items

def szShL (l : List Shf) : Nat := l.length + (l.map szSh).sum

set_option maxHeartbeats 1000000 in
theorem szShelves_calls (w : World) (v : Value) (l : List Shf) (left : Nat) (hv : ShelvesAt w v l) (hl : l.length ≤ 9223372036854775807) (hw : ∀ x ∈ l, FitsI x.items) (hm : left ≤ 1048576) :
    Calls Try.prog 16 #[v, .int .i64 left] w fun e w' => e = .returned (.int .i64 (szRes left (szShL l))) ∧ Below w.heap.size w w' := by
  have HV := hide hv
  have HWi := hide hw
  obtain ⟨a, ca, rfl, -⟩ := hv.open_
  have HZ : Hid (szShL l = l.length + (l.map szSh).sum) := rfl
  clear hv hw
  by_cases h0 : l.length ≤ left
  · obtain ⟨m0, e0⟩ : ∃ m, left = m + l.length := ⟨left - l.length, by omega⟩
    have q0 : ((left : Int) - (l.length : Int)) = (m0 : Int) := by omega
    have HE0 := hide e0
    have hm0 : m0 ≤ 1048576 := by omega
    clear e0
    go_enter Try.func16, Try.ntmps16
    go_wp2_with fail
    clear q0
    go_loopw [1, 5] (fun r i wr => ∃ (k m : Nat), k ≤ l.length ∧ i = .int .i64 k ∧ r = .int .i64 m ∧ Hid (m + ((l.take k).map szSh).sum = m0) ∧ Hid (Below w.heap.size w wr)) (fun _ i _ => l.length - (intOf i).toNat)
    case atStart => exact ⟨0, m0, Nat.zero_le _, rfl, rfl, by show _ = _; simp, Below.refl _ _⟩
    case round =>
      obtain ⟨k, m, hk, rfl, rfl, HM, HB⟩ := hrel
      have hmle : m ≤ 1048576 := by have := HM.out; omega
      by_cases hlt : k < l.length
      · obtain ⟨ax, cx, hax, HA⟩ := (HV.out.below HB.out (Nat.le_refl _)).open_
        cases hax
        obtain ⟨g, off, u, rfl, hg, f0, f1, hit⟩ := HA k hlt
        have hwi := HWi.out l[k] (List.getElem_mem hlt)
        have HT : Hid (((l.take (k + 1)).map szSh).sum = ((l.take k).map szSh).sum + szSh l[k]) := by show _ = _; rw [List.take_succ_eq_append_getElem hlt, List.map_append, List.sum_append, List.map_cons, List.map_nil, List.sum_cons, List.sum_nil, Nat.add_zero]
        have HL : Hid (((l.take (k + 1)).map szSh).sum ≤ (l.map szSh).sum) := by
          show _ ≤ _
          conv => rhs; rw [← List.take_append_drop (k + 1) l]
          rw [List.map_append, List.sum_append]
          omega
        clear HA
        have HC := hide (szShelf_calls wr l[k].key l[k].items u m hit hwi hmle)
        change Hid (Calls _ _ _ _ fun e w' => e = .returned (.int .i64 (szRes m (szSh l[k]))) ∧ _) at HC
        obtain ⟨ai, ci, eu, -⟩ := hit.open_
        subst eu
        clear hit
        generalize l[k].key = xk at *
        generalize l[k].items = xi at *
        generalize szSh l[k] = s at *
        by_cases hs : s ≤ m
        · have hr : szRes m s = ((m - s : Nat) : Int) := by unfold szRes; rw [if_pos hs]; omega
          rw [hr] at HC
          have HM2 : Hid ((m - s) + ((l.take (k + 1)).map szSh).sum = m0) := by show _ = _; rw [HT.out]; have := HM.out; omega
          clear HT HL hr hwi
          go_wp2_with fail
          refine HC.out.mono ?_
          rintro e w5 ⟨rfl, hb5⟩
          have HB5 := hide (HB.out.trans (hb5.mono HB.out.size))
          clear hb5 HB HC HM
          have hnn : decide (((m - s : Nat) : Int) < 0) = false := decide_eq_false (by omega)
          generalize m - s = m2 at *
          go_wp2_with fail
          go_roundw
          case rel => exact ⟨k + 1, m2, by omega, by go_num, rfl, HM2.out, HB5.out⟩
          case measure => simp [intOf]; omega
        · have hr : szRes m s = -1 := by unfold szRes; rw [if_neg hs]
          rw [hr] at HC
          have HR : Hid (szRes left (szShL l) = -1) := by
            show _ = _
            unfold szRes
            rw [if_neg (by rw [HZ.out]; have h1 := HM.out; have h2 := HT.out; have h3 := HL.out; have h4 := HE0.out; omega)]
          clear HT HL hr hwi
          go_wp2_with fail
          refine HC.out.mono ?_
          rintro e w5 ⟨rfl, hb5⟩
          have HB5 := hide (HB.out.trans (hb5.mono HB.out.size))
          clear hb5 HB HC HM
          go_wp2_with fail
          go_ret
          exact ⟨by rw [HR.out]; rfl, HB5.out⟩
      · have hkl : k = l.length := by omega
        subst hkl
        have HR : Hid (szRes left (szShL l) = (m : Int)) := by
          show _ = _
          have h1 := HM.out
          rw [List.take_length] at h1
          have h4 := HE0.out
          unfold szRes
          rw [HZ.out, if_pos (by omega)]
          omega
        clear HM
        go_wp2_with fail
        go_ret
        exact ⟨by rw [HR.out]; rfl, HB.out⟩
  · have HR : Hid (szRes left (szShL l) = -1) := by show _ = _; unfold szRes; rw [if_neg (by rw [HZ.out]; omega)]
    have q0 : ((left : Int) - (l.length : Int)) < 0 := by omega
    go_enter Try.func16, Try.ntmps16
    go_wp2_with fail
    go_ret
    exact ⟨by rw [HR.out]; rfl, Below.refl _ _⟩

set_option maxHeartbeats 400000 in
theorem szInts_calls (w : World) (l : List Int) (v : Value) (left : Nat) (hv : IntsAt w v l) (hl : l.length ≤ 9223372036854775807) (hm : left ≤ 1048576) :
    Calls Try.prog 15 #[v, .int .i64 left] w fun e w' => e = .returned (.int .i64 (szRes left l.length)) ∧ w' = w := by
  obtain ⟨a, ca, rfl, -⟩ := hv
  by_cases h0 : l.length ≤ left
  · have q0 : ((left : Int) - (l.length : Int)) = ((left - l.length : Nat) : Int) := by omega
    rw [szRes_pos h0]
    generalize left - l.length = r at *
    go_enter Try.func15, Try.ntmps15
    go_wp2_with fail
    go_ret
    exact ⟨rfl, rfl⟩
  · rw [szRes_neg h0]
    have q0 : ((left : Int) - (l.length : Int)) < 0 := by omega
    go_enter Try.func15, Try.ntmps15
    go_wp2_with fail
    go_ret
    exact ⟨rfl, rfl⟩
end Go.Proofs.Ytfckfgabeeeccaa.P9
