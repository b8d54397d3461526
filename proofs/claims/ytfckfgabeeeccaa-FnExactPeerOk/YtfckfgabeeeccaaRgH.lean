/- The laws' szItem, szItemS, szShelf, szShelfS: how much there is; no condition but that lengths are ints. -/
import Derived.Test.YtfckfgabeeeccaaRg6
namespace Go.Proofs.Ytfckfgabeeeccaa.P9
set_option maxRecDepth 8000
open Go.RowKit P1 P8 Da

/-- What is left when s are taken of m: -1 when there are not so many. -/
def szRes (m s : Nat) : Int := if s ≤ m then (m : Int) - (s : Int) else -1

set_option maxHeartbeats 400000 in
theorem szItem_calls (w : World) (t : List UInt8) (b : Bool) (left : Nat) (hl : t.length ≤ 9223372036854775807) (hm : left ≤ 1048576) :
    Calls Try.prog 45 #[.agg #[.string ⟨t.toArray⟩, .bool b], .int .i64 left] w fun e w' => e = .returned (.int .i64 (szRes left t.length)) ∧ Below w.heap.size w w' := by
  have HB := hide ((Below.refl w.heap.size w).alloc (Nat.le_refl _) (.cells #[.string ⟨t.toArray⟩, .bool b] 82))
  have hsz : (⟨t.toArray⟩ : ByteArray).size = t.length := rfl
  by_cases h0 : t.length ≤ left
  · have HR : Hid (szRes left t.length = (left : Int) - (t.length : Int)) := by show _ = _; unfold szRes; rw [if_pos h0]
    have q0 : ¬ ((left : Int) - (t.length : Int)) < 0 := by omega
    have q1 : 0 ≤ ((left : Int) - (t.length : Int)) := by omega
    go_enter Try.func45, Try.ntmps45
    go_wp2_with fail
    go_ret
    exact ⟨by rw [HR.out]; rfl, HB.out⟩
  · have HR : Hid (szRes left t.length = -1) := by show _ = _; unfold szRes; rw [if_neg h0]
    have q0 : ((left : Int) - (t.length : Int)) < 0 := by omega
    go_enter Try.func45, Try.ntmps45
    go_wp2_with fail
    go_ret
    exact ⟨by rw [HR.out]; rfl, HB.out⟩

def szT (x : It) : Nat := x.t.length

def szItL (l : List It) : Nat := l.length + (l.map szT).sum

set_option maxHeartbeats 1000000 in
theorem szItems_calls (w : World) (v : Value) (l : List It) (left : Nat) (hv : ItemsAt w v l) (hl : l.length ≤ 9223372036854775807) (hw : ∀ x ∈ l, x.t.length ≤ 9223372036854775807) (hm : left ≤ 1048576) :
    Calls Try.prog 42 #[v, .int .i64 left] w fun e w' => e = .returned (.int .i64 (szRes left (szItL l))) ∧ Below w.heap.size w w' := by
  have HV := hide hv
  have HWi := hide hw
  obtain ⟨a, ca, rfl, -⟩ := hv.open_
  have HZ : Hid (szItL l = l.length + (l.map szT).sum) := rfl
  clear hv hw
  by_cases h0 : l.length ≤ left
  · obtain ⟨m0, e0⟩ : ∃ m, left = m + l.length := ⟨left - l.length, by omega⟩
    have q0 : ((left : Int) - (l.length : Int)) = (m0 : Int) := by omega
    have HE0 := hide e0
    have hm0 : m0 ≤ 1048576 := by omega
    clear e0
    go_enter Try.func42, Try.ntmps42
    go_wp2_with fail
    clear q0
    go_loopw [1, 5] (fun r i wr => ∃ (k m : Nat), k ≤ l.length ∧ i = .int .i64 k ∧ r = .int .i64 m ∧ Hid (m + ((l.take k).map szT).sum = m0) ∧ Hid (Below w.heap.size w wr)) (fun _ i _ => l.length - (intOf i).toNat)
    case atStart => exact ⟨0, m0, Nat.zero_le _, rfl, rfl, by show _ = _; simp, Below.refl _ _⟩
    case round =>
      obtain ⟨k, m, hk, rfl, rfl, HM, HB⟩ := hrel
      have hmle : m ≤ 1048576 := by have := HM.out; omega
      by_cases hlt : k < l.length
      · obtain ⟨ax, cx, hax, HA⟩ := (HV.out.below HB.out (Nat.le_refl _)).open_
        cases hax
        obtain ⟨g, off, rfl, hg, f0, f1⟩ := HA k hlt
        have hwi := HWi.out l[k] (List.getElem_mem hlt)
        have HT : Hid (((l.take (k + 1)).map szT).sum = ((l.take k).map szT).sum + szT l[k]) := by show _ = _; rw [List.take_succ_eq_append_getElem hlt, List.map_append, List.sum_append, List.map_cons, List.map_nil, List.sum_cons, List.sum_nil, Nat.add_zero]
        have HL : Hid (((l.take (k + 1)).map szT).sum ≤ (l.map szT).sum) := by
          show _ ≤ _
          conv => rhs; rw [← List.take_append_drop (k + 1) l]
          rw [List.map_append, List.sum_append]
          omega
        clear HA
        have HC := hide (szItem_calls wr l[k].t l[k].gone m hwi hmle)
        change Hid (Calls _ _ _ _ fun e w' => e = .returned (.int .i64 (szRes m (szT l[k]))) ∧ _) at HC
        generalize l[k].t = xt at *
        generalize l[k].gone = xb at *
        generalize szT l[k] = s at *
        by_cases hs : s ≤ m
        · have hr : szRes m s = ((m - s : Nat) : Int) := by unfold szRes; rw [if_pos hs]; omega
          rw [hr] at HC
          have HM2 : Hid ((m - s) + ((l.take (k + 1)).map szT).sum = m0) := by show _ = _; rw [HT.out]; have := HM.out; omega
          clear HT HL hr hwi
          go_wp2_with fail
          refine HC.out.mono ?_
          rintro e w5 ⟨rfl, hb5⟩
          have HB5 := hide (HB.out.trans (hb5.mono HB.out.size))
          clear hb5 HB HC HM
          have hnn : decide (((m - s : Nat) : Int) < 0) = false := decide_eq_false (by omega)
          generalize m - s = m2 at *
          go_wp2_with fail
          go_roundw
          case rel => exact ⟨k + 1, m2, by omega, by go_num, rfl, HM2.out, HB5.out⟩
          case measure => simp [intOf]; omega
        · have hr : szRes m s = -1 := by unfold szRes; rw [if_neg hs]
          rw [hr] at HC
          have HR : Hid (szRes left (szItL l) = -1) := by
            show _ = _
            unfold szRes
            rw [if_neg (by rw [HZ.out]; have h1 := HM.out; have h2 := HT.out; have h3 := HL.out; have h4 := HE0.out; omega)]
          clear HT HL hr hwi
          go_wp2_with fail
          refine HC.out.mono ?_
          rintro e w5 ⟨rfl, hb5⟩
          have HB5 := hide (HB.out.trans (hb5.mono HB.out.size))
          clear hb5 HB HC HM
          go_wp2_with fail
          go_ret
          exact ⟨by rw [HR.out]; rfl, HB5.out⟩
      · have hkl : k = l.length := by omega
        subst hkl
        have HR : Hid (szRes left (szItL l) = (m : Int)) := by
          show _ = _
          have h1 := HM.out
          rw [List.take_length] at h1
          have h4 := HE0.out
          unfold szRes
          rw [HZ.out, if_pos (by omega)]
          omega
        clear HM
        go_wp2_with fail
        go_ret
        exact ⟨by rw [HR.out]; rfl, HB.out⟩
  · have HR : Hid (szRes left (szItL l) = -1) := by show _ = _; unfold szRes; rw [if_neg (by rw [HZ.out]; omega)]
    have q0 : ((left : Int) - (l.length : Int)) < 0 := by omega
    go_enter Try.func42, Try.ntmps42
    go_wp2_with fail
    go_ret
    exact ⟨by rw [HR.out]; rfl, Below.refl _ _⟩
end Go.Proofs.Ytfckfgabeeeccaa.P9
