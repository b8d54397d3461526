/- The specification's l09Items; condition: at most 2^20 items. -/
import Derived.Test.YtfckfgabeeeccaaRg2
import Derived.Test.YtfckfgabeeeccaaVar
import Derived.Laws.Cover1
namespace Go.Proofs.Ytfckfgabeeeccaa.P9
set_option maxRecDepth 8000
open Go.RowKit P1 P8 Da

/-- Whether the k-th item is right beside the one ahead of it. -/
def itemOk (l : List It) (k : Nat) : Bool := decide (((l[k]?).map (·.t.length)).getD 0 ≤ 600) && (decide (k = 0) || Op.bytesLess (((l[k - 1]?).map (·.t)).getD []) (((l[k]?).map (·.t)).getD []))

def itemsOk (l : List It) : Bool := (List.range l.length).all (itemOk l) && decide (l.length ≤ 300)

theorem all_range {n : Nat} {p : Nat → Bool} (h : ∀ j, j < n → p j = true) : (List.range n).all p = true := by
  rw [List.all_eq_true]
  intro j hj
  exact h j (List.mem_range.1 hj)

theorem not_all_range {n k : Nat} {p : Nat → Bool} (hk : k < n) (h : p k = false) : (List.range n).all p = false := by
  rw [List.all_eq_false]
  exact ⟨k, List.mem_range.2 hk, by rw [h]; simp⟩

set_option maxHeartbeats 2000000 in
theorem specItems_calls (w : World) (v : Value) (l : List It) (hv : ItemsAt w v l) (hl : l.length ≤ 1048576) (hlt6 : ∀ x ∈ l, x.t.length ≤ 1048576) :
    Calls Try.prog 18 #[v] w fun e w' => e = .returned (.bool (itemsOk l)) ∧ ∃ n, w' = w.drewN n := by
  have HV := hide hv
  obtain ⟨a, cap, rfl, -⟩ := hv.open_
  clear hv
  have HT := hide hlt6
  clear hlt6
  go_enter Try.func18, Try.ntmps18
  go_wp2_with fail
  go_loopw [3] (fun i wr => ∃ k : Nat, k ≤ l.length ∧ i = .int .i64 k ∧ Hid (∀ j, j < k → itemOk l j = true) ∧ Hid (∃ n, wr = w.drewN n)) (fun i _ => l.length - (intOf i).toNat)
  case atStart => exact ⟨0, Nat.zero_le _, rfl, fun j hj => by omega, 0, rfl⟩
  case round =>
    obtain ⟨k, hk, rfl, HN, HW⟩ := hrel
    by_cases hlt : k < l.length
    · have hvr : ItemsAt wr (.slice a l.length cap) l := by obtain ⟨n, rfl⟩ := HW.out; exact HV.out.below (below_drewN (Below.refl w.heap.size w) n) (Nat.le_refl _)
      obtain ⟨a2, c2, hsh, HA⟩ := hvr.open_
      cases hsh
      obtain ⟨g, off, rfl, hg, f0, -⟩ := HA k hlt
      have HF : Hid (itemOk l k = false → itemsOk l = false) := fun h => by unfold itemsOk; rw [not_all_range hlt h]; rfl
      have HS : Hid (itemOk l k = true → ∀ j, j < k + 1 → itemOk l j = true) := fun h j hj => by
        rcases Nat.lt_or_ge j k with h1 | h1
        · exact HN.out j h1
        · obtain rfl : j = k := by omega
          exact h
      have hsz : (⟨l[k].t.toArray⟩ : ByteArray).size = l[k].t.length := rfl
      have hi : itemOk l k = (decide (l[k].t.length ≤ 600) && (decide (k = 0) || Op.bytesLess (((l[k - 1]?).map (·.t)).getD []) l[k].t)) := by unfold itemOk; simp [hlt]
      have hmx := HT.out l[k] (List.getElem_mem hlt)
      have HI := hide hi
      clear hi hvr
      by_cases h6 : 600 < l[k].t.length
      · have HR : Hid (itemsOk l = false) := HF.out (by rw [HI.out, decide_eq_false (by omega)]; rfl)
        have hd : decide ((600 : Int) < ((l[k].t.length : Nat) : Int)) = true := decide_eq_true (by omega)
        clear HA HI HS HF HN
        generalize l[k].t = t1 at *
        go_wp2_with fail
        go_quiet (fail)
        go_wp2_with fail
        go_ret
        exact ⟨by rw [HR.out]; rfl, drewN_more HW.out _⟩
      · have hd : decide ((600 : Int) < ((l[k].t.length : Nat) : Int)) = false := decide_eq_false (by omega)
        have h6' : l[k].t.length ≤ 600 := by omega
        by_cases hk0 : k = 0
        · have HR := hide (HS.out (by rw [HI.out, decide_eq_true h6', decide_eq_true hk0]; rfl))
          have hd0 : decide (0 < k) = false := decide_eq_false (by omega)
          clear HA HI HS HF HN hk0
          generalize l[k].t = t1 at *
          go_wp2_with fail
          go_quiet (fail)
          go_wp2_with fail
          go_roundw
          case rel => exact ⟨k + 1, by omega, by go_num, HR.out, drewN_more HW.out _⟩
          case measure => simp [intOf]; omega
        · obtain ⟨j, rfl⟩ : ∃ j, k = j + 1 := ⟨k - 1, by omega⟩
          obtain ⟨g', off', e', -, f0', -⟩ := HA j (by omega)
          cases e'
          have hi2 := HI.out
          rw [decide_eq_true h6', decide_eq_false hk0, Nat.add_sub_cancel, List.getElem?_eq_getElem (by omega : j < l.length)] at hi2
          have HI2 := hide hi2
          clear HA HI HN hi2
          generalize l[j + 1].t = t1 at *
          cases hbl : Op.bytesLess l[j].t t1 with
          | true =>
            have HR := hide (HS.out (by rw [HI2.out]; simpa using hbl))
            clear HI2 HS HF
            generalize l[j].t = t0 at *
            go_wp2_with fail
            go_quiet (fail)
            go_wp2_with fail
            go_roundw
            case rel => exact ⟨j + 1 + 1, by omega, by go_num, HR.out, drewN_more HW.out _⟩
            case measure => simp [intOf]; omega
          | false =>
            have HR : Hid (itemsOk l = false) := HF.out (by rw [HI2.out]; simpa using hbl)
            clear HI2 HS HF
            generalize l[j].t = t0 at *
            go_wp2_with fail
            go_quiet (fail)
            go_wp2_with fail
            go_ret
            exact ⟨by rw [HR.out]; rfl, drewN_more HW.out _⟩
    · have hkl : k = l.length := by omega
      subst hkl
      have HR : Hid (itemsOk l = decide (l.length ≤ 300)) := by show _ = _; unfold itemsOk; rw [all_range HN.out]; simp
      clear HN
      go_wp2_with fail
      go_ret
      exact ⟨by rw [HR.out]; simp; omega, HW.out⟩
end Go.Proofs.Ytfckfgabeeeccaa.P9
