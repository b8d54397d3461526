/- The specification's OwnerOf, l08Has, OrderedFrom; condition: at most 2^20 ids. -/
import Derived.Test.YthkdgnohkdedpaaRng1
import Derived.Test.YthkdgnohkdedpaaIntS
import Derived.BigQuiet
namespace Go.Proofs.Ythkdgnohkdedpaa.P8
set_option maxRecDepth 8000
open Go.RowKit P1

theorem drewN_more {w wr : World} (h : ∃ n, wr = w.drewN n) (m : Nat) : ∃ n, wr.drewN m = w.drewN n := by
  obtain ⟨n, rfl⟩ := h
  exact ⟨_, drewN2 _ _ _⟩

/-- The best one of the first k stands at place b. -/
def BestAt (key : Int) (l : List Int) (k : Nat) (b : Int) : Prop := (k = 0 ∧ b = -1) ∨ ∃ j : Nat, ∃ h : j < l.length, b = j ∧ j < k ∧ best key (l.take k) = some l[j]

theorem BestAt.step {key : Int} {l : List Int} {k : Nat} {b : Int} (h : BestAt key l k b) (hk : k < l.length) :
    (b < 0 → BestAt key l (k + 1) k) ∧ ∀ (j : Nat) (hj : j < l.length), b = j → (ahd key l[k] < ahd key l[j] → BestAt key l (k + 1) k) ∧ (¬ ahd key l[k] < ahd key l[j] → BestAt key l (k + 1) b) := by
  have e1 : best key (l.take (k + 1)) = ownStep key (best key (l.take k)) l[k] := by
    rw [List.take_succ_eq_append_getElem hk, best_snoc]
  constructor
  · intro hb
    rcases h with ⟨rfl, _⟩ | ⟨j, hj, rfl, _⟩
    · refine .inr ⟨0, hk, rfl, by omega, ?_⟩
      rw [e1]
      rfl
    · omega
  · intro j hj hb
    rcases h with ⟨rfl, rfl⟩ | ⟨i, hi, hbi, hik, hbest⟩
    · omega
    · obtain rfl : i = j := by omega
      rw [hbest] at e1
      unfold ownStep at e1
      dsimp only at e1
      constructor
      · intro hlt
        rw [if_pos hlt] at e1
        exact .inr ⟨k, hk, rfl, by omega, e1⟩
      · intro hlt
        rw [if_neg hlt] at e1
        exact .inr ⟨i, hi, hb, by omega, e1⟩

set_option maxHeartbeats 1000000 in
theorem specOwner_calls (w : World) (v : Value) (l : List Int) (key : Int) (hv : IntsAt w v l) (hl : l.length ≤ 1048576) :
    Calls Try.prog 22 #[v, .int .i64 key] w fun e w' => e = .returned (.int .i64 (ownerOf key l)) ∧ ∃ n, w' = w.drewN n := by
  obtain ⟨a, ca, rfl, HA⟩ := hv
  replace HA := hide HA
  go_enter Try.func22, Try.ntmps22
  go_wp2
  go_loopw [5, 6] (fun b i wr => ∃ k : Nat, ∃ z : Int, k ≤ l.length ∧ i = .int .i64 k ∧ b = .int .i64 z ∧ Hid (BestAt key l k z) ∧ ∃ n, wr = w.drewN n) (fun b i _ => l.length - (intOf i).toNat)
  case atStart => exact ⟨0, -1, Nat.zero_le _, rfl, rfl, .inl ⟨rfl, rfl⟩, 0, rfl⟩
  case round =>
    obtain ⟨k, z, hk, rfl, rfl, HZ, HW⟩ := hrel
    have HA' : Hid (∀ j (hj : j < l.length), ∃ g off, a = some ⟨g, off, none⟩ ∧ g < wr.heap.size ∧ wr.cell? ⟨g, off + j, none⟩ = some (.int .i64 l[j])) := by
      obtain ⟨n, rfl⟩ := HW
      exact HA.out
    replace HW := hide HW
    clear HA
    have HA := HA'
    clear HA'
    by_cases hlt : k < l.length
    · obtain ⟨ga, oa, rfl, ha2, ha3⟩ := HA.out k hlt
      have hst := HZ.out.step hlt
      by_cases hz : z < 0
      · have HN := hide (hst.1 hz)
        clear hst HZ
        have hd : decide (z < 0) = true := decide_eq_true hz
        go_wp2
        go_quiet (fail)
        go_wp2
        go_roundw
        case rel => exact ⟨k + 1, k, by omega, by go_num, rfl, HN.out, drewN_more HW.out _⟩
        case measure => simp [intOf]; omega
      · obtain ⟨j, hj, rfl, hjk⟩ : ∃ j : Nat, ∃ h : j < l.length, z = j ∧ j < k := by
          rcases HZ.out with ⟨rfl, rfl⟩ | ⟨j, hj, rfl, h1, _⟩
          · omega
          · exact ⟨j, hj, rfl, h1⟩
        obtain ⟨gb, ob, hgb, hb2, hb3⟩ := HA.out j hj
        cases hgb
        have hst2 := hst.2 j hj rfl
        have hd : decide ((j : Int) < 0) = false := decide_eq_false (by omega)
        have C1 := hide (fun wx => specAhead_calls key l[k] wx)
        have C2 := hide (fun wx => specAhead_calls key l[j] wx)
        clear hst hz
        by_cases hq : ahd key l[k] < ahd key l[j]
        · have HN := hide (hst2.1 hq)
          have hqd : decide (((ahd key l[k] : Nat) : Int) < ((ahd key l[j] : Nat) : Int)) = true := decide_eq_true (by omega)
          clear hst2 HZ
          generalize ahd key l[k] = x at *
          generalize ahd key l[j] = y at *
          generalize l[k] = lk at *
          generalize l[j] = lj at *
          go_wp2
          refine wp_region_quiet_lit (by kernel_rfl) (by kernel_rfl) ?_
          repeat (go_big_quiet_step (fail))
          go_big_quiet_step (exact Calls.quiet_of_same (C1.out _))
          repeat (go_big_quiet_step (fail))
          go_big_quiet_step (exact Calls.quiet_of_same (C2.out _))
          repeat (go_big_quiet_step (fail))
          refine wpQuiet_nil ?_
          rintro _ ⟨nq, rfl⟩
          go_wp2
          go_roundw
          case rel => exact ⟨k + 1, k, by omega, by go_num, rfl, HN.out, drewN_more HW.out _⟩
          case measure => simp [intOf]; omega
        · have HN := hide (hst2.2 hq)
          have hqd : decide (((ahd key l[k] : Nat) : Int) < ((ahd key l[j] : Nat) : Int)) = false := decide_eq_false (by omega)
          have hq2 : ahd key l[j] ≤ ahd key l[k] := by omega
          clear hst2 HZ
          generalize ahd key l[k] = x at *
          generalize ahd key l[j] = y at *
          generalize l[k] = lk at *
          generalize l[j] = lj at *
          go_wp2
          refine wp_region_quiet_lit (by kernel_rfl) (by kernel_rfl) ?_
          repeat (go_big_quiet_step (fail))
          go_big_quiet_step (exact Calls.quiet_of_same (C1.out _))
          repeat (go_big_quiet_step (fail))
          go_big_quiet_step (exact Calls.quiet_of_same (C2.out _))
          repeat (go_big_quiet_step (fail))
          refine wpQuiet_nil ?_
          rintro _ ⟨nq, rfl⟩
          go_wp2
          go_roundw
          case rel => exact ⟨k + 1, j, by omega, by go_num, rfl, HN.out, drewN_more HW.out _⟩
          case measure => simp [intOf]; omega
    · obtain rfl : k = l.length := by omega
      by_cases hz : z < 0
      · have HE : Hid (ownerOf key l = -1) := by
          show ownerOf key l = -1
          rcases HZ.out with ⟨h0, _⟩ | ⟨j, hj, rfl, _⟩
          · rw [List.eq_nil_of_length_eq_zero h0]; rfl
          · omega
        clear HZ
        go_wp2
        go_ret
        exact ⟨by rw [HE.out]; rfl, HW.out⟩
      · obtain ⟨j, hj, rfl, HE⟩ : ∃ j : Nat, ∃ h : j < l.length, z = j ∧ Hid (ownerOf key l = l[j]) := by
          rcases HZ.out with ⟨h0, rfl⟩ | ⟨j, hj, rfl, h1, h2⟩
          · omega
          · refine ⟨j, hj, rfl, ?_⟩
            show ownerOf key l = l[j]
            rw [List.take_length] at h2
            unfold ownerOf
            rw [h2]
            rfl
        obtain ⟨gb, ob, rfl, hb2, hb3⟩ := HA.out j hj
        clear HZ hz
        generalize l[j] = lj at *
        go_wp2
        go_ret
        exact ⟨by rw [HE.out]; rfl, HW.out⟩
end Go.Proofs.Ythkdgnohkdedpaa.P8
