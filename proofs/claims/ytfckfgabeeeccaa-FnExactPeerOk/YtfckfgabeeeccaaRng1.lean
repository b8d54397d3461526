/- How far and between whom, of the program and of the specification: for every number; no condition. -/
import Derived.Test.YtfckfgabeeeccaaRngP
import Derived.Test.YtfckfgabeeeccaaRows
import Derived.Test.YtfckfgabeeeccaaKit
namespace Go.Proofs.Ytfckfgabeeeccaa.P8
open Go.RowKit P1

theorem tmod_low (n : Int) : n.tmod 256 = if 0 ≤ n ∨ n % 256 = 0 then n % 256 else n % 256 - 256 := by
  rw [Int.tmod_eq_emod]
  by_cases h : 0 ≤ n ∨ n % 256 = 0
  · rw [if_pos h, if_pos (h.imp id (fun e => Int.dvd_of_emod_eq_zero e))]
    omega
  · rw [if_neg h, if_neg (fun h' => h (h'.imp id (fun e => Int.emod_eq_zero_of_dvd e)))]
    omega

theorem tmod_bounds (n : Int) : -256 < n.tmod 256 ∧ n.tmod 256 < 256 := by
  rw [tmod_low]
  split <;> omega

theorem wrap_in {n : Int} (h0 : -9223372036854775808 ≤ n) (h1 : n ≤ 9223372036854775807) : wrap64 n = n := by
  unfold wrap64
  omega

theorem on_ring (n : Int) : (wrap64 (n.tmod 256 + 256)).tmod 256 = n % 256 := by
  have hb := tmod_bounds n
  rw [wrap_in (by omega) (by omega), tmod_low (n.tmod 256 + 256), tmod_low n]
  split <;> split <;> omega

theorem ring_sub (f t : Int) : (wrap64 (t % 256 - f % 256)) % 256 = ((ahd f t : Nat) : Int) := by
  rw [wrap_in (by omega) (by omega), ahd_cast]
  omega

theorem mod_low {n : Int} (h : n.tmod 256 < 0) : wrap64 (n.tmod 256 + 256) = n % 256 := by
  have hb := tmod_bounds n
  rw [wrap_in (by omega) (by omega), tmod_low]
  rw [tmod_low] at h
  split <;> rename_i h'
  · rw [if_pos h'] at h; omega
  · omega

theorem mod_high {n : Int} (h : ¬ n.tmod 256 < 0) : n.tmod 256 = n % 256 := by
  rw [tmod_low] at h ⊢
  split <;> rename_i h'
  · rfl
  · rw [if_neg h'] at h; omega
end Go.Proofs.Ytfckfgabeeeccaa.P8
