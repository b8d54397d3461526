/- How far and between whom, of the program and of the specification: for every number; no condition. -/
import Derived.Test.YthkdgnohkdedpaaRngP
import Derived.Test.YthkdgnohkdedpaaRows
import Derived.Test.YthkdgnohkdedpaaKit
namespace Go.Proofs.Ythkdgnohkdedpaa.P8
set_option maxRecDepth 8000
open Go.RowKit P1

theorem tmod_low (n : Int) : n.tmod 256 = if 0 ≤ n ∨ n % 256 = 0 then n % 256 else n % 256 - 256 := by
  rw [Int.tmod_eq_emod]
  by_cases h : 0 ≤ n ∨ n % 256 = 0
  · rw [if_pos h, if_pos (h.imp id (fun e => Int.dvd_of_emod_eq_zero e))]
    omega
  · rw [if_neg h, if_neg (fun h' => h (h'.imp id (fun e => Int.emod_eq_zero_of_dvd e)))]
    omega

theorem tmod_bounds (n : Int) : -256 < n.tmod 256 ∧ n.tmod 256 < 256 := by
  rw [tmod_low]
  split <;> omega

theorem wrap_in {n : Int} (h0 : -9223372036854775808 ≤ n) (h1 : n ≤ 9223372036854775807) : wrap64 n = n := by
  unfold wrap64
  omega

theorem on_ring (n : Int) : (wrap64 (n.tmod 256 + 256)).tmod 256 = n % 256 := by
  have hb := tmod_bounds n
  rw [wrap_in (by omega) (by omega), tmod_low (n.tmod 256 + 256), tmod_low n]
  split <;> split <;> omega

theorem ring_sub (f t : Int) : (wrap64 (t % 256 - f % 256)) % 256 = ((ahd f t : Nat) : Int) := by
  rw [wrap_in (by omega) (by omega), ahd_cast]
  omega

theorem onRing_calls (n : Int) (w : World) :
    Calls Try.prog 53 #[.int .i64 n] w fun e w' => e = .returned (.int .i64 (n % 256)) ∧ w' = w := by
  go_enter Try.func53, Try.ntmps53
  go_wp2
  go_ret
  refine ⟨?_, rfl⟩
  rw [← on_ring n]
  rfl

set_option maxHeartbeats 400000 in
theorem implAhead_calls (f t : Int) (w : World) :
    Calls Try.prog 15 #[.int .i64 f, .int .i64 t] w fun e w' => e = .returned (.int .i64 ((ahd f t : Nat) : Int)) ∧ w' = w := by
  have H := hide (fun n => onRing_calls n w)
  go_enter Try.func15, Try.ntmps15
  go_wp2_with fail
  refine (H.out _).mono ?_
  rintro e w1 ⟨rfl, rfl⟩
  go_wp2_with fail
  refine (H.out _).mono ?_
  rintro e w1 ⟨rfl, rfl⟩
  go_wp2_with fail
  refine (H.out _).mono ?_
  rintro e w1 ⟨rfl, rfl⟩
  go_wp2_with fail
  go_ret
  exact ⟨by rw [ahd_cast]; rfl, rfl⟩

theorem mod_low {n : Int} (h : n.tmod 256 < 0) : wrap64 (n.tmod 256 + 256) = n % 256 := by
  have hb := tmod_bounds n
  rw [wrap_in (by omega) (by omega), tmod_low]
  rw [tmod_low] at h
  split <;> rename_i h'
  · rw [if_pos h'] at h; omega
  · omega

theorem mod_high {n : Int} (h : ¬ n.tmod 256 < 0) : n.tmod 256 = n % 256 := by
  rw [tmod_low] at h ⊢
  split <;> rename_i h'
  · rfl
  · rw [if_neg h'] at h; omega

set_option maxHeartbeats 400000 in
theorem mod_calls (n : Int) (w : World) :
    Calls Try.prog 58 #[.int .i64 n] w fun e w' => e = .returned (.int .i64 (n % 256)) ∧ w' = w := by
  by_cases h : n.tmod 256 < 0
  · have HE := hide (mod_low h)
    go_enter Try.func58, Try.ntmps58
    go_wp2
    go_ret
    exact ⟨by rw [← HE.out]; rfl, rfl⟩
  · have HE := hide (mod_high h)
    have h2 : 0 ≤ n.tmod 256 := by omega
    go_enter Try.func58, Try.ntmps58
    go_wp2
    go_ret
    exact ⟨by rw [← HE.out]; rfl, rfl⟩

set_option maxHeartbeats 400000 in
theorem specAhead_calls (f t : Int) (w : World) :
    Calls Try.prog 25 #[.int .i64 f, .int .i64 t] w fun e w' => e = .returned (.int .i64 ((ahd f t : Nat) : Int)) ∧ w' = w := by
  have H := hide (fun n => mod_calls n w)
  go_enter Try.func25, Try.ntmps25
  go_wp2_with fail
  refine (H.out _).mono ?_
  rintro e w1 ⟨rfl, rfl⟩
  go_wp2_with fail
  refine (H.out _).mono ?_
  rintro e w1 ⟨rfl, rfl⟩
  go_wp2_with fail
  refine (H.out _).mono ?_
  rintro e w1 ⟨rfl, rfl⟩
  go_wp2_with fail
  go_ret
  exact ⟨by rw [ahd_cast]; rfl, rfl⟩

set_option maxHeartbeats 400000 in
theorem implBetween_calls (a x b : Int) (w : World) :
    Calls Try.prog 17 #[.int .i64 a, .int .i64 x, .int .i64 b] w fun e w' => e = .returned (.bool (btw a x b)) ∧ w' = w := by
  have H1 := hide (implAhead_calls a x w)
  have H2 := hide (implAhead_calls a b w)
  have HE : Hid (btw a x b = (decide (0 < ahd a x) && decide (ahd a x ≤ if ahd a b = 0 then 256 else ahd a b))) := rfl
  have hx := ahd_lt a x
  have hb := ahd_lt a b
  generalize btw a x b = r at *
  generalize ahd a x = p at *
  generalize ahd a b = q at *
  by_cases hq : q = 0
  · subst hq
    by_cases hp : 0 < p
    · have hp2 : p ≤ 256 := by omega
      have HR : Hid (r = true) := by show r = true; rw [HE.out]; simp [hp, hp2]
      go_enter Try.func17, Try.ntmps17
      go_wp2_with fail
      refine H1.out.mono ?_
      rintro e w1 ⟨rfl, rfl⟩
      go_wp2_with fail
      refine H2.out.mono ?_
      rintro e w1 ⟨rfl, rfl⟩
      go_wp2_with fail
      go_ret
      exact ⟨by rw [HR.out]; simp; omega, rfl⟩
    · obtain rfl : p = 0 := by omega
      have HR : Hid (r = false) := by show r = false; rw [HE.out]; simp
      go_enter Try.func17, Try.ntmps17
      go_wp2_with fail
      refine H1.out.mono ?_
      rintro e w1 ⟨rfl, rfl⟩
      go_wp2_with fail
      refine H2.out.mono ?_
      rintro e w1 ⟨rfl, rfl⟩
      go_wp2_with fail
      go_ret
      exact ⟨by rw [HR.out]; rfl, rfl⟩
  · have hqd : decide ((q : Int) = 0) = false := decide_eq_false (by omega)
    have HR : Hid (r = (decide (0 < p) && decide (p ≤ q))) := by show r = _; rw [HE.out, if_neg hq]
    by_cases hp : 0 < p
    · go_enter Try.func17, Try.ntmps17
      go_wp2_with fail
      refine H1.out.mono ?_
      rintro e w1 ⟨rfl, rfl⟩
      go_wp2_with fail
      refine H2.out.mono ?_
      rintro e w1 ⟨rfl, rfl⟩
      go_wp2_with fail
      go_ret
      exact ⟨by rw [HR.out]; simp [hp], rfl⟩
    · obtain rfl : p = 0 := by omega
      go_enter Try.func17, Try.ntmps17
      go_wp2_with fail
      refine H1.out.mono ?_
      rintro e w1 ⟨rfl, rfl⟩
      go_wp2_with fail
      refine H2.out.mono ?_
      rintro e w1 ⟨rfl, rfl⟩
      go_wp2_with fail
      go_ret
      exact ⟨by rw [HR.out]; rfl, rfl⟩

set_option maxHeartbeats 400000 in
theorem specBetween_calls (a x b : Int) (w : World) :
    Calls Try.prog 21 #[.int .i64 a, .int .i64 x, .int .i64 b] w fun e w' => e = .returned (.bool (btw a x b)) ∧ w' = w := by
  have H1 := hide (specAhead_calls a x w)
  have H2 := hide (specAhead_calls a b w)
  have M1 := hide (mod_calls a w)
  have M2 := hide (mod_calls b w)
  by_cases hab : a % 256 = b % 256
  · have HR := hide (btw_same (x := x) hab)
    rw [← hab] at M2
    have hx := ahd_lt a x
    clear hab H2
    generalize btw a x b = r at *
    generalize ahd a x = p at *
    generalize a % 256 = q at *
    go_enter Try.func21, Try.ntmps21
    go_wp2_with fail
    refine M1.out.mono ?_
    rintro e w1 ⟨rfl, rfl⟩
    go_wp2_with fail
    refine M2.out.mono ?_
    rintro e w1 ⟨rfl, rfl⟩
    go_wp2_with fail
    refine H1.out.mono ?_
    rintro e w1 ⟨rfl, rfl⟩
    go_wp2_with fail
    go_ret
    refine ⟨?_, rfl⟩
    rw [HR.out]
    by_cases hp : p = 0
    · subst hp; rfl
    · have h1 : ((p : Int) != 0) = true := by simpa using hp
      simp [hp]
  · have HR := hide (btw_unlike (x := x) hab)
    have hx := ahd_lt a x
    have hne : ((a % 256) == (b % 256)) = false := by simpa using hab
    clear hab
    generalize btw a x b = r at *
    generalize ahd a x = p at *
    generalize ahd a b = s at *
    generalize a % 256 = q at *
    generalize b % 256 = t at *
    by_cases hp : 0 < p
    · go_enter Try.func21, Try.ntmps21
      go_wp2_with fail
      refine M1.out.mono ?_
      rintro e w1 ⟨rfl, rfl⟩
      go_wp2_with fail
      refine M2.out.mono ?_
      rintro e w1 ⟨rfl, rfl⟩
      go_wp2_with fail
      refine H1.out.mono ?_
      rintro e w1 ⟨rfl, rfl⟩
      go_wp2_with fail
      refine H1.out.mono ?_
      rintro e w1 ⟨rfl, rfl⟩
      go_wp2_with fail
      refine H2.out.mono ?_
      rintro e w1 ⟨rfl, rfl⟩
      go_wp2_with fail
      go_ret
      exact ⟨by rw [HR.out]; simp [hp], rfl⟩
    · obtain rfl : p = 0 := by omega
      go_enter Try.func21, Try.ntmps21
      go_wp2_with fail
      refine M1.out.mono ?_
      rintro e w1 ⟨rfl, rfl⟩
      go_wp2_with fail
      refine M2.out.mono ?_
      rintro e w1 ⟨rfl, rfl⟩
      go_wp2_with fail
      refine H1.out.mono ?_
      rintro e w1 ⟨rfl, rfl⟩
      go_wp2_with fail
      go_ret
      exact ⟨by rw [HR.out]; rfl, rfl⟩
end Go.Proofs.Ythkdgnohkdedpaa.P8
