/- The contract of the specification's RoleOk; roles and words as values; condition: numbers are ints. -/
import Derived.Test.YtflicklgmhgpiaaDoorCrdP
import Derived.Test.YtflicklgmhgpiaaDoorVar
import Derived.Test.YtflicklgmhgpiaaDoorCut
import Derived.Test.YtflicklgmhgpiaaDoorBlk
namespace Go.Proofs.YtflicklgmhgpiaaDoor.P5
set_option maxRecDepth 8000
open Go.RowKit P1

/-- A role as a value. -/
abbrev roleV (a b : Int) : Value := .agg #[.int .i64 a, .int .i64 b]

/-- A word as a value. -/
abbrev credV (c : Cr) : Value := .agg #[.int .i64 c.k, .int .i64 c.ow, .int .i64 c.on, .int .i64 c.wh, .int .i64 c.aw, .int .i64 c.an, .int .i64 c.bw, .int .i64 c.bn, .int .i64 c.u, .int .i64 c.n]

set_option maxHeartbeats 400000 in
theorem specRole_calls (a b : Int) (w : World) :
    Calls Tryd.prog 21 #[roleV a b] w fun e w' => e = .returned (.bool (decide (roleOk a b))) ∧ Below w.heap.size w w' := by
  have HB : Hid (Below w.heap.size w (w.alloc (.cells #[.int .i64 a, .int .i64 b] 25))) := (Below.refl _ _).alloc (Nat.le_refl _) _
  by_cases h1 : 0 ≤ a ∧ a ≤ 5
  · have d1 := decide_eq_true h1
    have HR : Hid (decide (roleOk a b) = decide (0 ≤ b ∧ b ≤ 3)) := by
      show _ = _
      by_cases h2 : 0 ≤ b ∧ b ≤ 3
      · rw [decide_eq_true h2, decide_eq_true (show roleOk a b from ⟨h1, h2⟩)]
      · rw [decide_eq_false h2, decide_eq_false (fun h : roleOk a b => h2 h.2)]
    clear h1
    go_enter Tryd.func21, Tryd.ntmps21
    go_wp2_with fail
    refine (l01In_calls _ _ _ _).mono ?_
    rintro e w1 ⟨rfl, rfl⟩
    rw [d1]
    clear d1
    go_wp2_with fail
    refine (l01In_calls _ _ _ _).mono ?_
    rintro e w1 ⟨rfl, rfl⟩
    generalize decide (0 ≤ b ∧ b ≤ 3) = r at *
    go_wp2_with fail
    go_ret
    exact ⟨by rw [HR.out]; rfl, HB.out⟩
  · have d1 := decide_eq_false h1
    have HR : Hid (decide (roleOk a b) = false) := decide_eq_false (fun h => h1 h.1)
    clear h1
    go_enter Tryd.func21, Tryd.ntmps21
    go_wp2_with fail
    refine (l01In_calls _ _ _ _).mono ?_
    rintro e w1 ⟨rfl, rfl⟩
    rw [d1]
    clear d1
    go_wp2_with fail
    go_ret
    exact ⟨by rw [HR.out]; rfl, HB.out⟩

end Go.Proofs.YtflicklgmhgpiaaDoor.P5
