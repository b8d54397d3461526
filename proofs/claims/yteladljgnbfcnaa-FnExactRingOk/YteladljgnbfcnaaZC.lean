/- The contracts of spec.l01Var, spec.l01In, spec.VarText and impl.VarText: each returns the bytes that chapter 1 names. -/
import Derived.Test.YteladljgnbfcnaaRows
import Derived.Test.YteladljgnbfcnaaZP
import Derived.Test.YteladljgnbfcnaaZA
import Derived.WalkKit
namespace Go.Proofs.Yteladljgnbfcnaa.P1
set_option maxRecDepth 8000
open Go.RowKit

theorem l01In_calls (x a b : Int) (w : World) :
    Calls Try.prog 18 #[.int .i64 x, .int .i64 a, .int .i64 b] w fun e w' => e = .returned (.bool (decide (a ≤ x ∧ x ≤ b))) ∧ w' = w := by
  by_cases h1 : a ≤ x <;> by_cases h2 : x ≤ b <;>
  · go_enter Try.func18, Try.ntmps18
    go_wp2
    go_ret
    exact ⟨by simp [h1, h2], rfl⟩

end Go.Proofs.Yteladljgnbfcnaa.P1
