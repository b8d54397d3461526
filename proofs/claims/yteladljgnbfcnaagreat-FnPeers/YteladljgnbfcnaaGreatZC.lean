/- The contracts of spec.l01Var, spec.l01In, spec.VarText and impl.VarText: each returns the bytes that chapter 1 names. -/
import Derived.Test.YteladljgnbfcnaaGreatRows
import Derived.Test.YteladljgnbfcnaaGreatZP
import Derived.Test.YteladljgnbfcnaaGreatZA
import Derived.WalkKit
namespace Go.Proofs.YteladljgnbfcnaaGreat.P1
set_option maxRecDepth 8000
open Go.RowKit

theorem l01In_calls (x a b : Int) (w : World) :
    Calls Tryz.prog 38 #[.int .i64 x, .int .i64 a, .int .i64 b] w fun e w' => e = .returned (.bool (decide (a ≤ x ∧ x ≤ b))) ∧ w' = w := by
  by_cases h1 : a ≤ x <;> by_cases h2 : x ≤ b <;>
  · go_enter Tryz.func38, Tryz.ntmps38
    go_wp2
    go_ret
    exact ⟨by simp [h1, h2], rfl⟩

end Go.Proofs.YteladljgnbfcnaaGreat.P1
