/- The contracts of spec.l01Var, spec.l01In, spec.VarText and impl.VarText: each returns the bytes that chapter 1 names. -/
import Derived.Test.YtckldfknhmhkgaaRows
import Derived.Test.YtckldfknhmhkgaaZP
import Derived.Test.YtckldfknhmhkgaaZA
import Derived.WalkKit
namespace Go.Proofs.Ytckldfknhmhkgaa.P1
set_option maxRecDepth 8000
open Go.RowKit

theorem info5 : (Try.prog.info? 5).map (fun i => (i.zero, i.size, i.bytes)) = some (some (.int .u8 0), 1, 1) := by kernel_rfl

theorem l01In_calls (x a b : Int) (w : World) :
    Calls Try.prog 20 #[.int .i64 x, .int .i64 a, .int .i64 b] w fun e w' => e = .returned (.bool (decide (a ≤ x ∧ x ≤ b))) ∧ w' = w := by
  by_cases h1 : a ≤ x <;> by_cases h2 : x ≤ b <;>
  · go_enter Try.func20, Try.ntmps20
    go_wp2
    go_ret
    exact ⟨by simp [h1, h2], rfl⟩

/-- What VarText answers. -/
def varText (n : Int) : List UInt8 × Bool := if 0 ≤ n ∧ n ≤ 1000000000 then (varB 4 n.toNat, true) else ([], false)
end Go.Proofs.Ytckldfknhmhkgaa.P1
