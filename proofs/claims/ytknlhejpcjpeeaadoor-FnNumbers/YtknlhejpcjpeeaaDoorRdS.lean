/- The contract of spec.ReadDecimal: what chapter 1 tells of decimal figures; condition: the text is at most 2^20 bytes long. -/
import Derived.Test.YtknlhejpcjpeeaaDoorDecS
import Derived.Test.YtknlhejpcjpeeaaDoorNumP
import Derived.WalkKit
namespace Go.Proofs.YtknlhejpcjpeeaaDoor.P1
open Go.RowKit

/-- The two results of ReadDecimal as the program hands them back. -/
def rdV (r : Nat × Bool) : Value := .tuple #[.int .i64 (r.1 : Int), .bool r.2]

theorem pow_bound (k : Nat) (h : k ≤ 10) : 10 ^ k ≤ 10000000000 := by
  match k, h with
  | 0, _ => decide
  | 1, _ => decide
  | 2, _ => decide
  | 3, _ => decide
  | 4, _ => decide
  | 5, _ => decide
  | 6, _ => decide
  | 7, _ => decide
  | 8, _ => decide
  | 9, _ => decide
  | 10, _ => decide
  | n + 11, h => exact absurd h (by omega)

theorem itoa_nat (n : Nat) : Lib.itoa (n : Int) = Lib.decDigits n := by
  unfold Lib.itoa
  rw [if_neg (by omega), Int.toNat_natCast]
end Go.Proofs.YtknlhejpcjpeeaaDoor.P1
