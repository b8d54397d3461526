/- The contracts of spec.l01Figure and spec.Decimal: the decimal figures of every int. -/
import Derived.Test.YtknlhejpcjpeeaaDoorRows
import Derived.Test.YtknlhejpcjpeeaaDoorVar
import Derived.Test.YtknlhejpcjpeeaaDoorDecP
import Derived.WalkKit
namespace Go.Proofs.YtknlhejpcjpeeaaDoor.P1
open Go.RowKit

/-- One byte in a row of its own, as a text. -/
theorem one_text (W : World) (z : Int) (h0 : 0 ≤ z) (h1 : z < 256) :
    (convert 22 9 (.slice (some ⟨W.heap.size, 0, none⟩) 1 1)).run Tryd.prog (W.alloc (.cells #[.int .u8 z] 5)) = .ok (.string ⟨[UInt8.ofNat z.toNat].toArray⟩) (W.alloc (.cells #[.int .u8 z] 5)) := by
  refine run_convert_bytes_back _ 22 9 5 ⟨W.heap.size, 0, none⟩ 1 [UInt8.ofNat z.toNat] Tryd.underlying22 Tryd.underlying5 Tryd.underlying9 ?_
  intro j hj
  obtain rfl : j = 0 := by simp at hj; exact hj
  have hb := byte_of z.toNat (by omega)
  simp only [List.getElem_cons_zero, hb]
  rw [show ((z.toNat : Nat) : Int) = z by omega]
  simp [Addr.add]
end Go.Proofs.YtknlhejpcjpeeaaDoor.P1
