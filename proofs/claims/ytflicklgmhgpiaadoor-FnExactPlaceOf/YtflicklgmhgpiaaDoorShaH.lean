/- The contracts of spec.DigestHex and spec.CutDigest; condition: the text is at most 2^20 bytes long. -/
import Derived.Test.YtflicklgmhgpiaaDoorShaD
import Derived.Test.YtflicklgmhgpiaaDoorHex
namespace Go.Proofs.YtflicklgmhgpiaaDoor.P3
set_option maxRecDepth 8000
open Go.RowKit P1

theorem digest_length (t : List UInt8) : (digest t).length = 32 := rfl

theorem inD_calls (x a b : Int) (w : World) :
    Calls Tryd.prog 37 #[.int .i64 x, .int .i64 a, .int .i64 b] w fun e w' => e = .returned (.bool (decide (a ≤ x ∧ x ≤ b))) ∧ w' = w := by
  by_cases h1 : a ≤ x <;> by_cases h2 : x ≤ b <;>
  · go_enter Tryd.func37, Tryd.ntmps37
    go_wp2
    go_ret
    exact ⟨by simp [h1, h2], rfl⟩

/-- What CutDigest answers. -/
def cutV (t : List UInt8) (n : Int) : List UInt8 := if 1 ≤ n ∧ n ≤ 32 then (digest t).take n.toNat else []

theorem slice_to (p : List UInt8) (n : Int) (h0 : 0 ≤ n) (hn : n ≤ p.length) (wx : World) :
    (Instr.slice 9 (.string ⟨p.toArray⟩) none (some (.int .i64 n)) none).run Tryd.prog wx = .ok (.string ⟨(p.take n.toNat).toArray⟩) wx := by
  rw [run_slice_string_to_if _ _ _ _ _ Tryd.underlying9, if_pos ⟨h0, hn⟩, ByteArray.extract_mk]
  simp
end Go.Proofs.YtflicklgmhgpiaaDoor.P3
