/- A text turned into a row of bytes of its own: what lies there; no condition. -/
import Derived.Test.YtflicklgmhgpiaaDoorKit2
namespace Go.Proofs.YtflicklgmhgpiaaDoor.P1
open Go.RowKit

theorem bytes_of {P : Program} (w : World) (src dst e : TypeId) (t : List UInt8) (hs : P.underlying src = some .string) (hd : P.underlying dst = some (.slice e)) (he : P.underlying e = some (.int .u8)) :
    ∃ c w', (convert src dst (.string ⟨t.toArray⟩)).run P w = .ok (.slice (some ⟨w.heap.size, 0, none⟩) t.length c) w' ∧ w'.heap.size = w.heap.size + 1 ∧ Below w.heap.size w w' ∧
      (∀ j (hj : j < t.length), w'.cell? ⟨w.heap.size, j, none⟩ = some (.int .u8 (t[j].toNat : Int))) ∧ ∀ j, j < t.length → w'.frozen? ⟨w.heap.size, j, none⟩ = false := by
  have h := run_bytes_of_string (P := P) w src dst e ⟨t.toArray⟩ hs hd he
  have hsz : (⟨t.toArray⟩ : ByteArray).size = t.length := rfl
  rw [hsz] at h
  refine ⟨_, _, h, ?_, ?_, ?_, ?_⟩
  · show (w.heap.push _).size = _
    simp
  · exact ((Below.refl _ _).drew).alloc (Nat.le_refl _) _
  · intro j hj
    simp only [World.cell?]
    have hh : ∀ o, (w.drew.alloc o).heap[w.heap.size]? = some o := fun o => by
      show (w.heap.push o)[w.heap.size]? = _
      simp
    rw [hh]
    simp only [bytesRow]
    rw [if_neg (by decide), Array.getElem?_append_left (by simpa using hj)]
    simp [hj]
  · intro j hj
    simp only [World.frozen?]
    have hh : ∀ o, (w.drew.alloc o).heap[w.heap.size]? = some o := fun o => by
      show (w.heap.push o)[w.heap.size]? = _
      simp
    rw [hh]
    simp [bytesRow]
    omega
end Go.Proofs.YtflicklgmhgpiaaDoor.P1
