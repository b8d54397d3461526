/- The contract of impl.ShaStart; condition: its listed table holds what the text lays. -/
import Derived.Test.YtflicklgmhgpiaaDoorShaI4
namespace Go.Proofs.YtflicklgmhgpiaaDoor.P3
open Go.RowKit P1

/-- The numbers to begin with, as the program lays them. -/
structure StT (w : World) : Prop where
  lt : 0 < w.heap.size
  cell : ∀ r, r < 8 → w.cell? ⟨0, r, none⟩ = some (.int .u32 (start.list.getD r 0 : Nat))

theorem StT.below {w w' : World} {B : Nat} (h : StT w) (hb : Below B w w') (hB : 0 < B) : StT w' :=
  ⟨Nat.lt_of_lt_of_le h.lt hb.size, fun r hr => by rw [hb.cell (p := ⟨0, r, none⟩) hB]; exact h.cell r hr⟩

theorem StT.drew {w : World} (h : StT w) : StT w.drew := ⟨h.lt, h.cell⟩

/-- The whole table read. -/
theorem StT.load {w : World} (h : StT w) : (loadCellsFrom ⟨0, 0, none⟩ 0 8 #[]).run Tryd.prog w = .ok (wordsV start.list) w := by
  have := run_loadCells_list (P := Tryd.prog) w ⟨0, 0, none⟩ (wordsV start.list).toList (fun j v hj => by
    have hj' : j < 8 := by have := (List.getElem?_eq_some_iff.1 hj).1; simpa [wordsV, St.list] using this
    rw [Go.WideShapes.add_plain, Nat.zero_add, h.cell j hj']
    have h8 : j < start.list.length := hj'
    simp [wordsV, h8] at hj
    simp [List.getD_eq_getElem?_getD, h8, hj])
  simpa [loadCells, wordsV, St.list] using this
end Go.Proofs.YtflicklgmhgpiaaDoor.P3
