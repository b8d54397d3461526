/- Slices of texts: what they read as; rows of texts that a call made; no condition. -/
import Derived.Test.YtmjpdccfdaajmaaDoorKit2
import Derived.Test.YtmjpdccfdaajmaaDoorRows
import Derived.WalkKit
namespace Go.Proofs.YtmjpdccfdaajmaaDoor.P1
open Go.RowKit

/-- v is a slice that reads as the texts l. -/
def TextsAt (w : World) (v : Value) (l : List (List UInt8)) : Prop :=
  ∃ a cap, v = .slice a l.length cap ∧ ∀ j (hj : j < l.length), ∃ g off, a = some ⟨g, off, none⟩ ∧ g < w.heap.size ∧ w.cell? ⟨g, off + j, none⟩ = some (.string ⟨(l[j]).toArray⟩)

theorem TextsAt.below {B : Nat} {w w' : World} {v : Value} {l : List (List UInt8)} (h : TextsAt w v l) (hb : Below B w w') (hB : w.heap.size ≤ B) : TextsAt w' v l := by
  obtain ⟨a, cap, h1, h2⟩ := h
  refine ⟨a, cap, h1, fun j hj => ?_⟩
  obtain ⟨g, off, e1, e2, e3⟩ := h2 j hj
  exact ⟨g, off, e1, Nat.lt_of_lt_of_le e2 hb.size, by rw [hb.cell (p := ⟨g, off + j, none⟩) (by show g < B; omega)]; exact e3⟩

/-- The cells of a list of texts. -/
def cellsS (l : List (List UInt8)) : List Value := l.map fun b => Value.string ⟨b.toArray⟩

theorem cellsS_length (l : List (List UInt8)) : (cellsS l).length = l.length := by simp [cellsS]

theorem TextsAt.of_own {B : Nat} {w : World} {e : TypeId} {v : Value} {l : List (List UInt8)} (h : w.ownsRow B e 1 v l.length (cellsS l)) : TextsAt w v l := by
  have h0 := h
  rcases h.2 with ⟨rfl, hn⟩ | ⟨g, cap, cur, rfl, h1, h2, -, -, -, -⟩
  · exact ⟨none, 0, by rw [hn], fun j hj => by omega⟩
  · exact ⟨_, cap, rfl, fun j hj => ⟨g, 0, rfl, (Array.getElem?_eq_some_iff.1 h2).1, by rw [Nat.zero_add, h0.cellAt j (by omega)]; simp [cellsS, hj]⟩⟩

theorem TextsAt.drewN {w : World} {v : Value} {l : List (List UInt8)} (h : TextsAt w v l) (n : Nat) : TextsAt (w.drewN n) v l := h

/-- One text more. -/
theorem own_snocS {w : World} {B : Nat} {e : TypeId} {v : Value} {l : List (List UInt8)} {z : List UInt8} (h : w.ownsRow B e 1 v (l.length + 1) (cellsS l ++ #[Value.string ⟨z.toArray⟩].toList)) :
    w.ownsRow B e 1 v (l ++ [z]).length (cellsS (l ++ [z])) := by
  have e1 : cellsS (l ++ [z]) = cellsS l ++ #[Value.string ⟨z.toArray⟩].toList := by simp [cellsS]
  have e2 : (l ++ [z]).length = l.length + 1 := by simp
  rw [e1, e2]; exact h

theorem info_str : (Tryd.prog.info? 9).map (fun i => (i.zero, i.size, i.bytes)) = some (some (.string ⟨#[]⟩), 1, 16) := by kernel_rfl
theorem info_strs : (Tryd.prog.info? 27).map (fun i => (i.zero, i.size, i.bytes)) = some (some (.slice none 0 0), 1, 24) := by kernel_rfl
end Go.Proofs.YtmjpdccfdaajmaaDoor.P1
