/- Laws for rows of whatever element type that a call made: one element appended, one read; conditions: the row is the call's own, within 2^47 bytes. -/
import Derived.Test.YtknlhejpcjpeeaaDoorKit
import Derived.WideShapes
namespace Go.Proofs.YtknlhejpcjpeeaaDoor.P1
open Go.RowKit

/-- One element more, of whatever type, in its block just made. -/
theorem wpList_append_one {P : Program} {W w0 : World} {B : Nat} (hbel : Below B W w0) (hB : B ≤ W.heap.size) {cs : Array Value} {ops : Array Oper} {rest : List Oper} {o : Oper} {a : Act} {Q : Exit → Act → World → Prop} (hgd : o.guard = none) (s x : Operand) (t : TypeId)
    (ho : o.op = .call { callee := .builtin .append, args := #[s, x], argTypes := #[t, t] })
    (e : TypeId) (i : TypeInfo) (z : Value) (size bytes : Nat) (ht : P.underlying t = some (.slice e)) (hi : P.info? e = some i) (hz : i.zero = some z)
    (hsize : i.size = size) (hby : i.bytes = bytes) (hzs : z.cells.size = size) (hsz : 0 < size) (hcs : cs.toList.length = size) (h1 : ∀ u ∈ cs.toList, u.oneCell' = true)
    (v : Value) (n : Nat) (xs : List Value) (hs : a.eval s = v) (hown : w0.ownsRow B e size v n xs)
    (c : Nat) (hx : a.eval x = .slice (some ⟨w0.heap.size, 0, none⟩) 1 c) (hb : n < 1099511627776) (hbytes : (n + 1) * bytes ≤ 140737488355328)
    (h : ∀ v' w', w'.ownsRow B e size v' (n + 1) (xs ++ cs.toList) → Below B W w' → wpList P ops Q rest (a.put o.dst v') w') :
    wpList P ops Q (o :: rest) a (w0.alloc (.cells cs e)) := by
  have hsz := hbel.size
  refine wpList_append_own _ hgd s x t ho B e i z size bytes ht hi hz hsize hby hzs (by assumption) v n xs hs (hown.alloc _) ⟨w0.heap.size, 0, none⟩ 1 c cs.toList hx (by omega) ?_ h1 ?_ hbytes ?_ ?_
  · intro j u hj
    simp only [Go.WideShapes.add_plain]
    have hh : (w0.alloc (.cells cs e)).heap[w0.heap.size]? = some (.cells cs e) := by
      show (w0.heap.push _)[w0.heap.size]? = _
      simp
    simp only [World.cell?, hh]
    simpa using hj
  · unfold maxLen; omega
  · simp; omega
  · intro v' w' h1 h2 _
    exact h v' w' h1 ((hbel.alloc (by omega) _).grown h2 (by simp; omega) (fun k hk => (hown.lt k hk).1))

/-- The cells of a list of ints. -/
def cellsI (l : List Int) : List Value := l.map fun n => Value.int .i64 n

theorem cellsI_length (l : List Int) : (cellsI l).length = l.length := by simp [cellsI]

/-- One int more. -/
theorem own_snocI {w : World} {B : Nat} {e : TypeId} {v : Value} {l : List Int} {z : Int} (h : w.ownsRow B e 1 v (l.length + 1) (cellsI l ++ #[Value.int .i64 z].toList)) :
    w.ownsRow B e 1 v (l ++ [z]).length (cellsI (l ++ [z])) := by
  have e1 : cellsI (l ++ [z]) = cellsI l ++ #[Value.int .i64 z].toList := by simp [cellsI]
  have e2 : (l ++ [z]).length = l.length + 1 := by simp
  rw [e1, e2]; exact h

/-- An owned row that holds something: where it lies, and its cells. -/
theorem own_at {w : World} {B : Nat} {e : TypeId} {size : Nat} {v : Value} {n : Nat} {xs : List Value} (h : w.ownsRow B e size v n xs) (hn : 0 < n) :
    ∃ g cap, v = .slice (some ⟨g, 0, none⟩) n cap ∧ B ≤ g ∧ g < w.heap.size ∧ n ≤ cap ∧ (∀ j, j < n * size → w.cell? ⟨g, j, none⟩ = xs[j]?) ∧ ∀ j, w.frozen? ⟨g, j, none⟩ = false := by
  have h0 := h
  rcases h.2 with ⟨-, h0⟩ | ⟨g, cap, cur, rfl, hb, hg, hc, -, -, -⟩
  · omega
  · exact ⟨g, cap, rfl, hb, (Array.getElem?_eq_some_iff.1 hg).1, hc, fun j hj => h0.cellAt j hj, fun j => h0.frozenAt j⟩

theorem own_mono {w : World} {B B' : Nat} {e : TypeId} {size : Nat} {v : Value} {n : Nat} {xs : List Value} (h : w.ownsRow B e size v n xs) (hB : B' ≤ B) : w.ownsRow B' e size v n xs := by
  refine ⟨h.1, ?_⟩
  rcases h.2 with h1 | ⟨g, cap, cur, h1, h2, h3⟩
  · exact .inl h1
  · exact .inr ⟨g, cap, cur, h1, Nat.le_trans hB h2, h3⟩
end Go.Proofs.YtknlhejpcjpeeaaDoor.P1
