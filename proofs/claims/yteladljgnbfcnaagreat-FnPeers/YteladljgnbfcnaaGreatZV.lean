/- Rows of records of any cells: a list of lists of cells; read and written record by record; no condition. -/
import Derived.Test.YteladljgnbfcnaaGreatZM
namespace Go.Proofs.YteladljgnbfcnaaGreat.Rr
open Go.RowKit P1 Rc

theorem flatten_get {α : Type} {n : Nat} : ∀ (R : List (List α)) (j i : Nat) (r : List α), (∀ r ∈ R, r.length = n) → R[j]? = some r → i < n → R.flatten[j * n + i]? = r[i]?
  | x :: R, 0, i, r, h, hj, hi => by
    obtain rfl : x = r := by simpa using hj
    rw [List.flatten_cons, Nat.zero_mul, Nat.zero_add, List.getElem?_append_left (by rw [h x (by simp)]; exact hi)]
  | x :: R, j + 1, i, r, h, hj, hi => by
    have hx := h x (by simp)
    rw [List.flatten_cons, List.getElem?_append_right (by rw [hx, Nat.add_mul, Nat.one_mul]; omega), hx, ← flatten_get R j i r (fun y hy => h y (by simp [hy])) (by simpa using hj) hi]
    congr 1
    rw [Nat.add_mul, Nat.one_mul]
    omega

end Go.Proofs.YteladljgnbfcnaaGreat.Rr
