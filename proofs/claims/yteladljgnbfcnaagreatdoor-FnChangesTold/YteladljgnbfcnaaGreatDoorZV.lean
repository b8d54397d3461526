/- Rows of records of any cells: a list of lists of cells; read and written record by record; no condition. -/
import Derived.Test.YteladljgnbfcnaaGreatDoorZM
namespace Go.Proofs.YteladljgnbfcnaaGreatDoor.Rr
open Go.RowKit P1 Rc

/-- So many cells written, from a place on. -/
def setMany {α : Type} : List α → Nat → List α → List α
  | X, _, [] => X
  | X, p, c :: cs => setMany (X.set p c) (p + 1) cs

theorem setMany_skip {α : Type} : ∀ (cs r Y : List α) (p : Nat), setMany (r ++ Y) (r.length + p) cs = r ++ setMany Y p cs
  | [], _, _, _ => rfl
  | c :: cs, r, Y, p => by
    show setMany ((r ++ Y).set (r.length + p) c) (r.length + p + 1) cs = r ++ setMany (Y.set p c) (p + 1) cs
    rw [List.set_append_right _ _ (by omega), show r.length + p - r.length = p by omega, Nat.add_assoc]
    exact setMany_skip cs r (Y.set p c) (p + 1)

theorem setMany_here {α : Type} : ∀ (cs r Y : List α), r.length = cs.length → setMany (r ++ Y) 0 cs = cs ++ Y
  | [], [], _, _ => rfl
  | c :: cs, x :: r, Y, h => by
    show setMany ((x :: (r ++ Y)).set 0 c) (0 + 1) cs = c :: (cs ++ Y)
    rw [List.set_cons_zero]
    have := setMany_skip cs [c] (r ++ Y) 0
    simp only [List.length_singleton, List.singleton_append, Nat.add_zero] at this
    rw [Nat.zero_add, this, setMany_here cs r Y (by simpa using h)]

theorem flatten_get {α : Type} {n : Nat} : ∀ (R : List (List α)) (j i : Nat) (r : List α), (∀ r ∈ R, r.length = n) → R[j]? = some r → i < n → R.flatten[j * n + i]? = r[i]?
  | x :: R, 0, i, r, h, hj, hi => by
    obtain rfl : x = r := by simpa using hj
    rw [List.flatten_cons, Nat.zero_mul, Nat.zero_add, List.getElem?_append_left (by rw [h x (by simp)]; exact hi)]
  | x :: R, j + 1, i, r, h, hj, hi => by
    have hx := h x (by simp)
    rw [List.flatten_cons, List.getElem?_append_right (by rw [hx, Nat.add_mul, Nat.one_mul]; omega), hx, ← flatten_get R j i r (fun y hy => h y (by simp [hy])) (by simpa using hj) hi]
    congr 1
    rw [Nat.add_mul, Nat.one_mul]
    omega

end Go.Proofs.YteladljgnbfcnaaGreatDoor.Rr
