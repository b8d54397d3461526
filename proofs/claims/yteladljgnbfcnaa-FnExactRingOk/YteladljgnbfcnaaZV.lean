/- Rows of records of any cells: a list of lists of cells; read and written record by record; no condition. -/
import Derived.Test.YteladljgnbfcnaaZM
namespace Go.Proofs.Yteladljgnbfcnaa.Rr
open Go.RowKit P1 Rc

/-- So many cells written, from a place on. -/
def setMany {α : Type} : List α → Nat → List α → List α
  | X, _, [] => X
  | X, p, c :: cs => setMany (X.set p c) (p + 1) cs

theorem setMany_skip {α : Type} : ∀ (cs r Y : List α) (p : Nat), setMany (r ++ Y) (r.length + p) cs = r ++ setMany Y p cs
  | [], _, _, _ => rfl
  | c :: cs, r, Y, p => by
    show setMany ((r ++ Y).set (r.length + p) c) (r.length + p + 1) cs = r ++ setMany (Y.set p c) (p + 1) cs
    rw [List.set_append_right _ _ (by omega), show r.length + p - r.length = p by omega, Nat.add_assoc]
    exact setMany_skip cs r (Y.set p c) (p + 1)

theorem setMany_here {α : Type} : ∀ (cs r Y : List α), r.length = cs.length → setMany (r ++ Y) 0 cs = cs ++ Y
  | [], [], _, _ => rfl
  | c :: cs, x :: r, Y, h => by
    show setMany ((x :: (r ++ Y)).set 0 c) (0 + 1) cs = c :: (cs ++ Y)
    rw [List.set_cons_zero]
    have := setMany_skip cs [c] (r ++ Y) 0
    simp only [List.length_singleton, List.singleton_append, Nat.add_zero] at this
    rw [Nat.zero_add, this, setMany_here cs r Y (by simpa using h)]

/-- A record written over in a row of records. -/
theorem flatten_set {α : Type} {n : Nat} : ∀ (R : List (List α)) (j : Nat) (cs : List α), (∀ r ∈ R, r.length = n) → cs.length = n → j < R.length → setMany R.flatten (j * n) cs = (R.set j cs).flatten
  | r :: R, 0, cs, h, hc, _ => by
    rw [Nat.zero_mul]
    show setMany (r ++ R.flatten) 0 cs = cs ++ R.flatten
    exact setMany_here cs r _ (by rw [h r (by simp), hc])
  | r :: R, j + 1, cs, h, hc, hj => by
    show setMany (r ++ R.flatten) ((j + 1) * n) cs = r ++ (R.set j cs).flatten
    have hr := h r (by simp)
    rw [show (j + 1) * n = r.length + j * n by rw [hr, Nat.add_mul, Nat.one_mul, Nat.add_comm], setMany_skip, flatten_set R j cs (fun x hx => h x (by simp [hx])) hc (by simpa using hj)]

theorem flatten_length {α : Type} {n : Nat} : ∀ (R : List (List α)), (∀ r ∈ R, r.length = n) → R.flatten.length = R.length * n
  | [], _ => by simp
  | r :: R, h => by
    have := flatten_length R (fun x hx => h x (by simp [hx]))
    simp only [List.flatten_cons, List.length_append, List.length_cons, this, h r (by simp), Nat.add_mul, Nat.one_mul]
    omega

theorem flatten_get {α : Type} {n : Nat} : ∀ (R : List (List α)) (j i : Nat) (r : List α), (∀ r ∈ R, r.length = n) → R[j]? = some r → i < n → R.flatten[j * n + i]? = r[i]?
  | x :: R, 0, i, r, h, hj, hi => by
    obtain rfl : x = r := by simpa using hj
    rw [List.flatten_cons, Nat.zero_mul, Nat.zero_add, List.getElem?_append_left (by rw [h x (by simp)]; exact hi)]
  | x :: R, j + 1, i, r, h, hj, hi => by
    have hx := h x (by simp)
    rw [List.flatten_cons, List.getElem?_append_right (by rw [hx, Nat.add_mul, Nat.one_mul]; omega), hx, ← flatten_get R j i r (fun y hy => h y (by simp [hy])) (by simpa using hj) hi]
    congr 1
    rw [Nat.add_mul, Nat.one_mul]
    omega

/-- What make leaves: the zero record, so many times. -/
theorem madeCells_recs (z : Array Value) (n : Nat) (hz : z.size = n) (hn : 0 < n) : ∀ m, (madeCells z (m * n)).toList = (List.replicate m z.toList).flatten := by
  intro m
  have hlen : ((List.replicate m z.toList).flatten).length = m * n := by
    rw [flatten_length (n := n) _ (fun r hr => by rw [List.eq_of_mem_replicate hr, Array.length_toList, hz]), List.length_replicate]
  apply List.ext_getElem?
  intro k
  rcases Nat.lt_or_ge k (m * n) with hk | hk
  · have h1 : k / n < m := (Nat.div_lt_iff_lt_mul hn).2 hk
    have h2 : k % n < n := Nat.mod_lt _ hn
    have h3 : k / n * n + k % n = k := by rw [Nat.mul_comm]; exact Nat.div_add_mod k n
    conv => rhs; rw [← h3]
    rw [flatten_get (n := n) _ (k / n) (k % n) z.toList (fun r hr => by rw [List.eq_of_mem_replicate hr, Array.length_toList, hz]) (by simp [h1]) h2]
    simp only [madeCells, Array.toList_map, List.getElem?_map, Array.toList_range, List.getElem?_range hk, Option.map_some]
    rw [hz, getElem!_pos z _ (by rw [hz]; exact h2)]
    simp [hz, h2]
  · rw [List.getElem?_eq_none (by simpa [madeCells] using hk), List.getElem?_eq_none (by rw [hlen]; exact hk)]
end Go.Proofs.Yteladljgnbfcnaa.Rr
