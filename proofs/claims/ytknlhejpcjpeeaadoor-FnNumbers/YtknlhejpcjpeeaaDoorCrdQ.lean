/- Chapter 5 as plain mathematics: ten numbers read in a row, and the word that they are; no condition. -/
import Derived.Test.YtknlhejpcjpeeaaDoorCrdP
import Derived.Test.YtknlhejpcjpeeaaDoorScan
namespace Go.Proofs.YtknlhejpcjpeeaaDoor.P5
open P1

/-- What VarText writes is scanned whole, whatever follows. -/
theorem scan_varB (f : Nat) : ∀ n rest, n < 128 ^ (f + 1) → scan (f + 1) (varB f n ++ rest) = some (varB f n) ∧ val (varB f n) = n := by
  induction f with
  | zero =>
    intro n rest h
    have hn : n < 128 := by simpa using h
    have e : (UInt8.ofNat n).toNat = n := by simp; omega
    simp only [varB, List.cons_append, List.nil_append, scan, val, e]
    rw [if_neg (by omega)]
    exact ⟨rfl, by omega⟩
  | succ f ih =>
    intro n rest h
    by_cases hg : 127 < n
    · rw [varB_great f n hg]
      have e : (UInt8.ofNat (n % 128 + 128)).toNat = n % 128 + 128 := by simp; omega
      have := ih (n / 128) rest (by rw [Nat.pow_succ] at h; omega)
      simp only [List.cons_append, val, e]
      rw [scan, e, if_pos (by omega), this.1, this.2]
      exact ⟨rfl, by omega⟩
    · have e : (UInt8.ofNat n).toNat = n := by simp; omega
      rw [varB_small _ _ (by omega)]
      simp only [List.cons_append, List.nil_append, val, e]
      rw [scan, e, if_neg (by omega)]
      exact ⟨rfl, by omega⟩

/-- A number comes back from its text, wherever that stands. -/
theorem readVar_varB (pre rest : List UInt8) (n : Nat) (h : n ≤ 1000000000) : readVar (pre ++ (varB 4 n ++ rest)) (pre.length : Int) = (n, pre.length + (varB 4 n).length, true) := by
  have hs := scan_varB 4 n rest (by omega)
  unfold readVar
  rw [if_pos ⟨by omega, by simp only [List.length_append]; omega⟩]
  have hd : (pre ++ (varB 4 n ++ rest)).drop ((pre.length : Int).toNat) = varB 4 n ++ rest := by simp
  rw [hd, hs.1]
  simp only [hs.2]
  rw [if_pos ⟨h, trivial⟩]
  simp

/-- So many numbers read in a row, and where the reading stands. -/
def readRow (s : List UInt8) : Nat → Option (List Nat × Nat)
  | 0 => some ([], 0)
  | i + 1 => match readRow s i with
    | none => none
    | some (L, p) => if (readVar s p).2.2 = true then some (L ++ [(readVar s p).1], (readVar s p).2.1) else none

theorem readRow_none {s : List UInt8} {i : Nat} (h : readRow s i = none) : ∀ j, readRow s (i + j) = none := by
  intro j
  induction j with
  | zero => exact h
  | succ j ih =>
    show readRow s ((i + j) + 1) = none
    rw [readRow, ih]

theorem readRow_next {s : List UInt8} {i : Nat} {L : List Nat} {p : Nat} (h : readRow s i = some (L, p)) (hr : (readVar s p).2.2 = true) : readRow s (i + 1) = some (L ++ [(readVar s p).1], (readVar s p).2.1) := by
  rw [readRow, h]
  simp only [hr, if_true]

theorem readRow_stop {s : List UInt8} {i : Nat} {L : List Nat} {p : Nat} (h : readRow s i = some (L, p)) (hr : (readVar s p).2.2 = false) : readRow s (i + 1) = none := by
  rw [readRow, h]
  simp [hr]

theorem readVar_le (s : List UInt8) (p : Int) : (readVar s p).1 ≤ 1000000000 := by
  unfold readVar
  split
  · split
    · simp
    · split
      · rename_i h; exact h.1
      · simp
  · simp

theorem readRow_facts {s : List UInt8} : ∀ {i : Nat} {L : List Nat} {p : Nat}, readRow s i = some (L, p) → L.length = i ∧ ∀ x ∈ L, x ≤ 1000000000 := by
  intro i
  induction i with
  | zero =>
    intro L p h
    simp only [readRow, Option.some.injEq, Prod.mk.injEq] at h
    rw [← h.1]
    simp
  | succ i ih =>
    intro L p h
    rw [readRow] at h
    split at h
    · cases h
    · rename_i L' p' h'
      split at h
      · simp only [Option.some.injEq, Prod.mk.injEq] at h
        have := ih h'
        rw [← h.1]
        refine ⟨by simp [this.1], fun x hx => ?_⟩
        rcases List.mem_append.mp hx with hx | hx
        · exact this.2 x hx
        · rw [List.mem_singleton.mp hx]; exact readVar_le _ _
      · cases h

/-- The word that ten numbers are. -/
def crOf (L : List Nat) : Cr := ⟨(L.getD 0 0 : Nat), (L.getD 1 0 : Nat), (L.getD 2 0 : Nat), (L.getD 3 0 : Nat), (L.getD 4 0 : Nat), (L.getD 5 0 : Nat), (L.getD 6 0 : Nat), (L.getD 7 0 : Nat), (L.getD 8 0 : Nat), (L.getD 9 0 : Nat)⟩

/-- What ReadCred answers. -/
def readCred (s : List UInt8) : Cr × Bool :=
  match readRow s 10 with
  | none => (Cr.zero, false)
  | some (L, _) => if credOk (crOf L) ∧ credB (crOf L) = s then (crOf L, true) else (Cr.zero, false)

/-- The texts of numbers one after the other. -/
def rowB : List Nat → List UInt8
  | [] => []
  | n :: r => varB 4 n ++ rowB r

theorem rowB_append (a b : List Nat) : rowB (a ++ b) = rowB a ++ rowB b := by
  induction a with
  | nil => rfl
  | cons x a ih => simp [rowB, ih]

/-- Numbers come back from their texts in a row. -/
theorem readRow_rowB (M : List Nat) (hM : ∀ x ∈ M, x ≤ 1000000000) : ∀ i, i ≤ M.length → readRow (rowB M) i = some (M.take i, (rowB (M.take i)).length) := by
  intro i
  induction i with
  | zero => intro _; rfl
  | succ i ih =>
    intro hi
    have h := ih (by omega)
    have hsplit : rowB M = rowB (M.take i) ++ (varB 4 M[i] ++ rowB (M.drop (i + 1))) := by
      conv => lhs; rw [← List.take_append_drop i M, rowB_append, List.drop_eq_getElem_cons (by omega : i < M.length)]
      rfl
    have hr := readVar_varB (rowB (M.take i)) (rowB (M.drop (i + 1))) M[i] (hM _ (List.getElem_mem _))
    rw [← hsplit] at hr
    rw [readRow_next h (by rw [hr]), hr]
    simp only [List.take_succ_eq_append_getElem (by omega : i < M.length), rowB_append, rowB, List.length_append, List.append_nil]

/-- A right word comes back from its text. -/
theorem readCred_credB {c : Cr} (h : credOk c) : readCred (credB c) = (c, true) := by
  have hs := h.small
  unfold Cr.small at hs
  obtain ⟨k, ow, on, wh, aw, an, bw, bn, u, n⟩ := c
  dsimp only at hs
  have hb : credB ⟨k, ow, on, wh, aw, an, bw, bn, u, n⟩ = rowB [k.toNat, ow.toNat, on.toNat, wh.toNat, aw.toNat, an.toNat, bw.toNat, bn.toNat, u.toNat, n.toNat] := by
    simp [credB, rowB, List.append_assoc]
  have hr := readRow_rowB [k.toNat, ow.toNat, on.toNat, wh.toNat, aw.toNat, an.toNat, bw.toNat, bn.toNat, u.toNat, n.toNat] (by simp; omega) 10 (Nat.le_refl _)
  rw [← hb] at hr
  have hc : crOf ([k.toNat, ow.toNat, on.toNat, wh.toNat, aw.toNat, an.toNat, bw.toNat, bn.toNat, u.toNat, n.toNat].take 10) = ⟨k, ow, on, wh, aw, an, bw, bn, u, n⟩ := by
    simp [crOf]
    omega
  unfold readCred
  rw [hr]
  simp only [hc]
  rw [if_pos ⟨h, trivial⟩]

/-- ReadCred says yes to the texts of right words only. -/
theorem readCred_true {s : List UInt8} {c : Cr} (h : readCred s = (c, true)) : credOk c ∧ credB c = s := by
  unfold readCred at h
  split at h
  · simp at h
  · split at h
    · rename_i hh
      simp only [Prod.mk.injEq, and_true] at h
      rw [← h]
      exact hh
    · simp at h
end Go.Proofs.YtknlhejpcjpeeaaDoor.P5
