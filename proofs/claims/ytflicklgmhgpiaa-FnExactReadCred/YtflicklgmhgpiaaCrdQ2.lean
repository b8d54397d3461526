/- Chapter 5 as plain mathematics: what was read in a row is what the text begins with; another way to tell whether it is a word's text; no condition. -/
import Derived.Test.YtflicklgmhgpiaaCrdQ
namespace Go.Proofs.Ytflicklgmhgpiaa.P5
open P1

theorem scan_take : ∀ (f : Nat) (l bs : List UInt8), scan f l = some bs → l.take bs.length = bs ∧ bs.length ≤ l.length := by
  intro f
  induction f with
  | zero => intro l bs h; simp [scan] at h
  | succ f ih =>
    intro l bs h
    cases l with
    | nil => simp [scan] at h
    | cons b r =>
      simp only [scan] at h
      split at h
      · obtain ⟨x, hx, rfl⟩ := Option.map_eq_some_iff.1 h
        have := ih r x hx
        simp [this.1, this.2]
      · simp only [Option.some.injEq] at h
        subst h
        simp

theorem readVar_true {s : List UInt8} {p : Nat} (h : (readVar s p).2.2 = true) : p ≤ (readVar s p).2.1 ∧ (readVar s p).2.1 ≤ s.length ∧ varB 4 (readVar s p).1 = (s.drop p).take ((readVar s p).2.1 - p) := by
  by_cases hp : (0 : Int) ≤ (p : Int) ∧ (p : Int) ≤ s.length
  · cases hbs : scan 5 (s.drop p) with
    | none =>
      have e : readVar s p = (0, 0, false) := readVar_none (by omega) hbs
      rw [e] at h
      cases h
    | some bs =>
      have ht := scan_take _ _ _ hbs
      by_cases hv : val bs ≤ 1000000000 ∧ varB 4 (val bs) = bs
      · have e : readVar s p = (val bs, p + bs.length, true) := by
          simp only [readVar, if_pos hp, Int.toNat_natCast, hbs, if_pos hv]
        rw [e]
        simp only [List.length_drop] at ht
        dsimp only
        refine ⟨by omega, by omega, ?_⟩
        rw [hv.2, Nat.add_sub_cancel_left, ht.1]
      · have e : readVar s p = (0, 0, false) := by
          simp only [readVar, if_pos hp, Int.toNat_natCast, hbs, if_neg hv]
        rw [e] at h
        cases h
  · rw [readVar_out _ _ hp] at h
    cases h

theorem readRow_take {s : List UInt8} : ∀ {i : Nat} {L : List Nat} {p : Nat}, readRow s i = some (L, p) → rowB L = s.take p ∧ p ≤ s.length := by
  intro i
  induction i with
  | zero =>
    intro L p h
    simp only [readRow, Option.some.injEq, Prod.mk.injEq] at h
    rw [← h.1, ← h.2]
    simp [rowB]
  | succ i ih =>
    intro L p h
    rw [readRow] at h
    split at h
    · cases h
    · rename_i L' p' h'
      split at h
      · rename_i hr
        have h1 := ih h'
        have h2 := readVar_true hr
        simp only [Option.some.injEq, Prod.mk.injEq] at h
        rw [← h.1, ← h.2]
        refine ⟨?_, h2.2.1⟩
        rw [rowB_append, h1.1]
        simp only [rowB, List.append_nil]
        rw [h2.2.2]
        conv => rhs; rw [show (readVar s p').2.1 = p' + ((readVar s p').2.1 - p') by omega, List.take_add]
      · cases h

theorem crOf_rowB {L : List Nat} (h : L.length = 10) : credB (crOf L) = rowB L := by
  match L, h with
  | [a, b, c, d, e, f, g, h, i, j], _ =>
    simp [credB, crOf, rowB, List.append_assoc]

/-- The ten numbers read, the word is right and the text is at its end: that is all. -/
theorem readCred_of {s : List UInt8} {L : List Nat} {p : Nat} (h : readRow s 10 = some (L, p)) : readCred s = if p = s.length ∧ credOk (crOf L) then (crOf L, true) else (Cr.zero, false) := by
  have h1 := readRow_facts h
  have h2 := readRow_take h
  have h3 := crOf_rowB h1.1
  unfold readCred
  rw [h]
  simp only
  rw [h3]
  by_cases hp : p = s.length
  · have : rowB L = s := by rw [h2.1, hp, List.take_length]
    rw [this]
    by_cases hc : credOk (crOf L)
    · rw [if_pos ⟨hc, rfl⟩, if_pos ⟨hp, hc⟩]
    · rw [if_neg (fun x => hc x.1), if_neg (fun x => hc x.2)]
  · have : ¬ rowB L = s := fun e => hp (by
      have := congrArg List.length (h2.1.symm.trans e)
      rw [List.length_take] at this
      omega)
    rw [if_neg (fun x => this x.2), if_neg (fun x => hp x.1)]

theorem readCred_none {s : List UInt8} (h : readRow s 10 = none) : readCred s = (Cr.zero, false) := by
  unfold readCred
  rw [h]
end Go.Proofs.Ytflicklgmhgpiaa.P5
