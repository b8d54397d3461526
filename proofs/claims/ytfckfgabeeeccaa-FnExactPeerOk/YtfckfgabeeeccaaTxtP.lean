/- The order of texts: what is less is not the same and not greater; no condition. -/
import Derived.Test.YtfckfgabeeeccaaKit
namespace Go.Proofs.Ytfckfgabeeeccaa.P9
open Go.RowKit P1

theorem bl_self : ∀ a : List UInt8, Op.bytesLess a a = false
  | [] => rfl
  | x :: a => by
    rw [Op.bytesLess, bl_self a]
    simp

theorem bl_asymm : ∀ {a b : List UInt8}, Op.bytesLess a b = true → Op.bytesLess b a = false
  | [], [], h => by simp [Op.bytesLess] at h
  | x :: a, [], h => by simp [Op.bytesLess] at h
  | [], y :: b, _ => rfl
  | x :: a, y :: b, h => by
    rw [Op.bytesLess] at h ⊢
    simp only [Bool.or_eq_true, Bool.and_eq_true, decide_eq_true_eq, beq_iff_eq] at h
    rcases h with h | ⟨h1, h2⟩
    · have e1 : ¬ y < x := fun h' => by
        have := UInt8.lt_iff_toNat_lt.1 h
        have := UInt8.lt_iff_toNat_lt.1 h'
        omega
      have e2 : ¬ y = x := fun h' => by
        subst h'
        have := UInt8.lt_iff_toNat_lt.1 h
        omega
      simp [e1, e2]
    · subst h1
      simp [bl_asymm h2]

theorem bl_ne {a b : List UInt8} (h : Op.bytesLess a b = true) : a ≠ b := by
  rintro rfl
  rw [bl_self] at h
  cases h

theorem bl_tri : ∀ {a b : List UInt8}, Op.bytesLess a b = false → a ≠ b → Op.bytesLess b a = true
  | [], [], _, h => absurd rfl h
  | x :: a, [], _, _ => rfl
  | [], y :: b, h, _ => by simp [Op.bytesLess] at h
  | x :: a, y :: b, h, hn => by
    rw [Op.bytesLess] at h ⊢
    simp only [Bool.or_eq_false_iff, decide_eq_false_iff_not, Bool.and_eq_false_iff] at h
    obtain ⟨h1, h2⟩ := h
    by_cases e : x = y
    · subst e
      have h3 : Op.bytesLess a b = false := by
        rcases h2 with h2 | h2
        · simp at h2
        · exact h2
      have := bl_tri h3 (fun e => hn (by rw [e]))
      simp [this]
    · have : y < x := by
        have e1 : x.toNat ≠ y.toNat := fun h' => e (UInt8.toNat_inj.1 h')
        have e2 : ¬ x.toNat < y.toNat := fun h' => h1 (UInt8.lt_iff_toNat_lt.2 h')
        exact UInt8.lt_iff_toNat_lt.2 (by omega)
      simp [this]

theorem bl_trans : ∀ {a b c : List UInt8}, Op.bytesLess a b = true → Op.bytesLess b c = true → Op.bytesLess a c = true
  | _, [], _, h, _ => by simp [Op.bytesLess] at h
  | _, _ :: _, [], _, h => by simp [Op.bytesLess] at h
  | [], _ :: _, _ :: _, _, _ => rfl
  | x :: a, y :: b, z :: c, h1, h2 => by
    rw [Op.bytesLess] at h1 h2 ⊢
    simp only [Bool.or_eq_true, Bool.and_eq_true, decide_eq_true_eq, beq_iff_eq] at h1 h2 ⊢
    rcases h1 with h1 | ⟨rfl, h1⟩
    · rcases h2 with h2 | ⟨rfl, h2⟩
      · left
        have := UInt8.lt_iff_toNat_lt.1 h1
        have := UInt8.lt_iff_toNat_lt.1 h2
        exact UInt8.lt_iff_toNat_lt.2 (by omega)
      · exact .inl h1
    · rcases h2 with h2 | ⟨rfl, h2⟩
      · exact .inl h2
      · exact .inr ⟨rfl, bl_trans h1 h2⟩

/-- 'not greater', as '<=' has it. -/
theorem bl_leq {a b : List UInt8} : (Op.bytesLess b a || b == a) = !Op.bytesLess a b := by
  cases h : Op.bytesLess a b with
  | true =>
    have h1 := bl_asymm h
    have h2 : (b == a) = false := by simpa using fun e : b = a => bl_ne h e.symm
    rw [h1, h2]
    rfl
  | false =>
    by_cases e : b = a
    · subst e
      simp
    · rw [bl_tri h (fun h => e h.symm)]
      rfl
end Go.Proofs.Ytfckfgabeeeccaa.P9
