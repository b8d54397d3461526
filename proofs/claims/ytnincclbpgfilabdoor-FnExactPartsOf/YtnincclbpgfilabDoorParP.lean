/- The plain mathematics of the parts of a line; no condition. -/
import Derived.Lib.Fields
import Derived.Below
namespace Go.Proofs.YtnincclbpgfilabDoor.P1

/-- A byte that may stand in a line. -/
def okB (c : UInt8) : Prop := 32 ≤ c.toNat ∧ c.toNat ≤ 126

theorem isSp_blank {c : UInt8} (h : c.toNat = 32) : Lib.isSp c = true := by
  have : c = 32 := UInt8.toNat_inj.1 (by simpa using h)
  subst this; rfl

theorem isSp_other {c : UInt8} (h : okB c) (h2 : c.toNat ≠ 32) : Lib.isSp c = false := by
  obtain ⟨h0, h1⟩ := h
  have ne : ∀ d : UInt8, c.toNat ≠ d.toNat → (c == d) = false := fun d hd => by
    rw [beq_eq_false_iff_ne]; intro e; exact hd (by rw [e])
  simp only [Lib.isSp, ne 9 (by simp; omega), ne 10 (by simp; omega), ne 11 (by simp; omega), ne 12 (by simp; omega), ne 13 (by simp; omega), ne 32 (by simpa using h2), Bool.or_false]

/-- Up to place k: the parts that have ended, and where the one that has not began. -/
structure Par (l : List UInt8) (k b : Nat) (ps : List (List UInt8)) : Prop where
  le : b ≤ k
  top : k ≤ l.length
  ok : ∀ j (h : j < l.length), j < k → okB l[j]
  few : ps.length ≤ k
  eq : Lib.fields l = ps ++ Lib.fieldsGo ((l.drop b).take (k - b)) (l.drop k)

theorem Par.start (l : List UInt8) : Par l 0 0 [] := ⟨Nat.le_refl _, Nat.zero_le _, fun _ _ h => absurd h (by omega), Nat.le_refl _, rfl⟩

theorem take_more (l : List UInt8) (b k : Nat) (hb : b ≤ k) (hk : k < l.length) : (l.drop b).take (k + 1 - b) = (l.drop b).take (k - b) ++ [l[k]] := by
  rw [show k + 1 - b = (k - b) + 1 by omega, List.take_succ_eq_append_getElem (by simp; omega)]
  congr 2
  rw [List.getElem_drop]
  congr 1
  omega

theorem Par.ok_next {l : List UInt8} {k b : Nat} {ps : List (List UInt8)} (s : Par l k b ps) (hk : k < l.length) (h : okB l[k]) : ∀ j (h : j < l.length), j < k + 1 → okB l[j] := by
  intro j hj hlt
  by_cases e : j = k
  · subst e; exact h
  · exact s.ok j hj (by omega)

theorem Par.go {l : List UInt8} {k b : Nat} {ps : List (List UInt8)} (s : Par l k b ps) (hk : k < l.length) (h : okB l[k]) (h2 : (l[k]).toNat ≠ 32) : Par l (k + 1) b ps := by
  refine ⟨by have := s.le; omega, by omega, s.ok_next hk h, by have := s.few; omega, ?_⟩
  rw [s.eq, List.drop_eq_getElem_cons hk, Lib.fieldsGo_more _ _ _ (isSp_other h h2), take_more l b k s.le hk]

theorem Par.part {l : List UInt8} {k b : Nat} {ps : List (List UInt8)} (s : Par l k b ps) (hk : k < l.length) (h2 : (l[k]).toNat = 32) (hb : b < k) : Par l (k + 1) (k + 1) (ps ++ [(l.drop b).take (k - b)]) := by
  refine ⟨Nat.le_refl _, by omega, s.ok_next hk ⟨by omega, by omega⟩, by have := s.few; simp; omega, ?_⟩
  have hne : (l.drop b).take (k - b) ≠ [] := by intro e; have := congrArg List.length e; simp at this; omega
  rw [s.eq, List.drop_eq_getElem_cons hk, Lib.fieldsGo_end _ _ _ (isSp_blank h2) hne]
  simp

theorem Par.blank {l : List UInt8} {k b : Nat} {ps : List (List UInt8)} (s : Par l k b ps) (hk : k < l.length) (h2 : (l[k]).toNat = 32) (hb : ¬ b < k) : Par l (k + 1) (k + 1) ps := by
  refine ⟨Nat.le_refl _, by omega, s.ok_next hk ⟨by omega, by omega⟩, by have := s.few; omega, ?_⟩
  have e : k - b = 0 := by omega
  rw [s.eq, List.drop_eq_getElem_cons hk, e, List.take_zero, Lib.fieldsGo_sp _ _ (isSp_blank h2)]
  simp

theorem Par.last {l : List UInt8} {k b : Nat} {ps : List (List UInt8)} (s : Par l k b ps) (hk : k = l.length) (hb : b < k) : Lib.fields l = ps ++ [(l.drop b).take (k - b)] := by
  have hne : ((l.drop b).take (k - b)).isEmpty = false := by
    cases h : (l.drop b).take (k - b) with
    | nil => have := congrArg List.length h; simp at this; omega
    | cons _ _ => rfl
  have e2 : l.drop k = [] := List.drop_of_length_le (by omega)
  rw [s.eq, e2]
  simp only [Lib.fieldsGo, hne, Bool.false_eq_true, if_false]

theorem Par.none_ {l : List UInt8} {k b : Nat} {ps : List (List UInt8)} (s : Par l k b ps) (hk : k = l.length) (hb : ¬ b < k) : Lib.fields l = ps := by
  have e : k - b = 0 := by omega
  have e2 : l.drop k = [] := List.drop_of_length_le (by omega)
  rw [s.eq, e2, e]
  simp [Lib.fieldsGo]

/-- What PartsOf answers. -/
def Good (l : List UInt8) : Prop := l.length ≤ 600 ∧ (∀ j (h : j < l.length), okB l[j]) ∧ (Lib.fields l).length ≤ 10

/-- The parts and the flag that belong to a line. -/
def Tells (l : List UInt8) (ps : List (List UInt8)) (b : Bool) : Prop := (Good l ∧ ps = Lib.fields l ∧ b = true) ∨ (¬ Good l ∧ ps = [] ∧ b = false)

theorem Tells.same {l : List UInt8} {p q : List (List UInt8)} {a b : Bool} (h1 : Tells l p a) (h2 : Tells l q b) : p = q ∧ a = b := by
  rcases h1 with ⟨g, rfl, rfl⟩ | ⟨g, rfl, rfl⟩ <;> rcases h2 with ⟨g', rfl, rfl⟩ | ⟨g', rfl, rfl⟩
  · exact ⟨rfl, rfl⟩
  · exact absurd g g'
  · exact absurd g' g
  · exact ⟨rfl, rfl⟩

theorem Tells.len {l : List UInt8} {p : List (List UInt8)} {a : Bool} (h : Tells l p a) : p.length ≤ 10 := by
  rcases h with ⟨g, rfl, _⟩ | ⟨_, rfl, _⟩
  · exact g.2.2
  · simp
end Go.Proofs.YtnincclbpgfilabDoor.P1
