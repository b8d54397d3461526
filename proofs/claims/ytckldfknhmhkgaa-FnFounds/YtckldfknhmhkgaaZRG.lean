/- The order of texts: what is less is not the same and not greater; no condition.
How many keys a map has; lists without repetition; no condition. -/
import Derived.Test.YtckldfknhmhkgaaZA
import Derived.Test.YtckldfknhmhkgaaZRA
import Derived.WideLaws
namespace Go.Proofs.Ytckldfknhmhkgaa.P9
open Go.RowKit P1

theorem bl_self : ∀ a : List UInt8, Op.bytesLess a a = false
  | [] => rfl
  | x :: a => by
    rw [Op.bytesLess, bl_self a]
    simp

theorem bl_asymm : ∀ {a b : List UInt8}, Op.bytesLess a b = true → Op.bytesLess b a = false
  | [], [], h => by simp [Op.bytesLess] at h
  | x :: a, [], h => by simp [Op.bytesLess] at h
  | [], y :: b, _ => rfl
  | x :: a, y :: b, h => by
    rw [Op.bytesLess] at h ⊢
    simp only [Bool.or_eq_true, Bool.and_eq_true, decide_eq_true_eq, beq_iff_eq] at h
    rcases h with h | ⟨h1, h2⟩
    · have e1 : ¬ y < x := fun h' => by
        have := UInt8.lt_iff_toNat_lt.1 h
        have := UInt8.lt_iff_toNat_lt.1 h'
        omega
      have e2 : ¬ y = x := fun h' => by
        subst h'
        have := UInt8.lt_iff_toNat_lt.1 h
        omega
      simp [e1, e2]
    · subst h1
      simp [bl_asymm h2]

theorem bl_ne {a b : List UInt8} (h : Op.bytesLess a b = true) : a ≠ b := by
  rintro rfl
  rw [bl_self] at h
  cases h

theorem bl_tri : ∀ {a b : List UInt8}, Op.bytesLess a b = false → a ≠ b → Op.bytesLess b a = true
  | [], [], _, h => absurd rfl h
  | x :: a, [], _, _ => rfl
  | [], y :: b, h, _ => by simp [Op.bytesLess] at h
  | x :: a, y :: b, h, hn => by
    rw [Op.bytesLess] at h ⊢
    simp only [Bool.or_eq_false_iff, decide_eq_false_iff_not, Bool.and_eq_false_iff] at h
    obtain ⟨h1, h2⟩ := h
    by_cases e : x = y
    · subst e
      have h3 : Op.bytesLess a b = false := by
        rcases h2 with h2 | h2
        · simp at h2
        · exact h2
      have := bl_tri h3 (fun e => hn (by rw [e]))
      simp [this]
    · have : y < x := by
        have e1 : x.toNat ≠ y.toNat := fun h' => e (UInt8.toNat_inj.1 h')
        have e2 : ¬ x.toNat < y.toNat := fun h' => h1 (UInt8.lt_iff_toNat_lt.2 h')
        exact UInt8.lt_iff_toNat_lt.2 (by omega)
      simp [this]

theorem bl_trans : ∀ {a b c : List UInt8}, Op.bytesLess a b = true → Op.bytesLess b c = true → Op.bytesLess a c = true
  | _, [], _, h, _ => by simp [Op.bytesLess] at h
  | _, _ :: _, [], _, h => by simp [Op.bytesLess] at h
  | [], _ :: _, _ :: _, _, _ => rfl
  | x :: a, y :: b, z :: c, h1, h2 => by
    rw [Op.bytesLess] at h1 h2 ⊢
    simp only [Bool.or_eq_true, Bool.and_eq_true, decide_eq_true_eq, beq_iff_eq] at h1 h2 ⊢
    rcases h1 with h1 | ⟨rfl, h1⟩
    · rcases h2 with h2 | ⟨rfl, h2⟩
      · left
        have := UInt8.lt_iff_toNat_lt.1 h1
        have := UInt8.lt_iff_toNat_lt.1 h2
        exact UInt8.lt_iff_toNat_lt.2 (by omega)
      · exact .inl h1
    · rcases h2 with h2 | ⟨rfl, h2⟩
      · exact .inl h2
      · exact .inr ⟨rfl, bl_trans h1 h2⟩

/-- 'not greater', as '<=' has it. -/
theorem bl_leq {a b : List UInt8} : (Op.bytesLess b a || b == a) = !Op.bytesLess a b := by
  cases h : Op.bytesLess a b with
  | true =>
    have h1 := bl_asymm h
    have h2 : (b == a) = false := by simpa using fun e : b = a => bl_ne h e.symm
    rw [h1, h2]
    rfl
  | false =>
    by_cases e : b = a
    · subst e
      simp
    · rw [bl_tri h (fun h => e h.symm)]
      rfl
end Go.Proofs.Ytckldfknhmhkgaa.P9
namespace Go.Proofs.Ytckldfknhmhkgaa.Mp
open Go.RowKit P1 Go.MapKept

theorem nodup_le {α : Type} [DecidableEq α] : ∀ (l m : List α), l.Nodup → (∀ x ∈ l, x ∈ m) → l.length ≤ m.length
  | [], m, _, _ => by simp
  | x :: l, m, h, hs => by
    rw [List.nodup_cons] at h
    have hx : x ∈ m := hs x (by simp)
    have := nodup_le l (m.erase x) h.2 (fun y hy => (List.mem_erase_of_ne (fun e => h.1 (by rw [← e]; exact hy))).2 (hs y (by simp [hy])))
    rw [List.length_erase_of_mem hx] at this
    have h0 : 0 < m.length := List.length_pos_of_mem hx
    simp only [List.length_cons]
    omega

theorem MapR.count {P : Program} {k : TypeId} {α : Type} [DecidableEq α] {T : KT P k α} {w : World} {b n : Nat} {f : α → Option Value} (H : MapR T w b n f) {t e : TypeId} (ht : P.underlying t = some (.map k e)) (ty : TypeId)
    (S : List α) (hn : S.Nodup) (hs : ∀ x, x ∈ S ↔ (f x).isSome = true) : (Builtin.len_ #[t] ty #[.map (some b)]).run P w = .ok (goInt S.length) w := by
  obtain ⟨es, clock, h1, h2, h3⟩ := H
  have hk : P.underlying t = some (.map (P.mapKeyOf t) (P.mapElemOf t)) := by
    have e1 : P.mapKeyOf t = k := by unfold Program.mapKeyOf; rw [ht]
    have e2 : P.mapElemOf t = e := by unfold Program.mapElemOf; rw [ht]
    rw [e1, e2]; exact ht
  rw [run_len_map w t ty b es clock hk h1]
  congr 2
  -- the keys, as they are asked
  have hpair := ((stamped_iff es clock).1 h2.stamped).2.2
  have hkeys : ∃ K : List α, es.toList.map (·.key) = K.map T.kv := by
    have : ∀ l : List MapEntry, (∀ e ∈ l, ∃ y, e.key = T.kv y) → ∃ K : List α, l.map (·.key) = K.map T.kv := by
      intro l
      induction l with
      | nil => exact fun _ => ⟨[], rfl⟩
      | cons x l ih =>
        intro h
        obtain ⟨y, hy⟩ := h x (by simp)
        obtain ⟨K, hK⟩ := ih (fun e he => h e (by simp [he]))
        exact ⟨y :: K, by simp [hy, hK]⟩
    exact this _ h2.keys
  obtain ⟨K, hK⟩ := hkeys
  have hKn : K.Nodup := by
    have h4 : (K.map T.kv).Pairwise (· ≠ ·) := by rw [← hK, List.pairwise_map]; exact hpair
    rw [List.pairwise_map] at h4
    exact h4.imp (fun h e => h (by rw [e]))
  have hlen : es.size = K.length := by
    have := congrArg List.length hK
    simpa using this
  have hmem : ∀ x, x ∈ K ↔ x ∈ S := by
    intro x
    rw [hs]
    constructor
    · intro hx
      have h5 : T.kv x ∈ es.toList.map (·.key) := by rw [hK]; exact List.mem_map_of_mem hx
      obtain ⟨e, he, hke⟩ := List.mem_map.1 h5
      rw [(h2.val x e.val).2 ⟨e, he, hke, rfl⟩]
      rfl
    · intro hx
      obtain ⟨v, hv⟩ := Option.isSome_iff_exists.1 hx
      obtain ⟨e, he, hke, _⟩ := (h2.val x v).1 hv
      have h5 : T.kv x ∈ K.map T.kv := by rw [← hK]; exact List.mem_map.2 ⟨e, he, hke⟩
      obtain ⟨y, hy, e'⟩ := List.mem_map.1 h5
      rw [← T.inj _ _ e']
      exact hy
  have l1 := nodup_le K S hKn (fun x hx => (hmem x).1 hx)
  have l2 := nodup_le S K hn (fun x hx => (hmem x).2 hx)
  omega
end Go.Proofs.Ytckldfknhmhkgaa.Mp

namespace Go.Proofs.Ytckldfknhmhkgaa.P8
theorem nub_nodup (l : List Int) : (nub l).Nodup := by
  refine snoc_ind (P := fun l => (nub l).Nodup) ?_ ?_ l
  · exact List.nodup_nil
  · intro l x ih
    rw [nub_snoc]
    split
    · exact ih
    · rename_i hx
      rw [List.nodup_append]
      exact ⟨ih, by simp, fun a ha b hb e => by simp at hb; subst hb; subst e; exact hx ha⟩

theorem nub_same (l : List Int) : (nub l).length = l.length ↔ l.Nodup := by
  refine snoc_ind (P := fun l => (nub l).length = l.length ↔ l.Nodup) ?_ ?_ l
  · simp [nub]
  · intro l x ih
    rw [nub_snoc]
    have hl := nub_length l
    by_cases hx : x ∈ nub l
    · rw [if_pos hx]
      constructor
      · intro h
        simp only [List.length_append, List.length_singleton] at h
        omega
      · intro h
        rw [List.nodup_append] at h
        exact absurd rfl (h.2.2 x ((mem_nub l x).1 hx) x (by simp))
    · rw [if_neg hx]
      have hx' : x ∉ l := fun h => hx ((mem_nub l x).2 h)
      simp only [List.length_append, List.length_singleton, List.nodup_append]
      constructor
      · intro h
        exact ⟨ih.1 (by omega), by simp, fun a ha b hb e => by simp at hb; subst hb; subst e; exact hx' ha⟩
      · intro h
        have := ih.2 h.1
        omega
end Go.Proofs.Ytckldfknhmhkgaa.P8
