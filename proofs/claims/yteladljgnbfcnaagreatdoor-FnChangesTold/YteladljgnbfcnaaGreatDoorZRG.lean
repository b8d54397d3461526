/- The order of texts: what is less is not the same and not greater; no condition.
The program's isOnRing, knownOk, fingersOk, behindOk, hasNothing; condition: lists of at most 2^20.
The program's itemsOk; condition: at most 2^20 items, their texts of at most 2^20 bytes.
The program's shelvesOk; condition: at most 2^20 shelves, of at most 2^20 items, their texts of at most 2^20 bytes.
The program's PeerOk; condition: lists of at most 2^20, texts of at most 2^20 bytes.
How many keys a map has; lists without repetition; no condition. -/
import Derived.Test.YteladljgnbfcnaaGreatDoorZA
import Derived.Test.YteladljgnbfcnaaGreatDoorZRB
import Derived.Test.YteladljgnbfcnaaGreatDoorZRA
import Derived.WideLaws
namespace Go.Proofs.YteladljgnbfcnaaGreatDoor.P9
open Go.RowKit P1

theorem bl_asymm : ∀ {a b : List UInt8}, Op.bytesLess a b = true → Op.bytesLess b a = false
  | [], [], h => by simp [Op.bytesLess] at h
  | x :: a, [], h => by simp [Op.bytesLess] at h
  | [], y :: b, _ => rfl
  | x :: a, y :: b, h => by
    rw [Op.bytesLess] at h ⊢
    simp only [Bool.or_eq_true, Bool.and_eq_true, decide_eq_true_eq, beq_iff_eq] at h
    rcases h with h | ⟨h1, h2⟩
    · have e1 : ¬ y < x := fun h' => by
        have := UInt8.lt_iff_toNat_lt.1 h
        have := UInt8.lt_iff_toNat_lt.1 h'
        omega
      have e2 : ¬ y = x := fun h' => by
        subst h'
        have := UInt8.lt_iff_toNat_lt.1 h
        omega
      simp [e1, e2]
    · subst h1
      simp [bl_asymm h2]

theorem bl_tri : ∀ {a b : List UInt8}, Op.bytesLess a b = false → a ≠ b → Op.bytesLess b a = true
  | [], [], _, h => absurd rfl h
  | x :: a, [], _, _ => rfl
  | [], y :: b, h, _ => by simp [Op.bytesLess] at h
  | x :: a, y :: b, h, hn => by
    rw [Op.bytesLess] at h ⊢
    simp only [Bool.or_eq_false_iff, decide_eq_false_iff_not, Bool.and_eq_false_iff] at h
    obtain ⟨h1, h2⟩ := h
    by_cases e : x = y
    · subst e
      have h3 : Op.bytesLess a b = false := by
        rcases h2 with h2 | h2
        · simp at h2
        · exact h2
      have := bl_tri h3 (fun e => hn (by rw [e]))
      simp [this]
    · have : y < x := by
        have e1 : x.toNat ≠ y.toNat := fun h' => e (UInt8.toNat_inj.1 h')
        have e2 : ¬ x.toNat < y.toNat := fun h' => h1 (UInt8.lt_iff_toNat_lt.2 h')
        exact UInt8.lt_iff_toNat_lt.2 (by omega)
      simp [this]

end Go.Proofs.YteladljgnbfcnaaGreatDoor.P9
namespace Go.Proofs.YteladljgnbfcnaaGreatDoor.P9
open Go.RowKit P1 P8 Da

attribute [local go_sem] Oper.semAt_some

theorem calls_near_same {P : Program} {f : FuncId} {args : Array Value} {B : Nat} {W : World} {p : Near B W} {v : Value}
    (h : Calls P f args p.w fun e w' => e = .returned v ∧ w' = p.w) : Calls P f args p.w fun e w'' => e = .returned v ∧ ∃ q : Near B W, w'' = q.w :=
  h.mono fun _ _ ⟨he, hw⟩ => ⟨he, p, hw⟩

/-- What is so of all so far. -/
theorem all_take_succ {α : Type} {l : List α} {f : α → Bool} {k : Nat} (h : k < l.length) (h1 : (l.take k).all f = true) (h2 : f l[k] = true) : (l.take (k + 1)).all f = true := by
  rw [List.take_succ_eq_append_getElem h, List.all_append, h1]
  simp [h2]

theorem all_not {α : Type} {l : List α} {f : α → Bool} {k : Nat} (h : k < l.length) (h2 : f l[k] = false) : l.all f = false := by
  rw [List.all_eq_false]
  exact ⟨l[k], List.getElem_mem h, by simp [h2]⟩

def fingersB (l : List Int) : Bool := l.all (fun x => inB x (-1) 255) && decide (l.length = 8)

def behindB (p : Pr) : Bool := p.behind.all (fun x => inB x 0 255 && decide (x ≠ p.id)) && decide (p.behind.length ≤ 3)
end Go.Proofs.YteladljgnbfcnaaGreatDoor.P9
namespace Go.Proofs.YteladljgnbfcnaaGreatDoor.P9
open Go.RowKit P1 P8 Da
end Go.Proofs.YteladljgnbfcnaaGreatDoor.P9
namespace Go.Proofs.YteladljgnbfcnaaGreatDoor.P9
open Go.RowKit P1 P8 Da

def shelvesB (l : List Shf) : Bool := (List.range l.length).all (shelfOk l) && decide (l.length ≤ 80)
end Go.Proofs.YteladljgnbfcnaaGreatDoor.P9
namespace Go.Proofs.YteladljgnbfcnaaGreatDoor.P9
open Go.RowKit P1 P8 Da

theorem range_all {α : Type} (d : α) (f : α → Bool) : ∀ l : List α, (List.range l.length).all (fun k => f ((l[k]?).getD d)) = l.all f
  | [] => rfl
  | x :: l => by
    rw [List.length_cons, List.range_succ_eq_map, List.all_cons, List.all_map, List.all_cons, ← range_all d f l]
    rfl

def peerOkI (p : Pr) : Bool := inB p.id 0 255 && if p.here then (inB p.ahead (-1) 255 && behindB p && fingersB p.fingers && shelvesB p.shelves) else awayOk p

theorem peerOkI_eq (p : Pr) : peerOkI p = peerOk p := by
  unfold peerOkI peerOk
  congr 1
  cases p.here with
  | false => rfl
  | true =>
    simp only [if_true]
    unfold hereOk behindB fingersB shelvesB
    have h1 : (List.range p.behind.length).all (behindOk p) = p.behind.all (fun x => inB x 0 255 && decide (x ≠ p.id)) := by
      exact range_all 0 (fun x => inB x 0 255 && decide (x ≠ p.id)) p.behind
    have h2 : (List.range p.fingers.length).all (fingerOk p) = p.fingers.all (fun x => inB x (-1) 255) := by
      exact range_all 0 (fun x => inB x (-1) 255) p.fingers
    rw [h1, h2]
    generalize inB p.ahead (-1) 255 = b1
    generalize p.behind.all _ = b2
    generalize p.fingers.all _ = b3
    generalize (List.range p.shelves.length).all _ = b4
    generalize decide (p.behind.length ≤ 3) = b5
    generalize decide (p.fingers.length = 8) = b6
    generalize decide (p.shelves.length ≤ 80) = b7
    cases b1 <;> cases b2 <;> cases b3 <;> cases b4 <;> cases b5 <;> cases b6 <;> cases b7 <;> rfl
end Go.Proofs.YteladljgnbfcnaaGreatDoor.P9
namespace Go.Proofs.YteladljgnbfcnaaGreatDoor.Mp
open Go.RowKit P1 Go.MapKept

theorem nodup_le {α : Type} [DecidableEq α] : ∀ (l m : List α), l.Nodup → (∀ x ∈ l, x ∈ m) → l.length ≤ m.length
  | [], m, _, _ => by simp
  | x :: l, m, h, hs => by
    rw [List.nodup_cons] at h
    have hx : x ∈ m := hs x (by simp)
    have := nodup_le l (m.erase x) h.2 (fun y hy => (List.mem_erase_of_ne (fun e => h.1 (by rw [← e]; exact hy))).2 (hs y (by simp [hy])))
    rw [List.length_erase_of_mem hx] at this
    have h0 : 0 < m.length := List.length_pos_of_mem hx
    simp only [List.length_cons]
    omega

theorem MapR.count {P : Program} {k : TypeId} {α : Type} [DecidableEq α] {T : KT P k α} {w : World} {b n : Nat} {f : α → Option Value} (H : MapR T w b n f) {t e : TypeId} (ht : P.underlying t = some (.map k e)) (ty : TypeId)
    (S : List α) (hn : S.Nodup) (hs : ∀ x, x ∈ S ↔ (f x).isSome = true) : (Builtin.len_ #[t] ty #[.map (some b)]).run P w = .ok (goInt S.length) w := by
  obtain ⟨es, clock, h1, h2, h3⟩ := H
  have hk : P.underlying t = some (.map (P.mapKeyOf t) (P.mapElemOf t)) := by
    have e1 : P.mapKeyOf t = k := by unfold Program.mapKeyOf; rw [ht]
    have e2 : P.mapElemOf t = e := by unfold Program.mapElemOf; rw [ht]
    rw [e1, e2]; exact ht
  rw [run_len_map w t ty b es clock hk h1]
  congr 2
  -- the keys, as they are asked
  have hpair := ((stamped_iff es clock).1 h2.stamped).2.2
  have hkeys : ∃ K : List α, es.toList.map (·.key) = K.map T.kv := by
    have : ∀ l : List MapEntry, (∀ e ∈ l, ∃ y, e.key = T.kv y) → ∃ K : List α, l.map (·.key) = K.map T.kv := by
      intro l
      induction l with
      | nil => exact fun _ => ⟨[], rfl⟩
      | cons x l ih =>
        intro h
        obtain ⟨y, hy⟩ := h x (by simp)
        obtain ⟨K, hK⟩ := ih (fun e he => h e (by simp [he]))
        exact ⟨y :: K, by simp [hy, hK]⟩
    exact this _ h2.keys
  obtain ⟨K, hK⟩ := hkeys
  have hKn : K.Nodup := by
    have h4 : (K.map T.kv).Pairwise (· ≠ ·) := by rw [← hK, List.pairwise_map]; exact hpair
    rw [List.pairwise_map] at h4
    exact h4.imp (fun h e => h (by rw [e]))
  have hlen : es.size = K.length := by
    have := congrArg List.length hK
    simpa using this
  have hmem : ∀ x, x ∈ K ↔ x ∈ S := by
    intro x
    rw [hs]
    constructor
    · intro hx
      have h5 : T.kv x ∈ es.toList.map (·.key) := by rw [hK]; exact List.mem_map_of_mem hx
      obtain ⟨e, he, hke⟩ := List.mem_map.1 h5
      rw [(h2.val x e.val).2 ⟨e, he, hke, rfl⟩]
      rfl
    · intro hx
      obtain ⟨v, hv⟩ := Option.isSome_iff_exists.1 hx
      obtain ⟨e, he, hke, _⟩ := (h2.val x v).1 hv
      have h5 : T.kv x ∈ K.map T.kv := by rw [← hK]; exact List.mem_map.2 ⟨e, he, hke⟩
      obtain ⟨y, hy, e'⟩ := List.mem_map.1 h5
      rw [← T.inj _ _ e']
      exact hy
  have l1 := nodup_le K S hKn (fun x hx => (hmem x).1 hx)
  have l2 := nodup_le S K hn (fun x hx => (hmem x).2 hx)
  omega
end Go.Proofs.YteladljgnbfcnaaGreatDoor.Mp

namespace Go.Proofs.YteladljgnbfcnaaGreatDoor.P8
theorem nub_nodup (l : List Int) : (nub l).Nodup := by
  refine snoc_ind (P := fun l => (nub l).Nodup) ?_ ?_ l
  · exact List.nodup_nil
  · intro l x ih
    rw [nub_snoc]
    split
    · exact ih
    · rename_i hx
      rw [List.nodup_append]
      exact ⟨ih, by simp, fun a ha b hb e => by simp at hb; subst hb; subst e; exact hx ha⟩

end Go.Proofs.YteladljgnbfcnaaGreatDoor.P8
