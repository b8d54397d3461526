/- What the changes of a right ring tell; as plain mathematics; no condition.
Each ring that a law begins with is as it should be; no condition. -/
import Derived.Test.YteladljgnbfcnaaGreatDoorZRK
import Derived.Test.YteladljgnbfcnaaGreatDoorZRI
import Derived.Test.YteladljgnbfcnaaGreatDoorZRL
namespace Go.Proofs.YteladljgnbfcnaaGreatDoor.P9
open Go.RowKit P1 P8 Da

theorem Rok.next_of {l : List Pr} (h : Rok l) {id : Int} (hx : 0 ≤ peerAt l id) : 0 ≤ nextOf l id := by
  obtain ⟨i, hi, -, h2, rfl⟩ := at_some hx
  exact (live_iff h.nodup hi h2 fun x hx => ((h.at_ hi h2).behind x hx).1.1).2 (h.live _ (List.getElem_mem hi) h2)

theorem joined_told {l : List Pr} (h : Rok l) {id by_ : Int} (ht : (joined l id by_).2 = true) : peerAt l id < 0 ∧ 0 ≤ nextOf (joined l id by_).1 id := by
  have hr := rok_joined h id by_
  refine ⟨?_, hr.next_of ?_⟩
  · unfold joined at ht
    cases hf : find l by_ id with
    | none => rw [hf] at ht; cases ht
    | some p =>
      obtain ⟨n, m⟩ := p
      rw [hf] at ht
      replace ht : (if freeAt l id l.length < 0 ∨ 0 ≤ peerAt l id ∨ peerAt l n < 0 then (l, false) else (l.set (freeAt l id l.length).toNat (newP l id n), true) : List Pr × Bool).2 = true := ht
      split at ht
      · cases ht
      · omega
  · unfold joined at ht ⊢
    cases hf : find l by_ id with
    | none => rw [hf] at ht; cases ht
    | some p =>
      obtain ⟨n, m⟩ := p
      rw [hf] at ht
      replace ht : (if freeAt l id l.length < 0 ∨ 0 ≤ peerAt l id ∨ peerAt l n < 0 then (l, false) else (l.set (freeAt l id l.length).toNat (newP l id n), true) : List Pr × Bool).2 = true := ht
      show 0 ≤ peerAt (if freeAt l id l.length < 0 ∨ 0 ≤ peerAt l id ∨ peerAt l n < 0 then (l, false) else (l.set (freeAt l id l.length).toNat (newP l id n), true) : List Pr × Bool).1 id
      split at ht
      · cases ht
      · rename_i hc
        rw [if_neg hc]
        rcases freeAt_lt l id l.length with h0 | ⟨i, hi, h1, -, -, -⟩
        · omega
        · rw [h1, Int.toNat_natCast]
          have hj : i < (l.set i (newP l id n)).length := by rw [List.length_set]; exact hi
          have := at_of (l := l.set i (newP l id n)) hj (by rw [List.getElem_set_self]; rfl)
          rw [List.getElem_set_self] at this
          exact this

theorem gone_told {l : List Pr} (h : Rok l) {id : Int} (ht : (gone l id).2 = true) : 0 ≤ peerAt l id ∧ peerAt (gone l id).1 id < 0 := by
  unfold gone at ht ⊢
  split at ht
  · cases ht
  · rename_i h4
    rw [if_neg h4]
    obtain ⟨i, hi, h1, h2, h3⟩ := at_some (l := l) (x := id) (by omega)
    split at ht
    · cases ht
    · rename_i ha
      rw [if_neg ha]
      refine ⟨by omega, ?_⟩
      rw [h1, Int.toNat_natCast]
      rcases peerAt_lt (l.set i (emptyP id)) id with h5 | ⟨j, hj, h5⟩
      · show peerAt (l.set i (emptyP id)) id < 0
        omega
      · exfalso
        obtain ⟨hj2, h6, h7⟩ := peerAt_id h5
        by_cases e : i = j
        · subst e
          rw [List.getElem_set_self] at h6
          cases h6
        · rw [List.getElem_set_ne e] at h6 h7
          have hjl : j < l.length := by rw [List.length_set] at hj2; exact hj2
          have := at_self h.nodup hjl h6
          rw [h7, h1] at this
          omega

theorem settle_told {l : List Pr} (h : Rok l) (id : Int) : (settle l id).2 = decide (0 ≤ peerAt l id) := by
  unfold settle
  by_cases hx : 0 ≤ peerAt l id
  · have hn := h.next_of hx
    rw [if_neg (by omega), decide_eq_true hx]
    show (if _ then _ else _ : List Pr × Bool).2 = true
    split <;> rfl
  · rw [if_pos (.inl (by omega)), decide_eq_false hx]

theorem fingered_told (l : List Pr) (id : Int) : (fingered l id).2 = decide (0 ≤ peerAt l id) := by
  unfold fingered
  by_cases hx : 0 ≤ peerAt l id
  · rw [if_neg (by omega), decide_eq_true hx]
  · rw [if_pos (by omega), decide_eq_false hx]
end Go.Proofs.YteladljgnbfcnaaGreatDoor.P9
namespace Go.Proofs.YteladljgnbfcnaaGreatDoor.P9
open Go.RowKit P1 P8 Da

set_option maxRecDepth 100000 in
theorem starts_ideal : ∀ l ∈ starts, ideal (ringNew l) = true := by
  intro l hl
  simp only [starts, List.mem_cons, List.not_mem_nil, or_false] at hl
  rcases hl with rfl | rfl | rfl | rfl | rfl <;> decide +kernel
end Go.Proofs.YteladljgnbfcnaaGreatDoor.P9
