/- Chapter 4's promise as mathematics: what is signed is signed by its key; no condition. -/
import Derived.Test.YtmjpdccfdaajmaaDoorSgnI8
namespace Go.Proofs.YtmjpdccfdaajmaaDoor.P4
open Go.RowKit P1 P3

theorem secret8 (seed leaf i : Int) (h1 : few seed) (h2 : few leaf) (h3 : few i) : (secret seed leaf i).length = 8 := by
  unfold secret
  rw [if_pos ⟨h1, h2, h3⟩]
  exact cut8_length _

theorem quad_lt (t : List UInt8) (i : Nat) (hi : i < 11) : (quadsN t).getD i 0 < 4 := by
  have h11 := quadsN_length t
  exact quadsN_lt t _ (by rw [List.getD_eq_getElem?_getD, List.getElem?_eq_getElem (by omega)]; exact List.getElem_mem _)

theorem endN_get (seed leaf : Int) (t : List UInt8) (i : Nat) (hi : i < 11) : (endN seed leaf t 11).getD i [] = chain ((quadsN t).getD i 0) (secret seed leaf i) := by
  simp [endN, List.getD_eq_getElem?_getD, hi]

theorem sgnText_end (seed leaf : Int) (t : List UInt8) : ∀ k, k ≤ 11 → sgnText t (endN seed leaf t 11) k = leafText seed leaf k
  | 0, _ => rfl
  | k + 1, h => by
    have hq := quad_lt t k (by omega)
    rw [sgnText, leafText, sgnText_end seed leaf t k (by omega), endN_get seed leaf t k (by omega), chain_add]
    congr 2
    omega

theorem climb_way (seed : Int) (n : Nat) (hn : n ≤ 3) : climb (leafKey seed n) n (wayN seed n 2) 2 = key seed := by
  have hn' : n = 0 ∨ n = 1 ∨ n = 2 ∨ n = 3 := by omega
  rcases hn' with rfl | rfl | rfl | rfl <;> rfl

theorem end8 (seed : Int) (n : Nat) (t : List UInt8) (h1 : few seed) (hn : n ≤ 3) : allEight (endN seed n t 11) := by
  intro x hx
  simp only [endN, List.mem_map, List.mem_range] at hx
  obtain ⟨i, hi, rfl⟩ := hx
  exact chain8 _ _ (secret8 _ _ _ h1 ⟨by omega, by omega⟩ ⟨by omega, by omega⟩)

theorem way8 (seed : Int) (n : Nat) (hn : n ≤ 3) : allEight (wayN seed n 2) := by
  intro x hx
  simp only [wayN, List.mem_map, List.mem_range] at hx
  obtain ⟨i, hi, rfl⟩ := hx
  have hx := xor_lt n i hn hi
  have hl := lev_length seed i (by omega)
  rw [List.getD_eq_getElem?_getD, List.getElem?_eq_getElem (by omega)]
  exact lev_eight seed i (by omega) _ (List.getElem_mem _)

/-- What is signed is signed by its key. -/
theorem signed_yes (seed : Int) (n : Nat) (t : List UInt8) (h1 : few seed) (hn : n ≤ 3) : signedV (key seed) t n (endN seed n t 11) (wayN seed n 2) := by
  refine ⟨⟨⟨by omega, by omega⟩, endN_length _ _ _ _, wayN_length _ _ _, end8 seed n t h1 hn, way8 seed n hn⟩, ?_⟩
  rw [sgnText_end seed n t 11 (Nat.le_refl _)]
  exact climb_way seed n hn

theorem quads_24 (t : List UInt8) : ((quadsN t).take 8).sum + 16 * (quadsN t).getD 8 0 + 4 * (quadsN t).getD 9 0 + (quadsN t).getD 10 0 = 24 := by
  have h := quad8_sum (digest t)
  have hm : miss (digest t) = 24 - (quad8 (digest t)).sum := rfl
  have e : (quadsN t).take 8 = quad8 (digest t) := rfl
  have e8 : (quadsN t).getD 8 0 = miss (digest t) / 16 := rfl
  have e9 : (quadsN t).getD 9 0 = miss (digest t) / 4 % 4 := rfl
  have e10 : (quadsN t).getD 10 0 = miss (digest t) % 4 := rfl
  rw [e, e8, e9, e10]
  omega

theorem take_sum_le (t : List UInt8) (k : Nat) (hk : k ≤ 8) : ((quadsN t).take k).sum ≤ 24 := by
  have h := quad8_sum (digest t)
  have e : (quadsN t).take 8 = quad8 (digest t) := rfl
  have : ((quadsN t).take 8).sum = (((quadsN t).take 8).take k).sum + (((quadsN t).take 8).drop k).sum := by rw [← List.sum_append, List.take_append_drop]
  rw [List.take_take, Nat.min_eq_left hk] at this
  rw [e] at this
  omega
end Go.Proofs.YtmjpdccfdaajmaaDoor.P4
