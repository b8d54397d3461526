/- The plain mathematics of decimal figures: one figure after the other, from the last on; no condition. -/
import Derived.Lib.ItoaLen
import Derived.Below
namespace Go.Proofs.YtknlhejpcjpeeaaDoor.P1

/-- What is left of N, and the figures that were written behind it. -/
structure Dec (N : Int) (c : Int) (t : List UInt8) : Prop where
  more : c ≠ 0 → Lib.decDigits N.natAbs = Lib.decDigits c.natAbs ++ t
  none_ : c = 0 → Lib.decDigits N.natAbs = t
  low : N < 0 → c ≤ 0 ∧ N ≤ c
  high : 0 ≤ N → 0 ≤ c ∧ c ≤ N

theorem Dec.start (N : Int) (h : N ≠ 0) : Dec N N [] := ⟨fun _ => by simp, fun e => absurd e h, fun h => ⟨by omega, Int.le_refl _⟩, fun h => ⟨h, Int.le_refl _⟩⟩

theorem decDigits_step (m : Nat) (h : 0 < m) : Lib.decDigits m = (if m / 10 = 0 then [] else Lib.decDigits (m / 10)) ++ [UInt8.ofNat (48 + m % 10)] := by
  by_cases h10 : m < 10
  · rw [Lib.decDigits_one h10, if_pos (by omega), show m % 10 = m by omega]; rfl
  · rw [Lib.decDigits, dif_neg h10, if_neg (by omega)]

theorem Dec.next {N c c' : Int} {t : List UInt8} (s : Dec N c t) (hc : c ≠ 0) (habs : c'.natAbs = c.natAbs / 10) (hl : c < 0 → c' ≤ 0 ∧ c ≤ c') (hh : 0 < c → 0 ≤ c' ∧ c' ≤ c) :
    Dec N c' (UInt8.ofNat (48 + c.natAbs % 10) :: t) := by
  have hm := s.more hc
  have hst := decDigits_step c.natAbs (by omega)
  refine ⟨fun h => ?_, fun h => ?_, fun h => ?_, fun h => ?_⟩
  · rw [hm, hst, if_neg (by omega), habs]; simp
  · rw [hm, hst, if_pos (by omega)]; simp
  · have := s.low h; omega
  · have := s.high h; omega

theorem Dec.len {N c : Int} {t : List UInt8} (s : Dec N c t) (h0 : -9223372036854775808 ≤ N) (h1 : N ≤ 9223372036854775807) : t.length ≤ 20 := by
  have hn : (Lib.decDigits N.natAbs).length ≤ 20 := by rw [Lib.decDigits_length]; exact Lib.nDigits_le20 _ (by omega)
  by_cases hc : c = 0
  · rw [s.none_ hc] at hn; exact hn
  · rw [s.more hc, List.length_append] at hn; omega

theorem tmod_neg (c : Int) (h : c.tmod 10 < 0) : -c.tmod 10 = ((c.natAbs % 10 : Nat) : Int) := by
  have h1 : (c.tmod 10).natAbs = c.natAbs % 10 := by rw [Int.natAbs_tmod]; rfl
  omega

theorem tmod_pos (c : Int) (h : ¬ c.tmod 10 < 0) : c.tmod 10 = ((c.natAbs % 10 : Nat) : Int) := by
  have h1 : (c.tmod 10).natAbs = c.natAbs % 10 := by rw [Int.natAbs_tmod]; rfl
  omega

theorem tmod_le (c : Int) : -9 ≤ c.tmod 10 ∧ c.tmod 10 ≤ 9 := by
  have h1 : (c.tmod 10).natAbs = c.natAbs % 10 := by rw [Int.natAbs_tmod]; rfl
  omega

theorem tdiv_abs (c : Int) : (c.tdiv 10).natAbs = c.natAbs / 10 := by rw [Int.natAbs_tdiv]; rfl

theorem tdiv_low (c : Int) (h : c < 0) : c.tdiv 10 ≤ 0 ∧ c ≤ c.tdiv 10 := by
  have h1 := tdiv_abs c
  have h2 : c.tdiv 10 ≤ 0 := by
    have e : c.tdiv 10 = -((-c).tdiv 10) := by rw [Int.neg_tdiv, Int.neg_neg]
    have h3 : 0 ≤ (-c).tdiv 10 := Int.tdiv_nonneg (by omega) (by decide)
    omega
  omega

theorem tdiv_high (c : Int) (h : 0 < c) : 0 ≤ c.tdiv 10 ∧ c.tdiv 10 ≤ c := by
  have h1 := tdiv_abs c
  have h2 : 0 ≤ c.tdiv 10 := Int.tdiv_nonneg (by omega) (by decide)
  omega

theorem itoa_of {N : Int} {t : List UInt8} (h : Lib.decDigits N.natAbs = t) : Lib.itoa N = if N < 0 then 45 :: t else t := by
  unfold Lib.itoa
  split
  · rw [h]
  · rw [← h, show N.toNat = N.natAbs by omega]
end Go.Proofs.YtknlhejpcjpeeaaDoor.P1
