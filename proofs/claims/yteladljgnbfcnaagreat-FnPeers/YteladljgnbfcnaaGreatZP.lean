/- The plain mathematics of chapter 1's numbers in bytes: what VarText writes, as a list of bytes; no condition.
The plain mathematics of decimal figures: one figure after the other, from the last on; no condition. -/
import Derived.Below
import Derived.Lib.ItoaLen
namespace Go.Proofs.YteladljgnbfcnaaGreat.P1

/-- The bytes of a number: its lowest seven bits and 128 as long as it is above 127, then itself; at most one byte more than the fuel. -/
def varB : Nat → Nat → List UInt8
  | 0, n => [UInt8.ofNat n]
  | f + 1, n => if 127 < n then UInt8.ofNat (n % 128 + 128) :: varB f (n / 128) else [UInt8.ofNat n]

/-- What fits into one byte more than the fuel. -/
def top : Nat → Nat
  | 0 => 128
  | f + 1 => 128 * top f

theorem varB_small (f n : Nat) (h : n ≤ 127) : varB f n = [UInt8.ofNat n] := by
  cases f with
  | zero => rfl
  | succ f => simp [varB, show ¬ 127 < n by omega]

theorem varB_great (f n : Nat) (h : 127 < n) : varB (f + 1) n = UInt8.ofNat (n % 128 + 128) :: varB f (n / 128) := by
  simp [varB, h]

theorem top_div (f n : Nat) (h : n < top (f + 1)) : n / 128 < top f := by
  simp only [top] at h; omega

/-- One step of the loop that writes: what was written so far, and what is left. -/
def Wrote (N : Nat) (pre : List UInt8) (m : Nat) : Prop := ∃ f, pre.length + f = 4 ∧ m < top f ∧ varB 4 N = pre ++ varB f m

theorem Wrote.start (N : Nat) (h : N < 34359738368) : Wrote N [] N := ⟨4, rfl, by simpa [top] using h, rfl⟩

theorem Wrote.next {N m : Nat} {pre : List UInt8} (h : Wrote N pre m) (hm : 127 < m) : Wrote N (pre ++ [UInt8.ofNat (m % 128 + 128)]) (m / 128) := by
  obtain ⟨f, hl, ht, hv⟩ := h
  cases f with
  | zero => simp [top] at ht; omega
  | succ f => exact ⟨f, by simp; omega, top_div f m ht, by rw [hv, varB_great f m hm]; simp⟩

theorem Wrote.last {N m : Nat} {pre : List UInt8} (h : Wrote N pre m) (hm : m ≤ 127) : varB 4 N = pre ++ [UInt8.ofNat m] := by
  obtain ⟨f, _, _, hv⟩ := h
  rw [hv, varB_small f m hm]

theorem Wrote.len {N m : Nat} {pre : List UInt8} (h : Wrote N pre m) : pre.length ≤ 4 := by
  obtain ⟨f, hl, _, _⟩ := h; omega

theorem Wrote.lt {N m : Nat} {pre : List UInt8} (h : Wrote N pre m) : m < 34359738368 := by
  obtain ⟨f, hl, ht, _⟩ := h
  match f, hl, ht with
  | 0, _, ht => simp [top] at ht; omega
  | 1, _, ht => simp [top] at ht; omega
  | 2, _, ht => simp [top] at ht; omega
  | 3, _, ht => simp [top] at ht; omega
  | 4, _, ht => simp [top] at ht; omega
  | f + 5, hl, _ => omega
end Go.Proofs.YteladljgnbfcnaaGreat.P1
namespace Go.Proofs.YteladljgnbfcnaaGreat.P1

/-- What is left of N, and the figures that were written behind it. -/
structure Dec (N : Int) (c : Int) (t : List UInt8) : Prop where
  more : c ≠ 0 → Lib.decDigits N.natAbs = Lib.decDigits c.natAbs ++ t
  none_ : c = 0 → Lib.decDigits N.natAbs = t
  low : N < 0 → c ≤ 0 ∧ N ≤ c
  high : 0 ≤ N → 0 ≤ c ∧ c ≤ N

theorem Dec.start (N : Int) (h : N ≠ 0) : Dec N N [] := ⟨fun _ => by simp, fun e => absurd e h, fun h => ⟨by omega, Int.le_refl _⟩, fun h => ⟨h, Int.le_refl _⟩⟩

theorem decDigits_step (m : Nat) (h : 0 < m) : Lib.decDigits m = (if m / 10 = 0 then [] else Lib.decDigits (m / 10)) ++ [UInt8.ofNat (48 + m % 10)] := by
  by_cases h10 : m < 10
  · rw [Lib.decDigits_one h10, if_pos (by omega), show m % 10 = m by omega]; rfl
  · rw [Lib.decDigits, dif_neg h10, if_neg (by omega)]

theorem Dec.next {N c c' : Int} {t : List UInt8} (s : Dec N c t) (hc : c ≠ 0) (habs : c'.natAbs = c.natAbs / 10) (hl : c < 0 → c' ≤ 0 ∧ c ≤ c') (hh : 0 < c → 0 ≤ c' ∧ c' ≤ c) :
    Dec N c' (UInt8.ofNat (48 + c.natAbs % 10) :: t) := by
  have hm := s.more hc
  have hst := decDigits_step c.natAbs (by omega)
  refine ⟨fun h => ?_, fun h => ?_, fun h => ?_, fun h => ?_⟩
  · rw [hm, hst, if_neg (by omega), habs]; simp
  · rw [hm, hst, if_pos (by omega)]; simp
  · have := s.low h; omega
  · have := s.high h; omega

theorem Dec.len {N c : Int} {t : List UInt8} (s : Dec N c t) (h0 : -9223372036854775808 ≤ N) (h1 : N ≤ 9223372036854775807) : t.length ≤ 20 := by
  have hn : (Lib.decDigits N.natAbs).length ≤ 20 := by rw [Lib.decDigits_length]; exact Lib.nDigits_le20 _ (by omega)
  by_cases hc : c = 0
  · rw [s.none_ hc] at hn; exact hn
  · rw [s.more hc, List.length_append] at hn; omega

end Go.Proofs.YteladljgnbfcnaaGreat.P1
