/- The plain mathematics of chapter 1's numbers in bytes: what VarText writes, as a list of bytes; no condition. -/
import Derived.Below
namespace Go.Proofs.YtknlhejpcjpeeaaDoor.P1

/-- The bytes of a number: its lowest seven bits and 128 as long as it is above 127, then itself; at most one byte more than the fuel. -/
def varB : Nat → Nat → List UInt8
  | 0, n => [UInt8.ofNat n]
  | f + 1, n => if 127 < n then UInt8.ofNat (n % 128 + 128) :: varB f (n / 128) else [UInt8.ofNat n]

/-- What fits into one byte more than the fuel. -/
def top : Nat → Nat
  | 0 => 128
  | f + 1 => 128 * top f

theorem varB_small (f n : Nat) (h : n ≤ 127) : varB f n = [UInt8.ofNat n] := by
  cases f with
  | zero => rfl
  | succ f => simp [varB, show ¬ 127 < n by omega]

theorem varB_great (f n : Nat) (h : 127 < n) : varB (f + 1) n = UInt8.ofNat (n % 128 + 128) :: varB f (n / 128) := by
  simp [varB, h]

theorem top_div (f n : Nat) (h : n < top (f + 1)) : n / 128 < top f := by
  simp only [top] at h; omega

theorem varB_length (f : Nat) : ∀ n, 1 ≤ (varB f n).length ∧ (varB f n).length ≤ f + 1 := by
  induction f with
  | zero => intro n; simp [varB]
  | succ f ih =>
    intro n
    by_cases h : 127 < n
    · rw [varB_great f n h]; have := ih (n / 128); simp; omega
    · rw [varB_small _ _ (by omega)]; simp

/-- One step of the loop that writes: what was written so far, and what is left. -/
def Wrote (N : Nat) (pre : List UInt8) (m : Nat) : Prop := ∃ f, pre.length + f = 4 ∧ m < top f ∧ varB 4 N = pre ++ varB f m

theorem Wrote.start (N : Nat) (h : N < 34359738368) : Wrote N [] N := ⟨4, rfl, by simpa [top] using h, rfl⟩

theorem Wrote.next {N m : Nat} {pre : List UInt8} (h : Wrote N pre m) (hm : 127 < m) : Wrote N (pre ++ [UInt8.ofNat (m % 128 + 128)]) (m / 128) := by
  obtain ⟨f, hl, ht, hv⟩ := h
  cases f with
  | zero => simp [top] at ht; omega
  | succ f => exact ⟨f, by simp; omega, top_div f m ht, by rw [hv, varB_great f m hm]; simp⟩

theorem Wrote.last {N m : Nat} {pre : List UInt8} (h : Wrote N pre m) (hm : m ≤ 127) : varB 4 N = pre ++ [UInt8.ofNat m] := by
  obtain ⟨f, _, _, hv⟩ := h
  rw [hv, varB_small f m hm]

theorem Wrote.len {N m : Nat} {pre : List UInt8} (h : Wrote N pre m) : pre.length ≤ 4 := by
  obtain ⟨f, hl, _, _⟩ := h; omega

theorem Wrote.lt {N m : Nat} {pre : List UInt8} (h : Wrote N pre m) : m < 34359738368 := by
  obtain ⟨f, hl, ht, _⟩ := h
  match f, hl, ht with
  | 0, _, ht => simp [top] at ht; omega
  | 1, _, ht => simp [top] at ht; omega
  | 2, _, ht => simp [top] at ht; omega
  | 3, _, ht => simp [top] at ht; omega
  | 4, _, ht => simp [top] at ht; omega
  | f + 5, hl, _ => omega
end Go.Proofs.YtknlhejpcjpeeaaDoor.P1
