/- A text with one byte turned is not as it was sealed: the plain mathematics; no condition. -/
import Derived.Test.YtobejiekbeohdaaDoorSeal
namespace Go.Proofs.YtobejiekbeohdaaDoor.P2

theorem poly_top : Nat.testBit 3558460437 31 = true := by decide

theorem top_half (x : Nat) (h : x < 4294967296) : (half x).testBit 31 = decide (x % 2 = 1) := by
  have hs : (x / 2).testBit 31 = false := Nat.testBit_lt_two_pow (by omega)
  unfold half
  by_cases hp : x % 2 = 1
  · rw [if_pos hp, Nat.testBit_xor, hs, poly_top]; simp [hp]
  · rw [if_neg hp, hs]; simp [hp]

theorem xor_cancel (a b c : Nat) (h : a ^^^ c = b ^^^ c) : a = b := by
  have := congrArg (fun z => z ^^^ c) h
  simpa [Nat.xor_assoc, Nat.xor_self, Nat.xor_zero] using this

theorem half_inj (x y : Nat) (hx : x < 4294967296) (hy : y < 4294967296) (h : half x = half y) : x = y := by
  have ht := congrArg (fun z => z.testBit 31) h
  simp only [top_half x hx, top_half y hy] at ht
  have hm : x % 2 = y % 2 := by
    by_cases h1 : x % 2 = 1
    · have : y % 2 = 1 := by simpa [h1] using ht.symm
      omega
    · have : ¬ y % 2 = 1 := by simpa [h1] using ht.symm
      omega
  have hd : x / 2 = y / 2 := by
    unfold half at h
    by_cases h1 : x % 2 = 1
    · rw [if_pos h1, if_pos (by omega)] at h; exact xor_cancel _ _ _ h
    · rw [if_neg h1, if_neg (by omega)] at h; exact h
  omega

theorem halfs_inj (k : Nat) : ∀ x y, x < 4294967296 → y < 4294967296 → halfs k x = halfs k y → x = y := by
  induction k with
  | zero => intro x y _ _ h; exact h
  | succ k ih => intro x y hx hy h; exact half_inj x y hx hy (ih _ _ (half_lt x hx) (half_lt y hy) h)

theorem byte_lt (b : UInt8) : b.toNat < 4294967296 := by have := b.toNat_lt; omega

theorem sum1_inj (x y : Nat) (b : UInt8) (hx : x < 4294967296) (hy : y < 4294967296) (h : sum1 x b = sum1 y b) : x = y :=
  xor_cancel _ _ _ (halfs_inj 8 _ _ (xor_lt _ _ hx (byte_lt b)) (xor_lt _ _ hy (byte_lt b)) h)

theorem sum1_byte (x : Nat) (b c : UInt8) (hx : x < 4294967296) (h : sum1 x b = sum1 x c) : b = c := by
  have h1 := halfs_inj 8 _ _ (xor_lt _ _ hx (byte_lt b)) (xor_lt _ _ hx (byte_lt c)) h
  rw [Nat.xor_comm x, Nat.xor_comm x] at h1
  exact UInt8.toNat_inj.1 (xor_cancel _ _ _ h1)

theorem sumL_inj (l : List UInt8) : ∀ x y, x < 4294967296 → y < 4294967296 → sumL x l = sumL y l → x = y := by
  induction l with
  | nil => intro x y _ _ h; exact h
  | cons b l ih => intro x y hx hy h; exact sum1_inj x y b hx hy (ih _ _ (sum1_lt x b hx) (sum1_lt y b hy) h)

theorem sumOf_turn (p q : List UInt8) (b c : UInt8) (h : sumOf (p ++ b :: q) = sumOf (p ++ c :: q)) : b = c := by
  unfold sumOf at h
  rw [sumL_append, sumL_append] at h
  have hp := sumL_lt p 4294967295 (by decide)
  exact sum1_byte _ b c hp (sumL_inj q _ _ (sum1_lt _ b hp) (sum1_lt _ c hp) h)

theorem fourB_inj (x y : Nat) (hx : x < 4294967296) (hy : y < 4294967296) (h : fourB x = fourB y) : x = y := by
  unfold fourB at h
  simp only [List.cons.injEq, and_true] at h
  have e : ∀ a b : Nat, a < 256 → b < 256 → UInt8.ofNat a = UInt8.ofNat b → a = b := by
    intro a b ha hb hab
    have := congrArg UInt8.toNat hab
    simp at this
    omega
  have h1 := e _ _ (by omega) (by omega) h.1
  have h2 := e _ _ (by omega) (by omega) h.2.1
  have h3 := e _ _ (by omega) (by omega) h.2.2.1
  have h4 := e _ _ (by omega) (by omega) h.2.2.2
  omega

theorem fourB_length (x : Nat) : (fourB x).length = 4 := rfl

/-- A sealed text unsealed. -/
theorem unseal_seal (s : List UInt8) (h : s.length ≤ 20000) : unsealedV (s ++ fourB (sumOf s)) = .tuple #[.string ⟨s.toArray⟩, .bool true] := by
  have hl : (s ++ fourB (sumOf s)).length = s.length + 4 := by simp [fourB_length]
  have ht : (s ++ fourB (sumOf s)).take (s.length + 4 - 4) = s := by simp
  have hd : (s ++ fourB (sumOf s)).drop (s.length + 4 - 4) = fourB (sumOf s) := by simp
  unfold unsealedV
  rw [hl, ht, hd, if_pos ⟨by omega, by omega, rfl⟩]

/-- One byte turned. -/
theorem unseal_turned (s : List UInt8) (h : s.length ≤ 20000) (i : Nat) (hi : i < (s ++ fourB (sumOf s)).length) (c : UInt8) (hc : c ≠ (s ++ fourB (sumOf s))[i]) :
    unsealedV ((s ++ fourB (sumOf s)).set i c) = .tuple #[.string ⟨#[]⟩, .bool false] := by
  have hl : ((s ++ fourB (sumOf s)).set i c).length = s.length + 4 := by simp [fourB_length]
  unfold unsealedV
  rw [hl, if_neg]
  rintro ⟨_, _, hf⟩
  rw [show s.length + 4 - 4 = s.length by omega] at hf
  by_cases hlt : i < s.length
  · rw [List.set_append_left _ _ hlt] at hf
    have e1 : (s.set i c ++ fourB (sumOf s)).drop s.length = fourB (sumOf s) := by
      have hz : (s.set i c).length = s.length := List.length_set
      rw [← hz, List.drop_left]
    have e2 : (s.set i c ++ fourB (sumOf s)).take s.length = s.set i c := by
      have hz : (s.set i c).length = s.length := List.length_set
      rw [← hz, List.take_left]
    rw [e1, e2] at hf
    have hs := fourB_inj _ _ (sumOf_lt _) (sumOf_lt _) hf
    have hsp : s = s.take i ++ s[i] :: s.drop (i + 1) := by simp
    have hsp2 : s.set i c = s.take i ++ c :: s.drop (i + 1) := List.set_eq_take_append_cons_drop .. ▸ by simp [hlt]
    rw [hsp2] at hs
    have hs2 : sumOf (s.take i ++ s[i] :: s.drop (i + 1)) = sumOf (s.take i ++ c :: s.drop (i + 1)) := by rw [← hsp]; exact hs
    have := sumOf_turn _ _ _ _ hs2
    apply hc
    rw [List.getElem_append_left hlt]
    exact this.symm
  · have hge : s.length ≤ i := by omega
    rw [List.set_append_right _ _ hge] at hf
    have e1 : (s ++ (fourB (sumOf s)).set (i - s.length) c).drop s.length = (fourB (sumOf s)).set (i - s.length) c := by simp
    have e2 : (s ++ (fourB (sumOf s)).set (i - s.length) c).take s.length = s := by simp
    rw [e1, e2] at hf
    apply hc
    rw [List.getElem_append_right hge]
    have hi4 : i - s.length < (fourB (sumOf s)).length := by simp at hi; omega
    have := congrArg (fun z => z[i - s.length]?) hf
    simp [hi4] at this
    exact this
end Go.Proofs.YtobejiekbeohdaaDoor.P2
