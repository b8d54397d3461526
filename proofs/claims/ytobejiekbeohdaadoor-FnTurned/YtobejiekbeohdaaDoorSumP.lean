/- The plain mathematics of chapter 2's sums: one byte's eight halvings are two looks into a table of sixteen; no condition. -/
import Derived.Below
namespace Go.Proofs.YtobejiekbeohdaaDoor.P2

/-- One halving. -/
def half (x : Nat) : Nat := if x % 2 = 1 then (x / 2) ^^^ 3558460437 else x / 2

def halfs : Nat → Nat → Nat
  | 0, x => x
  | k + 1, x => halfs k (half x)

/-- One byte more. -/
def sum1 (x : Nat) (b : UInt8) : Nat := halfs 8 (x ^^^ b.toNat)

def sumL (x : Nat) (l : List UInt8) : Nat := l.foldl sum1 x

/-- The table of what four halvings leave of the lowest four bits. -/
def tab : List Nat := [0, 1166650509, 2333301018, 3466261911, 3189058079, 4221339282, 889615109, 1888477064, 3558460437, 2442158232, 1594529039, 444807554, 1779230218, 797264519, 3776954128, 2761298845]

theorem sumL_snoc (x : Nat) (l : List UInt8) (b : UInt8) : sumL x (l ++ [b]) = sum1 (sumL x l) b := by simp [sumL]

theorem sumL_append (x : Nat) (l m : List UInt8) : sumL x (l ++ m) = sumL (sumL x l) m := by simp [sumL]

theorem xor_lt (a b : Nat) (ha : a < 4294967296) (hb : b < 4294967296) : a ^^^ b < 4294967296 := Nat.xor_lt_two_pow (n := 32) ha hb

theorem half_lt (x : Nat) (h : x < 4294967296) : half x < 4294967296 := by
  unfold half
  split
  · exact xor_lt _ _ (by omega) (by decide)
  · omega

theorem halfs_lt (k : Nat) : ∀ x, x < 4294967296 → halfs k x < 4294967296 := by
  induction k with
  | zero => intro x h; exact h
  | succ k ih => intro x h; exact ih _ (half_lt x h)

theorem sum1_lt (x : Nat) (b : UInt8) (h : x < 4294967296) : sum1 x b < 4294967296 :=
  halfs_lt 8 _ (xor_lt _ _ h (by have := b.toNat_lt; omega))

theorem sumL_lt (l : List UInt8) : ∀ x, x < 4294967296 → sumL x l < 4294967296 := by
  induction l with
  | nil => intro x h; exact h
  | cons b l ih => intro x h; exact ih _ (sum1_lt x b h)

theorem xor_mod_two (a b : Nat) : (a ^^^ b) % 2 = (a % 2 + b % 2) % 2 := by
  have h := Nat.testBit_xor a b 0
  simp only [Nat.testBit_zero] at h
  have ha : a % 2 = 0 ∨ a % 2 = 1 := by omega
  have hb : b % 2 = 0 ∨ b % 2 = 1 := by omega
  have hc : (a ^^^ b) % 2 = 0 ∨ (a ^^^ b) % 2 = 1 := by omega
  rcases ha with ha | ha <;> rcases hb with hb | hb <;> rcases hc with hc | hc <;> simp [ha, hb, hc] at h ⊢

theorem xor_div_two (a b : Nat) : (a ^^^ b) / 2 = a / 2 ^^^ b / 2 := by
  apply Nat.eq_of_testBit_eq
  intro i
  simp [Nat.testBit_div_two, Nat.testBit_xor]

/-- Halving keeps exclusive-or. -/
theorem half_xor (a b : Nat) : half (a ^^^ b) = half a ^^^ half b := by
  have hm := xor_mod_two a b
  have ha : a % 2 = 0 ∨ a % 2 = 1 := by omega
  have hb : b % 2 = 0 ∨ b % 2 = 1 := by omega
  unfold half
  rw [xor_div_two]
  rcases ha with ha | ha <;> rcases hb with hb | hb <;> simp [ha, hb] at hm <;> simp [ha, hb, hm]
  · rw [Nat.xor_assoc]
  · rw [Nat.xor_assoc, Nat.xor_assoc, Nat.xor_comm (b / 2)]
  · rw [Nat.xor_assoc, ← Nat.xor_assoc 3558460437, Nat.xor_comm 3558460437 (b / 2), Nat.xor_assoc, Nat.xor_self, Nat.xor_zero]

theorem halfs_xor (k : Nat) : ∀ a b, halfs k (a ^^^ b) = halfs k a ^^^ halfs k b := by
  induction k with
  | zero => intro a b; rfl
  | succ k ih => intro a b; simp only [halfs]; rw [half_xor, ih]

theorem half_double (x : Nat) : half (2 * x) = x := by
  unfold half
  rw [if_neg (by omega)]
  omega

theorem halfs_four (x : Nat) : halfs 4 (16 * x) = x := by
  have e : 16 * x = 2 * (2 * (2 * (2 * x))) := by omega
  rw [e]
  simp only [halfs, half_double]

theorem split16 (x : Nat) : x = 16 * (x / 16) ^^^ x % 16 := by
  have h := Nat.two_pow_add_eq_or_of_lt (i := 4) (b := x % 16) (by omega) (x / 16)
  have e : (2 ^ 4 * (x / 16) ||| x % 16) = (2 ^ 4 * (x / 16) ^^^ x % 16) := by
    apply Nat.eq_of_testBit_eq
    intro i
    rw [Nat.testBit_or, Nat.testBit_xor]
    have hand : (2 ^ 4 * (x / 16)).testBit i = true → (x % 16).testBit i = false := by
      intro h1
      rw [Nat.testBit_two_pow_mul] at h1
      simp at h1
      apply Nat.testBit_lt_two_pow
      have : 2 ^ 4 ≤ 2 ^ i := Nat.pow_le_pow_right (by decide) h1.1
      omega
    cases h1 : (2 ^ 4 * (x / 16)).testBit i
    · simp
    · simp [hand h1]
  rw [e] at h
  have e2 : (2 : Nat) ^ 4 = 16 := rfl
  rw [e2] at h
  omega

theorem tab_halfs (r : Nat) (h : r < 16) : halfs 4 r = tab.getD r 0 := by
  have : ∀ r : Fin 16, halfs 4 r.val = tab.getD r.val 0 := by decide +kernel
  exact this ⟨r, h⟩

/-- Four halvings by the table. -/
theorem four (x : Nat) : halfs 4 x = x / 16 ^^^ tab.getD (x % 16) 0 := by
  have h := halfs_xor 4 (16 * (x / 16)) (x % 16)
  rw [← split16 x, halfs_four] at h
  rw [h, tab_halfs (x % 16) (by omega)]

theorem halfs_add (j k : Nat) : ∀ x, halfs (j + k) x = halfs k (halfs j x) := by
  induction j with
  | zero => intro x; simp [halfs]
  | succ j ih => intro x; rw [Nat.succ_add]; exact ih _

theorem eight (x : Nat) : halfs 8 x = halfs 4 (halfs 4 x) := halfs_add 4 4 x

theorem halfs_last (k x : Nat) : halfs (k + 1) x = half (halfs k x) := halfs_add k 1 x

theorem tab_lt (r : Nat) (h : r < 16) : tab.getD r 0 < 4294967296 := by
  rw [← tab_halfs r h]
  exact halfs_lt 4 r (by omega)
end Go.Proofs.YtobejiekbeohdaaDoor.P2
