/- The plain mathematics of reading decimal figures: what they are worth, and when they are what Decimal writes; no condition. -/
import Derived.Test.YtknlhejpcjpeeaaDoorFigP
import Derived.Lib.ItoaLen
namespace Go.Proofs.YtknlhejpcjpeeaaDoor.P1

/-- What values in a row are worth. -/
def numF (F : List UInt8) : Nat := F.foldl (fun n v => 10 * n + v.toNat) 0

theorem numF_snoc (F : List UInt8) (v : UInt8) : numF (F ++ [v]) = 10 * numF F + v.toNat := by simp [numF]

theorem numF_lt (F : List UInt8) (h : ∀ v ∈ F, v.toNat < 10) : numF F < 10 ^ F.length := by
  suffices all : ∀ (n : Nat) (F : List UInt8), F.length = n → (∀ v ∈ F, v.toNat < 10) → numF F < 10 ^ n from all F.length F rfl h
  intro n
  induction n with
  | zero => intro F hF _; obtain rfl : F = [] := List.eq_nil_of_length_eq_zero hF; simp [numF]
  | succ n ih =>
    intro F hF hv
    have hne : F ≠ [] := by intro e; subst e; simp at hF
    have e := List.dropLast_concat_getLast hne
    rw [← e, numF_snoc]
    have h1 := ih F.dropLast (by simp [hF]) (fun v h => hv v ((List.dropLast_sublist F).subset h))
    have h2 := hv _ (List.getLast_mem hne)
    rw [Nat.pow_succ]; omega

/-- All of them are decimal figures. -/
def allD (l : List UInt8) : Prop := ∀ c ∈ l, 48 ≤ c.toNat ∧ c.toNat ≤ 57

theorem figs_full (l : List UInt8) (h : allD l) : figs 10 l = l.map fun c => UInt8.ofNat (c.toNat - 48) := by
  induction l with
  | nil => rfl
  | cons c r ih =>
    have hc := h c (by simp)
    have hv : figV 10 c.toNat = some (c.toNat - 48) := by simp [figV, hc]
    simp only [figs, hv, List.map_cons]
    rw [ih (fun x hx => h x (by simp [hx]))]

theorem allD_of_full (l : List UInt8) (h : (figs 10 l).length = l.length) : allD l := by
  induction l with
  | nil => intro c hc; cases hc
  | cons c r ih =>
    cases hv : figV 10 c.toNat with
    | none => simp [figs, hv] at h
    | some v =>
      have e : figs 10 (c :: r) = UInt8.ofNat v :: figs 10 r := by simp [figs, hv]
      rw [e] at h
      have hd : 48 ≤ c.toNat ∧ c.toNat ≤ 57 := by
        unfold figV at hv
        split at hv
        · assumption
        · simp at hv
      intro x hx
      rcases List.mem_cons.1 hx with rfl | hx
      · exact hd
      · exact ih (by simpa using h) x hx

theorem figs_small (l : List UInt8) : ∀ v ∈ figs 10 l, v.toNat < 10 := by
  induction l with
  | nil => intro v hv; simp [figs] at hv
  | cons c r ih =>
    intro v hv
    cases hc : figV 10 c.toNat with
    | none => simp [figs, hc] at hv
    | some x =>
      have e : figs 10 (c :: r) = UInt8.ofNat x :: figs 10 r := by simp [figs, hc]
      rw [e] at hv
      have hx : x < 10 := by
        unfold figV at hc
        split at hc
        · simp at hc; omega
        · simp at hc
      rcases List.mem_cons.1 hv with rfl | hv
      · rw [UInt8.toNat_ofNat']; omega
      · exact ih v hv

/-- What decimal figures are worth. -/
def num (l : List UInt8) : Nat := numF (figs 10 l)

theorem num_snoc (l : List UInt8) (c : UInt8) (h : allD (l ++ [c])) : num (l ++ [c]) = 10 * num l + (c.toNat - 48) := by
  have h1 : allD l := fun x hx => h x (by simp [hx])
  have hc := h c (by simp)
  unfold num
  rw [figs_full _ h, figs_full _ h1, List.map_append, List.map_cons, List.map_nil, numF_snoc, UInt8.toNat_ofNat']
  congr 1
  omega

theorem num_zero (l : List UInt8) (h : allD l) (hz : num l = 0) : ∀ c ∈ l, c.toNat = 48 := by
  suffices all : ∀ (n : Nat) (l : List UInt8), l.length = n → allD l → num l = 0 → ∀ c ∈ l, c.toNat = 48 from all l.length l rfl h hz
  intro n
  induction n with
  | zero => intro l hl _ _ c hc; obtain rfl : l = [] := List.eq_nil_of_length_eq_zero hl; cases hc
  | succ n ih =>
    intro l hl hd hz c hc
    have hne : l ≠ [] := by intro e; subst e; simp at hl
    have e := List.dropLast_concat_getLast hne
    rw [← e] at hd hz hc
    rw [num_snoc _ _ hd] at hz
    rcases List.mem_append.1 hc with h1 | h1
    · exact ih l.dropLast (by simp [hl]) (fun x hx => hd x (by simp [hx])) (by omega) c h1
    · have hl' := hd (l.getLast hne) (by simp)
      simp at h1
      subst h1
      omega

theorem digit_back (c : UInt8) (h : 48 ≤ c.toNat ∧ c.toNat ≤ 57) : UInt8.ofNat (48 + (c.toNat - 48)) = c := by
  apply UInt8.toNat_inj.1
  rw [UInt8.toNat_ofNat']
  omega

/-- Figures are what Decimal writes of their worth, unless there are none, or a nought is ahead of others. -/
theorem dec_num (n : Nat) : ∀ l : List UInt8, l.length = n → allD l → (Lib.decDigits (num l) = l ↔ l ≠ [] ∧ ¬ (l.head?.map (·.toNat) = some 48 ∧ 1 < l.length)) := by
  induction n with
  | zero =>
    intro l hl _
    obtain rfl : l = [] := List.eq_nil_of_length_eq_zero hl
    constructor
    · intro h
      have := congrArg List.length h
      rw [Lib.decDigits_length] at this
      have := Lib.nDigits_pos (num [])
      simp at *; omega
    · intro h; exact absurd rfl h.1
  | succ n ih =>
    intro l hl hd
    have hne : l ≠ [] := by intro e; subst e; simp at hl
    obtain ⟨r, c, rfl⟩ : ∃ r c, l = r ++ [c] := ⟨_, _, (List.dropLast_concat_getLast hne).symm⟩
    have hc := hd c (by simp)
    have hr : allD r := fun x hx => hd x (by simp [hx])
    have hrl : r.length = n := by simp at hl; exact hl
    rw [num_snoc _ _ hd]
    cases r with
    | nil =>
      have e0 : num [] = 0 := rfl
      rw [e0, Nat.mul_zero, Nat.zero_add, Lib.decDigits_one (by omega), digit_back c hc]
      simp
    | cons d r =>
      have hdd := hr d (by simp)
      have ih' := ih (d :: r) hrl hr
      by_cases hz : num (d :: r) = 0
      · have h48 := num_zero _ hr hz d (by simp)
        rw [hz, Nat.mul_zero, Nat.zero_add, Lib.decDigits_one (by omega)]
        constructor
        · intro h; have := congrArg List.length h; simp at this
        · intro h; exact absurd ⟨by simp [h48], by simp⟩ h.2
      · rw [Lib.decDigits, dif_neg (by omega), show (10 * num (d :: r) + (c.toNat - 48)) / 10 = num (d :: r) by omega, show (10 * num (d :: r) + (c.toNat - 48)) % 10 = c.toNat - 48 by omega, digit_back c hc, List.append_left_inj, ih']
        cases r with
        | nil =>
          have hn48 : d.toNat ≠ 48 := by
            intro h
            apply hz
            have := num_snoc [] d (by simpa using hr)
            have e0 : num [] = 0 := rfl
            simp only [List.nil_append] at this
            rw [this, e0, h]
          simp [hn48]
        | cons x r => simp

/-- What ReadDecimal answers. -/
def readDec (l : List UInt8) : Nat × Bool :=
  if l.length ≤ 10 ∧ (figs 10 l).length = l.length ∧ num l ≤ 1000000000 ∧ Lib.decDigits (num l) = l then (num l, true) else (0, false)

theorem readDec_no {l : List UInt8} (h : ¬ (l.length ≤ 10 ∧ (figs 10 l).length = l.length ∧ num l ≤ 1000000000 ∧ Lib.decDigits (num l) = l)) : readDec l = (0, false) := by simp only [readDec, if_neg h]
theorem readDec_yes {l : List UInt8} (h : l.length ≤ 10 ∧ (figs 10 l).length = l.length ∧ num l ≤ 1000000000 ∧ Lib.decDigits (num l) = l) : readDec l = (num l, true) := by simp only [readDec, if_pos h]
end Go.Proofs.YtknlhejpcjpeeaaDoor.P1
