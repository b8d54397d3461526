/- The plain mathematics of chapter 1's numbers in bytes: what VarText writes, as a list of bytes; no condition.
The plain mathematics of decimal figures: one figure after the other, from the last on; no condition.
The plain mathematics of reading a number: the bytes up to the first one below 128, at most five, what they are worth, and when they are what VarText writes; no condition. -/
import Derived.Below
import Derived.Lib.ItoaLen
namespace Go.Proofs.YteladljgnbfcnaaGreatDoor.P1

/-- The bytes of a number: its lowest seven bits and 128 as long as it is above 127, then itself; at most one byte more than the fuel. -/
def varB : Nat → Nat → List UInt8
  | 0, n => [UInt8.ofNat n]
  | f + 1, n => if 127 < n then UInt8.ofNat (n % 128 + 128) :: varB f (n / 128) else [UInt8.ofNat n]

/-- What fits into one byte more than the fuel. -/
def top : Nat → Nat
  | 0 => 128
  | f + 1 => 128 * top f

theorem varB_small (f n : Nat) (h : n ≤ 127) : varB f n = [UInt8.ofNat n] := by
  cases f with
  | zero => rfl
  | succ f => simp [varB, show ¬ 127 < n by omega]

theorem varB_great (f n : Nat) (h : 127 < n) : varB (f + 1) n = UInt8.ofNat (n % 128 + 128) :: varB f (n / 128) := by
  simp [varB, h]

theorem top_div (f n : Nat) (h : n < top (f + 1)) : n / 128 < top f := by
  simp only [top] at h; omega

/-- One step of the loop that writes: what was written so far, and what is left. -/
def Wrote (N : Nat) (pre : List UInt8) (m : Nat) : Prop := ∃ f, pre.length + f = 4 ∧ m < top f ∧ varB 4 N = pre ++ varB f m

theorem Wrote.start (N : Nat) (h : N < 34359738368) : Wrote N [] N := ⟨4, rfl, by simpa [top] using h, rfl⟩

theorem Wrote.next {N m : Nat} {pre : List UInt8} (h : Wrote N pre m) (hm : 127 < m) : Wrote N (pre ++ [UInt8.ofNat (m % 128 + 128)]) (m / 128) := by
  obtain ⟨f, hl, ht, hv⟩ := h
  cases f with
  | zero => simp [top] at ht; omega
  | succ f => exact ⟨f, by simp; omega, top_div f m ht, by rw [hv, varB_great f m hm]; simp⟩

theorem Wrote.last {N m : Nat} {pre : List UInt8} (h : Wrote N pre m) (hm : m ≤ 127) : varB 4 N = pre ++ [UInt8.ofNat m] := by
  obtain ⟨f, _, _, hv⟩ := h
  rw [hv, varB_small f m hm]

theorem Wrote.len {N m : Nat} {pre : List UInt8} (h : Wrote N pre m) : pre.length ≤ 4 := by
  obtain ⟨f, hl, _, _⟩ := h; omega

theorem Wrote.lt {N m : Nat} {pre : List UInt8} (h : Wrote N pre m) : m < 34359738368 := by
  obtain ⟨f, hl, ht, _⟩ := h
  match f, hl, ht with
  | 0, _, ht => simp [top] at ht; omega
  | 1, _, ht => simp [top] at ht; omega
  | 2, _, ht => simp [top] at ht; omega
  | 3, _, ht => simp [top] at ht; omega
  | 4, _, ht => simp [top] at ht; omega
  | f + 5, hl, _ => omega
end Go.Proofs.YteladljgnbfcnaaGreatDoor.P1
namespace Go.Proofs.YteladljgnbfcnaaGreatDoor.P1

/-- What is left of N, and the figures that were written behind it. -/
structure Dec (N : Int) (c : Int) (t : List UInt8) : Prop where
  more : c ≠ 0 → Lib.decDigits N.natAbs = Lib.decDigits c.natAbs ++ t
  none_ : c = 0 → Lib.decDigits N.natAbs = t
  low : N < 0 → c ≤ 0 ∧ N ≤ c
  high : 0 ≤ N → 0 ≤ c ∧ c ≤ N

theorem Dec.start (N : Int) (h : N ≠ 0) : Dec N N [] := ⟨fun _ => by simp, fun e => absurd e h, fun h => ⟨by omega, Int.le_refl _⟩, fun h => ⟨h, Int.le_refl _⟩⟩

theorem decDigits_step (m : Nat) (h : 0 < m) : Lib.decDigits m = (if m / 10 = 0 then [] else Lib.decDigits (m / 10)) ++ [UInt8.ofNat (48 + m % 10)] := by
  by_cases h10 : m < 10
  · rw [Lib.decDigits_one h10, if_pos (by omega), show m % 10 = m by omega]; rfl
  · rw [Lib.decDigits, dif_neg h10, if_neg (by omega)]

theorem Dec.next {N c c' : Int} {t : List UInt8} (s : Dec N c t) (hc : c ≠ 0) (habs : c'.natAbs = c.natAbs / 10) (hl : c < 0 → c' ≤ 0 ∧ c ≤ c') (hh : 0 < c → 0 ≤ c' ∧ c' ≤ c) :
    Dec N c' (UInt8.ofNat (48 + c.natAbs % 10) :: t) := by
  have hm := s.more hc
  have hst := decDigits_step c.natAbs (by omega)
  refine ⟨fun h => ?_, fun h => ?_, fun h => ?_, fun h => ?_⟩
  · rw [hm, hst, if_neg (by omega), habs]; simp
  · rw [hm, hst, if_pos (by omega)]; simp
  · have := s.low h; omega
  · have := s.high h; omega

theorem Dec.len {N c : Int} {t : List UInt8} (s : Dec N c t) (h0 : -9223372036854775808 ≤ N) (h1 : N ≤ 9223372036854775807) : t.length ≤ 20 := by
  have hn : (Lib.decDigits N.natAbs).length ≤ 20 := by rw [Lib.decDigits_length]; exact Lib.nDigits_le20 _ (by omega)
  by_cases hc : c = 0
  · rw [s.none_ hc] at hn; exact hn
  · rw [s.more hc, List.length_append] at hn; omega

end Go.Proofs.YteladljgnbfcnaaGreatDoor.P1
namespace Go.Proofs.YteladljgnbfcnaaGreatDoor.P1

/-- The bytes up to the first one that is at most 127, at most as many as the fuel. -/
def scan : Nat → List UInt8 → Option (List UInt8)
  | 0, _ => none
  | _ + 1, [] => none
  | f + 1, b :: r => if 127 < b.toNat then (scan f r).map (b :: ·) else some [b]

/-- What bytes are worth, seven bits each, the lowest first. -/
def val : List UInt8 → Nat
  | [] => 0
  | b :: r => b.toNat % 128 + 128 * val r

theorem val_snoc (l : List UInt8) (b : UInt8) : val (l ++ [b]) = val l + b.toNat % 128 * 128 ^ l.length := by
  induction l with
  | nil => simp [val]
  | cons c l ih =>
    simp only [List.cons_append, val, ih, List.length_cons, Nat.pow_succ]
    have : 128 * (val l + b.toNat % 128 * 128 ^ l.length) = 128 * val l + b.toNat % 128 * (128 ^ l.length * 128) := by
      rw [Nat.mul_add, Nat.mul_comm (128 ^ l.length) 128, Nat.mul_left_comm 128]
    omega

theorem val_lt (l : List UInt8) : val l < 128 ^ l.length := by
  induction l with
  | nil => simp [val]
  | cons c l ih => simp only [val, List.length_cons, Nat.pow_succ]; omega

theorem byte_back (c : UInt8) (h : 127 < c.toNat) : UInt8.ofNat (c.toNat % 128 + 128) = c := by
  have hc := c.toNat_lt
  apply UInt8.toNat_inj.1
  rw [UInt8.toNat_ofNat']
  omega

theorem byte_same (c : UInt8) : UInt8.ofNat c.toNat = c := by
  apply UInt8.toNat_inj.1
  rw [UInt8.toNat_ofNat']
  have := c.toNat_lt
  omega

/-- Bytes above 127 and a last one that is not are what VarText writes of their worth, unless the last one is a nought behind others. -/
theorem varB_val (f : Nat) : ∀ (cs : List UInt8) (b : UInt8), (∀ c ∈ cs, 127 < c.toNat) → b.toNat ≤ 127 → cs.length ≤ f →
    (varB f (val (cs ++ [b])) = cs ++ [b] ↔ ¬ (b.toNat = 0 ∧ cs ≠ [])) := by
  induction f with
  | zero =>
    intro cs b _ hb hl
    obtain rfl : cs = [] := List.eq_nil_of_length_eq_zero (by omega)
    have : val ([] ++ [b]) = b.toNat := by simp [val]; omega
    rw [this, varB_small _ _ hb, byte_same]
    simp
  | succ f ih =>
    intro cs b hc hb hl
    cases cs with
    | nil =>
      have : val ([] ++ [b]) = b.toNat := by simp [val]; omega
      rw [this, varB_small _ _ hb, byte_same]
      simp
    | cons c cs =>
      have hc1 : 127 < c.toNat := hc c (by simp)
      have ih' := ih cs b (fun x hx => hc x (by simp [hx])) hb (by simp at hl; omega)
      have hv : val (c :: cs ++ [b]) = c.toNat % 128 + 128 * val (cs ++ [b]) := rfl
      rw [hv]
      by_cases h0 : val (cs ++ [b]) = 0
      · have hb0 : b.toNat = 0 := by
          rw [val_snoc] at h0
          have hp : 0 < 128 ^ cs.length := Nat.pow_pos (by omega)
          have h1 : b.toNat % 128 * 128 ^ cs.length = 0 := by omega
          rcases Nat.mul_eq_zero.1 h1 with h2 | h2
          · omega
          · omega
        rw [h0, varB_small _ _ (by omega)]
        constructor
        · intro h; have := congrArg List.length h; simp at this
        · intro h; exact absurd ⟨hb0, by simp⟩ h
      · rw [varB_great _ _ (by omega)]
        have e1 : (c.toNat % 128 + 128 * val (cs ++ [b])) % 128 = c.toNat % 128 := by omega
        have e2 : (c.toNat % 128 + 128 * val (cs ++ [b])) / 128 = val (cs ++ [b]) := by omega
        rw [e1, e2, byte_back c hc1]
        simp only [List.cons_append, List.cons.injEq, true_and, ne_eq, reduceCtorEq, not_false_eq_true, and_true]
        rw [ih']
        cases cs with
        | nil => simp [val] at h0; simp; omega
        | cons d ds => simp

/-- What ReadVar answers: the number, the place behind it, whether there is one. -/
def readVar (l : List UInt8) (at_ : Int) : Nat × Nat × Bool :=
  if 0 ≤ at_ ∧ at_ ≤ l.length then
    match scan 5 (l.drop at_.toNat) with
    | none => (0, 0, false)
    | some bs => if val bs ≤ 1000000000 ∧ varB 4 (val bs) = bs then (val bs, at_.toNat + bs.length, true) else (0, 0, false)
  else (0, 0, false)

theorem readVar_out (l : List UInt8) (at_ : Int) (h : ¬ (0 ≤ at_ ∧ at_ ≤ l.length)) : readVar l at_ = (0, 0, false) := by
  simp only [readVar, if_neg h]

/-- So far: the bytes that were gone through, all above 127, and what is left. -/
structure Seen (l : List UInt8) (p : Nat) (pre : List UInt8) (f : Nat) : Prop where
  len : pre.length + f = 5
  high : ∀ c ∈ pre, 127 < c.toNat
  eq : scan 5 (l.drop p) = (scan f (l.drop (p + pre.length))).map (pre ++ ·)
  cut : pre = (l.drop p).take pre.length

theorem Seen.start (l : List UInt8) (p : Nat) : Seen l p [] 5 := ⟨rfl, by simp, by simp, rfl⟩

theorem drop_here (l : List UInt8) (i : Nat) (h : i < l.length) : l.drop i = l[i] :: l.drop (i + 1) := List.drop_eq_getElem_cons h

theorem Seen.next {l : List UInt8} {p : Nat} {pre : List UInt8} {f : Nat} (s : Seen l p pre (f + 1)) (h : p + pre.length < l.length) (hb : 127 < (l[p + pre.length]).toNat) :
    Seen l p (pre ++ [l[p + pre.length]]) f := by
  refine ⟨by have := s.len; simp; omega, ?_, ?_, ?_⟩
  · intro c hc
    rcases List.mem_append.1 hc with h1 | h1
    · exact s.high c h1
    · simp at h1; subst h1; exact hb
  · rw [s.eq, drop_here l _ h]
    simp only [scan, if_pos hb, Option.map_map, List.length_append, List.length_cons, List.length_nil]
    congr 1
    funext r
    simp
  · simp only [List.length_append, List.length_cons, List.length_nil, Nat.zero_add]
    rw [List.take_succ_eq_append_getElem (by simp; omega), ← s.cut]
    simp

theorem Seen.last {l : List UInt8} {p : Nat} {pre : List UInt8} {f : Nat} (s : Seen l p pre (f + 1)) (h : p + pre.length < l.length) (hb : (l[p + pre.length]).toNat ≤ 127) :
    scan 5 (l.drop p) = some (pre ++ [l[p + pre.length]]) ∧ pre ++ [l[p + pre.length]] = (l.drop p).take (pre.length + 1) := by
  constructor
  · rw [s.eq, drop_here l _ h]
    simp [scan, show ¬ 127 < (l[p + pre.length]).toNat by omega]
  · rw [List.take_succ_eq_append_getElem (by simp; omega), ← s.cut]
    simp

theorem Seen.ended {l : List UInt8} {p : Nat} {pre : List UInt8} {f : Nat} (s : Seen l p pre f) (h : l.length ≤ p + pre.length) : scan 5 (l.drop p) = none := by
  rw [s.eq, List.drop_of_length_le h]
  cases f <;> simp [scan]

theorem Seen.spent {l : List UInt8} {p : Nat} {pre : List UInt8} (s : Seen l p pre 0) : scan 5 (l.drop p) = none := by
  rw [s.eq]; simp [scan]

theorem readVar_none {l : List UInt8} {p : Nat} (hp : p ≤ l.length) (h : scan 5 (l.drop p) = none) : readVar l p = (0, 0, false) := by
  have hc : (0 : Int) ≤ (p : Int) ∧ (p : Int) ≤ l.length := by omega
  simp only [readVar, if_pos hc, Int.toNat_natCast, h]

theorem Seen.answer {l : List UInt8} {p : Nat} {pre : List UInt8} {f : Nat} (s : Seen l p pre (f + 1)) (h : p + pre.length < l.length) (hb : (l[p + pre.length]).toNat ≤ 127) :
    readVar l p = if val (pre ++ [l[p + pre.length]]) ≤ 1000000000 ∧ ¬ ((l[p + pre.length]).toNat = 0 ∧ pre ≠ []) then (val (pre ++ [l[p + pre.length]]), p + pre.length + 1, true) else (0, 0, false) := by
  have hc : (0 : Int) ≤ (p : Int) ∧ (p : Int) ≤ l.length := by omega
  have hs := (s.last h hb).1
  have hv := varB_val 4 pre l[p + pre.length] s.high hb (by have := s.len; omega)
  simp only [readVar, if_pos hc, Int.toNat_natCast, hs, hv]
  simp [Nat.add_assoc]

theorem Seen.answer_told {l : List UInt8} {p : Nat} {pre : List UInt8} {f : Nat} (s : Seen l p pre (f + 1)) (h : p + pre.length < l.length) (hb : (l[p + pre.length]).toNat ≤ 127) :
    readVar l p = if val (pre ++ [l[p + pre.length]]) ≤ 1000000000 ∧ varB 4 (val (pre ++ [l[p + pre.length]])) = pre ++ [l[p + pre.length]] then (val (pre ++ [l[p + pre.length]]), p + pre.length + 1, true) else (0, 0, false) := by
  have hc : (0 : Int) ≤ (p : Int) ∧ (p : Int) ≤ l.length := by omega
  have hs := (s.last h hb).1
  simp only [readVar, if_pos hc, Int.toNat_natCast, hs]
  simp [Nat.add_assoc]
end Go.Proofs.YteladljgnbfcnaaGreatDoor.P1
