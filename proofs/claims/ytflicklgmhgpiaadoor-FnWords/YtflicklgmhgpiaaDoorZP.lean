/- SHA-256 as plain mathematics on numbers below 2^32: the words of a block, the rounds, a digest; what is known of it; no condition.
The plain mathematics of chapter 1's numbers in bytes: what VarText writes, as a list of bytes; no condition.
The plain mathematics of figures: two for each byte, and back; no condition.
The plain mathematics of reading a number: the bytes up to the first one below 128, at most five, what they are worth, and when they are what VarText writes; no condition.
Chapter 5 as plain mathematics: roles, words about circles, their texts; no condition.
Chapter 5 as plain mathematics: ten numbers read in a row, and the word that they are; no condition.
Chapter 5 as plain mathematics: what was read in a row is what the text begins with; another way to tell whether it is a word's text; no condition. -/
import Derived.Below
namespace Go.Proofs.YtflicklgmhgpiaaDoor.P3

/-- 2^32. -/
def M : Nat := 4294967296

/-- A word turned by n. -/
def rot (n x : Nat) : Nat := x / 2 ^ n ||| x * 2 ^ (32 - n) % 4294967296

def add (a b : Nat) : Nat := (a + b) % 4294967296

def sig0 (x : Nat) : Nat := rot 7 x ^^^ rot 18 x ^^^ x / 8
def sig1 (x : Nat) : Nat := rot 17 x ^^^ rot 19 x ^^^ x / 1024
def Sig1 (x : Nat) : Nat := rot 6 x ^^^ rot 11 x ^^^ rot 25 x
def Sig0 (x : Nat) : Nat := rot 2 x ^^^ rot 13 x ^^^ rot 22 x
def ch (e f g : Nat) : Nat := e &&& f ^^^ (e ^^^ 4294967295) &&& g
def maj (a b c : Nat) : Nat := a &&& b ^^^ a &&& c ^^^ b &&& c

/-- The numbers of the rounds. -/
def keys : List Nat := [0x428a2f98, 0x71374491, 0xb5c0fbcf, 0xe9b5dba5, 0x3956c25b, 0x59f111f1, 0x923f82a4, 0xab1c5ed5, 0xd807aa98, 0x12835b01, 0x243185be, 0x550c7dc3, 0x72be5d74, 0x80deb1fe, 0x9bdc06a7, 0xc19bf174, 0xe49b69c1, 0xefbe4786, 0x0fc19dc6, 0x240ca1cc, 0x2de92c6f, 0x4a7484aa, 0x5cb0a9dc, 0x76f988da, 0x983e5152, 0xa831c66d, 0xb00327c8, 0xbf597fc7, 0xc6e00bf3, 0xd5a79147, 0x06ca6351, 0x14292967, 0x27b70a85, 0x2e1b2138, 0x4d2c6dfc, 0x53380d13, 0x650a7354, 0x766a0abb, 0x81c2c92e, 0x92722c85, 0xa2bfe8a1, 0xa81a664b, 0xc24b8b70, 0xc76c51a3, 0xd192e819, 0xd6990624, 0xf40e3585, 0x106aa070, 0x19a4c116, 0x1e376c08, 0x2748774c, 0x34b0bcb5, 0x391c0cb3, 0x4ed8aa4a, 0x5b9cca4f, 0x682e6ff3, 0x748f82ee, 0x78a5636f, 0x84c87814, 0x8cc70208, 0x90befffa, 0xa4506ceb, 0xbef9a3f7, 0xc67178f2]

/-- Where it begins. -/
def first : List Nat := [0x6a09e667, 0xbb67ae85, 0x3c6ef372, 0xa54ff53a, 0x510e527f, 0x9b05688c, 0x1f83d9ab, 0x5be0cd19]

/-- The i-th word of a block of 64 bytes. -/
def word (b : List UInt8) (i : Nat) : Nat := (b.getD (4 * i) 0).toNat * 16777216 + (b.getD (4 * i + 1) 0).toNat * 65536 + (b.getD (4 * i + 2) 0).toNat * 256 + (b.getD (4 * i + 3) 0).toNat

/-- The first sixteen words. -/
def words16 (b : List UInt8) : List Nat := (List.range 16).map (word b)

/-- The next word of a schedule. -/
def nextW (w : List Nat) : Nat :=
  let i := w.length
  add (add (add (w.getD (i - 16) 0) (sig0 (w.getD (i - 15) 0))) (w.getD (i - 7) 0)) (sig1 (w.getD (i - 2) 0))

def more : Nat → List Nat → List Nat
  | 0, w => w
  | k + 1, w => more k w ++ [nextW (more k w)]

/-- All sixty-four. -/
def sched (b : List UInt8) : List Nat := more 48 (words16 b)

/-- A state: eight numbers. -/
structure St where
  a : Nat
  b : Nat
  c : Nat
  d : Nat
  e : Nat
  f : Nat
  g : Nat
  h : Nat

/-- One round. -/
def round1 (s : St) (k w : Nat) : St :=
  let one := add (add (add (add s.h (Sig1 s.e)) (ch s.e s.f s.g)) k) w
  let two := add (Sig0 s.a) (maj s.a s.b s.c)
  ⟨add one two, s.a, s.b, s.c, add s.d one, s.e, s.f, s.g⟩

def roundsN (ks ws : List Nat) : Nat → St → St
  | 0, s => s
  | n + 1, s => let s' := roundsN ks ws n s; round1 s' (ks.getD n 0) (ws.getD n 0)

def St.plus (s t : St) : St := ⟨add s.a t.a, add s.b t.b, add s.c t.c, add s.d t.d, add s.e t.e, add s.f t.f, add s.g t.g, add s.h t.h⟩

/-- One block. -/
def block (s : St) (b : List UInt8) : St := s.plus (roundsN keys (sched b) 64 s)

def St.list (s : St) : List Nat := [s.a, s.b, s.c, s.d, s.e, s.f, s.g, s.h]

def start : St := ⟨0x6a09e667, 0xbb67ae85, 0x3c6ef372, 0xa54ff53a, 0x510e527f, 0x9b05688c, 0x1f83d9ab, 0x5be0cd19⟩

/-- The eight bytes of a length in bits. -/
def lenB (n : Nat) : List UInt8 := [UInt8.ofNat (n / 72057594037927936 % 256), UInt8.ofNat (n / 281474976710656 % 256), UInt8.ofNat (n / 1099511627776 % 256), UInt8.ofNat (n / 4294967296 % 256), UInt8.ofNat (n / 16777216 % 256), UInt8.ofNat (n / 65536 % 256), UInt8.ofNat (n / 256 % 256), UInt8.ofNat (n % 256)]

/-- How many bytes 0. -/
def zeros (n : Nat) : Nat := (119 - n % 64) % 64

def pad (l : List UInt8) : List UInt8 := l ++ 128 :: List.replicate (zeros l.length) 0 ++ lenB (8 * l.length)

/-- The state behind k blocks. -/
def bl (p : List UInt8) : Nat → St
  | 0 => start
  | k + 1 => block (bl p k) ((p.drop (64 * k)).take 64)

def four (x : Nat) : List UInt8 := [UInt8.ofNat (x / 16777216), UInt8.ofNat (x / 65536 % 256), UInt8.ofNat (x / 256 % 256), UInt8.ofNat (x % 256)]

def digest (l : List UInt8) : List UInt8 := (bl (pad l) ((pad l).length / 64)).list.flatMap four

theorem more_length (k : Nat) (w : List Nat) : (more k w).length = w.length + k := by
  induction k with
  | zero => rfl
  | succ k ih => simp [more, ih]; omega

theorem more_getD (k : Nat) (w : List Nat) (j : Nat) (hj : j < w.length + k) (n : Nat) (hkn : k ≤ n) : (more n w).getD j 0 = (more k w).getD j 0 := by
  induction n with
  | zero => obtain rfl : k = 0 := by omega
            rfl
  | succ n ih =>
    by_cases h : k = n + 1
    · rw [h]
    · rw [← ih (by omega)]
      have hl := more_length n w
      simp only [more, List.getD_eq_getElem?_getD]
      rw [List.getElem?_append_left (by omega)]

theorem sched_first (b : List UInt8) (j : Nat) (hj : j < 16) : (sched b).getD j 0 = word b j := by
  have hw : (words16 b).length = 16 := by simp [words16]
  unfold sched
  rw [more_getD 0 (words16 b) j (by omega) 48 (by omega)]
  simp [more, words16, List.getD_eq_getElem?_getD, hj]

/-- The word behind sixteen others. -/
theorem sched_next (b : List UInt8) (m : Nat) (hm : m < 48) : (sched b).getD (m + 16) 0 = add (add (add ((sched b).getD m 0) (sig0 ((sched b).getD (m + 1) 0))) ((sched b).getD (m + 9) 0)) (sig1 ((sched b).getD (m + 14) 0)) := by
  have hw : (words16 b).length = 16 := by simp [words16]
  have hl := more_length m (words16 b)
  unfold sched
  rw [more_getD (m + 1) (words16 b) (m + 16) (by omega) 48 (by omega)]
  rw [more_getD m (words16 b) m (by omega) 48 (by omega), more_getD m (words16 b) (m + 1) (by omega) 48 (by omega), more_getD m (words16 b) (m + 9) (by omega) 48 (by omega), more_getD m (words16 b) (m + 14) (by omega) 48 (by omega)]
  have e : (more (m + 1) (words16 b)).getD (m + 16) 0 = nextW (more m (words16 b)) := by
    simp only [more, List.getD_eq_getElem?_getD]
    rw [List.getElem?_append_right (by omega)]
    simp [show m + 16 - (more m (words16 b)).length = 0 by omega]
  rw [e]
  unfold nextW
  rw [hl, hw]
  dsimp only
  rw [show 16 + m - 16 = m by omega, show 16 + m - 15 = m + 1 by omega, show 16 + m - 7 = m + 9 by omega, show 16 + m - 2 = m + 14 by omega]

theorem add_lt (a b : Nat) : add a b < 4294967296 := Nat.mod_lt _ (by decide)

theorem word_lt (b : List UInt8) (i : Nat) : word b i < 4294967296 := by
  have h0 := (b.getD (4 * i) 0).toNat_lt
  have h1 := (b.getD (4 * i + 1) 0).toNat_lt
  have h2 := (b.getD (4 * i + 2) 0).toNat_lt
  have h3 := (b.getD (4 * i + 3) 0).toNat_lt
  unfold word
  omega

theorem sched_lt (b : List UInt8) (j : Nat) (hj : j < 64) : (sched b).getD j 0 < 4294967296 := by
  by_cases h : j < 16
  · rw [sched_first b j h]; exact word_lt b j
  · rw [show j = (j - 16) + 16 by omega, sched_next b (j - 16) (by omega)]; exact add_lt _ _

theorem add4 (a b c d : Nat) : add (add (add a b) c) d = (a + b + c + d) % 4294967296 := by unfold add; omega

theorem add5 (a b c d e : Nat) : add (add (add (add a b) c) d) e = (a + b + c + d + e) % 4294967296 := by unfold add; omega

/-- All eight are below 2^32. -/
def St.ok (s : St) : Prop := s.a < 4294967296 ∧ s.b < 4294967296 ∧ s.c < 4294967296 ∧ s.d < 4294967296 ∧ s.e < 4294967296 ∧ s.f < 4294967296 ∧ s.g < 4294967296 ∧ s.h < 4294967296

theorem round1_ok (s : St) (k w : Nat) (h : s.ok) : (round1 s k w).ok := by
  obtain ⟨h1, h2, h3, h4, h5, h6, h7, h8⟩ := h
  exact ⟨add_lt _ _, h1, h2, h3, add_lt _ _, h5, h6, h7⟩

theorem roundsN_ok (ks ws : List Nat) (n : Nat) (s : St) (h : s.ok) : (roundsN ks ws n s).ok := by
  induction n with
  | zero => exact h
  | succ n ih => exact round1_ok _ _ _ ih

theorem plus_ok (s t : St) : (s.plus t).ok := ⟨add_lt _ _, add_lt _ _, add_lt _ _, add_lt _ _, add_lt _ _, add_lt _ _, add_lt _ _, add_lt _ _⟩

theorem roundsN_congr (ks ws vs : List Nat) (n : Nat) (s : St) (h : ∀ j, j < n → ws.getD j 0 = vs.getD j 0) : roundsN ks ws n s = roundsN ks vs n s := by
  induction n with
  | zero => rfl
  | succ n ih => simp only [roundsN]; rw [ih (fun j hj => h j (by omega)), h n (by omega)]

theorem pad_length (l : List UInt8) : (pad l).length = l.length + 9 + zeros l.length := by
  simp [pad, lenB]; omega

theorem pad_mod (l : List UInt8) : (pad l).length % 64 = 0 := by
  rw [pad_length]; unfold zeros; omega

theorem known0 : digest [] = [0xe3, 0xb0, 0xc4, 0x42, 0x98, 0xfc, 0x1c, 0x14, 0x9a, 0xfb, 0xf4, 0xc8, 0x99, 0x6f, 0xb9, 0x24, 0x27, 0xae, 0x41, 0xe4, 0x64, 0x9b, 0x93, 0x4c, 0xa4, 0x95, 0x99, 0x1b, 0x78, 0x52, 0xb8, 0x55] := by decide +kernel
theorem known1 : digest [97, 98, 99] = [0xba, 0x78, 0x16, 0xbf, 0x8f, 0x01, 0xcf, 0xea, 0x41, 0x41, 0x40, 0xde, 0x5d, 0xae, 0x22, 0x23, 0xb0, 0x03, 0x61, 0xa3, 0x96, 0x17, 0x7a, 0x9c, 0xb4, 0x10, 0xff, 0x61, 0xf2, 0x00, 0x15, 0xad] := by decide +kernel
end Go.Proofs.YtflicklgmhgpiaaDoor.P3
namespace Go.Proofs.YtflicklgmhgpiaaDoor.P1

/-- The bytes of a number: its lowest seven bits and 128 as long as it is above 127, then itself; at most one byte more than the fuel. -/
def varB : Nat → Nat → List UInt8
  | 0, n => [UInt8.ofNat n]
  | f + 1, n => if 127 < n then UInt8.ofNat (n % 128 + 128) :: varB f (n / 128) else [UInt8.ofNat n]

/-- What fits into one byte more than the fuel. -/
def top : Nat → Nat
  | 0 => 128
  | f + 1 => 128 * top f

theorem varB_small (f n : Nat) (h : n ≤ 127) : varB f n = [UInt8.ofNat n] := by
  cases f with
  | zero => rfl
  | succ f => simp [varB, show ¬ 127 < n by omega]

theorem varB_great (f n : Nat) (h : 127 < n) : varB (f + 1) n = UInt8.ofNat (n % 128 + 128) :: varB f (n / 128) := by
  simp [varB, h]

theorem top_div (f n : Nat) (h : n < top (f + 1)) : n / 128 < top f := by
  simp only [top] at h; omega

theorem varB_length (f : Nat) : ∀ n, 1 ≤ (varB f n).length ∧ (varB f n).length ≤ f + 1 := by
  induction f with
  | zero => intro n; simp [varB]
  | succ f ih =>
    intro n
    by_cases h : 127 < n
    · rw [varB_great f n h]; have := ih (n / 128); simp; omega
    · rw [varB_small _ _ (by omega)]; simp

/-- One step of the loop that writes: what was written so far, and what is left. -/
def Wrote (N : Nat) (pre : List UInt8) (m : Nat) : Prop := ∃ f, pre.length + f = 4 ∧ m < top f ∧ varB 4 N = pre ++ varB f m

theorem Wrote.start (N : Nat) (h : N < 34359738368) : Wrote N [] N := ⟨4, rfl, by simpa [top] using h, rfl⟩

theorem Wrote.next {N m : Nat} {pre : List UInt8} (h : Wrote N pre m) (hm : 127 < m) : Wrote N (pre ++ [UInt8.ofNat (m % 128 + 128)]) (m / 128) := by
  obtain ⟨f, hl, ht, hv⟩ := h
  cases f with
  | zero => simp [top] at ht; omega
  | succ f => exact ⟨f, by simp; omega, top_div f m ht, by rw [hv, varB_great f m hm]; simp⟩

theorem Wrote.last {N m : Nat} {pre : List UInt8} (h : Wrote N pre m) (hm : m ≤ 127) : varB 4 N = pre ++ [UInt8.ofNat m] := by
  obtain ⟨f, _, _, hv⟩ := h
  rw [hv, varB_small f m hm]

theorem Wrote.len {N m : Nat} {pre : List UInt8} (h : Wrote N pre m) : pre.length ≤ 4 := by
  obtain ⟨f, hl, _, _⟩ := h; omega

theorem Wrote.lt {N m : Nat} {pre : List UInt8} (h : Wrote N pre m) : m < 34359738368 := by
  obtain ⟨f, hl, ht, _⟩ := h
  match f, hl, ht with
  | 0, _, ht => simp [top] at ht; omega
  | 1, _, ht => simp [top] at ht; omega
  | 2, _, ht => simp [top] at ht; omega
  | 3, _, ht => simp [top] at ht; omega
  | 4, _, ht => simp [top] at ht; omega
  | f + 5, hl, _ => omega
end Go.Proofs.YtflicklgmhgpiaaDoor.P1
namespace Go.Proofs.YtflicklgmhgpiaaDoor.P1

/-- The figure of a number below 16. -/
def fig (x : Nat) : Nat := if x < 10 then 48 + x else 87 + x

theorem fig_lt (x : Nat) (h : x < 16) : fig x < 256 := by unfold fig; split <;> omega

/-- Two figures for each byte. -/
def hexB : List UInt8 → List UInt8
  | [] => []
  | b :: r => UInt8.ofNat (fig (b.toNat / 16)) :: UInt8.ofNat (fig (b.toNat % 16)) :: hexB r

theorem hexB_append (l m : List UInt8) : hexB (l ++ m) = hexB l ++ hexB m := by
  induction l with
  | nil => rfl
  | cons b r ih => simp [hexB, ih]

theorem hexB_length (l : List UInt8) : (hexB l).length = 2 * l.length := by
  induction l with
  | nil => rfl
  | cons b r ih => simp [hexB, ih]; omega

theorem hexB_take (l : List UInt8) (k : Nat) (h : k < l.length) :
    hexB (l.take (k + 1)) = hexB (l.take k) ++ [UInt8.ofNat (fig (l[k].toNat / 16)), UInt8.ofNat (fig (l[k].toNat % 16))] := by
  rw [List.take_succ_eq_append_getElem h, hexB_append]; rfl
end Go.Proofs.YtflicklgmhgpiaaDoor.P1
namespace Go.Proofs.YtflicklgmhgpiaaDoor.P1

/-- The bytes up to the first one that is at most 127, at most as many as the fuel. -/
def scan : Nat → List UInt8 → Option (List UInt8)
  | 0, _ => none
  | _ + 1, [] => none
  | f + 1, b :: r => if 127 < b.toNat then (scan f r).map (b :: ·) else some [b]

/-- What bytes are worth, seven bits each, the lowest first. -/
def val : List UInt8 → Nat
  | [] => 0
  | b :: r => b.toNat % 128 + 128 * val r

theorem val_snoc (l : List UInt8) (b : UInt8) : val (l ++ [b]) = val l + b.toNat % 128 * 128 ^ l.length := by
  induction l with
  | nil => simp [val]
  | cons c l ih =>
    simp only [List.cons_append, val, ih, List.length_cons, Nat.pow_succ]
    have : 128 * (val l + b.toNat % 128 * 128 ^ l.length) = 128 * val l + b.toNat % 128 * (128 ^ l.length * 128) := by
      rw [Nat.mul_add, Nat.mul_comm (128 ^ l.length) 128, Nat.mul_left_comm 128]
    omega

theorem val_lt (l : List UInt8) : val l < 128 ^ l.length := by
  induction l with
  | nil => simp [val]
  | cons c l ih => simp only [val, List.length_cons, Nat.pow_succ]; omega

theorem byte_back (c : UInt8) (h : 127 < c.toNat) : UInt8.ofNat (c.toNat % 128 + 128) = c := by
  have hc := c.toNat_lt
  apply UInt8.toNat_inj.1
  rw [UInt8.toNat_ofNat']
  omega

theorem byte_same (c : UInt8) : UInt8.ofNat c.toNat = c := by
  apply UInt8.toNat_inj.1
  rw [UInt8.toNat_ofNat']
  have := c.toNat_lt
  omega

/-- Bytes above 127 and a last one that is not are what VarText writes of their worth, unless the last one is a nought behind others. -/
theorem varB_val (f : Nat) : ∀ (cs : List UInt8) (b : UInt8), (∀ c ∈ cs, 127 < c.toNat) → b.toNat ≤ 127 → cs.length ≤ f →
    (varB f (val (cs ++ [b])) = cs ++ [b] ↔ ¬ (b.toNat = 0 ∧ cs ≠ [])) := by
  induction f with
  | zero =>
    intro cs b _ hb hl
    obtain rfl : cs = [] := List.eq_nil_of_length_eq_zero (by omega)
    have : val ([] ++ [b]) = b.toNat := by simp [val]; omega
    rw [this, varB_small _ _ hb, byte_same]
    simp
  | succ f ih =>
    intro cs b hc hb hl
    cases cs with
    | nil =>
      have : val ([] ++ [b]) = b.toNat := by simp [val]; omega
      rw [this, varB_small _ _ hb, byte_same]
      simp
    | cons c cs =>
      have hc1 : 127 < c.toNat := hc c (by simp)
      have ih' := ih cs b (fun x hx => hc x (by simp [hx])) hb (by simp at hl; omega)
      have hv : val (c :: cs ++ [b]) = c.toNat % 128 + 128 * val (cs ++ [b]) := rfl
      rw [hv]
      by_cases h0 : val (cs ++ [b]) = 0
      · have hb0 : b.toNat = 0 := by
          rw [val_snoc] at h0
          have hp : 0 < 128 ^ cs.length := Nat.pow_pos (by omega)
          have h1 : b.toNat % 128 * 128 ^ cs.length = 0 := by omega
          rcases Nat.mul_eq_zero.1 h1 with h2 | h2
          · omega
          · omega
        rw [h0, varB_small _ _ (by omega)]
        constructor
        · intro h; have := congrArg List.length h; simp at this
        · intro h; exact absurd ⟨hb0, by simp⟩ h
      · rw [varB_great _ _ (by omega)]
        have e1 : (c.toNat % 128 + 128 * val (cs ++ [b])) % 128 = c.toNat % 128 := by omega
        have e2 : (c.toNat % 128 + 128 * val (cs ++ [b])) / 128 = val (cs ++ [b]) := by omega
        rw [e1, e2, byte_back c hc1]
        simp only [List.cons_append, List.cons.injEq, true_and, ne_eq, reduceCtorEq, not_false_eq_true, and_true]
        rw [ih']
        cases cs with
        | nil => simp [val] at h0; simp; omega
        | cons d ds => simp

/-- What ReadVar answers: the number, the place behind it, whether there is one. -/
def readVar (l : List UInt8) (at_ : Int) : Nat × Nat × Bool :=
  if 0 ≤ at_ ∧ at_ ≤ l.length then
    match scan 5 (l.drop at_.toNat) with
    | none => (0, 0, false)
    | some bs => if val bs ≤ 1000000000 ∧ varB 4 (val bs) = bs then (val bs, at_.toNat + bs.length, true) else (0, 0, false)
  else (0, 0, false)

theorem readVar_out (l : List UInt8) (at_ : Int) (h : ¬ (0 ≤ at_ ∧ at_ ≤ l.length)) : readVar l at_ = (0, 0, false) := by
  simp only [readVar, if_neg h]

/-- So far: the bytes that were gone through, all above 127, and what is left. -/
structure Seen (l : List UInt8) (p : Nat) (pre : List UInt8) (f : Nat) : Prop where
  len : pre.length + f = 5
  high : ∀ c ∈ pre, 127 < c.toNat
  eq : scan 5 (l.drop p) = (scan f (l.drop (p + pre.length))).map (pre ++ ·)
  cut : pre = (l.drop p).take pre.length

theorem Seen.start (l : List UInt8) (p : Nat) : Seen l p [] 5 := ⟨rfl, by simp, by simp, rfl⟩

theorem drop_here (l : List UInt8) (i : Nat) (h : i < l.length) : l.drop i = l[i] :: l.drop (i + 1) := List.drop_eq_getElem_cons h

theorem Seen.next {l : List UInt8} {p : Nat} {pre : List UInt8} {f : Nat} (s : Seen l p pre (f + 1)) (h : p + pre.length < l.length) (hb : 127 < (l[p + pre.length]).toNat) :
    Seen l p (pre ++ [l[p + pre.length]]) f := by
  refine ⟨by have := s.len; simp; omega, ?_, ?_, ?_⟩
  · intro c hc
    rcases List.mem_append.1 hc with h1 | h1
    · exact s.high c h1
    · simp at h1; subst h1; exact hb
  · rw [s.eq, drop_here l _ h]
    simp only [scan, if_pos hb, Option.map_map, List.length_append, List.length_cons, List.length_nil]
    congr 1
    funext r
    simp
  · simp only [List.length_append, List.length_cons, List.length_nil, Nat.zero_add]
    rw [List.take_succ_eq_append_getElem (by simp; omega), ← s.cut]
    simp

theorem Seen.last {l : List UInt8} {p : Nat} {pre : List UInt8} {f : Nat} (s : Seen l p pre (f + 1)) (h : p + pre.length < l.length) (hb : (l[p + pre.length]).toNat ≤ 127) :
    scan 5 (l.drop p) = some (pre ++ [l[p + pre.length]]) ∧ pre ++ [l[p + pre.length]] = (l.drop p).take (pre.length + 1) := by
  constructor
  · rw [s.eq, drop_here l _ h]
    simp [scan, show ¬ 127 < (l[p + pre.length]).toNat by omega]
  · rw [List.take_succ_eq_append_getElem (by simp; omega), ← s.cut]
    simp

theorem Seen.ended {l : List UInt8} {p : Nat} {pre : List UInt8} {f : Nat} (s : Seen l p pre f) (h : l.length ≤ p + pre.length) : scan 5 (l.drop p) = none := by
  rw [s.eq, List.drop_of_length_le h]
  cases f <;> simp [scan]

theorem Seen.spent {l : List UInt8} {p : Nat} {pre : List UInt8} (s : Seen l p pre 0) : scan 5 (l.drop p) = none := by
  rw [s.eq]; simp [scan]

theorem readVar_none {l : List UInt8} {p : Nat} (hp : p ≤ l.length) (h : scan 5 (l.drop p) = none) : readVar l p = (0, 0, false) := by
  have hc : (0 : Int) ≤ (p : Int) ∧ (p : Int) ≤ l.length := by omega
  simp only [readVar, if_pos hc, Int.toNat_natCast, h]

theorem Seen.answer {l : List UInt8} {p : Nat} {pre : List UInt8} {f : Nat} (s : Seen l p pre (f + 1)) (h : p + pre.length < l.length) (hb : (l[p + pre.length]).toNat ≤ 127) :
    readVar l p = if val (pre ++ [l[p + pre.length]]) ≤ 1000000000 ∧ ¬ ((l[p + pre.length]).toNat = 0 ∧ pre ≠ []) then (val (pre ++ [l[p + pre.length]]), p + pre.length + 1, true) else (0, 0, false) := by
  have hc : (0 : Int) ≤ (p : Int) ∧ (p : Int) ≤ l.length := by omega
  have hs := (s.last h hb).1
  have hv := varB_val 4 pre l[p + pre.length] s.high hb (by have := s.len; omega)
  simp only [readVar, if_pos hc, Int.toNat_natCast, hs, hv]
  simp [Nat.add_assoc]

theorem Seen.answer_told {l : List UInt8} {p : Nat} {pre : List UInt8} {f : Nat} (s : Seen l p pre (f + 1)) (h : p + pre.length < l.length) (hb : (l[p + pre.length]).toNat ≤ 127) :
    readVar l p = if val (pre ++ [l[p + pre.length]]) ≤ 1000000000 ∧ varB 4 (val (pre ++ [l[p + pre.length]])) = pre ++ [l[p + pre.length]] then (val (pre ++ [l[p + pre.length]]), p + pre.length + 1, true) else (0, 0, false) := by
  have hc : (0 : Int) ≤ (p : Int) ∧ (p : Int) ≤ l.length := by omega
  have hs := (s.last h hb).1
  simp only [readVar, if_pos hc, Int.toNat_natCast, hs]
  simp [Nat.add_assoc]
end Go.Proofs.YtflicklgmhgpiaaDoor.P1
namespace Go.Proofs.YtflicklgmhgpiaaDoor.P5
open P1

/-- A right role. -/
def roleOk (who name : Int) : Prop := (0 ≤ who ∧ who ≤ 5) ∧ 0 ≤ name ∧ name ≤ 3

instance (who name : Int) : Decidable (roleOk who name) := by unfold roleOk; infer_instance

/-- A word: its ten numbers. -/
structure Cr where
  k : Int
  ow : Int
  on : Int
  wh : Int
  aw : Int
  an : Int
  bw : Int
  bn : Int
  u : Int
  n : Int
deriving DecidableEq

def Cr.zero : Cr := ⟨0, 0, 0, 0, 0, 0, 0, 0, 0, 0⟩

/-- What a word of its kind has. -/
def kindOk (c : Cr) : Prop :=
  (c.k = 1 ∧ (0 ≤ c.wh ∧ c.wh ≤ 5) ∧ (c.aw = 0 ∧ c.an = 0) ∧ c.bw = 0 ∧ c.bn = 0) ∨
  (c.k = 2 ∧ c.wh = 0 ∧ roleOk c.aw c.an ∧ c.bw = 0 ∧ c.bn = 0) ∨
  (c.k = 3 ∧ c.wh = 0 ∧ roleOk c.aw c.an ∧ roleOk c.bw c.bn ∧ c.bw = 0) ∨
  (c.k = 4 ∧ c.wh = 0 ∧ roleOk c.aw c.an ∧ roleOk c.bw c.bn)

instance (c : Cr) : Decidable (kindOk c) := by unfold kindOk; infer_instance

/-- A right word. -/
def credOk (c : Cr) : Prop := (roleOk c.ow c.on ∧ (1 ≤ c.u ∧ c.u ≤ 9999) ∧ 0 ≤ c.n ∧ c.n ≤ 99) ∧ kindOk c

instance (c : Cr) : Decidable (credOk c) := by unfold credOk; infer_instance

/-- All its numbers are small. -/
def Cr.small (c : Cr) : Prop := (0 ≤ c.k ∧ c.k ≤ 9999) ∧ (0 ≤ c.ow ∧ c.ow ≤ 9999) ∧ (0 ≤ c.on ∧ c.on ≤ 9999) ∧ (0 ≤ c.wh ∧ c.wh ≤ 9999) ∧ (0 ≤ c.aw ∧ c.aw ≤ 9999) ∧ (0 ≤ c.an ∧ c.an ≤ 9999) ∧ (0 ≤ c.bw ∧ c.bw ≤ 9999) ∧ (0 ≤ c.bn ∧ c.bn ≤ 9999) ∧ (0 ≤ c.u ∧ c.u ≤ 9999) ∧ 0 ≤ c.n ∧ c.n ≤ 9999

theorem credOk.small {c : Cr} (h : credOk c) : c.small := by
  obtain ⟨⟨h1, h2, h3, h4⟩, hk⟩ := h
  unfold kindOk roleOk at hk
  unfold roleOk at h1
  unfold Cr.small
  omega

/-- Its numbers in bytes. -/
def credB (c : Cr) : List UInt8 := varB 4 c.k.toNat ++ varB 4 c.ow.toNat ++ varB 4 c.on.toNat ++ varB 4 c.wh.toNat ++ varB 4 c.aw.toNat ++ varB 4 c.an.toNat ++ varB 4 c.bw.toNat ++ varB 4 c.bn.toNat ++ varB 4 c.u.toNat ++ varB 4 c.n.toNat

/-- What CredText answers. -/
def credT (c : Cr) : List UInt8 := if credOk c then credB c else []

theorem credB_le (c : Cr) : (credB c).length ≤ 50 := by
  have := fun n => (varB_length 4 n).2
  simp only [credB, List.length_append]
  have h0 := this c.k.toNat
  have h1 := this c.ow.toNat
  have h2 := this c.on.toNat
  have h3 := this c.wh.toNat
  have h4 := this c.aw.toNat
  have h5 := this c.an.toNat
  have h6 := this c.bw.toNat
  have h7 := this c.bn.toNat
  have h8 := this c.u.toNat
  have h9 := this c.n.toNat
  omega

theorem credT_le (c : Cr) : (credT c).length ≤ 50 := by
  unfold credT
  split
  · exact credB_le c
  · simp
end Go.Proofs.YtflicklgmhgpiaaDoor.P5
namespace Go.Proofs.YtflicklgmhgpiaaDoor.P5
open P1

/-- What VarText writes is scanned whole, whatever follows. -/
theorem scan_varB (f : Nat) : ∀ n rest, n < 128 ^ (f + 1) → scan (f + 1) (varB f n ++ rest) = some (varB f n) ∧ val (varB f n) = n := by
  induction f with
  | zero =>
    intro n rest h
    have hn : n < 128 := by simpa using h
    have e : (UInt8.ofNat n).toNat = n := by simp; omega
    simp only [varB, List.cons_append, List.nil_append, scan, val, e]
    rw [if_neg (by omega)]
    exact ⟨rfl, by omega⟩
  | succ f ih =>
    intro n rest h
    by_cases hg : 127 < n
    · rw [varB_great f n hg]
      have e : (UInt8.ofNat (n % 128 + 128)).toNat = n % 128 + 128 := by simp; omega
      have := ih (n / 128) rest (by rw [Nat.pow_succ] at h; omega)
      simp only [List.cons_append, val, e]
      rw [scan, e, if_pos (by omega), this.1, this.2]
      exact ⟨rfl, by omega⟩
    · have e : (UInt8.ofNat n).toNat = n := by simp; omega
      rw [varB_small _ _ (by omega)]
      simp only [List.cons_append, List.nil_append, val, e]
      rw [scan, e, if_neg (by omega)]
      exact ⟨rfl, by omega⟩

/-- A number comes back from its text, wherever that stands. -/
theorem readVar_varB (pre rest : List UInt8) (n : Nat) (h : n ≤ 1000000000) : readVar (pre ++ (varB 4 n ++ rest)) (pre.length : Int) = (n, pre.length + (varB 4 n).length, true) := by
  have hs := scan_varB 4 n rest (by omega)
  unfold readVar
  rw [if_pos ⟨by omega, by simp only [List.length_append]; omega⟩]
  have hd : (pre ++ (varB 4 n ++ rest)).drop ((pre.length : Int).toNat) = varB 4 n ++ rest := by simp
  rw [hd, hs.1]
  simp only [hs.2]
  rw [if_pos ⟨h, trivial⟩]
  simp

/-- So many numbers read in a row, and where the reading stands. -/
def readRow (s : List UInt8) : Nat → Option (List Nat × Nat)
  | 0 => some ([], 0)
  | i + 1 => match readRow s i with
    | none => none
    | some (L, p) => if (readVar s p).2.2 = true then some (L ++ [(readVar s p).1], (readVar s p).2.1) else none

theorem readRow_none {s : List UInt8} {i : Nat} (h : readRow s i = none) : ∀ j, readRow s (i + j) = none := by
  intro j
  induction j with
  | zero => exact h
  | succ j ih =>
    show readRow s ((i + j) + 1) = none
    rw [readRow, ih]

theorem readRow_next {s : List UInt8} {i : Nat} {L : List Nat} {p : Nat} (h : readRow s i = some (L, p)) (hr : (readVar s p).2.2 = true) : readRow s (i + 1) = some (L ++ [(readVar s p).1], (readVar s p).2.1) := by
  rw [readRow, h]
  simp only [hr, if_true]

theorem readRow_stop {s : List UInt8} {i : Nat} {L : List Nat} {p : Nat} (h : readRow s i = some (L, p)) (hr : (readVar s p).2.2 = false) : readRow s (i + 1) = none := by
  rw [readRow, h]
  simp [hr]

theorem readVar_le (s : List UInt8) (p : Int) : (readVar s p).1 ≤ 1000000000 := by
  unfold readVar
  split
  · split
    · simp
    · split
      · rename_i h; exact h.1
      · simp
  · simp

theorem readRow_facts {s : List UInt8} : ∀ {i : Nat} {L : List Nat} {p : Nat}, readRow s i = some (L, p) → L.length = i ∧ ∀ x ∈ L, x ≤ 1000000000 := by
  intro i
  induction i with
  | zero =>
    intro L p h
    simp only [readRow, Option.some.injEq, Prod.mk.injEq] at h
    rw [← h.1]
    simp
  | succ i ih =>
    intro L p h
    rw [readRow] at h
    split at h
    · cases h
    · rename_i L' p' h'
      split at h
      · simp only [Option.some.injEq, Prod.mk.injEq] at h
        have := ih h'
        rw [← h.1]
        refine ⟨by simp [this.1], fun x hx => ?_⟩
        rcases List.mem_append.mp hx with hx | hx
        · exact this.2 x hx
        · rw [List.mem_singleton.mp hx]; exact readVar_le _ _
      · cases h

/-- The word that ten numbers are. -/
def crOf (L : List Nat) : Cr := ⟨(L.getD 0 0 : Nat), (L.getD 1 0 : Nat), (L.getD 2 0 : Nat), (L.getD 3 0 : Nat), (L.getD 4 0 : Nat), (L.getD 5 0 : Nat), (L.getD 6 0 : Nat), (L.getD 7 0 : Nat), (L.getD 8 0 : Nat), (L.getD 9 0 : Nat)⟩

/-- What ReadCred answers. -/
def readCred (s : List UInt8) : Cr × Bool :=
  match readRow s 10 with
  | none => (Cr.zero, false)
  | some (L, _) => if credOk (crOf L) ∧ credB (crOf L) = s then (crOf L, true) else (Cr.zero, false)

/-- The texts of numbers one after the other. -/
def rowB : List Nat → List UInt8
  | [] => []
  | n :: r => varB 4 n ++ rowB r

theorem rowB_append (a b : List Nat) : rowB (a ++ b) = rowB a ++ rowB b := by
  induction a with
  | nil => rfl
  | cons x a ih => simp [rowB, ih]

/-- Numbers come back from their texts in a row. -/
theorem readRow_rowB (M : List Nat) (hM : ∀ x ∈ M, x ≤ 1000000000) : ∀ i, i ≤ M.length → readRow (rowB M) i = some (M.take i, (rowB (M.take i)).length) := by
  intro i
  induction i with
  | zero => intro _; rfl
  | succ i ih =>
    intro hi
    have h := ih (by omega)
    have hsplit : rowB M = rowB (M.take i) ++ (varB 4 M[i] ++ rowB (M.drop (i + 1))) := by
      conv => lhs; rw [← List.take_append_drop i M, rowB_append, List.drop_eq_getElem_cons (by omega : i < M.length)]
      rfl
    have hr := readVar_varB (rowB (M.take i)) (rowB (M.drop (i + 1))) M[i] (hM _ (List.getElem_mem _))
    rw [← hsplit] at hr
    rw [readRow_next h (by rw [hr]), hr]
    simp only [List.take_succ_eq_append_getElem (by omega : i < M.length), rowB_append, rowB, List.length_append, List.append_nil]

/-- A right word comes back from its text. -/
theorem readCred_credB {c : Cr} (h : credOk c) : readCred (credB c) = (c, true) := by
  have hs := h.small
  unfold Cr.small at hs
  obtain ⟨k, ow, on, wh, aw, an, bw, bn, u, n⟩ := c
  dsimp only at hs
  have hb : credB ⟨k, ow, on, wh, aw, an, bw, bn, u, n⟩ = rowB [k.toNat, ow.toNat, on.toNat, wh.toNat, aw.toNat, an.toNat, bw.toNat, bn.toNat, u.toNat, n.toNat] := by
    simp [credB, rowB, List.append_assoc]
  have hr := readRow_rowB [k.toNat, ow.toNat, on.toNat, wh.toNat, aw.toNat, an.toNat, bw.toNat, bn.toNat, u.toNat, n.toNat] (by simp; omega) 10 (Nat.le_refl _)
  rw [← hb] at hr
  have hc : crOf ([k.toNat, ow.toNat, on.toNat, wh.toNat, aw.toNat, an.toNat, bw.toNat, bn.toNat, u.toNat, n.toNat].take 10) = ⟨k, ow, on, wh, aw, an, bw, bn, u, n⟩ := by
    simp [crOf]
    omega
  unfold readCred
  rw [hr]
  simp only [hc]
  rw [if_pos ⟨h, trivial⟩]

/-- ReadCred says yes to the texts of right words only. -/
theorem readCred_true {s : List UInt8} {c : Cr} (h : readCred s = (c, true)) : credOk c ∧ credB c = s := by
  unfold readCred at h
  split at h
  · simp at h
  · split at h
    · rename_i hh
      simp only [Prod.mk.injEq, and_true] at h
      rw [← h]
      exact hh
    · simp at h
end Go.Proofs.YtflicklgmhgpiaaDoor.P5
namespace Go.Proofs.YtflicklgmhgpiaaDoor.P5
open P1

theorem scan_take : ∀ (f : Nat) (l bs : List UInt8), scan f l = some bs → l.take bs.length = bs ∧ bs.length ≤ l.length := by
  intro f
  induction f with
  | zero => intro l bs h; simp [scan] at h
  | succ f ih =>
    intro l bs h
    cases l with
    | nil => simp [scan] at h
    | cons b r =>
      simp only [scan] at h
      split at h
      · obtain ⟨x, hx, rfl⟩ := Option.map_eq_some_iff.1 h
        have := ih r x hx
        simp [this.1, this.2]
      · simp only [Option.some.injEq] at h
        subst h
        simp

theorem readVar_true {s : List UInt8} {p : Nat} (h : (readVar s p).2.2 = true) : p ≤ (readVar s p).2.1 ∧ (readVar s p).2.1 ≤ s.length ∧ varB 4 (readVar s p).1 = (s.drop p).take ((readVar s p).2.1 - p) := by
  by_cases hp : (0 : Int) ≤ (p : Int) ∧ (p : Int) ≤ s.length
  · cases hbs : scan 5 (s.drop p) with
    | none =>
      have e : readVar s p = (0, 0, false) := readVar_none (by omega) hbs
      rw [e] at h
      cases h
    | some bs =>
      have ht := scan_take _ _ _ hbs
      by_cases hv : val bs ≤ 1000000000 ∧ varB 4 (val bs) = bs
      · have e : readVar s p = (val bs, p + bs.length, true) := by
          simp only [readVar, if_pos hp, Int.toNat_natCast, hbs, if_pos hv]
        rw [e]
        simp only [List.length_drop] at ht
        dsimp only
        refine ⟨by omega, by omega, ?_⟩
        rw [hv.2, Nat.add_sub_cancel_left, ht.1]
      · have e : readVar s p = (0, 0, false) := by
          simp only [readVar, if_pos hp, Int.toNat_natCast, hbs, if_neg hv]
        rw [e] at h
        cases h
  · rw [readVar_out _ _ hp] at h
    cases h

theorem readRow_take {s : List UInt8} : ∀ {i : Nat} {L : List Nat} {p : Nat}, readRow s i = some (L, p) → rowB L = s.take p ∧ p ≤ s.length := by
  intro i
  induction i with
  | zero =>
    intro L p h
    simp only [readRow, Option.some.injEq, Prod.mk.injEq] at h
    rw [← h.1, ← h.2]
    simp [rowB]
  | succ i ih =>
    intro L p h
    rw [readRow] at h
    split at h
    · cases h
    · rename_i L' p' h'
      split at h
      · rename_i hr
        have h1 := ih h'
        have h2 := readVar_true hr
        simp only [Option.some.injEq, Prod.mk.injEq] at h
        rw [← h.1, ← h.2]
        refine ⟨?_, h2.2.1⟩
        rw [rowB_append, h1.1]
        simp only [rowB, List.append_nil]
        rw [h2.2.2]
        conv => rhs; rw [show (readVar s p').2.1 = p' + ((readVar s p').2.1 - p') by omega, List.take_add]
      · cases h

theorem crOf_rowB {L : List Nat} (h : L.length = 10) : credB (crOf L) = rowB L := by
  match L, h with
  | [a, b, c, d, e, f, g, h, i, j], _ =>
    simp [credB, crOf, rowB, List.append_assoc]

/-- The ten numbers read, the word is right and the text is at its end: that is all. -/
theorem readCred_of {s : List UInt8} {L : List Nat} {p : Nat} (h : readRow s 10 = some (L, p)) : readCred s = if p = s.length ∧ credOk (crOf L) then (crOf L, true) else (Cr.zero, false) := by
  have h1 := readRow_facts h
  have h2 := readRow_take h
  have h3 := crOf_rowB h1.1
  unfold readCred
  rw [h]
  simp only
  rw [h3]
  by_cases hp : p = s.length
  · have : rowB L = s := by rw [h2.1, hp, List.take_length]
    rw [this]
    by_cases hc : credOk (crOf L)
    · rw [if_pos ⟨hc, rfl⟩, if_pos ⟨hp, hc⟩]
    · rw [if_neg (fun x => hc x.1), if_neg (fun x => hc x.2)]
  · have : ¬ rowB L = s := fun e => hp (by
      have := congrArg List.length (h2.1.symm.trans e)
      rw [List.length_take] at this
      omega)
    rw [if_neg (fun x => this x.2), if_neg (fun x => hp x.1)]

theorem readCred_none {s : List UInt8} (h : readRow s 10 = none) : readCred s = (Cr.zero, false) := by
  unfold readCred
  rw [h]
end Go.Proofs.YtflicklgmhgpiaaDoor.P5
