/- SHA-256 as plain mathematics on numbers below 2^32: the words of a block, the rounds, a digest; what is known of it; no condition. -/
import Derived.Below
namespace Go.Proofs.YtflicklgmhgpiaaDoor.P3

/-- 2^32. -/
def M : Nat := 4294967296

/-- A word turned by n. -/
def rot (n x : Nat) : Nat := x / 2 ^ n ||| x * 2 ^ (32 - n) % 4294967296

def add (a b : Nat) : Nat := (a + b) % 4294967296

def sig0 (x : Nat) : Nat := rot 7 x ^^^ rot 18 x ^^^ x / 8
def sig1 (x : Nat) : Nat := rot 17 x ^^^ rot 19 x ^^^ x / 1024
def Sig1 (x : Nat) : Nat := rot 6 x ^^^ rot 11 x ^^^ rot 25 x
def Sig0 (x : Nat) : Nat := rot 2 x ^^^ rot 13 x ^^^ rot 22 x
def ch (e f g : Nat) : Nat := e &&& f ^^^ (e ^^^ 4294967295) &&& g
def maj (a b c : Nat) : Nat := a &&& b ^^^ a &&& c ^^^ b &&& c

/-- The numbers of the rounds. -/
def keys : List Nat := [0x428a2f98, 0x71374491, 0xb5c0fbcf, 0xe9b5dba5, 0x3956c25b, 0x59f111f1, 0x923f82a4, 0xab1c5ed5, 0xd807aa98, 0x12835b01, 0x243185be, 0x550c7dc3, 0x72be5d74, 0x80deb1fe, 0x9bdc06a7, 0xc19bf174, 0xe49b69c1, 0xefbe4786, 0x0fc19dc6, 0x240ca1cc, 0x2de92c6f, 0x4a7484aa, 0x5cb0a9dc, 0x76f988da, 0x983e5152, 0xa831c66d, 0xb00327c8, 0xbf597fc7, 0xc6e00bf3, 0xd5a79147, 0x06ca6351, 0x14292967, 0x27b70a85, 0x2e1b2138, 0x4d2c6dfc, 0x53380d13, 0x650a7354, 0x766a0abb, 0x81c2c92e, 0x92722c85, 0xa2bfe8a1, 0xa81a664b, 0xc24b8b70, 0xc76c51a3, 0xd192e819, 0xd6990624, 0xf40e3585, 0x106aa070, 0x19a4c116, 0x1e376c08, 0x2748774c, 0x34b0bcb5, 0x391c0cb3, 0x4ed8aa4a, 0x5b9cca4f, 0x682e6ff3, 0x748f82ee, 0x78a5636f, 0x84c87814, 0x8cc70208, 0x90befffa, 0xa4506ceb, 0xbef9a3f7, 0xc67178f2]

/-- Where it begins. -/
def first : List Nat := [0x6a09e667, 0xbb67ae85, 0x3c6ef372, 0xa54ff53a, 0x510e527f, 0x9b05688c, 0x1f83d9ab, 0x5be0cd19]

/-- The i-th word of a block of 64 bytes. -/
def word (b : List UInt8) (i : Nat) : Nat := (b.getD (4 * i) 0).toNat * 16777216 + (b.getD (4 * i + 1) 0).toNat * 65536 + (b.getD (4 * i + 2) 0).toNat * 256 + (b.getD (4 * i + 3) 0).toNat

/-- The first sixteen words. -/
def words16 (b : List UInt8) : List Nat := (List.range 16).map (word b)

/-- The next word of a schedule. -/
def nextW (w : List Nat) : Nat :=
  let i := w.length
  add (add (add (w.getD (i - 16) 0) (sig0 (w.getD (i - 15) 0))) (w.getD (i - 7) 0)) (sig1 (w.getD (i - 2) 0))

def more : Nat → List Nat → List Nat
  | 0, w => w
  | k + 1, w => more k w ++ [nextW (more k w)]

/-- All sixty-four. -/
def sched (b : List UInt8) : List Nat := more 48 (words16 b)

/-- A state: eight numbers. -/
structure St where
  a : Nat
  b : Nat
  c : Nat
  d : Nat
  e : Nat
  f : Nat
  g : Nat
  h : Nat

/-- One round. -/
def round1 (s : St) (k w : Nat) : St :=
  let one := add (add (add (add s.h (Sig1 s.e)) (ch s.e s.f s.g)) k) w
  let two := add (Sig0 s.a) (maj s.a s.b s.c)
  ⟨add one two, s.a, s.b, s.c, add s.d one, s.e, s.f, s.g⟩

def roundsN (ks ws : List Nat) : Nat → St → St
  | 0, s => s
  | n + 1, s => let s' := roundsN ks ws n s; round1 s' (ks.getD n 0) (ws.getD n 0)

def St.plus (s t : St) : St := ⟨add s.a t.a, add s.b t.b, add s.c t.c, add s.d t.d, add s.e t.e, add s.f t.f, add s.g t.g, add s.h t.h⟩

/-- One block. -/
def block (s : St) (b : List UInt8) : St := s.plus (roundsN keys (sched b) 64 s)

def St.list (s : St) : List Nat := [s.a, s.b, s.c, s.d, s.e, s.f, s.g, s.h]

def start : St := ⟨0x6a09e667, 0xbb67ae85, 0x3c6ef372, 0xa54ff53a, 0x510e527f, 0x9b05688c, 0x1f83d9ab, 0x5be0cd19⟩

/-- The eight bytes of a length in bits. -/
def lenB (n : Nat) : List UInt8 := [UInt8.ofNat (n / 72057594037927936 % 256), UInt8.ofNat (n / 281474976710656 % 256), UInt8.ofNat (n / 1099511627776 % 256), UInt8.ofNat (n / 4294967296 % 256), UInt8.ofNat (n / 16777216 % 256), UInt8.ofNat (n / 65536 % 256), UInt8.ofNat (n / 256 % 256), UInt8.ofNat (n % 256)]

/-- How many bytes 0. -/
def zeros (n : Nat) : Nat := (119 - n % 64) % 64

def pad (l : List UInt8) : List UInt8 := l ++ 128 :: List.replicate (zeros l.length) 0 ++ lenB (8 * l.length)

/-- The state behind k blocks. -/
def bl (p : List UInt8) : Nat → St
  | 0 => start
  | k + 1 => block (bl p k) ((p.drop (64 * k)).take 64)

def four (x : Nat) : List UInt8 := [UInt8.ofNat (x / 16777216), UInt8.ofNat (x / 65536 % 256), UInt8.ofNat (x / 256 % 256), UInt8.ofNat (x % 256)]

def digest (l : List UInt8) : List UInt8 := (bl (pad l) ((pad l).length / 64)).list.flatMap four

theorem more_length (k : Nat) (w : List Nat) : (more k w).length = w.length + k := by
  induction k with
  | zero => rfl
  | succ k ih => simp [more, ih]; omega

theorem more_getD (k : Nat) (w : List Nat) (j : Nat) (hj : j < w.length + k) (n : Nat) (hkn : k ≤ n) : (more n w).getD j 0 = (more k w).getD j 0 := by
  induction n with
  | zero => obtain rfl : k = 0 := by omega
            rfl
  | succ n ih =>
    by_cases h : k = n + 1
    · rw [h]
    · rw [← ih (by omega)]
      have hl := more_length n w
      simp only [more, List.getD_eq_getElem?_getD]
      rw [List.getElem?_append_left (by omega)]

theorem sched_first (b : List UInt8) (j : Nat) (hj : j < 16) : (sched b).getD j 0 = word b j := by
  have hw : (words16 b).length = 16 := by simp [words16]
  unfold sched
  rw [more_getD 0 (words16 b) j (by omega) 48 (by omega)]
  simp [more, words16, List.getD_eq_getElem?_getD, hj]

/-- The word behind sixteen others. -/
theorem sched_next (b : List UInt8) (m : Nat) (hm : m < 48) : (sched b).getD (m + 16) 0 = add (add (add ((sched b).getD m 0) (sig0 ((sched b).getD (m + 1) 0))) ((sched b).getD (m + 9) 0)) (sig1 ((sched b).getD (m + 14) 0)) := by
  have hw : (words16 b).length = 16 := by simp [words16]
  have hl := more_length m (words16 b)
  unfold sched
  rw [more_getD (m + 1) (words16 b) (m + 16) (by omega) 48 (by omega)]
  rw [more_getD m (words16 b) m (by omega) 48 (by omega), more_getD m (words16 b) (m + 1) (by omega) 48 (by omega), more_getD m (words16 b) (m + 9) (by omega) 48 (by omega), more_getD m (words16 b) (m + 14) (by omega) 48 (by omega)]
  have e : (more (m + 1) (words16 b)).getD (m + 16) 0 = nextW (more m (words16 b)) := by
    simp only [more, List.getD_eq_getElem?_getD]
    rw [List.getElem?_append_right (by omega)]
    simp [show m + 16 - (more m (words16 b)).length = 0 by omega]
  rw [e]
  unfold nextW
  rw [hl, hw]
  dsimp only
  rw [show 16 + m - 16 = m by omega, show 16 + m - 15 = m + 1 by omega, show 16 + m - 7 = m + 9 by omega, show 16 + m - 2 = m + 14 by omega]

theorem add_lt (a b : Nat) : add a b < 4294967296 := Nat.mod_lt _ (by decide)

theorem word_lt (b : List UInt8) (i : Nat) : word b i < 4294967296 := by
  have h0 := (b.getD (4 * i) 0).toNat_lt
  have h1 := (b.getD (4 * i + 1) 0).toNat_lt
  have h2 := (b.getD (4 * i + 2) 0).toNat_lt
  have h3 := (b.getD (4 * i + 3) 0).toNat_lt
  unfold word
  omega

theorem sched_lt (b : List UInt8) (j : Nat) (hj : j < 64) : (sched b).getD j 0 < 4294967296 := by
  by_cases h : j < 16
  · rw [sched_first b j h]; exact word_lt b j
  · rw [show j = (j - 16) + 16 by omega, sched_next b (j - 16) (by omega)]; exact add_lt _ _

theorem add4 (a b c d : Nat) : add (add (add a b) c) d = (a + b + c + d) % 4294967296 := by unfold add; omega

theorem add5 (a b c d e : Nat) : add (add (add (add a b) c) d) e = (a + b + c + d + e) % 4294967296 := by unfold add; omega

/-- All eight are below 2^32. -/
def St.ok (s : St) : Prop := s.a < 4294967296 ∧ s.b < 4294967296 ∧ s.c < 4294967296 ∧ s.d < 4294967296 ∧ s.e < 4294967296 ∧ s.f < 4294967296 ∧ s.g < 4294967296 ∧ s.h < 4294967296

theorem round1_ok (s : St) (k w : Nat) (h : s.ok) : (round1 s k w).ok := by
  obtain ⟨h1, h2, h3, h4, h5, h6, h7, h8⟩ := h
  exact ⟨add_lt _ _, h1, h2, h3, add_lt _ _, h5, h6, h7⟩

theorem roundsN_ok (ks ws : List Nat) (n : Nat) (s : St) (h : s.ok) : (roundsN ks ws n s).ok := by
  induction n with
  | zero => exact h
  | succ n ih => exact round1_ok _ _ _ ih

theorem plus_ok (s t : St) : (s.plus t).ok := ⟨add_lt _ _, add_lt _ _, add_lt _ _, add_lt _ _, add_lt _ _, add_lt _ _, add_lt _ _, add_lt _ _⟩

theorem roundsN_congr (ks ws vs : List Nat) (n : Nat) (s : St) (h : ∀ j, j < n → ws.getD j 0 = vs.getD j 0) : roundsN ks ws n s = roundsN ks vs n s := by
  induction n with
  | zero => rfl
  | succ n ih => simp only [roundsN]; rw [ih (fun j hj => h j (by omega)), h n (by omega)]

theorem pad_length (l : List UInt8) : (pad l).length = l.length + 9 + zeros l.length := by
  simp [pad, lenB]; omega

theorem pad_mod (l : List UInt8) : (pad l).length % 64 = 0 := by
  rw [pad_length]; unfold zeros; omega

theorem known0 : digest [] = [0xe3, 0xb0, 0xc4, 0x42, 0x98, 0xfc, 0x1c, 0x14, 0x9a, 0xfb, 0xf4, 0xc8, 0x99, 0x6f, 0xb9, 0x24, 0x27, 0xae, 0x41, 0xe4, 0x64, 0x9b, 0x93, 0x4c, 0xa4, 0x95, 0x99, 0x1b, 0x78, 0x52, 0xb8, 0x55] := by decide +kernel
theorem known1 : digest [97, 98, 99] = [0xba, 0x78, 0x16, 0xbf, 0x8f, 0x01, 0xcf, 0xea, 0x41, 0x41, 0x40, 0xde, 0x5d, 0xae, 0x22, 0x23, 0xb0, 0x03, 0x61, 0xa3, 0x96, 0x17, 0x7a, 0x9c, 0xb4, 0x10, 0xff, 0x61, 0xf2, 0x00, 0x15, 0xad] := by decide +kernel
end Go.Proofs.YtflicklgmhgpiaaDoor.P3
