/- SHA-256 as plain mathematics on numbers below 2^32: the words of a block, the rounds, a digest; what is known of it; no condition.
The plain mathematics of chapter 1's numbers in bytes: what VarText writes, as a list of bytes; no condition.
The plain mathematics of figures: two for each byte, and back; no condition.
Chapter 4 as plain mathematics on lists of bytes: chains, quarters, secrets, keys; no condition.
The plain mathematics of decimal figures: one figure after the other, from the last on; no condition. -/
import Derived.Below
import Derived.Lib.ItoaLen
namespace Go.Proofs.YtmjpdccfdaajmaaDoor.P3

/-- 2^32. -/
def M : Nat := 4294967296

/-- A word turned by n. -/
def rot (n x : Nat) : Nat := x / 2 ^ n ||| x * 2 ^ (32 - n) % 4294967296

def add (a b : Nat) : Nat := (a + b) % 4294967296

def sig0 (x : Nat) : Nat := rot 7 x ^^^ rot 18 x ^^^ x / 8
def sig1 (x : Nat) : Nat := rot 17 x ^^^ rot 19 x ^^^ x / 1024
def Sig1 (x : Nat) : Nat := rot 6 x ^^^ rot 11 x ^^^ rot 25 x
def Sig0 (x : Nat) : Nat := rot 2 x ^^^ rot 13 x ^^^ rot 22 x
def ch (e f g : Nat) : Nat := e &&& f ^^^ (e ^^^ 4294967295) &&& g
def maj (a b c : Nat) : Nat := a &&& b ^^^ a &&& c ^^^ b &&& c

/-- The numbers of the rounds. -/
def keys : List Nat := [0x428a2f98, 0x71374491, 0xb5c0fbcf, 0xe9b5dba5, 0x3956c25b, 0x59f111f1, 0x923f82a4, 0xab1c5ed5, 0xd807aa98, 0x12835b01, 0x243185be, 0x550c7dc3, 0x72be5d74, 0x80deb1fe, 0x9bdc06a7, 0xc19bf174, 0xe49b69c1, 0xefbe4786, 0x0fc19dc6, 0x240ca1cc, 0x2de92c6f, 0x4a7484aa, 0x5cb0a9dc, 0x76f988da, 0x983e5152, 0xa831c66d, 0xb00327c8, 0xbf597fc7, 0xc6e00bf3, 0xd5a79147, 0x06ca6351, 0x14292967, 0x27b70a85, 0x2e1b2138, 0x4d2c6dfc, 0x53380d13, 0x650a7354, 0x766a0abb, 0x81c2c92e, 0x92722c85, 0xa2bfe8a1, 0xa81a664b, 0xc24b8b70, 0xc76c51a3, 0xd192e819, 0xd6990624, 0xf40e3585, 0x106aa070, 0x19a4c116, 0x1e376c08, 0x2748774c, 0x34b0bcb5, 0x391c0cb3, 0x4ed8aa4a, 0x5b9cca4f, 0x682e6ff3, 0x748f82ee, 0x78a5636f, 0x84c87814, 0x8cc70208, 0x90befffa, 0xa4506ceb, 0xbef9a3f7, 0xc67178f2]

/-- Where it begins. -/
def first : List Nat := [0x6a09e667, 0xbb67ae85, 0x3c6ef372, 0xa54ff53a, 0x510e527f, 0x9b05688c, 0x1f83d9ab, 0x5be0cd19]

/-- The i-th word of a block of 64 bytes. -/
def word (b : List UInt8) (i : Nat) : Nat := (b.getD (4 * i) 0).toNat * 16777216 + (b.getD (4 * i + 1) 0).toNat * 65536 + (b.getD (4 * i + 2) 0).toNat * 256 + (b.getD (4 * i + 3) 0).toNat

/-- The first sixteen words. -/
def words16 (b : List UInt8) : List Nat := (List.range 16).map (word b)

/-- The next word of a schedule. -/
def nextW (w : List Nat) : Nat :=
  let i := w.length
  add (add (add (w.getD (i - 16) 0) (sig0 (w.getD (i - 15) 0))) (w.getD (i - 7) 0)) (sig1 (w.getD (i - 2) 0))

def more : Nat → List Nat → List Nat
  | 0, w => w
  | k + 1, w => more k w ++ [nextW (more k w)]

/-- All sixty-four. -/
def sched (b : List UInt8) : List Nat := more 48 (words16 b)

/-- A state: eight numbers. -/
structure St where
  a : Nat
  b : Nat
  c : Nat
  d : Nat
  e : Nat
  f : Nat
  g : Nat
  h : Nat

/-- One round. -/
def round1 (s : St) (k w : Nat) : St :=
  let one := add (add (add (add s.h (Sig1 s.e)) (ch s.e s.f s.g)) k) w
  let two := add (Sig0 s.a) (maj s.a s.b s.c)
  ⟨add one two, s.a, s.b, s.c, add s.d one, s.e, s.f, s.g⟩

def roundsN (ks ws : List Nat) : Nat → St → St
  | 0, s => s
  | n + 1, s => let s' := roundsN ks ws n s; round1 s' (ks.getD n 0) (ws.getD n 0)

def St.plus (s t : St) : St := ⟨add s.a t.a, add s.b t.b, add s.c t.c, add s.d t.d, add s.e t.e, add s.f t.f, add s.g t.g, add s.h t.h⟩

/-- One block. -/
def block (s : St) (b : List UInt8) : St := s.plus (roundsN keys (sched b) 64 s)

def St.list (s : St) : List Nat := [s.a, s.b, s.c, s.d, s.e, s.f, s.g, s.h]

def start : St := ⟨0x6a09e667, 0xbb67ae85, 0x3c6ef372, 0xa54ff53a, 0x510e527f, 0x9b05688c, 0x1f83d9ab, 0x5be0cd19⟩

/-- The eight bytes of a length in bits. -/
def lenB (n : Nat) : List UInt8 := [UInt8.ofNat (n / 72057594037927936 % 256), UInt8.ofNat (n / 281474976710656 % 256), UInt8.ofNat (n / 1099511627776 % 256), UInt8.ofNat (n / 4294967296 % 256), UInt8.ofNat (n / 16777216 % 256), UInt8.ofNat (n / 65536 % 256), UInt8.ofNat (n / 256 % 256), UInt8.ofNat (n % 256)]

/-- How many bytes 0. -/
def zeros (n : Nat) : Nat := (119 - n % 64) % 64

def pad (l : List UInt8) : List UInt8 := l ++ 128 :: List.replicate (zeros l.length) 0 ++ lenB (8 * l.length)

/-- The state behind k blocks. -/
def bl (p : List UInt8) : Nat → St
  | 0 => start
  | k + 1 => block (bl p k) ((p.drop (64 * k)).take 64)

def four (x : Nat) : List UInt8 := [UInt8.ofNat (x / 16777216), UInt8.ofNat (x / 65536 % 256), UInt8.ofNat (x / 256 % 256), UInt8.ofNat (x % 256)]

def digest (l : List UInt8) : List UInt8 := (bl (pad l) ((pad l).length / 64)).list.flatMap four

theorem more_length (k : Nat) (w : List Nat) : (more k w).length = w.length + k := by
  induction k with
  | zero => rfl
  | succ k ih => simp [more, ih]; omega

theorem more_getD (k : Nat) (w : List Nat) (j : Nat) (hj : j < w.length + k) (n : Nat) (hkn : k ≤ n) : (more n w).getD j 0 = (more k w).getD j 0 := by
  induction n with
  | zero => obtain rfl : k = 0 := by omega
            rfl
  | succ n ih =>
    by_cases h : k = n + 1
    · rw [h]
    · rw [← ih (by omega)]
      have hl := more_length n w
      simp only [more, List.getD_eq_getElem?_getD]
      rw [List.getElem?_append_left (by omega)]

theorem sched_first (b : List UInt8) (j : Nat) (hj : j < 16) : (sched b).getD j 0 = word b j := by
  have hw : (words16 b).length = 16 := by simp [words16]
  unfold sched
  rw [more_getD 0 (words16 b) j (by omega) 48 (by omega)]
  simp [more, words16, List.getD_eq_getElem?_getD, hj]

/-- The word behind sixteen others. -/
theorem sched_next (b : List UInt8) (m : Nat) (hm : m < 48) : (sched b).getD (m + 16) 0 = add (add (add ((sched b).getD m 0) (sig0 ((sched b).getD (m + 1) 0))) ((sched b).getD (m + 9) 0)) (sig1 ((sched b).getD (m + 14) 0)) := by
  have hw : (words16 b).length = 16 := by simp [words16]
  have hl := more_length m (words16 b)
  unfold sched
  rw [more_getD (m + 1) (words16 b) (m + 16) (by omega) 48 (by omega)]
  rw [more_getD m (words16 b) m (by omega) 48 (by omega), more_getD m (words16 b) (m + 1) (by omega) 48 (by omega), more_getD m (words16 b) (m + 9) (by omega) 48 (by omega), more_getD m (words16 b) (m + 14) (by omega) 48 (by omega)]
  have e : (more (m + 1) (words16 b)).getD (m + 16) 0 = nextW (more m (words16 b)) := by
    simp only [more, List.getD_eq_getElem?_getD]
    rw [List.getElem?_append_right (by omega)]
    simp [show m + 16 - (more m (words16 b)).length = 0 by omega]
  rw [e]
  unfold nextW
  rw [hl, hw]
  dsimp only
  rw [show 16 + m - 16 = m by omega, show 16 + m - 15 = m + 1 by omega, show 16 + m - 7 = m + 9 by omega, show 16 + m - 2 = m + 14 by omega]

theorem add_lt (a b : Nat) : add a b < 4294967296 := Nat.mod_lt _ (by decide)

theorem word_lt (b : List UInt8) (i : Nat) : word b i < 4294967296 := by
  have h0 := (b.getD (4 * i) 0).toNat_lt
  have h1 := (b.getD (4 * i + 1) 0).toNat_lt
  have h2 := (b.getD (4 * i + 2) 0).toNat_lt
  have h3 := (b.getD (4 * i + 3) 0).toNat_lt
  unfold word
  omega

theorem sched_lt (b : List UInt8) (j : Nat) (hj : j < 64) : (sched b).getD j 0 < 4294967296 := by
  by_cases h : j < 16
  · rw [sched_first b j h]; exact word_lt b j
  · rw [show j = (j - 16) + 16 by omega, sched_next b (j - 16) (by omega)]; exact add_lt _ _

theorem add4 (a b c d : Nat) : add (add (add a b) c) d = (a + b + c + d) % 4294967296 := by unfold add; omega

theorem add5 (a b c d e : Nat) : add (add (add (add a b) c) d) e = (a + b + c + d + e) % 4294967296 := by unfold add; omega

/-- All eight are below 2^32. -/
def St.ok (s : St) : Prop := s.a < 4294967296 ∧ s.b < 4294967296 ∧ s.c < 4294967296 ∧ s.d < 4294967296 ∧ s.e < 4294967296 ∧ s.f < 4294967296 ∧ s.g < 4294967296 ∧ s.h < 4294967296

theorem round1_ok (s : St) (k w : Nat) (h : s.ok) : (round1 s k w).ok := by
  obtain ⟨h1, h2, h3, h4, h5, h6, h7, h8⟩ := h
  exact ⟨add_lt _ _, h1, h2, h3, add_lt _ _, h5, h6, h7⟩

theorem roundsN_ok (ks ws : List Nat) (n : Nat) (s : St) (h : s.ok) : (roundsN ks ws n s).ok := by
  induction n with
  | zero => exact h
  | succ n ih => exact round1_ok _ _ _ ih

theorem plus_ok (s t : St) : (s.plus t).ok := ⟨add_lt _ _, add_lt _ _, add_lt _ _, add_lt _ _, add_lt _ _, add_lt _ _, add_lt _ _, add_lt _ _⟩

theorem roundsN_congr (ks ws vs : List Nat) (n : Nat) (s : St) (h : ∀ j, j < n → ws.getD j 0 = vs.getD j 0) : roundsN ks ws n s = roundsN ks vs n s := by
  induction n with
  | zero => rfl
  | succ n ih => simp only [roundsN]; rw [ih (fun j hj => h j (by omega)), h n (by omega)]

theorem pad_length (l : List UInt8) : (pad l).length = l.length + 9 + zeros l.length := by
  simp [pad, lenB]; omega

theorem pad_mod (l : List UInt8) : (pad l).length % 64 = 0 := by
  rw [pad_length]; unfold zeros; omega

theorem known0 : digest [] = [0xe3, 0xb0, 0xc4, 0x42, 0x98, 0xfc, 0x1c, 0x14, 0x9a, 0xfb, 0xf4, 0xc8, 0x99, 0x6f, 0xb9, 0x24, 0x27, 0xae, 0x41, 0xe4, 0x64, 0x9b, 0x93, 0x4c, 0xa4, 0x95, 0x99, 0x1b, 0x78, 0x52, 0xb8, 0x55] := by decide +kernel
theorem known1 : digest [97, 98, 99] = [0xba, 0x78, 0x16, 0xbf, 0x8f, 0x01, 0xcf, 0xea, 0x41, 0x41, 0x40, 0xde, 0x5d, 0xae, 0x22, 0x23, 0xb0, 0x03, 0x61, 0xa3, 0x96, 0x17, 0x7a, 0x9c, 0xb4, 0x10, 0xff, 0x61, 0xf2, 0x00, 0x15, 0xad] := by decide +kernel
end Go.Proofs.YtmjpdccfdaajmaaDoor.P3
namespace Go.Proofs.YtmjpdccfdaajmaaDoor.P1

/-- The bytes of a number: its lowest seven bits and 128 as long as it is above 127, then itself; at most one byte more than the fuel. -/
def varB : Nat → Nat → List UInt8
  | 0, n => [UInt8.ofNat n]
  | f + 1, n => if 127 < n then UInt8.ofNat (n % 128 + 128) :: varB f (n / 128) else [UInt8.ofNat n]

/-- What fits into one byte more than the fuel. -/
def top : Nat → Nat
  | 0 => 128
  | f + 1 => 128 * top f

theorem varB_small (f n : Nat) (h : n ≤ 127) : varB f n = [UInt8.ofNat n] := by
  cases f with
  | zero => rfl
  | succ f => simp [varB, show ¬ 127 < n by omega]

theorem varB_great (f n : Nat) (h : 127 < n) : varB (f + 1) n = UInt8.ofNat (n % 128 + 128) :: varB f (n / 128) := by
  simp [varB, h]

theorem top_div (f n : Nat) (h : n < top (f + 1)) : n / 128 < top f := by
  simp only [top] at h; omega

theorem varB_length (f : Nat) : ∀ n, 1 ≤ (varB f n).length ∧ (varB f n).length ≤ f + 1 := by
  induction f with
  | zero => intro n; simp [varB]
  | succ f ih =>
    intro n
    by_cases h : 127 < n
    · rw [varB_great f n h]; have := ih (n / 128); simp; omega
    · rw [varB_small _ _ (by omega)]; simp

/-- One step of the loop that writes: what was written so far, and what is left. -/
def Wrote (N : Nat) (pre : List UInt8) (m : Nat) : Prop := ∃ f, pre.length + f = 4 ∧ m < top f ∧ varB 4 N = pre ++ varB f m

theorem Wrote.start (N : Nat) (h : N < 34359738368) : Wrote N [] N := ⟨4, rfl, by simpa [top] using h, rfl⟩

theorem Wrote.next {N m : Nat} {pre : List UInt8} (h : Wrote N pre m) (hm : 127 < m) : Wrote N (pre ++ [UInt8.ofNat (m % 128 + 128)]) (m / 128) := by
  obtain ⟨f, hl, ht, hv⟩ := h
  cases f with
  | zero => simp [top] at ht; omega
  | succ f => exact ⟨f, by simp; omega, top_div f m ht, by rw [hv, varB_great f m hm]; simp⟩

theorem Wrote.last {N m : Nat} {pre : List UInt8} (h : Wrote N pre m) (hm : m ≤ 127) : varB 4 N = pre ++ [UInt8.ofNat m] := by
  obtain ⟨f, _, _, hv⟩ := h
  rw [hv, varB_small f m hm]

theorem Wrote.len {N m : Nat} {pre : List UInt8} (h : Wrote N pre m) : pre.length ≤ 4 := by
  obtain ⟨f, hl, _, _⟩ := h; omega

theorem Wrote.lt {N m : Nat} {pre : List UInt8} (h : Wrote N pre m) : m < 34359738368 := by
  obtain ⟨f, hl, ht, _⟩ := h
  match f, hl, ht with
  | 0, _, ht => simp [top] at ht; omega
  | 1, _, ht => simp [top] at ht; omega
  | 2, _, ht => simp [top] at ht; omega
  | 3, _, ht => simp [top] at ht; omega
  | 4, _, ht => simp [top] at ht; omega
  | f + 5, hl, _ => omega
end Go.Proofs.YtmjpdccfdaajmaaDoor.P1
namespace Go.Proofs.YtmjpdccfdaajmaaDoor.P1

/-- The figure of a number below 16. -/
def fig (x : Nat) : Nat := if x < 10 then 48 + x else 87 + x

theorem fig_lt (x : Nat) (h : x < 16) : fig x < 256 := by unfold fig; split <;> omega

/-- Two figures for each byte. -/
def hexB : List UInt8 → List UInt8
  | [] => []
  | b :: r => UInt8.ofNat (fig (b.toNat / 16)) :: UInt8.ofNat (fig (b.toNat % 16)) :: hexB r

theorem hexB_append (l m : List UInt8) : hexB (l ++ m) = hexB l ++ hexB m := by
  induction l with
  | nil => rfl
  | cons b r ih => simp [hexB, ih]

theorem hexB_length (l : List UInt8) : (hexB l).length = 2 * l.length := by
  induction l with
  | nil => rfl
  | cons b r ih => simp [hexB, ih]; omega

theorem hexB_take (l : List UInt8) (k : Nat) (h : k < l.length) :
    hexB (l.take (k + 1)) = hexB (l.take k) ++ [UInt8.ofNat (fig (l[k].toNat / 16)), UInt8.ofNat (fig (l[k].toNat % 16))] := by
  rw [List.take_succ_eq_append_getElem h, hexB_append]; rfl
end Go.Proofs.YtmjpdccfdaajmaaDoor.P1
namespace Go.Proofs.YtmjpdccfdaajmaaDoor.P4
open P1 P3

/-- The first eight bytes of a digest. -/
def cut8 (s : List UInt8) : List UInt8 := (digest s).take 8

theorem cut8_length (s : List UInt8) : (cut8 s).length = 8 := rfl

def chain : Nat → List UInt8 → List UInt8
  | 0, t => t
  | n + 1, t => cut8 (99 :: chain n t)

theorem chain_length (n : Nat) (t : List UInt8) (h : 0 < n) : (chain n t).length = 8 := by
  cases n with
  | zero => omega
  | succ n => exact cut8_length _

theorem chain_le (n : Nat) (t : List UInt8) : (chain n t).length ≤ max 8 t.length := by
  cases n with
  | zero => simp [chain]; omega
  | succ n => rw [chain_length _ _ (by omega)]; omega

theorem chain_add (n m : Nat) (t : List UInt8) : chain n (chain m t) = chain (n + m) t := by
  induction n with
  | zero => rw [Nat.zero_add]; rfl
  | succ n ih => rw [Nat.add_right_comm]; simp only [chain]; rw [ih]

/-- What ChainOf answers. -/
def chainV (t : List UInt8) (n : Int) : List UInt8 := chain (min 3 n.toNat) t

/-- Eight quarters of two bytes. -/
def quad8 (d : List UInt8) : List Nat :=
  [(d.getD 0 0).toNat / 64, (d.getD 0 0).toNat / 16 % 4, (d.getD 0 0).toNat / 4 % 4, (d.getD 0 0).toNat % 4, (d.getD 1 0).toNat / 64, (d.getD 1 0).toNat / 16 % 4, (d.getD 1 0).toNat / 4 % 4, (d.getD 1 0).toNat % 4]

/-- What they miss to 24. -/
def miss (d : List UInt8) : Nat := 24 - (quad8 d).sum

def quadsN (t : List UInt8) : List Nat := quad8 (digest t) ++ [miss (digest t) / 16, miss (digest t) / 4 % 4, miss (digest t) % 4]

/-- What QuadsOf answers. -/
def quads (t : List UInt8) : List Int := (quadsN t).map fun (n : Nat) => (n : Int)

theorem quadsN_length (t : List UInt8) : (quadsN t).length = 11 := rfl
theorem quads_length (t : List UInt8) : (quads t).length = 11 := rfl

theorem quad8_lt (d : List UInt8) : ∀ x ∈ quad8 d, x < 4 := by
  intro x hx
  have h0 := (d.getD 0 0).toNat_lt
  have h1 := (d.getD 1 0).toNat_lt
  simp only [quad8, List.mem_cons, List.not_mem_nil, or_false] at hx
  omega

theorem quad8_sum (d : List UInt8) : (quad8 d).sum ≤ 24 := by
  have h0 := (d.getD 0 0).toNat_lt
  have h1 := (d.getD 1 0).toNat_lt
  simp only [quad8, List.sum_cons, List.sum_nil]
  omega

theorem miss_le (d : List UInt8) : miss d ≤ 24 := by unfold miss; omega

theorem quadsN_lt (t : List UInt8) (x : Nat) (hx : x ∈ quadsN t) : x < 4 := by
  have hm := miss_le (digest t)
  rw [quadsN, List.mem_append] at hx
  rcases hx with h | h
  · exact quad8_lt _ x h
  · simp only [List.mem_cons, List.not_mem_nil, or_false] at h
    omega

/-- Within 0 .. 1000000. -/
def few (n : Int) : Prop := 0 ≤ n ∧ n ≤ 1000000

instance (n : Int) : Decidable (few n) := by unfold few; infer_instance

/-- What SecretOf answers. -/
def secret (seed leaf i : Int) : List UInt8 := if few seed ∧ few leaf ∧ few i then cut8 (115 :: (varB 4 seed.toNat ++ varB 4 leaf.toNat ++ varB 4 i.toNat)) else []

theorem secret_length (seed leaf i : Int) : (secret seed leaf i).length ≤ 8 := by
  unfold secret
  split
  · exact Nat.le_of_eq (cut8_length _)
  · simp

/-- The text of a leaf's key, behind so many chains. -/
def leafText (seed leaf : Int) : Nat → List UInt8
  | 0 => [108]
  | k + 1 => leafText seed leaf k ++ chain 3 (secret seed leaf k)

theorem leafText_length (seed leaf : Int) (k : Nat) : (leafText seed leaf k).length = 1 + 8 * k := by
  induction k with
  | zero => rfl
  | succ k ih => rw [leafText, List.length_append, ih, chain_length _ _ (by decide)]; omega

/-- What LeafKey answers. -/
def leafKey (seed leaf : Int) : List UInt8 := cut8 (leafText seed leaf 11)

theorem leafKey_length (seed leaf : Int) : (leafKey seed leaf).length = 8 := cut8_length _

/-- Two of a tree, together. -/
def node (a b : List UInt8) : List UInt8 := cut8 (110 :: (a ++ b))

theorem node_length (a b : List UInt8) : (node a b).length = 8 := cut8_length _

/-- The rows of the tree. -/
def lev0 (seed : Int) : List (List UInt8) := [leafKey seed 0, leafKey seed 1, leafKey seed 2, leafKey seed 3]
def lev1 (seed : Int) : List (List UInt8) := [node (leafKey seed 0) (leafKey seed 1), node (leafKey seed 2) (leafKey seed 3)]
def lev2 (seed : Int) : List (List UInt8) := [node (node (leafKey seed 0) (leafKey seed 1)) (node (leafKey seed 2) (leafKey seed 3))]

/-- What KeyOf answers. -/
def key (seed : Int) : List UInt8 := node (node (leafKey seed 0) (leafKey seed 1)) (node (leafKey seed 2) (leafKey seed 3))

theorem key_length (seed : Int) : (key seed).length = 8 := cut8_length _

/-- The ends of a signature's chains. -/
def ends (seed leaf : Int) (t : List UInt8) : List (List UInt8) := (List.range 11).map fun i => chain ((quadsN t).getD i 0) (secret seed leaf i)

/-- What stands beside on the way to the top. -/
def way (seed : Int) (leaf : Nat) : List (List UInt8) := [leafKey seed ((leaf ^^^ 1 : Nat) : Int), (lev1 seed).getD (leaf / 2 ^^^ 1) []]
end Go.Proofs.YtmjpdccfdaajmaaDoor.P4
namespace Go.Proofs.YtmjpdccfdaajmaaDoor.P1

/-- What is left of N, and the figures that were written behind it. -/
structure Dec (N : Int) (c : Int) (t : List UInt8) : Prop where
  more : c ≠ 0 → Lib.decDigits N.natAbs = Lib.decDigits c.natAbs ++ t
  none_ : c = 0 → Lib.decDigits N.natAbs = t
  low : N < 0 → c ≤ 0 ∧ N ≤ c
  high : 0 ≤ N → 0 ≤ c ∧ c ≤ N

theorem Dec.start (N : Int) (h : N ≠ 0) : Dec N N [] := ⟨fun _ => by simp, fun e => absurd e h, fun h => ⟨by omega, Int.le_refl _⟩, fun h => ⟨h, Int.le_refl _⟩⟩

theorem decDigits_step (m : Nat) (h : 0 < m) : Lib.decDigits m = (if m / 10 = 0 then [] else Lib.decDigits (m / 10)) ++ [UInt8.ofNat (48 + m % 10)] := by
  by_cases h10 : m < 10
  · rw [Lib.decDigits_one h10, if_pos (by omega), show m % 10 = m by omega]; rfl
  · rw [Lib.decDigits, dif_neg h10, if_neg (by omega)]

theorem Dec.next {N c c' : Int} {t : List UInt8} (s : Dec N c t) (hc : c ≠ 0) (habs : c'.natAbs = c.natAbs / 10) (hl : c < 0 → c' ≤ 0 ∧ c ≤ c') (hh : 0 < c → 0 ≤ c' ∧ c' ≤ c) :
    Dec N c' (UInt8.ofNat (48 + c.natAbs % 10) :: t) := by
  have hm := s.more hc
  have hst := decDigits_step c.natAbs (by omega)
  refine ⟨fun h => ?_, fun h => ?_, fun h => ?_, fun h => ?_⟩
  · rw [hm, hst, if_neg (by omega), habs]; simp
  · rw [hm, hst, if_pos (by omega)]; simp
  · have := s.low h; omega
  · have := s.high h; omega

theorem Dec.len {N c : Int} {t : List UInt8} (s : Dec N c t) (h0 : -9223372036854775808 ≤ N) (h1 : N ≤ 9223372036854775807) : t.length ≤ 20 := by
  have hn : (Lib.decDigits N.natAbs).length ≤ 20 := by rw [Lib.decDigits_length]; exact Lib.nDigits_le20 _ (by omega)
  by_cases hc : c = 0
  · rw [s.none_ hc] at hn; exact hn
  · rw [s.more hc, List.length_append] at hn; omega

theorem tmod_neg (c : Int) (h : c.tmod 10 < 0) : -c.tmod 10 = ((c.natAbs % 10 : Nat) : Int) := by
  have h1 : (c.tmod 10).natAbs = c.natAbs % 10 := by rw [Int.natAbs_tmod]; rfl
  omega

theorem tmod_pos (c : Int) (h : ¬ c.tmod 10 < 0) : c.tmod 10 = ((c.natAbs % 10 : Nat) : Int) := by
  have h1 : (c.tmod 10).natAbs = c.natAbs % 10 := by rw [Int.natAbs_tmod]; rfl
  omega

theorem tmod_le (c : Int) : -9 ≤ c.tmod 10 ∧ c.tmod 10 ≤ 9 := by
  have h1 : (c.tmod 10).natAbs = c.natAbs % 10 := by rw [Int.natAbs_tmod]; rfl
  omega

theorem tdiv_abs (c : Int) : (c.tdiv 10).natAbs = c.natAbs / 10 := by rw [Int.natAbs_tdiv]; rfl

theorem tdiv_low (c : Int) (h : c < 0) : c.tdiv 10 ≤ 0 ∧ c ≤ c.tdiv 10 := by
  have h1 := tdiv_abs c
  have h2 : c.tdiv 10 ≤ 0 := by
    have e : c.tdiv 10 = -((-c).tdiv 10) := by rw [Int.neg_tdiv, Int.neg_neg]
    have h3 : 0 ≤ (-c).tdiv 10 := Int.tdiv_nonneg (by omega) (by decide)
    omega
  omega

theorem tdiv_high (c : Int) (h : 0 < c) : 0 ≤ c.tdiv 10 ∧ c.tdiv 10 ≤ c := by
  have h1 := tdiv_abs c
  have h2 : 0 ≤ c.tdiv 10 := Int.tdiv_nonneg (by omega) (by decide)
  omega

theorem itoa_of {N : Int} {t : List UInt8} (h : Lib.decDigits N.natAbs = t) : Lib.itoa N = if N < 0 then 45 :: t else t := by
  unfold Lib.itoa
  split
  · rw [h]
  · rw [← h, show N.toNat = N.natAbs by omega]
end Go.Proofs.YtmjpdccfdaajmaaDoor.P1
