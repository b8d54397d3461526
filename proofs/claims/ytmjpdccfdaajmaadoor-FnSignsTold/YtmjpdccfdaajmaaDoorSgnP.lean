/- Chapter 4 as plain mathematics on lists of bytes: chains, quarters, secrets, keys; no condition. -/
import Derived.Test.YtmjpdccfdaajmaaDoorShaP
import Derived.Test.YtmjpdccfdaajmaaDoorPlain
namespace Go.Proofs.YtmjpdccfdaajmaaDoor.P4
open P1 P3

/-- The first eight bytes of a digest. -/
def cut8 (s : List UInt8) : List UInt8 := (digest s).take 8

theorem cut8_length (s : List UInt8) : (cut8 s).length = 8 := rfl

def chain : Nat → List UInt8 → List UInt8
  | 0, t => t
  | n + 1, t => cut8 (99 :: chain n t)

theorem chain_length (n : Nat) (t : List UInt8) (h : 0 < n) : (chain n t).length = 8 := by
  cases n with
  | zero => omega
  | succ n => exact cut8_length _

theorem chain_le (n : Nat) (t : List UInt8) : (chain n t).length ≤ max 8 t.length := by
  cases n with
  | zero => simp [chain]; omega
  | succ n => rw [chain_length _ _ (by omega)]; omega

theorem chain_add (n m : Nat) (t : List UInt8) : chain n (chain m t) = chain (n + m) t := by
  induction n with
  | zero => rw [Nat.zero_add]; rfl
  | succ n ih => rw [Nat.add_right_comm]; simp only [chain]; rw [ih]

/-- What ChainOf answers. -/
def chainV (t : List UInt8) (n : Int) : List UInt8 := chain (min 3 n.toNat) t

/-- Eight quarters of two bytes. -/
def quad8 (d : List UInt8) : List Nat :=
  [(d.getD 0 0).toNat / 64, (d.getD 0 0).toNat / 16 % 4, (d.getD 0 0).toNat / 4 % 4, (d.getD 0 0).toNat % 4, (d.getD 1 0).toNat / 64, (d.getD 1 0).toNat / 16 % 4, (d.getD 1 0).toNat / 4 % 4, (d.getD 1 0).toNat % 4]

/-- What they miss to 24. -/
def miss (d : List UInt8) : Nat := 24 - (quad8 d).sum

def quadsN (t : List UInt8) : List Nat := quad8 (digest t) ++ [miss (digest t) / 16, miss (digest t) / 4 % 4, miss (digest t) % 4]

/-- What QuadsOf answers. -/
def quads (t : List UInt8) : List Int := (quadsN t).map fun (n : Nat) => (n : Int)

theorem quadsN_length (t : List UInt8) : (quadsN t).length = 11 := rfl
theorem quads_length (t : List UInt8) : (quads t).length = 11 := rfl

theorem quad8_lt (d : List UInt8) : ∀ x ∈ quad8 d, x < 4 := by
  intro x hx
  have h0 := (d.getD 0 0).toNat_lt
  have h1 := (d.getD 1 0).toNat_lt
  simp only [quad8, List.mem_cons, List.not_mem_nil, or_false] at hx
  omega

theorem quad8_sum (d : List UInt8) : (quad8 d).sum ≤ 24 := by
  have h0 := (d.getD 0 0).toNat_lt
  have h1 := (d.getD 1 0).toNat_lt
  simp only [quad8, List.sum_cons, List.sum_nil]
  omega

theorem miss_le (d : List UInt8) : miss d ≤ 24 := by unfold miss; omega

theorem quadsN_lt (t : List UInt8) (x : Nat) (hx : x ∈ quadsN t) : x < 4 := by
  have hm := miss_le (digest t)
  rw [quadsN, List.mem_append] at hx
  rcases hx with h | h
  · exact quad8_lt _ x h
  · simp only [List.mem_cons, List.not_mem_nil, or_false] at h
    omega

/-- Within 0 .. 1000000. -/
def few (n : Int) : Prop := 0 ≤ n ∧ n ≤ 1000000

instance (n : Int) : Decidable (few n) := by unfold few; infer_instance

/-- What SecretOf answers. -/
def secret (seed leaf i : Int) : List UInt8 := if few seed ∧ few leaf ∧ few i then cut8 (115 :: (varB 4 seed.toNat ++ varB 4 leaf.toNat ++ varB 4 i.toNat)) else []

theorem secret_length (seed leaf i : Int) : (secret seed leaf i).length ≤ 8 := by
  unfold secret
  split
  · exact Nat.le_of_eq (cut8_length _)
  · simp

/-- The text of a leaf's key, behind so many chains. -/
def leafText (seed leaf : Int) : Nat → List UInt8
  | 0 => [108]
  | k + 1 => leafText seed leaf k ++ chain 3 (secret seed leaf k)

theorem leafText_length (seed leaf : Int) (k : Nat) : (leafText seed leaf k).length = 1 + 8 * k := by
  induction k with
  | zero => rfl
  | succ k ih => rw [leafText, List.length_append, ih, chain_length _ _ (by decide)]; omega

/-- What LeafKey answers. -/
def leafKey (seed leaf : Int) : List UInt8 := cut8 (leafText seed leaf 11)

theorem leafKey_length (seed leaf : Int) : (leafKey seed leaf).length = 8 := cut8_length _

/-- Two of a tree, together. -/
def node (a b : List UInt8) : List UInt8 := cut8 (110 :: (a ++ b))

theorem node_length (a b : List UInt8) : (node a b).length = 8 := cut8_length _

/-- The rows of the tree. -/
def lev0 (seed : Int) : List (List UInt8) := [leafKey seed 0, leafKey seed 1, leafKey seed 2, leafKey seed 3]
def lev1 (seed : Int) : List (List UInt8) := [node (leafKey seed 0) (leafKey seed 1), node (leafKey seed 2) (leafKey seed 3)]
def lev2 (seed : Int) : List (List UInt8) := [node (node (leafKey seed 0) (leafKey seed 1)) (node (leafKey seed 2) (leafKey seed 3))]

/-- What KeyOf answers. -/
def key (seed : Int) : List UInt8 := node (node (leafKey seed 0) (leafKey seed 1)) (node (leafKey seed 2) (leafKey seed 3))

theorem key_length (seed : Int) : (key seed).length = 8 := cut8_length _

/-- The ends of a signature's chains. -/
def ends (seed leaf : Int) (t : List UInt8) : List (List UInt8) := (List.range 11).map fun i => chain ((quadsN t).getD i 0) (secret seed leaf i)

/-- What stands beside on the way to the top. -/
def way (seed : Int) (leaf : Nat) : List (List UInt8) := [leafKey seed ((leaf ^^^ 1 : Nat) : Int), (lev1 seed).getD (leaf / 2 ^^^ 1) []]
end Go.Proofs.YtmjpdccfdaajmaaDoor.P4
