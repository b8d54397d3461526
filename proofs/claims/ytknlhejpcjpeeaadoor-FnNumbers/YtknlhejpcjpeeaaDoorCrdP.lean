/- Chapter 5 as plain mathematics: roles, words about circles, their texts; no condition. -/
import Derived.Test.YtknlhejpcjpeeaaDoorPlain
namespace Go.Proofs.YtknlhejpcjpeeaaDoor.P5
open P1

/-- A right role. -/
def roleOk (who name : Int) : Prop := (0 ≤ who ∧ who ≤ 5) ∧ 0 ≤ name ∧ name ≤ 3

instance (who name : Int) : Decidable (roleOk who name) := by unfold roleOk; infer_instance

/-- A word: its ten numbers. -/
structure Cr where
  k : Int
  ow : Int
  on : Int
  wh : Int
  aw : Int
  an : Int
  bw : Int
  bn : Int
  u : Int
  n : Int
deriving DecidableEq

def Cr.zero : Cr := ⟨0, 0, 0, 0, 0, 0, 0, 0, 0, 0⟩

/-- What a word of its kind has. -/
def kindOk (c : Cr) : Prop :=
  (c.k = 1 ∧ (0 ≤ c.wh ∧ c.wh ≤ 5) ∧ (c.aw = 0 ∧ c.an = 0) ∧ c.bw = 0 ∧ c.bn = 0) ∨
  (c.k = 2 ∧ c.wh = 0 ∧ roleOk c.aw c.an ∧ c.bw = 0 ∧ c.bn = 0) ∨
  (c.k = 3 ∧ c.wh = 0 ∧ roleOk c.aw c.an ∧ roleOk c.bw c.bn ∧ c.bw = 0) ∨
  (c.k = 4 ∧ c.wh = 0 ∧ roleOk c.aw c.an ∧ roleOk c.bw c.bn)

instance (c : Cr) : Decidable (kindOk c) := by unfold kindOk; infer_instance

/-- A right word. -/
def credOk (c : Cr) : Prop := (roleOk c.ow c.on ∧ (1 ≤ c.u ∧ c.u ≤ 9999) ∧ 0 ≤ c.n ∧ c.n ≤ 99) ∧ kindOk c

instance (c : Cr) : Decidable (credOk c) := by unfold credOk; infer_instance

/-- All its numbers are small. -/
def Cr.small (c : Cr) : Prop := (0 ≤ c.k ∧ c.k ≤ 9999) ∧ (0 ≤ c.ow ∧ c.ow ≤ 9999) ∧ (0 ≤ c.on ∧ c.on ≤ 9999) ∧ (0 ≤ c.wh ∧ c.wh ≤ 9999) ∧ (0 ≤ c.aw ∧ c.aw ≤ 9999) ∧ (0 ≤ c.an ∧ c.an ≤ 9999) ∧ (0 ≤ c.bw ∧ c.bw ≤ 9999) ∧ (0 ≤ c.bn ∧ c.bn ≤ 9999) ∧ (0 ≤ c.u ∧ c.u ≤ 9999) ∧ 0 ≤ c.n ∧ c.n ≤ 9999

theorem credOk.small {c : Cr} (h : credOk c) : c.small := by
  obtain ⟨⟨h1, h2, h3, h4⟩, hk⟩ := h
  unfold kindOk roleOk at hk
  unfold roleOk at h1
  unfold Cr.small
  omega

/-- Its numbers in bytes. -/
def credB (c : Cr) : List UInt8 := varB 4 c.k.toNat ++ varB 4 c.ow.toNat ++ varB 4 c.on.toNat ++ varB 4 c.wh.toNat ++ varB 4 c.aw.toNat ++ varB 4 c.an.toNat ++ varB 4 c.bw.toNat ++ varB 4 c.bn.toNat ++ varB 4 c.u.toNat ++ varB 4 c.n.toNat

/-- What CredText answers. -/
def credT (c : Cr) : List UInt8 := if credOk c then credB c else []

theorem credB_le (c : Cr) : (credB c).length ≤ 50 := by
  have := fun n => (varB_length 4 n).2
  simp only [credB, List.length_append]
  have h0 := this c.k.toNat
  have h1 := this c.ow.toNat
  have h2 := this c.on.toNat
  have h3 := this c.wh.toNat
  have h4 := this c.aw.toNat
  have h5 := this c.an.toNat
  have h6 := this c.bw.toNat
  have h7 := this c.bn.toNat
  have h8 := this c.u.toNat
  have h9 := this c.n.toNat
  omega

theorem credT_le (c : Cr) : (credT c).length ≤ 50 := by
  unfold credT
  split
  · exact credB_le c
  · simp
end Go.Proofs.YtknlhejpcjpeeaaDoor.P5
