/- The plain mathematics of figures: two for each byte, and back; no condition. -/
import Derived.Test.YtknlhejpcjpeeaaDoorPlain
namespace Go.Proofs.YtknlhejpcjpeeaaDoor.P1

/-- The figure of a number below 16. -/
def fig (x : Nat) : Nat := if x < 10 then 48 + x else 87 + x

theorem fig_lt (x : Nat) (h : x < 16) : fig x < 256 := by unfold fig; split <;> omega

/-- Two figures for each byte. -/
def hexB : List UInt8 → List UInt8
  | [] => []
  | b :: r => UInt8.ofNat (fig (b.toNat / 16)) :: UInt8.ofNat (fig (b.toNat % 16)) :: hexB r

theorem hexB_append (l m : List UInt8) : hexB (l ++ m) = hexB l ++ hexB m := by
  induction l with
  | nil => rfl
  | cons b r ih => simp [hexB, ih]

theorem hexB_length (l : List UInt8) : (hexB l).length = 2 * l.length := by
  induction l with
  | nil => rfl
  | cons b r ih => simp [hexB, ih]; omega

theorem hexB_take (l : List UInt8) (k : Nat) (h : k < l.length) :
    hexB (l.take (k + 1)) = hexB (l.take k) ++ [UInt8.ofNat (fig (l[k].toNat / 16)), UInt8.ofNat (fig (l[k].toNat % 16))] := by
  rw [List.take_succ_eq_append_getElem h, hexB_append]; rfl
end Go.Proofs.YtknlhejpcjpeeaaDoor.P1
