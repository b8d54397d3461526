/- The contracts of spec.l01Figure, spec.Hex and impl.Hex: each returns the figures that chapter 1 names. -/
import Derived.Test.YtflicklgmhgpiaaDoorVar
import Derived.Test.YtflicklgmhgpiaaDoorHexP
import Derived.Test.YtflicklgmhgpiaaDoorOrd
import Derived.WalkKit
namespace Go.Proofs.YtflicklgmhgpiaaDoor.P1
open Go.RowKit

theorem own_two {w : World} {B : Nat} {e : TypeId} {v : Value} {l m : List UInt8} {z1 z2 : Int} {b1 b2 : UInt8} (h : w.ownsRow B e 1 v (l.length + 2) (cellsB l ++ [.int .u8 z1, .int .u8 z2])) (hm : m = l ++ [b1, b2]) (h1 : z1 = b1.toNat) (h2 : z2 = b2.toNat) :
    w.ownsRow B e 1 v m.length (cellsB m) := by
  subst hm
  have e1 : cellsB (l ++ [b1, b2]) = cellsB l ++ [.int .u8 z1, .int .u8 z2] := by simp [cellsB, h1, h2]
  have e2 : (l ++ [b1, b2]).length = l.length + 2 := by simp
  rw [e1, e2]; exact h

/-- What Hex answers. -/
def hex (s : ByteArray) : List UInt8 × Bool := if s.size ≤ 20000 then (hexB s.data.toList, true) else ([], false)

theorem fig_index (q : Nat) (h : q < 16) (wx : World) : (Instr.index 9 (.string ⟨#[48, 49, 50, 51, 52, 53, 54, 55, 56, 57, 97, 98, 99, 100, 101, 102]⟩) (.int .u8 (q : Int))).run Tryd.prog wx = .ok (.int .u8 (fig q : Int)) wx :=
  match q, h with
  | 0, _ => by kernel_rfl
  | 1, _ => by kernel_rfl
  | 2, _ => by kernel_rfl
  | 3, _ => by kernel_rfl
  | 4, _ => by kernel_rfl
  | 5, _ => by kernel_rfl
  | 6, _ => by kernel_rfl
  | 7, _ => by kernel_rfl
  | 8, _ => by kernel_rfl
  | 9, _ => by kernel_rfl
  | 10, _ => by kernel_rfl
  | 11, _ => by kernel_rfl
  | 12, _ => by kernel_rfl
  | 13, _ => by kernel_rfl
  | 14, _ => by kernel_rfl
  | 15, _ => by kernel_rfl
  | n + 16, h => absurd h (by omega)

theorem fig_index_int (x : Int) (h0 : 0 ≤ x) (h1 : x < 16) (wx : World) : (Instr.index 9 (.string ⟨#[48, 49, 50, 51, 52, 53, 54, 55, 56, 57, 97, 98, 99, 100, 101, 102]⟩) (.int .u8 x)).run Tryd.prog wx = .ok (.int .u8 (fig x.toNat : Int)) wx := by
  obtain ⟨m, rfl⟩ := Int.eq_ofNat_of_zero_le h0
  exact fig_index m (by omega) wx
end Go.Proofs.YtflicklgmhgpiaaDoor.P1
