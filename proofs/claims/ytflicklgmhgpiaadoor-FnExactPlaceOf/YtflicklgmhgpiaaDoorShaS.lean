/- The contracts of spec.ShaStart and spec.ShaBlock. -/
import Derived.Test.YtflicklgmhgpiaaDoorShaD
import Derived.Test.YtflicklgmhgpiaaDoorIntS
namespace Go.Proofs.YtflicklgmhgpiaaDoor.P3
open Go.RowKit P1

/-- Words as ints. -/
def intsOf (l : List Nat) : List Int := l.map fun (n : Nat) => (n : Int)

theorem intsOf_snoc (l : List Nat) (k : Nat) (hk : k < l.length) : intsOf (l.take k) ++ [((l.getD k 0 : Nat) : Int)] = intsOf (l.take (k + 1)) := by
  unfold intsOf
  rw [List.take_succ_eq_append_getElem hk, List.map_append]
  have hg : l.getD k 0 = l[k] := by simp [List.getD_eq_getElem?_getD, hk]
  rw [hg]
  rfl

theorem intsOf_length (l : List Nat) : (intsOf l).length = l.length := by simp [intsOf]
end Go.Proofs.YtflicklgmhgpiaaDoor.P3
