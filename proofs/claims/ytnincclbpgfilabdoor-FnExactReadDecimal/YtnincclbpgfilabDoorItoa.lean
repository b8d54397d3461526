/- The contract of impl.Decimal, and what the listed tables give; condition: the library's table of powers of ten holds what its text lays. -/
import Derived.Test.YtnincclbpgfilabDoorDec
import Derived.Test.YtnincclbpgfilabDoorShelf
import Derived.Lib.LaidTab
import Derived.Sort.Grow
import Derived.WalkSmall
import Derived.LaidMore
import Derived.Stop.Joined
namespace Go.Proofs.YtnincclbpgfilabDoor.P1
open Go.RowKit

/-- The table of powers of ten is there. -/
def Pow10 (w : World) : Prop := Lib.TabIs Tryd.prog w "internal/strconv.uint64pow10" .u64 Lib.pow10Tab

theorem gPow : Tryd.prog.globalNamed "internal/strconv.uint64pow10" = some 2 := by kernel_rfl
theorem tPow : (Tryd.prog.globals[2]?).map (·.type) = some 68 := by kernel_rfl
theorem uPow : Tryd.prog.underlying 68 = some (.array 20 50) := by kernel_rfl
theorem uWord : Tryd.prog.underlying 50 = some (.int .u64) := by kernel_rfl
theorem cPow : Tryd.prog.cellsOf 68 = 20 := by kernel_rfl
theorem cWord : Tryd.prog.cellsOf 50 = 1 := by kernel_rfl
theorem powData : (Rows.laid_internal_strconv_uint64pow10 : DataW Unit) = Lib.tabData .u64 Lib.pow10Tab := by kernel_rfl

/-- The three tables that the rows of Decimal and ReadDecimal list. -/
def laid3 : List (String × DataW Unit) := [("math/bits.deBruijn32tab", Rows.laid_math_bits_deBruijn32tab), ("math/bits.deBruijn64tab", Rows.laid_math_bits_deBruijn64tab), ("internal/strconv.uint64pow10", Rows.laid_internal_strconv_uint64pow10)]

theorem pow10_of_laid {W : World} (h : laidMetH Tryd.prog laid3 W) : Pow10 W := by
  rw [MakeChecks.laidMetH_plain _ _ _ (by kernel_rfl)] at h
  obtain ⟨ps, ⟨g0, t0, cs0, f0, p0, q0, hg0, ht0, hv0, hd0, ⟨g1, t1, cs1, f1, p1, q1, hg1, ht1, hv1, hd1, ⟨g2, t2, cs2, f2, p2, q2, hg2, ht2, hv2, hd2, _, _⟩, _⟩, _⟩, _⟩ := h
  obtain rfl := Option.some.inj (gPow.symm.trans hg2)
  obtain rfl := Option.some.inj (tPow.symm.trans ht2)
  rw [powData] at hd2
  unfold Pow10 Lib.TabIs
  rw [hv2, ← Lib.cells_of_tab uPow uWord cWord cPow hd2]

theorem Pow10.on {w w' : World} (h : Pow10 w) (hg : 2 < w.heap.size) (hb : Below w.heap.size w w') : Pow10 w' := var?_below hb gPow hg h

theorem Pow10.lt {w : World} (h : Pow10 w) : 2 < w.heap.size := by
  unfold Pow10 Lib.TabIs World.var? at h
  rw [gPow] at h
  simp only [Option.bind_some] at h
  rcases Nat.lt_or_ge 2 w.heap.size with h' | h'
  · exact h'
  · rw [Array.getElem?_eq_none h'] at h; simp at h

theorem below_grow (w : World) (k : Nat) (os : Array Obj) : Below w.heap.size w (Sort.grow (w.drewN k) os) :=
  ⟨rfl, rfl, rfl, by simp [Sort.grow, World.drewN], fun j hj => by
    show (w.heap ++ os)[j]? = w.heap[j]?
    rw [Array.getElem?_append_left hj]⟩

theorem implDecimal_calls (N : Int) (h0 : -9223372036854775808 ≤ N) (h1 : N ≤ 9223372036854775807) (w : World) (ht : Pow10 w) :
    Calls Tryd.prog 7 #[.int .i64 N] w fun e w' => e = .returned (.string ⟨(Lib.itoa N).toArray⟩) ∧ Below w.heap.size w w' := by
  have Ht := hide ht
  clear ht
  go_enter Tryd.func7, Tryd.ntmps7
  go_wp2_with fail
  refine (Tryd.strconv_Itoa N h0 h1 _ Ht.out).mono ?_
  rintro e w1 ⟨rfl, k, os, hw⟩
  have hb := below_grow w k os
  rw [← hw] at hb
  clear hw
  go_wp2
  go_ret
  exact ⟨rfl, hb⟩
end Go.Proofs.YtnincclbpgfilabDoor.P1
