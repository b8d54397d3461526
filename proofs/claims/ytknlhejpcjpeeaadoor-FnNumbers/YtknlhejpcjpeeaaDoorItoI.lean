/- The contract of impl.Decimal, and what the listed tables give; condition: the library's table of powers of ten holds what its text lays. -/
import Derived.Test.YtknlhejpcjpeeaaDoorFrame
import Derived.Test.YtknlhejpcjpeeaaDoorVar
import Derived.Test.YtknlhejpcjpeeaaDoorItoL
import Derived.Lib.LaidTab
import Derived.MakeChecks
import Derived.Sort.Grow
import Derived.WalkSmall
import Derived.LaidMore
import Derived.Stop.Joined
namespace Go.Proofs.YtknlhejpcjpeeaaDoor.P1
set_option maxRecDepth 8000
open Go.RowKit

/-- The table of powers of ten is there. -/
def Pow10 (w : World) : Prop := Lib.TabIs Tryd.prog w "internal/strconv.uint64pow10" .u64 Lib.pow10Tab

theorem gPow : Tryd.prog.globalNamed "internal/strconv.uint64pow10" = some 0 := by kernel_rfl
theorem tPow : (Tryd.prog.globals[0]?).map (·.type) = some 61 := by kernel_rfl
theorem uPow : Tryd.prog.underlying 61 = some (.array 20 54) := by kernel_rfl
theorem cPow : Tryd.prog.cellsOf 61 = 20 := by kernel_rfl
theorem cWord64 : Tryd.prog.cellsOf 54 = 1 := by kernel_rfl
theorem powData : (Rows.laid_internal_strconv_uint64pow10 : DataW Unit) = Lib.tabData .u64 Lib.pow10Tab := by kernel_rfl

theorem pow10_of_laid {W : World} {l : List (String × DataW Unit)} (hl : (l.all fun x => x.2.handleName?.isNone) = true) (hm : ("internal/strconv.uint64pow10", Rows.laid_internal_strconv_uint64pow10) ∈ l) (h : laidMetH Tryd.prog l W) : Pow10 W := by
  rw [MakeChecks.laidMetH_plain _ _ _ hl] at h
  obtain ⟨ps, hv, _⟩ := h
  obtain ⟨g, t, cs, fuel, p, h1, h2, h3, h4⟩ := Frame.laid_var hv hm
  obtain rfl := Option.some.inj (gPow.symm.trans h1)
  obtain rfl := Option.some.inj (tPow.symm.trans h2)
  rw [powData] at h4
  unfold Pow10 Lib.TabIs
  rw [h3, ← Lib.cells_of_tab uPow Tryd.underlying54 cWord64 cPow h4]

theorem Pow10.lt {w : World} (h : Pow10 w) : 0 < w.heap.size := by
  unfold Pow10 Lib.TabIs World.var? at h
  rw [gPow] at h
  simp only [Option.bind_some] at h
  rcases Nat.lt_or_ge 0 w.heap.size with h' | h'
  · exact h'
  · rw [Array.getElem?_eq_none h'] at h; simp at h

theorem Pow10.on {w w' : World} (h : Pow10 w) (hb : Below w.heap.size w w') : Pow10 w' := var?_below hb gPow h.lt h

theorem below_grow (w : World) (k : Nat) (os : Array Obj) : Below w.heap.size w (Sort.grow (w.drewN k) os) :=
  ⟨rfl, rfl, rfl, by simp [Sort.grow, World.drewN], fun j hj => by
    show (w.heap ++ os)[j]? = w.heap[j]?
    rw [Array.getElem?_append_left hj]⟩

theorem implDecimal_calls (N : Int) (h0 : -9223372036854775808 ≤ N) (h1 : N ≤ 9223372036854775807) (w : World) (ht : Pow10 w) :
    Calls Tryd.prog 9 #[.int .i64 N] w fun e w' => e = .returned (.string ⟨(Lib.itoa N).toArray⟩) ∧ Below w.heap.size w w' := by
  have Ht := hide ht
  clear ht
  go_enter Tryd.func9, Tryd.ntmps9
  go_wp2_with fail
  refine (Tryd.strconv_Itoa N h0 h1 _ Ht.out).mono ?_
  rintro e w1 ⟨rfl, k, os, hw⟩
  have hb := below_grow w k os
  rw [← hw] at hb
  clear hw
  go_wp2
  go_ret
  exact ⟨rfl, hb⟩
end Go.Proofs.YtknlhejpcjpeeaaDoor.P1
