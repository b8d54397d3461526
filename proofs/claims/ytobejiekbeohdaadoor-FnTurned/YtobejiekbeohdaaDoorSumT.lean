/- What the listed table of chapter 2 gives: each of its sixteen cells. -/
import Derived.Test.YtobejiekbeohdaaDoorSumW
import Derived.Test.YtobejiekbeohdaaDoorFrame
import Derived.Lib.LaidTab
import Derived.MakeChecks
namespace Go.Proofs.YtobejiekbeohdaaDoor.P2
open Go.RowKit

theorem gTab : Tryd.prog.globalNamed "loop.example/g00474/impl.halfSums" = some 0 := by kernel_rfl
theorem tTab : (Tryd.prog.globals[0]?).map (·.type) = some 47 := by kernel_rfl
theorem uTab : Tryd.prog.underlying 47 = some (.array 16 29) := by kernel_rfl
theorem cTab : Tryd.prog.cellsOf 47 = 16 := by kernel_rfl
theorem cWord : Tryd.prog.cellsOf 29 = 1 := by kernel_rfl
def tabI : List Int := tab.map fun (n : Nat) => (n : Int)
theorem tabData : (Rows.laid_loop_example_g00474_impl_halfSums : DataW Unit) = Lib.tabData .u32 tabI := by kernel_rfl

theorem tab_of_laid {W : World} {l : List (String × DataW Unit)} (hl : (l.all fun x => x.2.handleName?.isNone) = true) (hm : ("loop.example/g00474/impl.halfSums", Rows.laid_loop_example_g00474_impl_halfSums) ∈ l) (h : laidMetH Tryd.prog l W) : Tab W := by
  rw [MakeChecks.laidMetH_plain _ _ _ hl] at h
  obtain ⟨ps, hv, _⟩ := h
  obtain ⟨g, t, cs, fuel, p, h1, h2, h3, h4⟩ := Frame.laid_var hv hm
  obtain rfl := Option.some.inj (gTab.symm.trans h1)
  obtain rfl := Option.some.inj (tTab.symm.trans h2)
  rw [tabData] at h4
  have hc := Lib.cells_of_tab uTab Tryd.underlying29 cWord cTab h4
  refine ⟨?_, fun r hr => ?_⟩
  · unfold World.var? at h3
    rw [gTab] at h3
    simp only [Option.bind_some] at h3
    rcases Nat.lt_or_ge 0 W.heap.size with h' | h'
    · exact h'
    · rw [Array.getElem?_eq_none h'] at h3; simp at h3
  · rw [World.var?_cell gTab h3 r]
    have e : cs[r]? = cs.toList[r]? := by simp
    rw [e, hc, tabI, List.map_map, List.getElem?_map, List.getElem?_eq_getElem (show r < tab.length from hr)]
    simp [List.getD_eq_getElem?_getD, List.getElem?_eq_getElem (show r < tab.length from hr)]
end Go.Proofs.YtobejiekbeohdaaDoor.P2
