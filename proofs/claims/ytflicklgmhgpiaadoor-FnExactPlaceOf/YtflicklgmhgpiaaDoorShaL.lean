/- What the listed tables of chapter 3 give: each of their cells. -/
import Derived.Test.YtflicklgmhgpiaaDoorRows
import Derived.Test.YtflicklgmhgpiaaDoorFrame
import Derived.Test.YtflicklgmhgpiaaDoorShaG
import Derived.Lib.LaidTab
import Derived.MakeChecks
namespace Go.Proofs.YtflicklgmhgpiaaDoor.P3
open Go.RowKit P1

theorem cWord : Tryd.prog.cellsOf 70 = 1 := by kernel_rfl
theorem gKey : Tryd.prog.globalNamed "loop.example/g00474/impl.turnNumbers" = some 1 := by kernel_rfl
theorem tKey : (Tryd.prog.globals[1]?).map (·.type) = some 76 := by kernel_rfl
theorem uKey : Tryd.prog.underlying 76 = some (.array 64 70) := by kernel_rfl
theorem cKey : Tryd.prog.cellsOf 76 = 64 := by kernel_rfl
def iKey : List Int := keys.map fun (n : Nat) => (n : Int)
theorem dKey : (Rows.laid_loop_example_g00474_impl_turnNumbers : DataW Unit) = Lib.tabData .u32 iKey := by kernel_rfl

theorem key_of_laid {W : World} {l : List (String × DataW Unit)} (hl : (l.all fun x => x.2.handleName?.isNone) = true) (hm : ("loop.example/g00474/impl.turnNumbers", Rows.laid_loop_example_g00474_impl_turnNumbers) ∈ l) (h : laidMetH Tryd.prog l W) : KeyT W := by
  rw [MakeChecks.laidMetH_plain _ _ _ hl] at h
  obtain ⟨ps, hv, _⟩ := h
  obtain ⟨g, t, cs, fuel, p, h1, h2, h3, h4⟩ := Frame.laid_var hv hm
  obtain rfl := Option.some.inj (gKey.symm.trans h1)
  obtain rfl := Option.some.inj (tKey.symm.trans h2)
  rw [dKey] at h4
  have hc := Lib.cells_of_tab uKey Tryd.underlying70 cWord cKey h4
  have hlen : keys.length = 64 := rfl
  refine ⟨?_, fun r hr => ?_⟩
  · unfold World.var? at h3
    rw [gKey] at h3
    simp only [Option.bind_some] at h3
    rcases Nat.lt_or_ge 1 W.heap.size with h' | h'
    · exact h'
    · rw [Array.getElem?_eq_none h'] at h3; simp at h3
  · rw [World.var?_cell gKey h3 r]
    have e : cs[r]? = cs.toList[r]? := by simp
    have hr' : r < keys.length := by omega
    rw [e, hc, iKey, List.map_map, List.getElem?_map, List.getElem?_eq_getElem hr']
    simp [List.getD_eq_getElem?_getD, List.getElem?_eq_getElem hr']

theorem gStt : Tryd.prog.globalNamed "loop.example/g00474/impl.startNumbers" = some 0 := by kernel_rfl
theorem tStt : (Tryd.prog.globals[0]?).map (·.type) = some 72 := by kernel_rfl
theorem uStt : Tryd.prog.underlying 72 = some (.array 8 70) := by kernel_rfl
theorem cStt : Tryd.prog.cellsOf 72 = 8 := by kernel_rfl
def iStt : List Int := start.list.map fun (n : Nat) => (n : Int)
theorem dStt : (Rows.laid_loop_example_g00474_impl_startNumbers : DataW Unit) = Lib.tabData .u32 iStt := by kernel_rfl

theorem st_of_laid {W : World} {l : List (String × DataW Unit)} (hl : (l.all fun x => x.2.handleName?.isNone) = true) (hm : ("loop.example/g00474/impl.startNumbers", Rows.laid_loop_example_g00474_impl_startNumbers) ∈ l) (h : laidMetH Tryd.prog l W) : StT W := by
  rw [MakeChecks.laidMetH_plain _ _ _ hl] at h
  obtain ⟨ps, hv, _⟩ := h
  obtain ⟨g, t, cs, fuel, p, h1, h2, h3, h4⟩ := Frame.laid_var hv hm
  obtain rfl := Option.some.inj (gStt.symm.trans h1)
  obtain rfl := Option.some.inj (tStt.symm.trans h2)
  rw [dStt] at h4
  have hc := Lib.cells_of_tab uStt Tryd.underlying70 cWord cStt h4
  have hlen : start.list.length = 8 := rfl
  refine ⟨?_, fun r hr => ?_⟩
  · unfold World.var? at h3
    rw [gStt] at h3
    simp only [Option.bind_some] at h3
    rcases Nat.lt_or_ge 0 W.heap.size with h' | h'
    · exact h'
    · rw [Array.getElem?_eq_none h'] at h3; simp at h3
  · rw [World.var?_cell gStt h3 r]
    have e : cs[r]? = cs.toList[r]? := by simp
    have hr' : r < start.list.length := by omega
    rw [e, hc, iStt, List.map_map, List.getElem?_map, List.getElem?_eq_getElem hr']
    simp [List.getD_eq_getElem?_getD, List.getElem?_eq_getElem hr']

theorem glo_of_laid {W : World} {l : List (String × DataW Unit)} (hl : (l.all fun x => x.2.handleName?.isNone) = true) (h1 : ("loop.example/g00474/impl.startNumbers", Rows.laid_loop_example_g00474_impl_startNumbers) ∈ l) (h2 : ("loop.example/g00474/impl.turnNumbers", Rows.laid_loop_example_g00474_impl_turnNumbers) ∈ l) (h : laidMetH Tryd.prog l W) : Glo W :=
  ⟨st_of_laid hl h1 h, key_of_laid hl h2 h⟩
end Go.Proofs.YtflicklgmhgpiaaDoor.P3
