/- A call of a function of the program that is the only operation that may come, guarded or not, of however many arguments: by its contract; no condition. -/
import Derived.Test.YtflicklgmhgpiaaLate
namespace Go.Proofs.Ytflicklgmhgpiaa.P1
open Go.RowKit

theorem wpAny_callW {P : Program} {md : Region.Mode} {Q : Exit → Act → World → Prop} {L : List Oper} (i : Nat) {o : Oper} {fuel : Nat} {listed : Array Bool} {a : Act} {w : World} (hr : Region.ready md L.toArray listed = [i]) (hh : (L.drop i).head? = some o) (hw : Region.wanted o (yielded L.toArray a.tmps) = true)
    (f : FuncId) (xs : Array Operand) (ts : Array TypeId) (hop : o.op = .call { callee := .value (.func f), args := xs, argTypes := ts }) (hrun : ∀ args w, (callFunc f args).run P w = .ok (.enter f args) w) (vs : Array Value) (hv0 : xs.toList.map a.eval = vs.toList) (R : Value → World → Prop)
    (hc : Calls P f vs w fun e w' => ∃ u, e = .returned u ∧ R u w') (hK : ∀ u w', R u w' → wpAny P md L.toArray Q fuel (listed.setIfInBounds i true) (a.put o.dst u) w') : wpAny P md L.toArray Q (fuel + 1) listed a w := by
  have ho : L.toArray[i]? = some o := by simpa [List.head?_drop] using hh
  refine ⟨fun h0 => (by rw [hr] at h0; cases h0), fun j hj => ?_⟩
  rw [hr] at hj
  obtain rfl : j = i := by simpa using hj
  unfold wpOp
  simp only [ho]
  rw [if_pos hw]
  refine .inl ?_
  have hv : xs.map a.eval = vs := Array.toList_inj.1 (by simpa using hv0)
  have hr : (execOp a.eval o).run P w = .ok (.enter f vs) w := by
    obtain ⟨dst, op, ty, pos, after, guard⟩ := o
    simp only at hop
    subst hop
    show (callFunc f (#[] ++ xs.map a.eval ++ #[])).run P w = _
    rw [hrun]
    simp [← hv]
  unfold Oper.wp
  rw [hr]
  refine hc.mono ?_
  rintro e w' ⟨u, rfl, hR⟩
  exact hK u w' hR
end Go.Proofs.Ytflicklgmhgpiaa.P1
