/- A call of two arguments that is the only operation that may come, guarded or not: by its contract; no condition. -/
import Derived.Test.YtkmeafccdhejdaaDoorCut
namespace Go.Proofs.YtkmeafccdhejdaaDoor.P1
open Go.RowKit

theorem wpAny_call2 {P : Program} {ops : Array Oper} {md : Region.Mode} {Q : Exit → Act → World → Prop} {w : World} {listed : Array Bool} {a : Act} {fuel : Nat} (i : Nat) (o : Oper) (hr : Region.ready md ops listed = [i]) (ho : ops[i]? = some o)
    (hw : Region.wanted o (yielded ops a.tmps) = true) (f : FuncId) (x y : Operand) (t u : TypeId) (hop : o.op = .call { callee := .value (.func f), args := #[x, y], argTypes := #[t, u] })
    (hrun : ∀ args w, (callFunc f args).run P w = .ok (.enter f args) w) (v v' : Value) (hv : a.eval x = v) (hv' : a.eval y = v') (R : Value → World → Prop)
    (hc : Calls P f #[v, v'] w fun e w' => ∃ r, e = .returned r ∧ R r w')
    (hK : ∀ r w', R r w' → wpAny P md ops Q fuel (listed.setIfInBounds i true) (a.put o.dst r) w') : wpAny P md ops Q (fuel + 1) listed a w := by
  refine wpAny_all hr (by simp) ?_
  intro j hj
  obtain rfl : j = i := by simpa using hj
  unfold wpOp
  simp only [ho]
  rw [if_pos hw]
  refine .inl ?_
  have hr : (execOp a.eval o).run P w = .ok (.enter f #[v, v']) w := by
    obtain ⟨dst, op, ty, pos, after, guard⟩ := o
    simp only at hop
    subst hop
    show (callFunc f (#[] ++ #[x, y].map a.eval ++ #[])).run P w = _
    rw [hrun]
    simp [← hv, ← hv']
  unfold Oper.wp
  rw [hr]
  refine hc.mono ?_
  rintro e w' ⟨r, rfl, hR⟩
  exact hK r w' hR
end Go.Proofs.YtkmeafccdhejdaaDoor.P1
