/- A law for a statement whose order Go leaves open, by what holds whatever has been done so far: each operation keeps it, whenever it comes. No condition on the program. -/
import Derived.Test.YtflicklgmhgpiaaDoorCut
namespace Go.Proofs.YtflicklgmhgpiaaDoor.P1
open Go.RowKit

theorem count_mark : ∀ (l : List Bool) (i : Nat), l[i]? = some false → (l.set i true).count false + 1 = l.count false
  | [], i, h => by simp at h
  | b :: l, 0, h => by simp at h; subst h; simp
  | b :: l, i + 1, h => by
    have := count_mark l i (by simpa using h)
    simp only [List.set_cons_succ, List.count_cons]
    omega

section
variable {P : Program} {md : Region.Mode} {ops : Array Oper}

theorem wpAny_inv {Q : Exit → Act → World → Prop} (hback : ((List.range ops.size).all fun i => (waits md ops i).all fun j => decide (j < i)) = true) (I : Array Bool → Act → World → Prop)
    (hstep : ∀ l a w, I l a w → ∀ i o, ops[i]? = some o → l.getD i false = false → (∀ j ∈ waits md ops i, l.getD j false = true) →
      Region.wanted o (yielded ops a.tmps) = true ∧ o.wp P a w (fun a' w' => I (l.setIfInBounds i true) a' w') Q)
    (hend : ∀ l a w, I l a w → (∀ i, i < ops.size → l.getD i false = true) → Q .normal a w) :
    ∀ (f : Nat) (l : Array Bool) (a : Act) (w : World), l.size = ops.size → l.toList.count false ≤ f → I l a w → wpAny P md ops Q f l a w := by
  simp only [List.all_eq_true, List.mem_range, decide_eq_true_eq] at hback
  have hall : ∀ l : Array Bool, l.size = ops.size → Region.ready md ops l = [] → ∀ i, i < ops.size → l.getD i false = true := by
    intro l hs hr i
    induction i using Nat.strongRecOn with
    | _ i ih =>
      intro hi
      cases hm : l.getD i false with
      | true => rfl
      | false =>
        have : i ∈ Region.ready md ops l := by
          refine mem_ready.2 ⟨by rw [mark_same (by omega)]; exact hm, _, Array.getElem?_eq_getElem hi, fun e he hb => ?_⟩
          have hlt := hback i hi e.on (mem_waits (Array.getElem?_eq_getElem hi) he hb)
          exact ih e.on hlt (by omega)
        rw [hr] at this
        cases this
  intro f
  induction f with
  | zero =>
    intro l a w hs hc hI
    have hr : Region.ready md ops l = [] := by
      apply List.eq_nil_iff_forall_not_mem.2
      intro i hi
      obtain ⟨h1, o, ho, _⟩ := mem_ready.1 hi
      have hil : i < l.size := by rw [hs]; exact (Array.getElem?_eq_some_iff.1 ho).1
      have : false ∈ l.toList := by
        have e : l[i] = false := by simpa [hil] using h1
        rw [← e]
        exact Array.getElem_mem_toList hil
      have := List.count_pos_iff.2 this
      omega
    exact ⟨hr, hend l a w hI (hall l hs hr)⟩
  | succ f ih =>
    intro l a w hs hc hI
    refine ⟨fun hr => hend l a w hI (hall l hs hr), fun i hi => ?_⟩
    obtain ⟨h1, o, ho, h2⟩ := mem_ready.1 hi
    have hil : i < l.size := by rw [hs]; exact (Array.getElem?_eq_some_iff.1 ho).1
    obtain ⟨hw, hp⟩ := hstep l a w hI i o ho (by rw [← mark_same hil]; exact h1) (fun j hj => by
      obtain ⟨o', ho', e, he, hb, rfl⟩ := of_waits hj
      have : o' = o := Option.some.inj (ho'.symm.trans ho)
      subst this
      exact h2 e he hb)
    unfold wpOp
    rw [ho]
    simp only [hw, if_true]
    refine .inl (Oper.wp_mono (fun a' w' hI' => ih _ a' w' (by simpa using hs) ?_ hI') hp)
    have := count_mark l.toList i (by
      have e : l[i] = false := by simpa [hil] using h1
      rw [List.getElem?_eq_getElem (by simpa using hil)]
      simp [e])
    rw [Array.toList_setIfInBounds]
    omega

/-- The region. -/
theorem wp_region_inv {id : Nat} {Q : Exit → Act → World → Prop} {a : Act} {w : World} {L : List Oper} (I : Array Bool → Act → World → Prop) (hm : P.follows .mixedOrders = true)
    (hback : ((List.range L.toArray.size).all fun i => (waits .any L.toArray i).all fun j => decide (j < i)) = true) (h0 : I (Array.replicate L.toArray.size false) a w.drew)
    (hstep : ∀ l a w, I l a w → ∀ i o, L.toArray[i]? = some o → l.getD i false = false → (∀ j ∈ waits .any L.toArray i, l.getD j false = true) →
      Region.wanted o (yielded L.toArray a.tmps) = true ∧ o.wp P a w (fun a' w' => I (l.setIfInBounds i true) a' w') Q)
    (hend : ∀ l a w, I l a w → (∀ i, i < L.toArray.size → l.getD i false = true) → Q .normal a w) : (Code.region id L.toArray true).wp P Q a w :=
  wp_region_any hm (wpAny_inv hback I hstep hend _ _ _ _ (by simp) (by simp) h0)

theorem wp_value {o : Oper} {a : Act} {w w' : World} {K : Act → World → Prop} {Q : Exit → Act → World → Prop} {v : Value} (hr : (execOp a.eval o).run P w = .ok (.value v) w') (h : K (a.put o.dst v) w') : o.wp P a w K Q := by
  unfold Oper.wp
  rw [hr]
  exact h

theorem wp_skip {o : Oper} {a : Act} {w w' : World} {K : Act → World → Prop} {Q : Exit → Act → World → Prop} (hr : (execOp a.eval o).run P w = .ok .skip w') (h : K (a.put o.dst undef) w') : o.wp P a w K Q := by
  unfold Oper.wp
  rw [hr]
  exact h

theorem wp_enter {o : Oper} {a : Act} {w w' : World} {K : Act → World → Prop} {Q : Exit → Act → World → Prop} {f : FuncId} {args : Array Value} (R : Value → World → Prop) (hr : (execOp a.eval o).run P w = .ok (.enter f args) w')
    (hc : Calls P f args w' fun e w'' => ∃ v, e = .returned v ∧ R v w'') (h : ∀ v w'', R v w'' → K (a.put o.dst v) w'') : o.wp P a w K Q := by
  unfold Oper.wp
  rw [hr]
  refine hc.mono ?_
  rintro e w'' ⟨v, rfl, hR⟩
  exact h v w'' hR

theorem wp_alloc_agg {o : Oper} {a : Act} {w : World} {K : Act → World → Prop} {Q : Exit → Act → World → Prop} (t : TypeId) (ho : o.op = .alloc t) (c : Array Value)
    (hz : ∀ w, (zeroValue t).run P w = .ok (.agg c) w) (h : K (a.put o.dst (.pointer (some ⟨w.heap.size, 0, none⟩))) (w.alloc (.cells c t))) : o.wp P a w K Q := by
  unfold Oper.wp execOp
  simp only [ho, Instr.alloc, Sem.run_bind, hz, Result.andThen_ok, newVar, newRow, Value.cells, Sem.run_pure]
  exact h
end
end Go.Proofs.YtflicklgmhgpiaaDoor.P1
