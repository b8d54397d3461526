/- A law for a statement whose order Go leaves open: operations that yield the same in every world are taken first, the others come in the one order that is left; no condition on the program. -/
import Derived.StillTail
import Derived.BigQuiet
import Derived.WalkKit
namespace Go.Proofs.YtknlhejpcjpeeaaDoor.P1
open Go.RowKit

/-- Operations that hand back a value, and never enter a function. -/
def valueOp : Op → Bool
  | .move _ => true
  | .assign _ => true
  | .pick _ _ _ => true
  | .binOp _ _ _ _ _ => true
  | .unOp _ _ _ => true
  | .convert _ _ _ => true
  | .slice _ _ _ _ _ => true
  | .index _ _ _ => true
  | .extract _ _ => true
  | .field _ _ _ => true
  | .fieldAddr _ _ _ => true
  | .indexAddr _ _ _ => true
  | _ => false

theorem bind_value {P : Program} {w w' : World} {n : Next} (s : Sem Value) (hr : (do pure (Next.value (← s)) : Sem Next).run P w = .ok n w') : ∃ u, n = .value u := by
  simp only [Sem.run_bind] at hr
  cases h : s.run P w with
  | ok x w1 => rw [h] at hr; simp [Result.andThen, Sem.run_pure] at hr; exact ⟨x, hr.1.symm⟩
  | halt x w1 => rw [h] at hr; simp [Result.andThen] at hr

theorem value_of_run {P : Program} {w w' : World} {n : Next} {ρ : Operand → Value} {o : Oper} (h : valueOp o.op = true) (hr : (execOp ρ o).run P w = .ok n w') : ∃ u, n = .value u := by
  obtain ⟨dst, op, ty, pos, after, guard⟩ := o
  cases op <;> simp only [valueOp, Bool.false_eq_true] at h
  case move x => simp only [execOp, Sem.run_pure, Result.ok.injEq] at hr; exact ⟨_, hr.1.symm⟩
  case assign x => simp only [execOp, Sem.run_pure, Result.ok.injEq] at hr; exact ⟨_, hr.1.symm⟩
  case pick c x y =>
    simp only [execOp, Sem.run_bind] at hr
    cases h : (asBool (ρ c)).run P w with
    | ok b w1 => rw [h] at hr; simp [Result.andThen, Sem.run_pure] at hr; exact ⟨_, hr.1.symm⟩
    | halt x w1 => rw [h] at hr; simp [Result.andThen] at hr
  all_goals exact bind_value _ hr

/-- The region, from a world of which only C is known. -/
theorem wp_region_open {P : Program} {ops : Array Oper} {Q : Exit → Act → World → Prop} {id : Nat} {a : Act} {w : World} (C : World → Prop) (hC : C w.drew) (hm : P.follows .mixedOrders = true)
    (h : ∀ wd, C wd → wpAny P .any ops Q ops.size (Array.replicate ops.size false) a wd) : (Code.region id ops true).wp P Q a w :=
  wp_region_any hm (h _ hC)

theorem yields_of_quiet {P : Program} {ops : Array Oper} {o : Oper} {a : Act} {v : Value} (hw : Region.wanted o (yielded ops a.tmps) = true) (hv : valueOp o.op = true)
    (h : ∀ w, (∃ p : World, w = p) → o.quietAt P a (fun w' => ∃ p : World, w' = p) w v) : Yields P ops o v a := by
  refine .inl ⟨hw, fun w => ?_⟩
  have h1 := h w ⟨w, rfl⟩
  unfold Oper.quietAt at h1
  cases hr : (execOp a.eval o).run P w with
  | ok n w' =>
    rw [hr] at h1
    obtain ⟨u, rfl⟩ := value_of_run hv hr
    simp only [Oper.quietUpon] at h1
    obtain ⟨rfl, rfl⟩ := h1
    rfl
  | halt x w' => rw [hr] at h1; simp only [Oper.quietUpon] at h1

/-- So many operations from k on can be taken first, one after the other. -/
def segB (md : Region.Mode) (ops : Array Oper) : Nat → Nat → Array Bool → Bool
  | 0, _, _ => true
  | m + 1, k, listed => (match ops[k]? with | some o => valueOp o.op && o.dst.isSome | none => false) && (Region.ready md ops listed).contains k && Region.free md ops listed k && segB md ops m (k + 1) (listed.setIfInBounds k true)

/-- What is listed then. -/
def segL : Nat → Nat → Array Bool → Array Bool
  | 0, _, listed => listed
  | m + 1, k, listed => segL m (k + 1) (listed.setIfInBounds k true)

theorem wpAny_seg {P : Program} {ops : Array Oper} {md : Region.Mode} {Q : Exit → Act → World → Prop} {w : World} (hsel : Region.noSelect ops = true) (hQ : ∀ c a t v w, Q (.panic c) (a.put (some t) v) w → Q (.panic c) a w) :
    ∀ (l : List Oper) (k : Nat) (listed : Array Bool) (a : Act) (fuel : Nat), (∀ j, j < l.length → l[j]? = ops[k + j]?) → segB md ops l.length k listed = true →
      wpQuiet P ops (fun w' => ∃ p : World, w' = p) (fun a' => wpAny P md ops Q fuel (segL l.length k listed) a' w) l a → wpAny P md ops Q (l.length + fuel) listed a w
  | [], _, _, _, fuel, _, _, h => by simpa [wpQuiet, segL] using h
  | o :: l, k, listed, a, fuel, hl, hB, h => by
    have h0 : ops[k]? = some o := by simpa using (hl 0 (by simp)).symm
    simp only [List.length_cons, segB, h0, Bool.and_eq_true] at hB
    obtain ⟨⟨⟨⟨hv, hd⟩, hr⟩, hf⟩, hB'⟩ := hB
    obtain ⟨t, ht⟩ := Option.isSome_iff_exists.1 hd
    have hQ' : ∀ (v : Value) c a w, Q (.panic c) (a.put o.dst v) w → Q (.panic c) a w := fun v c a w h => hQ c a t v w (by rw [← ht]; exact h)
    have hl' : ∀ j, j < l.length → l[j]? = ops[k + 1 + j]? := fun j hj => by
      have := hl (j + 1) (by simp; omega)
      simpa [Nat.add_assoc, Nat.add_comm 1 j] using this
    have e1 : (o :: l).length + fuel = (l.length + fuel) + 1 := by simp; omega
    rw [e1]
    simp only [wpQuiet] at h
    by_cases hw : Region.wanted o (yielded ops a.tmps) = true
    · rw [if_pos hw] at h
      obtain ⟨v, h1, h2⟩ := h
      exact wpAny_take h0 hsel hf hr (hQ' _) (yields_of_quiet hw hv h1) (wpAny_seg hsel hQ l (k + 1) _ _ fuel hl' hB' h2)
    · rw [if_neg hw] at h
      exact wpAny_take h0 hsel hf hr (hQ' _) (.inr ⟨by simpa using hw, rfl⟩) (wpAny_seg hsel hQ l (k + 1) _ _ fuel hl' hB' h)

theorem wpAny_seg_lit {P : Program} {L : List Oper} {md : Region.Mode} {Q : Exit → Act → World → Prop} {w : World} {listed : Array Bool} {a : Act} {F : Nat} (k m fuel : Nat) (hfu : F = m + fuel) (hkm : k + m ≤ L.length)
    (hsel : Region.noSelect L.toArray = true) (hB : segB md L.toArray m k listed = true) (hQ : ∀ c a t v w, Q (.panic c) (a.put (some t) v) w → Q (.panic c) a w)
    (h : wpQuiet P L.toArray (fun w' => ∃ p : World, w' = p) (fun a' => wpAny P md L.toArray Q fuel (segL m k listed) a' w) ((L.drop k).take m) a) : wpAny P md L.toArray Q F listed a w := by
  have hl : ((L.drop k).take m).length = m := by simp; omega
  have := wpAny_seg (P := P) (Q := Q) (w := w) hsel hQ ((L.drop k).take m) k listed a fuel (fun j hj => by
    rw [hl] at hj
    simp [List.getElem?_drop, hj]) (by rw [hl]; exact hB) (by rw [hl]; exact h)
  rw [hl] at this
  rw [hfu]
  exact this

/-- The rest comes in the order of the text. -/
theorem wpAny_rest {P : Program} {L : List Oper} {md : Region.Mode} {Q : Exit → Act → World → Prop} {w : World} {listed : Array Bool} {a : Act} {F : Nat} (k : Nat) (hfu : F = L.length - k)
    (hB : Region.seqB md L.toArray (L.length - k) k listed = true) (h : wpList P L.toArray Q (L.drop k) a w) : wpAny P md L.toArray Q F listed a w := by
  have hl : (L.drop k).length = L.length - k := by simp
  have := wpAny_of_seq (P := P) (md := md) (Q' := Q) (L.drop k) k listed a w (fun j => by simp [List.getElem?_drop]) (by rw [hl]; exact hB) h
  rw [hl] at this
  rw [hfu]
  exact this

/-- A call that is the only operation that may come: by its contract. -/
theorem wpAny_call_one {P : Program} {ops : Array Oper} {md : Region.Mode} {Q : Exit → Act → World → Prop} {w : World} {listed : Array Bool} {a : Act} {fuel : Nat} (i : Nat) (o : Oper) (hr : Region.ready md ops listed = [i]) (ho : ops[i]? = some o)
    (hg : o.guard = none) (f : FuncId) (x : Operand) (t : TypeId) (hop : o.op = .call { callee := .value (.func f), args := #[x], argTypes := #[t] })
    (hrun : ∀ args w, (callFunc f args).run P w = .ok (.enter f args) w) (v : Value) (hv : a.eval x = v) (R : Value → World → Prop)
    (hc : Calls P f #[v] w fun e w' => ∃ u, e = .returned u ∧ R u w')
    (hK : ∀ u w', R u w' → wpAny P md ops Q fuel (listed.setIfInBounds i true) (a.put o.dst u) w') : wpAny P md ops Q (fuel + 1) listed a w := by
  refine wpAny_all hr (by simp) ?_
  intro j hj
  obtain rfl : j = i := by simpa using hj
  unfold wpOp
  simp only [ho]
  have hw : Region.wanted o (yielded ops a.tmps) = true := by simp [Region.wanted, hg]
  rw [if_pos hw]
  refine .inl ?_
  have hr : (execOp a.eval o).run P w = .ok (.enter f #[v]) w := by
    obtain ⟨dst, op, ty, pos, after, guard⟩ := o
    simp only at hop
    subst hop
    show (callFunc f (#[] ++ #[x].map a.eval ++ #[])).run P w = _
    rw [hrun]
    simp [← hv]
  unfold Oper.wp
  rw [hr]
  refine hc.mono ?_
  rintro e w' ⟨u, rfl, hu⟩
  exact hK u w' hu

/-- .. where the callee leaves the world as it was. -/
theorem wpAny_call_same {P : Program} {ops : Array Oper} {md : Region.Mode} {Q : Exit → Act → World → Prop} {w : World} {listed : Array Bool} {a : Act} {fuel : Nat} (i : Nat) {o : Oper} (hr : Region.ready md ops listed = [i]) (ho : ops[i]? = some o)
    (hg : o.guard = none) (d : Tmp) (hd : o.dst = some d) (f : FuncId) (x : Operand) (t : TypeId) (hop : o.op = .call { callee := .value (.func f), args := #[x], argTypes := #[t] })
    (hrun : ∀ args w, (callFunc f args).run P w = .ok (.enter f args) w) (v u : Value) (hv : a.eval x = v)
    (hc : Calls P f #[v] w fun e w' => e = .returned u ∧ w' = w)
    (hK : wpAny P md ops Q fuel (listed.setIfInBounds i true) { tmps := a.tmps.setIfInBounds d u, defers := a.defers } w) : wpAny P md ops Q (fuel + 1) listed a w :=
  wpAny_call_one i o hr ho hg f x t hop hrun v hv (fun u' w' => u' = u ∧ w' = w) (hc.mono fun e w' ⟨h1, h2⟩ => ⟨u, h1, rfl, h2⟩) (by rintro u' w' ⟨rfl, rfl⟩; rw [hd]; exact hK)

theorem wpStill_of_quiet {P : Program} {ops : Array Oper} {wd : World} {Q : Act → Prop} : ∀ (l : List Oper) (a : Act), wpQuiet P ops (fun w' => w' = wd) Q l a → wpStill P ops wd Q l a
  | [], _, h => h
  | o :: l, a, h => by
    simp only [wpQuiet] at h
    simp only [wpStill]
    split
    · rename_i hw
      rw [if_pos hw] at h
      obtain ⟨v, h1, h2⟩ := h
      have h3 := h1 wd rfl
      unfold Oper.quietAt at h3
      unfold Oper.still
      cases hr : (execOp a.eval o).run P wd with
      | ok n w' =>
        rw [hr] at h3
        cases n <;> simp only [Oper.quietUpon] at h3 <;> simp only [Oper.stillUpon]
        case value u => obtain ⟨e1, rfl⟩ := h3; exact ⟨e1, wpStill_of_quiet l _ h2⟩
        case skip => obtain ⟨e1, e2⟩ := h3; subst e2; exact ⟨e1, wpStill_of_quiet l _ h2⟩
        case enter f args => obtain ⟨e1, hc⟩ := h3; exact ⟨e1, v, hc, wpStill_of_quiet l _ h2⟩
      | halt x w' => rw [hr] at h3; simp only [Oper.quietUpon] at h3
    · rename_i hw
      rw [if_neg hw] at h
      exact wpStill_of_quiet l _ h

/-- A region whose first n operations only read, in one world, and whose others come in the order of the text. -/
theorem wp_region_tail {P : Program} {L : List Oper} {Q : Exit → Act → World → Prop} {id : Nat} {a : Act} {w : World} (n : Nat) (C : World → Prop) (hC : C w.drew) (hm : P.follows .mixedOrders = true) (hB : Region.lexTailB .any L.toArray n = true)
    (h : ∀ wd, C wd → wpQuiet P L.toArray (fun w' => w' = wd) (fun a' => wpList P L.toArray Q (L.drop n) a' wd) (L.take n) a) : (Code.region id L.toArray true).wp P Q a w :=
  wp_region_still_tail n hm hB (wpStill_of_quiet _ _ (h _ hC))
end Go.Proofs.YtknlhejpcjpeeaaDoor.P1
