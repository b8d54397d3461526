/- A law for a statement whose order Go leaves open, where an operation that reads may come before or behind one that makes memory: what it reads is the same in every world of a class, and the class is kept till an operation comes that waits for it. No condition on the program. -/
import Derived.Test.YtfckfgabeeeccaaCut2
import Derived.OrdersHeld
namespace Go.Proofs.Ytfckfgabeeeccaa.P1
open Go.RowKit

section
variable {P : Program} {md : Region.Mode} {ops : Array Oper} {C : World → Prop}

/-- Whatever order is picked from here on, and D holds behind every operation, as long as operation c has not come. -/
def wpAnyK (P : Program) (md : Region.Mode) (ops : Array Oper) (Q : Exit → Act → World → Prop) (c : Nat) (D : World → Prop) : Nat → Array Bool → Act → World → Prop
  | 0, listed, a, w => Region.ready md ops listed = [] ∧ Q .normal a w
  | fuel + 1, listed, a, w =>
    (Region.ready md ops listed = [] → Q .normal a w) ∧
    ∀ i ∈ Region.ready md ops listed, wpOp P ops Q i (fun a' w' => ((listed.setIfInBounds i true).getD c false = false → D w') ∧ wpAnyK P md ops Q c D fuel (listed.setIfInBounds i true) a' w') a w

theorem wpAny_of_K {Q : Exit → Act → World → Prop} {c : Nat} {D : World → Prop} : ∀ (fuel : Nat) (listed : Array Bool) (a : Act) (w : World), wpAnyK P md ops Q c D fuel listed a w → wpAny P md ops Q fuel listed a w
  | 0, _, _, _, h => h
  | fuel + 1, _, _, _, h => ⟨h.1, fun i hi => wpOp_mono (fun a' w' h' => wpAny_of_K fuel _ a' w' h'.2) (h.2 i hi)⟩

/-- Behind operation c nothing more is asked. -/
theorem wpAnyK_of_any {Q : Exit → Act → World → Prop} {c : Nat} {D : World → Prop} : ∀ (fuel : Nat) (listed : Array Bool) (a : Act) (w : World), listed.getD c false = true → wpAny P md ops Q fuel listed a w → wpAnyK P md ops Q c D fuel listed a w
  | 0, _, _, _, _, h => h
  | fuel + 1, listed, _, _, hc, h => ⟨h.1, fun i hi => wpOp_mono (fun a' w' h' => ⟨fun h0 => (by rw [mark_set hc] at h0; cases h0), wpAnyK_of_any fuel _ a' w' (mark_set hc) h'⟩) (h.2 i hi)⟩

theorem wpAnyK_more {Q : Exit → Act → World → Prop} {c : Nat} {D : World → Prop} : ∀ (g : Nat) (l : Array Bool) (a : Act) (w : World), wpAnyK P md ops Q c D g l a w → wpAnyK P md ops Q c D (g + 1) l a w
  | 0, _, _, _, h => ⟨fun _ => h.2, fun i hi => by rw [h.1] at hi; cases hi⟩
  | g + 1, _, _, _, h => ⟨h.1, fun i hi => wpOp_mono (fun a' w' h' => ⟨h'.1, wpAnyK_more g _ a' w' h'.2⟩) (h.2 i hi)⟩

theorem wpAnyK_mores {Q : Exit → Act → World → Prop} {c : Nat} {D : World → Prop} (g : Nat) (l : Array Bool) (a : Act) (w : World) (h : wpAnyK P md ops Q c D g l a w) : ∀ f, wpAnyK P md ops Q c D (f + g) l a w
  | 0 => by rw [Nat.zero_add]; exact h
  | f + 1 => by rw [show f + 1 + g = (f + g) + 1 by omega]; exact wpAnyK_more _ _ _ _ (wpAnyK_mores g l a w h f)

/-- An operation that may come now may be taken first, if it yields its value in every world of D, operation c waits for it, and the others wait for it or are apart from it. -/
theorem wpAnyK_first {Q : Exit → Act → World → Prop} {c : Nat} {D : World → Prop} {i : Nat} {oi : Oper} {v : Value} (hi : ops[i]? = some oi) (hsel : ∀ (j : Nat) (o : Oper) cs b, ops[j]? = some o → o.op ≠ .select cs b)
    (hQ : ∀ c a w, Q (.panic c) (a.put oi.dst v) w → Q (.panic c) a w) (hci : i ∈ waits md ops c) :
    ∀ (fuel : Nat) (listed : Array Bool) (a : Act) (w : World),
      (∀ j oj, ops[j]? = some oj → j ≠ i → listed.getD j true = false → (∀ e ∈ oj.after, Region.binds md e = true → e.on ≠ i) → oi.apart ops oj = true) →
      i ∈ Region.ready md ops listed → YieldsIf P ops D oi v a → D w → listed.getD c false = false → c ≠ i →
      wpAnyK P md ops Q c D fuel (listed.setIfInBounds i true) (a.put oi.dst v) w → wpAnyK P md ops Q c D (fuel + 1) listed a w := by
  have hcw : ∀ listed : Array Bool, i ∈ Region.ready md ops listed → ∀ j ∈ Region.ready md ops listed, j ≠ c := by
    intro listed hr j hj e
    subst e
    obtain ⟨o, ho, e, he, hb, hon⟩ := of_waits hci
    obtain ⟨_, o', ho', hall⟩ := mem_ready.1 hj
    obtain rfl : o' = o := Option.some.inj (ho'.symm.trans ho)
    have h1 := hall e he hb
    have h0 := (mem_ready.1 hr).1
    rw [hon] at h1
    rcases Nat.lt_or_ge i listed.size with h' | h'
    · rw [mark_same h', h1] at h0; cases h0
    · simp [Array.getElem?_eq_none h'] at h1
  intro fuel
  induction fuel with
  | zero =>
    intro listed a w _ hr hy hS hc hne H
    refine ⟨fun h => (by rw [h] at hr; cases hr), fun j hj => ?_⟩
    by_cases hji : j = i
    · subst hji; exact hy.wpOp hi hS ⟨fun _ => hS, H⟩
    · have := ready_mono hj hji
      rw [H.1] at this
      cases this
  | succ fuel ih =>
    intro listed a w hfree hr hy hS hc hne H
    refine ⟨fun h => (by rw [h] at hr; cases hr), fun j hj => ?_⟩
    by_cases hji : j = i
    · subst hji; exact hy.wpOp hi hS ⟨fun _ => hS, H⟩
    · have h1 := H.2 j (ready_mono hj hji)
      obtain ⟨hjun, oj, hoj, hall⟩ := mem_ready.1 hj
      have hnot : ∀ e ∈ oj.after, Region.binds md e = true → e.on ≠ i := fun e he hb heq => by
        have h1 := hall e he hb
        have h0 := (mem_ready.1 hr).1
        rw [heq] at h1
        rcases Nat.lt_or_ge i listed.size with h' | h'
        · simp [h'] at h0 h1; rw [h0] at h1; cases h1
        · simp [Array.getElem?_eq_none h'] at h1
      have h2 := wpOp_putIf hoj (hfree j oj hoj hji hjun hnot) (fun cs b => hsel i oi cs b hi) (fun cs b => hsel j oj cs b hoj) hQ hy h1
      have hfree' : ∀ k ok, ops[k]? = some ok → k ≠ i → (listed.setIfInBounds j true).getD k true = false →
          (∀ e ∈ ok.after, Region.binds md e = true → e.on ≠ i) → oi.apart ops ok = true := fun k ok hk hki hun hno => by
        refine hfree k ok hk hki ?_ hno
        by_cases hjk : j = k
        · subst hjk; exact hjun
        · rw [Go.getD_set_ne true hjk] at hun; exact hun
      have hjc := hcw listed hr j hj
      have hc' : (listed.setIfInBounds j true).getD c false = false := by rw [mark_other hjc]; exact hc
      have hc2 : ((listed.setIfInBounds i true).setIfInBounds j true).getD c false = false := by rw [mark_other hjc, mark_other (Ne.symm hne)]; exact hc
      refine wpOp_mono (fun a' w' h3 => ⟨fun _ => h3.2.1 hc2, ih (listed.setIfInBounds j true) a' w' hfree' (ready_mono hr (Ne.symm hji)) h3.1 (h3.2.1 hc2) hc' hne ?_⟩) h2
      rw [Array.setIfInBounds_comm _ _ hji]
      exact h3.2.2

theorem wpAnyK_take {Q : Exit → Act → World → Prop} {c : Nat} {D : World → Prop} {i : Nat} {oi : Oper} {v : Value} {fuel : Nat} {listed : Array Bool} {a : Act} {w : World} (hi : ops[i]? = some oi)
    (hs : Region.noSelect ops = true) (hf : Region.free md ops listed i = true) (hr : (Region.ready md ops listed).contains i = true) (hci : (waits md ops c).contains i = true) (hlc : listed.getD c false = false) (hne : c ≠ i)
    (hQ : ∀ c a w, Q (.panic c) (a.put oi.dst v) w → Q (.panic c) a w) (hy : YieldsIf P ops D oi v a) (hS : D w)
    (h : wpAnyK P md ops Q c D fuel (listed.setIfInBounds i true) (a.put oi.dst v) w) : wpAnyK P md ops Q c D (fuel + 1) listed a w :=
  wpAnyK_first hi (Region.noSelect_spec hs) hQ (by simpa using hci) fuel listed a w (Region.free_spec hi hf) (by simpa using hr) hy hS hlc hne h

theorem load_value {w w' : World} {n : Next} {ρ : Operand → Value} {o : Oper} {t : TypeId} {x : Operand} (h : o.op = .load t x) (hr : (execOp ρ o).run P w = .ok n w') : ∃ u, n = .value u := by
  obtain ⟨dst, op, ty, pos, after, guard⟩ := o
  simp only at h
  subst h
  exact bind_value _ hr

/-- A load that keeps its value. -/
def loadB (ops : Array Oper) (i : Nat) : Bool := match ops[i]? with | some o => (match o.op with | .load _ _ => true | _ => false) && o.dst.isSome | none => false

/-- A load, in every world of D, taken first. -/
theorem wpAnyK_load {L : List Oper} {Q : Exit → Act → World → Prop} {c : Nat} {D : World → Prop} (i : Nat) {fuel : Nat} {listed : Array Bool} {a : Act} {w : World} (hB : loadB L.toArray i = true)
    (hs : Region.noSelect L.toArray = true) (hf : Region.free md L.toArray listed i = true) (hr : (Region.ready md L.toArray listed).contains i = true) (hci : (waits md L.toArray c).contains i = true) (hlc : listed.getD c false = false) (hne : c ≠ i)
    (hQ : ∀ c a t v w, Q (.panic c) (a.put (some t) v) w → Q (.panic c) a w) (hS : D w)
    (h : wpQuiet P L.toArray D (fun a' => wpAnyK P md L.toArray Q c D fuel (listed.setIfInBounds i true) a' w) ((L.drop i).take 1) a) : wpAnyK P md L.toArray Q c D (fuel + 1) listed a w := by
  unfold loadB at hB
  cases hi : L.toArray[i]? with
  | none => rw [hi] at hB; cases hB
  | some oi =>
    rw [hi] at hB
    simp only [Bool.and_eq_true] at hB
    obtain ⟨hop, hd⟩ := hB
    obtain ⟨d, hd⟩ := Option.isSome_iff_exists.1 hd
    have hl : (L.drop i).take 1 = [oi] := by
      have h1 : L[i]? = some oi := by simpa using hi
      obtain ⟨hlt, h2⟩ := List.getElem?_eq_some_iff.1 h1
      rw [List.drop_eq_getElem_cons hlt, h2]
      rfl
    rw [hl] at h
    have hQ' : ∀ (v : Value) c a w, Q (.panic c) (a.put oi.dst v) w → Q (.panic c) a w := fun v c a w h => hQ c a d v w (by rw [← hd]; exact h)
    simp only [wpQuiet] at h
    by_cases hw : Region.wanted oi (yielded L.toArray a.tmps) = true
    · rw [if_pos hw] at h
      obtain ⟨v, h1, h2⟩ := h
      refine wpAnyK_take hi hs hf hr hci hlc hne (hQ' v) (.inl ⟨hw, fun w' hw' => ?_⟩) hS h2
      have h3 := h1 w' hw'
      unfold Oper.quietAt at h3
      cases hr : (execOp a.eval oi).run P w' with
      | ok n w2 =>
        rw [hr] at h3
        have hop' : ∃ t x, oi.op = .load t x := by
          split at hop
          · rename_i t x e; exact ⟨t, x, e⟩
          · cases hop
        obtain ⟨t, x, hop'⟩ := hop'
        obtain ⟨u, rfl⟩ := load_value hop' hr
        simp only [Oper.quietUpon] at h3
        obtain ⟨rfl, rfl⟩ := h3
        rfl
      | halt y w2 => rw [hr] at h3; simp only [Oper.quietUpon] at h3
    · rw [if_neg hw] at h
      exact wpAnyK_take hi hs hf hr hci hlc hne (hQ' _) (.inr ⟨by simpa using hw, rfl⟩) hS h

/-- The one operation that may come makes memory; D holds behind it. -/
theorem wpAnyK_value {Q : Exit → Act → World → Prop} {c : Nat} {D : World → Prop} {L : List Oper} {i : Nat} {o : Oper} {v : Value} {fuel : Nat} {listed : Array Bool} {a : Act} {w w' : World} (hr : Region.ready md L.toArray listed = [i]) (hh : (L.drop i).head? = some o) (hg : o.guard = none)
    (hrun : (execOp a.eval o).run P w = .ok (.value v) w') (hD : D w') (h : wpAnyK P md L.toArray Q c D fuel (listed.setIfInBounds i true) (a.put o.dst v) w') : wpAnyK P md L.toArray Q c D (fuel + 1) listed a w := by
  have ho : L.toArray[i]? = some o := by simpa [List.head?_drop] using hh
  refine ⟨fun h0 => (by rw [hr] at h0; cases h0), fun j hj => ?_⟩
  rw [hr] at hj
  obtain rfl : j = i := by simpa using hj
  unfold wpOp
  simp only [ho]
  rw [if_pos (by simp [Region.wanted, hg])]
  refine .inl ?_
  unfold Oper.wp
  rw [hrun]
  exact ⟨fun _ => hD, h⟩

/-- The one operation that may come is a call of a function of the program: by its contract; D holds behind it. -/
theorem wpAnyK_call {Q : Exit → Act → World → Prop} {c : Nat} {D : World → Prop} {L : List Oper} (i : Nat) {o : Oper} {fuel : Nat} {listed : Array Bool} {a : Act} {w : World} (hr : Region.ready md L.toArray listed = [i]) (hh : (L.drop i).head? = some o) (hg : o.guard = none)
    (f : FuncId) (xs : Array Operand) (ts : Array TypeId) (hop : o.op = .call { callee := .value (.func f), args := xs, argTypes := ts }) (hrun : ∀ args w, (callFunc f args).run P w = .ok (.enter f args) w) (vs : Array Value) (hv0 : xs.toList.map a.eval = vs.toList) (R : Value → World → Prop)
    (hc : Calls P f vs w fun e w' => ∃ u, e = .returned u ∧ R u w') (hK : ∀ u w', R u w' → D w' ∧ wpAnyK P md L.toArray Q c D fuel (listed.setIfInBounds i true) (a.put o.dst u) w') : wpAnyK P md L.toArray Q c D (fuel + 1) listed a w := by
  have ho : L.toArray[i]? = some o := by simpa [List.head?_drop] using hh
  refine ⟨fun h0 => (by rw [hr] at h0; cases h0), fun j hj => ?_⟩
  rw [hr] at hj
  obtain rfl : j = i := by simpa using hj
  unfold wpOp
  simp only [ho]
  rw [if_pos (by simp [Region.wanted, hg])]
  refine .inl ?_
  have hv : xs.map a.eval = vs := Array.toList_inj.1 (by simpa using hv0)
  have hr : (execOp a.eval o).run P w = .ok (.enter f vs) w := by
    obtain ⟨dst, op, ty, pos, after, guard⟩ := o
    simp only at hop
    subst hop
    show (callFunc f (#[] ++ xs.map a.eval ++ #[])).run P w = _
    rw [hrun]
    simp [← hv]
  unfold Oper.wp
  rw [hr]
  refine hc.mono ?_
  rintro e w' ⟨u, rfl, hR⟩
  exact ⟨fun _ => (hK u w' hR).1, (hK u w' hR).2⟩

/-- Operation c is the one that may come. -/
theorem wpAnyK_last {Q : Exit → Act → World → Prop} {c : Nat} {D : World → Prop} {fuel : Nat} {listed : Array Bool} {a : Act} {w : World} (hr : Region.ready md ops listed = [c]) (hc : c < listed.size) (h : wpAny P md ops Q (fuel + 1) listed a w) : wpAnyK P md ops Q c D (fuel + 1) listed a w := by
  refine ⟨h.1, fun j hj => ?_⟩
  have hj' := hj
  rw [hr] at hj'
  obtain rfl : j = c := by simpa using hj'
  exact wpOp_mono (fun a' w' h' => ⟨fun h0 => (by rw [mark_self hc] at h0; cases h0), wpAnyK_of_any _ _ _ _ (mark_self hc) h'⟩) (h.2 j hj)

theorem cut_convK {L : List Oper} {m n f0 : Nat} (hcut : cutB2 md L.toArray m n f0 = true) {Lq : Act → Prop} (c : Nat) (D : World → Prop) (hCD : ∀ w, C w → D w) {Q : Exit → Act → World → Prop}
    (hL : ∀ a w, C w → Lq a → wpAnyK P md L.toArray Q c D (L.length - n) (headL n L.length) a w) :
    ∀ (f : Nat) (lh lf : Array Bool) (a : Act) (w : World), C w → CutInv2 md L.toArray m n lh lf → wpAnyQ P md (L.take n).toArray C Lq f lh a → wpAnyK P md L.toArray Q c D (f + (L.length - n)) lf a w := by
  simp only [cutB2, Bool.and_eq_true, decide_eq_true_eq, List.all_eq_true, List.mem_range, Bool.or_eq_true] at hcut
  obtain ⟨⟨⟨hn, hback⟩, hguard⟩, hreach⟩ := hcut
  have hn' : n ≤ L.length := by simpa using hn
  have hops : ∀ i, i < n → (L.take n).toArray[i]? = L.toArray[i]? := fun i hi => by simp [hi]
  have hwt : ∀ i, i < n → waits md (L.take n).toArray i = waits md L.toArray i := fun i hi => by unfold waits; rw [hops i hi]
  intro f
  induction f with
  | zero =>
    intro lh lf a w hw inv h
    have hall : ∀ j, j < n → lf.getD j false = true := by
      intro j
      induction j using Nat.strongRecOn with
      | _ j ih =>
        intro hj
        rw [← inv.same j hj]
        cases hm : lh.getD j false with
        | true => rfl
        | false =>
          have : j ∈ Region.ready md (L.take n).toArray lh := by
            refine mem_ready.2 ⟨by rw [mark_same (by rw [inv.sh]; exact hj)]; exact hm, ?_⟩
            have hjl : j < (L.take n).toArray.size := by simp; omega
            refine ⟨_, Array.getElem?_eq_getElem hjl, fun e he hb => ?_⟩
            have hw := mem_waits (Array.getElem?_eq_getElem hjl) he hb
            rw [hwt j hj] at hw
            have hlt := hback j hj e.on hw
            rw [inv.same e.on (by omega)]
            exact ih e.on hlt (by omega)
          rw [h.1] at this
          cases this
    rw [inv.all hn hall, Nat.zero_add]
    simpa using hL a w hw h.2
  | succ f ih =>
    intro lh lf a w hw inv h
    by_cases hall : ∀ j, j < n → lf.getD j false = true
    · have hr : Region.ready md (L.take n).toArray lh = [] := by
        apply List.eq_nil_iff_forall_not_mem.2
        intro j hj
        obtain ⟨h1, o, ho, _⟩ := mem_ready.1 hj
        have hjn : j < n := by
          have := (Array.getElem?_eq_some_iff.1 ho).1
          simp at this
          omega
        rw [mark_same (by rw [inv.sh]; exact hjn), inv.same j hjn, hall j hjn] at h1
        cases h1
      have := hL a w hw (h.1 hr)
      rw [inv.all hn hall]
      exact wpAnyK_mores _ _ _ _ (by simpa using this) (f + 1)
    · rw [show f + 1 + (L.length - n) = (f + (L.length - n)) + 1 by omega]
      have hsome : ∃ i, i ∈ Region.ready md (L.take n).toArray lh := by
        apply Classical.byContradiction
        intro hno
        apply hall
        intro j
        induction j using Nat.strongRecOn with
        | _ j ihj =>
          intro hj
          rw [← inv.same j hj]
          cases hm : lh.getD j false with
          | true => rfl
          | false =>
            refine absurd ⟨j, mem_ready.2 ⟨by rw [mark_same (by rw [inv.sh]; exact hj)]; exact hm, ?_⟩⟩ hno
            have hjl : j < (L.take n).toArray.size := by simp; omega
            refine ⟨_, Array.getElem?_eq_getElem hjl, fun e he hb => ?_⟩
            have hw := mem_waits (Array.getElem?_eq_getElem hjl) he hb
            rw [hwt j hj] at hw
            have hlt := hback j hj e.on hw
            rw [inv.same e.on (by omega)]
            exact ihj e.on hlt (by omega)
      have hin : ∀ i, i ∈ Region.ready md (L.take n).toArray lh → i ∈ Region.ready md L.toArray lf := by
        intro i hi
        obtain ⟨h1, o, ho, h2⟩ := mem_ready.1 hi
        have hin : i < n := by
          have := (Array.getElem?_eq_some_iff.1 ho).1
          simp at this
          omega
        refine mem_ready.2 ⟨?_, o, by rw [← hops i hin]; exact ho, fun e he hb => ?_⟩
        · rw [mark_same (by rw [inv.sf]; simp; omega), ← inv.same i hin, ← mark_same (by rw [inv.sh]; exact hin)]
          exact h1
        · have hw := mem_waits ho he hb
          rw [hwt i hin] at hw
          have hlt := hback i hin e.on hw
          rw [← inv.same e.on (by omega)]
          exact h2 e he hb
      refine ⟨fun h0 => ?_, fun i hi => ?_⟩
      · obtain ⟨i, hi⟩ := hsome
        have := hin i hi
        rw [h0] at this
        cases this
      · obtain ⟨h1, o, ho, h2⟩ := mem_ready.1 hi
        have hil : i < L.toArray.size := (Array.getElem?_eq_some_iff.1 ho).1
        have hlt : i < n := by
          rcases Nat.lt_or_ge i n with h' | h'
          · exact h'
          · exfalso
            apply hall
            intro j hj
            rcases hreach i hil with h3 | h3
            · omega
            · rcases h3 j hj with h4 | h4
              · exact inv.first j h4
              refine reaches_done inv.shut f0 (waits md L.toArray i) (fun k hk => ?_) j (by simpa using h4)
              obtain ⟨o', ho', e, he, hb, rfl⟩ := of_waits hk
              have : o' = o := Option.some.inj (ho'.symm.trans ho)
              subst this
              exact h2 e he hb
        have hrd : i ∈ Region.ready md (L.take n).toArray lh := by
          refine mem_ready.2 ⟨?_, o, by rw [hops i hlt]; exact ho, fun e he hb => ?_⟩
          · rw [mark_same (by rw [inv.sh]; exact hlt), inv.same i hlt, ← mark_same (by rw [inv.sf]; exact hil)]
            exact h1
          · have hw := mem_waits ho he hb
            have hlt' := hback i hlt e.on hw
            rw [inv.same e.on (by omega)]
            exact h2 e he hb
        have inv' : CutInv2 md L.toArray m n (lh.setIfInBounds i true) (lf.setIfInBounds i true) := by
          refine ⟨by simp [inv.sf], by simp [inv.sh], fun j hj => ?_, fun t ht j hj => ?_, fun t ht => ?_, fun t ht => mark_set (inv.first t ht)⟩
          · by_cases e : i = j
            · subst e
              rw [mark_self (by rw [inv.sh]; exact hlt), mark_self (by rw [inv.sf]; exact hil)]
            · rw [mark_other e, mark_other e, inv.same j hj]
          · by_cases e : i = t
            · subst e
              obtain ⟨o', ho', e, he, hb, rfl⟩ := of_waits hj
              have : o' = o := Option.some.inj (ho'.symm.trans ho)
              subst this
              exact mark_set (h2 e he hb)
            · rw [mark_other e] at ht
              exact mark_set (inv.shut t ht j hj)
          · rw [mark_other (by omega)]
            exact inv.tail t ht
        have hq := wpOp_of_qOp (Q' := Q) hw (K' := fun a' w' => ((lf.setIfInBounds i true).getD c false = false → D w') ∧ wpAnyK P md L.toArray Q c D (f + (L.length - n)) (lf.setIfInBounds i true) a' w') (fun a' w' hw' h' => ⟨fun _ => hCD w' hw', ih _ _ a' w' hw' inv' h'⟩) (h.2 i hrd)
        unfold wpOp at hq ⊢
        rw [hops i hlt] at hq
        rw [ho] at hq ⊢
        have hg : Region.wanted o (yielded (L.take n).toArray a.tmps) = Region.wanted o (yielded L.toArray a.tmps) := by
          have h3 := hguard i hlt
          rw [ho] at h3
          unfold Region.wanted
          cases hgd : o.guard with
          | none => rfl
          | some k =>
            obtain ⟨k, b⟩ := k
            simp only [hgd, decide_eq_true_eq] at h3
            simp only [yielded, hops k h3]
        simp only [hg] at hq
        exact hq

/-- The rest of a region, whose first m operations were taken first, cut in two. -/
theorem wpAnyK_cut {Q : Exit → Act → World → Prop} {a : Act} {w : World} {L : List Oper} {l0 : Array Bool} {F : Nat} (m n f0 : Nat) (C : World → Prop) (hC : C w) (c : Nat) (D : World → Prop) (hCD : ∀ w, C w → D w) (hmn : m ≤ n) (hF : F = L.length - m) (hl0 : l0 = headL m L.length)
    (hsel : Region.noSelect (L.take n).toArray = true) (hB : Region.lexFrom .any (L.take n).toArray (n - m) m (headL m n) = true) (hcut : cutB2 .any L.toArray m n f0 = true)
    (h : wpQuiet P (L.take n).toArray C (fun a' => ∀ wd, C wd → wpAnyK P .any L.toArray Q c D (L.length - n) (headL n L.length) a' wd) ((L.take n).drop m) a) : wpAnyK P .any L.toArray Q c D F l0 a w := by
  have hn : n ≤ L.length := by
    simp only [cutB2, Bool.and_eq_true, decide_eq_true_eq] at hcut
    simpa using hcut.1.1.1
  have hback : ∀ i, i < n → ∀ j ∈ waits .any L.toArray i, j < i := by
    simp only [cutB2, Bool.and_eq_true, decide_eq_true_eq, List.all_eq_true, List.mem_range] at hcut
    exact hcut.1.1.2
  have hl : ((L.take n).drop m).length = n - m := by simp; omega
  have hq := wpAnyQ_lex (C := C) (md := .any) hsel ((L.take n).drop m) m (headL m n) a (fun j => by simp [List.getElem?_drop]) (by rw [hl]; exact hB) h
  rw [hl] at hq
  have hs : ∀ k t, (headL m k).getD t false = decide (t < m) := fun k t => by
    by_cases ht : t < m
    · have : (headL m k).getD t false = true := by
        simp only [headL, Array.getD_eq_getD_getElem?]
        rw [Array.getElem?_append_left (by simpa using ht)]
        simp [ht]
      rw [this]
      simp [ht]
    · have : (headL m k).getD t false = false := by
        simp only [headL, Array.getD_eq_getD_getElem?]
        rw [Array.getElem?_append_right (by simp; omega)]
        simp only [Array.getElem?_replicate]
        split <;> simp
      rw [this]
      simp [ht]
  have hyes : ∀ k t, t < m → (headL m k).getD t false = true := fun k t ht => by rw [hs]; simp [ht]
  have hno : ∀ k t, m ≤ t → (headL m k).getD t false = false := fun k t ht => by rw [hs]; simp; omega
  have := cut_convK (P := P) (C := C) hcut c D hCD (Q := Q) (Lq := fun a' => ∀ wd, C wd → wpAnyK P .any L.toArray Q c D (L.length - n) (headL n L.length) a' wd) (fun a w hw h => h w hw) _ _ (headL m L.length) a w hC
    ⟨by simp [headL]; omega, by simp [headL]; omega, fun j _ => by rw [hs, hs], fun t ht j hj => by
      have htm : t < m := by
        rcases Nat.lt_or_ge t m with h' | h'
        · exact h'
        · rw [hno _ _ h'] at ht; cases ht
      exact hyes _ _ (Nat.lt_trans (hback t (by omega) j hj) htm), fun t ht => hno _ _ (by omega), fun t ht => hyes _ _ ht⟩ hq
  rw [hF, hl0, show L.length - m = n - m + (L.length - n) by omega]
  exact this
end
end Go.Proofs.Ytfckfgabeeeccaa.P1
