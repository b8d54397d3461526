/- A law for a statement whose order Go leaves open: as before, with len among what may be taken first; and a guarded call of a function of the program that is the only operation that may come. No condition on the program. -/
import Derived.Test.YtgnldmheiknbkaaZA
namespace Go.Proofs.Ytgnldmheiknbkaa.P1
open Go.RowKit

/-- len, called. -/
def isLen : Op → Bool
  | .call c => (match c.callee with | .builtin .len => true | _ => false)
  | _ => false

/-- Operations that hand back a value and never enter a function: those of valueOp3, and len. -/
def valueOp4 (x : Op) : Bool := isLen x || valueOp3 x

section
variable {P : Program} {md : Region.Mode} {ops : Array Oper}

theorem value_of_run4 {w w' : World} {n : Next} {ρ : Operand → Value} {o : Oper} (h : valueOp4 o.op = true) (hr : (execOp ρ o).run P w = .ok n w') : ∃ u, n = .value u := by
  by_cases hv : valueOp3 o.op = true
  · exact value_of_run3 hv hr
  · obtain ⟨dst, op, ty, pos, after, guard⟩ := o
    have hl : isLen op = true := by
      simp only [valueOp4, Bool.or_eq_true] at h
      rcases h with h | h
      · exact h
      · exact absurd h hv
    cases op
    case call c =>
      obtain ⟨callee, args, argTypes⟩ := c
      cases callee <;> simp only [isLen, Bool.false_eq_true] at hl
      rename_i b
      cases b <;> simp only [Bool.false_eq_true] at hl
      simp only [execOp, resolve, invoke, builtin, Sem.run_bind, Sem.run_pure, Result.andThen_ok] at hr
      cases hx : (Builtin.len_ argTypes ty (args.map ρ)).run P w with
      | ok u w1 =>
        rw [hx] at hr
        simp only [Result.andThen, Result.ok.injEq] at hr
        exact ⟨u, hr.1.symm⟩
      | halt u w1 =>
        rw [hx] at hr
        simp [Result.andThen] at hr
    all_goals (simp only [isLen, Bool.false_eq_true] at hl)

/-- The one operation that may come is a call of a function of the program, guarded or not: by its contract; D holds behind it. -/
theorem wpAnyK_callW {Q : Exit → Act → World → Prop} {c : Nat} {D : World → Prop} {L : List Oper} (i : Nat) {o : Oper} {fuel : Nat} {listed : Array Bool} {a : Act} {w : World} (hr : Region.ready md L.toArray listed = [i]) (hh : (L.drop i).head? = some o) (hw : Region.wanted o (yielded L.toArray a.tmps) = true)
    (f : FuncId) (xs : Array Operand) (ts : Array TypeId) (hop : o.op = .call { callee := .value (.func f), args := xs, argTypes := ts }) (hrun : ∀ args w, (callFunc f args).run P w = .ok (.enter f args) w) (vs : Array Value) (hv0 : xs.toList.map a.eval = vs.toList) (R : Value → World → Prop)
    (hc : Calls P f vs w fun e w' => ∃ u, e = .returned u ∧ R u w') (hK : ∀ u w', R u w' → D w' ∧ wpAnyK P md L.toArray Q c D fuel (listed.setIfInBounds i true) (a.put o.dst u) w') : wpAnyK P md L.toArray Q c D (fuel + 1) listed a w := by
  have ho : L.toArray[i]? = some o := by simpa [List.head?_drop] using hh
  refine ⟨fun h0 => (by rw [hr] at h0; cases h0), fun j hj => ?_⟩
  rw [hr] at hj
  obtain rfl : j = i := by simpa using hj
  unfold wpOp
  simp only [ho]
  rw [if_pos hw]
  refine .inl ?_
  have hv : xs.map a.eval = vs := Array.toList_inj.1 (by simpa using hv0)
  have hr : (execOp a.eval o).run P w = .ok (.enter f vs) w := by
    obtain ⟨dst, op, ty, pos, after, guard⟩ := o
    simp only at hop
    subst hop
    show (callFunc f (#[] ++ xs.map a.eval ++ #[])).run P w = _
    rw [hrun]
    simp [← hv]
  unfold Oper.wp
  rw [hr]
  refine hc.mono ?_
  rintro e w' ⟨u, rfl, hR⟩
  exact ⟨fun _ => (hK u w' hR).1, (hK u w' hR).2⟩

/-- So many operations from k on can be taken first, one after the other; c waits for each. -/
def segKD (md : Region.Mode) (ops : Array Oper) (rs : List Nat) : Nat → Nat → Array Bool → Bool
  | 0, _, _ => true
  | m + 1, k, listed => (match ops[k]? with | some o => valueOp4 o.op && o.dst.isSome | none => false) && (Region.ready md ops listed).contains k && Region.free md ops listed k && rs.contains k && segKD md ops rs m (k + 1) (listed.setIfInBounds k true)

theorem wpAnyK_seg4 {Q : Exit → Act → World → Prop} {c : Nat} {D : World → Prop} {w : World} (f0 : Nat) (hsel : Region.noSelect ops = true) (hQ : ∀ c a t v w, Q (.panic c) (a.put (some t) v) w → Q (.panic c) a w) (hD : D w) :
    ∀ (l : List Oper) (k : Nat) (listed : Array Bool) (a : Act) (fuel : Nat), (∀ j, j < l.length → l[j]? = ops[k + j]?) → k + l.length ≤ c → listed.getD c false = false → Shut md ops listed → segKD md ops (reaches md ops f0 (waits md ops c)) l.length k listed = true →
      wpQuiet P ops D (fun a' => wpAnyK P md ops Q c D fuel (segL l.length k listed) a' w) l a → wpAnyK P md ops Q c D (l.length + fuel) listed a w
  | [], _, _, _, fuel, _, _, _, _, _, h => by simpa [wpQuiet, segL] using h
  | o :: l, k, listed, a, fuel, hl, hkc, hlc, hs, hB, h => by
    have h0 : ops[k]? = some o := by simpa using (hl 0 (by simp)).symm
    simp only [List.length_cons, segKD, h0, Bool.and_eq_true] at hB
    obtain ⟨⟨⟨⟨⟨hv, hd⟩, hr⟩, hf⟩, hrc⟩, hB'⟩ := hB
    obtain ⟨t, ht⟩ := Option.isSome_iff_exists.1 hd
    have hQ' : ∀ (v : Value) c a w, Q (.panic c) (a.put o.dst v) w → Q (.panic c) a w := fun v c a w h => hQ c a t v w (by rw [← ht]; exact h)
    have hl' : ∀ j, j < l.length → l[j]? = ops[k + 1 + j]? := fun j hj => by
      have := hl (j + 1) (by simp; omega)
      simpa [Nat.add_assoc, Nat.add_comm 1 j] using this
    have e1 : (o :: l).length + fuel = (l.length + fuel) + 1 := by simp; omega
    rw [e1]
    have hne : c ≠ k := by simp at hkc; omega
    have hr' : k ∈ Region.ready md ops listed := by simpa using hr
    have hrc' : k ∈ reaches md ops f0 (waits md ops c) := by simpa using hrc
    have hlc' : (listed.setIfInBounds k true).getD c false = false := by rw [mark_other (Ne.symm hne)]; exact hlc
    simp only [wpQuiet] at h
    by_cases hw : Region.wanted o (yielded ops a.tmps) = true
    · rw [if_pos hw] at h
      obtain ⟨v, h1, h2⟩ := h
      refine wpAnyK_firstR h0 (Region.noSelect_spec hsel) (hQ' v) f0 hrc' _ _ _ _ hs (Region.free_spec h0 hf) hr' (.inl ⟨hw, fun w' hw' => ?_⟩) hD hlc hne
        (wpAnyK_seg4 f0 hsel hQ hD l (k + 1) _ _ fuel hl' (by simp at hkc; omega) hlc' (shut_set hs hr') hB' h2)
      have h3 := h1 w' hw'
      unfold Oper.quietAt at h3
      cases hr : (execOp a.eval o).run P w' with
      | ok n w2 =>
        rw [hr] at h3
        obtain ⟨u, rfl⟩ := value_of_run4 hv hr
        simp only [Oper.quietUpon] at h3
        obtain ⟨rfl, rfl⟩ := h3
        rfl
      | halt y w2 => rw [hr] at h3; simp only [Oper.quietUpon] at h3
    · rw [if_neg hw] at h
      exact wpAnyK_firstR h0 (Region.noSelect_spec hsel) (hQ' _) f0 hrc' _ _ _ _ hs (Region.free_spec h0 hf) hr' (.inr ⟨by simpa using hw, rfl⟩) hD hlc hne
        (wpAnyK_seg4 f0 hsel hQ hD l (k + 1) _ _ fuel hl' (by simp at hkc; omega) hlc' (shut_set hs hr') hB' h)

/-- The operations k .. k + m - 1 of a literal region, taken first; c: an operation behind them that waits for each of them in f0 steps. -/
theorem wpAnyK_seg_lit4 {L : List Oper} {Q : Exit → Act → World → Prop} {w : World} {listed : Array Bool} {a : Act} {F c : Nat} {D : World → Prop} (k m f0 fuel : Nat) (hfu : F = m + fuel) (hkm : k + m ≤ L.length) (hkc : k + m ≤ c) (hlc : listed.getD c false = false)
    (hsel : Region.noSelect L.toArray = true) (hs : shutB md L.toArray listed = true) (hB : segKD md L.toArray (reaches md L.toArray f0 (waits md L.toArray c)) m k listed = true) (hQ : ∀ c a t v w, Q (.panic c) (a.put (some t) v) w → Q (.panic c) a w) (hD : D w)
    (h : wpQuiet P L.toArray D (fun a' => wpAnyK P md L.toArray Q c D fuel (segL m k listed) a' w) ((L.drop k).take m) a) : wpAnyK P md L.toArray Q c D F listed a w := by
  have hl : ((L.drop k).take m).length = m := by simp; omega
  have := wpAnyK_seg4 (P := P) (Q := Q) (w := w) f0 hsel hQ hD ((L.drop k).take m) k listed a fuel (fun j hj => by
    rw [hl] at hj
    simp [List.getElem?_drop, hj]) (by rw [hl]; exact hkc) hlc (shut_of hs) (by rw [hl]; exact hB) (by rw [hl]; exact h)
  rw [hl] at this
  rw [hfu]
  exact this
end
end Go.Proofs.Ytgnldmheiknbkaa.P1
