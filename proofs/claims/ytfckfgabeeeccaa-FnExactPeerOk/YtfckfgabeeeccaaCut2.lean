/- A law for a statement whose order Go leaves open, cut in two behind some operations that were taken first: none of the later operations may come before the others of the first n are done. No condition on the program. -/
import Derived.Test.YtfckfgabeeeccaaCut
namespace Go.Proofs.Ytfckfgabeeeccaa.P1
open Go.RowKit

/-- As cutB, where the first m are done already. -/
def cutB2 (md : Region.Mode) (ops : Array Oper) (m n f : Nat) : Bool :=
  decide (n ≤ ops.size) && ((List.range n).all fun i => (waits md ops i).all fun j => decide (j < i)) &&
    ((List.range n).all fun i => match ops[i]? with | some o => (match o.guard with | some (k, _) => decide (k < n) | none => true) | none => false) &&
    (List.range ops.size).all fun t => decide (t < n) || (List.range n).all fun i => decide (i < m) || (reaches md ops f (waits md ops t)).contains i

section
variable {P : Program} {md : Region.Mode} {ops : Array Oper} {C : World → Prop}

/-- The marks of the whole and of its head. -/
structure CutInv2 (md : Region.Mode) (ops : Array Oper) (m n : Nat) (lh lf : Array Bool) : Prop where
  sf : lf.size = ops.size
  sh : lh.size = n
  same : ∀ j, j < n → lh.getD j false = lf.getD j false
  shut : Shut md ops lf
  tail : ∀ t, n ≤ t → lf.getD t false = false
  first : ∀ t, t < m → lf.getD t false = true

theorem CutInv2.all {m n : Nat} {lh lf : Array Bool} (inv : CutInv2 md ops m n lh lf) (hn : n ≤ ops.size) (h : ∀ j, j < n → lf.getD j false = true) : lf = headL n ops.size := by
  have hs := inv.sf
  apply Array.ext
  · simp [headL, hs]; omega
  · intro j h1 h2
    have hj : lf.getD j false = lf[j] := by simp [h1]
    rw [← hj]
    by_cases hjn : j < n
    · rw [h j hjn]; simp [headL, hjn]
    · rw [inv.tail j (by omega)]
      simp only [headL]
      rw [Array.getElem_append_right (by simp; omega)]
      simp

theorem cut_conv2 {L : List Oper} {m n f0 : Nat} (hcut : cutB2 md L.toArray m n f0 = true) {Lq : Act → Prop} {Q : Exit → Act → World → Prop}
    (hL : ∀ a w, C w → Lq a → wpAny P md L.toArray Q (L.length - n) (headL n L.length) a w) :
    ∀ (f : Nat) (lh lf : Array Bool) (a : Act) (w : World), C w → CutInv2 md L.toArray m n lh lf → wpAnyQ P md (L.take n).toArray C Lq f lh a → wpAny P md L.toArray Q (f + (L.length - n)) lf a w := by
  simp only [cutB2, Bool.and_eq_true, decide_eq_true_eq, List.all_eq_true, List.mem_range, Bool.or_eq_true] at hcut
  obtain ⟨⟨⟨hn, hback⟩, hguard⟩, hreach⟩ := hcut
  have hn' : n ≤ L.length := by simpa using hn
  have hops : ∀ i, i < n → (L.take n).toArray[i]? = L.toArray[i]? := fun i hi => by simp [hi]
  have hwt : ∀ i, i < n → waits md (L.take n).toArray i = waits md L.toArray i := fun i hi => by unfold waits; rw [hops i hi]
  intro f
  induction f with
  | zero =>
    intro lh lf a w hw inv h
    have hall : ∀ j, j < n → lf.getD j false = true := by
      intro j
      induction j using Nat.strongRecOn with
      | _ j ih =>
        intro hj
        rw [← inv.same j hj]
        cases hm : lh.getD j false with
        | true => rfl
        | false =>
          have : j ∈ Region.ready md (L.take n).toArray lh := by
            refine mem_ready.2 ⟨by rw [mark_same (by rw [inv.sh]; exact hj)]; exact hm, ?_⟩
            have hjl : j < (L.take n).toArray.size := by simp; omega
            refine ⟨_, Array.getElem?_eq_getElem hjl, fun e he hb => ?_⟩
            have hw := mem_waits (Array.getElem?_eq_getElem hjl) he hb
            rw [hwt j hj] at hw
            have hlt := hback j hj e.on hw
            rw [inv.same e.on (by omega)]
            exact ih e.on hlt (by omega)
          rw [h.1] at this
          cases this
    rw [inv.all hn hall, Nat.zero_add]
    simpa using hL a w hw h.2
  | succ f ih =>
    intro lh lf a w hw inv h
    by_cases hall : ∀ j, j < n → lf.getD j false = true
    · have hr : Region.ready md (L.take n).toArray lh = [] := by
        apply List.eq_nil_iff_forall_not_mem.2
        intro j hj
        obtain ⟨h1, o, ho, _⟩ := mem_ready.1 hj
        have hjn : j < n := by
          have := (Array.getElem?_eq_some_iff.1 ho).1
          simp at this
          omega
        rw [mark_same (by rw [inv.sh]; exact hjn), inv.same j hjn, hall j hjn] at h1
        cases h1
      have := hL a w hw (h.1 hr)
      rw [inv.all hn hall]
      exact wpAny_mores _ _ _ _ (by simpa using this) (f + 1)
    · rw [show f + 1 + (L.length - n) = (f + (L.length - n)) + 1 by omega]
      have hsome : ∃ i, i ∈ Region.ready md (L.take n).toArray lh := by
        apply Classical.byContradiction
        intro hno
        apply hall
        intro j
        induction j using Nat.strongRecOn with
        | _ j ihj =>
          intro hj
          rw [← inv.same j hj]
          cases hm : lh.getD j false with
          | true => rfl
          | false =>
            refine absurd ⟨j, mem_ready.2 ⟨by rw [mark_same (by rw [inv.sh]; exact hj)]; exact hm, ?_⟩⟩ hno
            have hjl : j < (L.take n).toArray.size := by simp; omega
            refine ⟨_, Array.getElem?_eq_getElem hjl, fun e he hb => ?_⟩
            have hw := mem_waits (Array.getElem?_eq_getElem hjl) he hb
            rw [hwt j hj] at hw
            have hlt := hback j hj e.on hw
            rw [inv.same e.on (by omega)]
            exact ihj e.on hlt (by omega)
      have hin : ∀ i, i ∈ Region.ready md (L.take n).toArray lh → i ∈ Region.ready md L.toArray lf := by
        intro i hi
        obtain ⟨h1, o, ho, h2⟩ := mem_ready.1 hi
        have hin : i < n := by
          have := (Array.getElem?_eq_some_iff.1 ho).1
          simp at this
          omega
        refine mem_ready.2 ⟨?_, o, by rw [← hops i hin]; exact ho, fun e he hb => ?_⟩
        · rw [mark_same (by rw [inv.sf]; simp; omega), ← inv.same i hin, ← mark_same (by rw [inv.sh]; exact hin)]
          exact h1
        · have hw := mem_waits ho he hb
          rw [hwt i hin] at hw
          have hlt := hback i hin e.on hw
          rw [← inv.same e.on (by omega)]
          exact h2 e he hb
      refine ⟨fun h0 => ?_, fun i hi => ?_⟩
      · obtain ⟨i, hi⟩ := hsome
        have := hin i hi
        rw [h0] at this
        cases this
      · obtain ⟨h1, o, ho, h2⟩ := mem_ready.1 hi
        have hil : i < L.toArray.size := (Array.getElem?_eq_some_iff.1 ho).1
        have hlt : i < n := by
          rcases Nat.lt_or_ge i n with h' | h'
          · exact h'
          · exfalso
            apply hall
            intro j hj
            rcases hreach i hil with h3 | h3
            · omega
            · rcases h3 j hj with h4 | h4
              · exact inv.first j h4
              refine reaches_done inv.shut f0 (waits md L.toArray i) (fun k hk => ?_) j (by simpa using h4)
              obtain ⟨o', ho', e, he, hb, rfl⟩ := of_waits hk
              have : o' = o := Option.some.inj (ho'.symm.trans ho)
              subst this
              exact h2 e he hb
        have hrd : i ∈ Region.ready md (L.take n).toArray lh := by
          refine mem_ready.2 ⟨?_, o, by rw [hops i hlt]; exact ho, fun e he hb => ?_⟩
          · rw [mark_same (by rw [inv.sh]; exact hlt), inv.same i hlt, ← mark_same (by rw [inv.sf]; exact hil)]
            exact h1
          · have hw := mem_waits ho he hb
            have hlt' := hback i hlt e.on hw
            rw [inv.same e.on (by omega)]
            exact h2 e he hb
        have inv' : CutInv2 md L.toArray m n (lh.setIfInBounds i true) (lf.setIfInBounds i true) := by
          refine ⟨by simp [inv.sf], by simp [inv.sh], fun j hj => ?_, fun t ht j hj => ?_, fun t ht => ?_, fun t ht => mark_set (inv.first t ht)⟩
          · by_cases e : i = j
            · subst e
              rw [mark_self (by rw [inv.sh]; exact hlt), mark_self (by rw [inv.sf]; exact hil)]
            · rw [mark_other e, mark_other e, inv.same j hj]
          · by_cases e : i = t
            · subst e
              obtain ⟨o', ho', e, he, hb, rfl⟩ := of_waits hj
              have : o' = o := Option.some.inj (ho'.symm.trans ho)
              subst this
              exact mark_set (h2 e he hb)
            · rw [mark_other e] at ht
              exact mark_set (inv.shut t ht j hj)
          · rw [mark_other (by omega)]
            exact inv.tail t ht
        have hq := wpOp_of_qOp (Q' := Q) hw (fun a' w' hw' h' => ih _ _ a' w' hw' inv' h') (h.2 i hrd)
        unfold wpOp at hq ⊢
        rw [hops i hlt] at hq
        rw [ho] at hq ⊢
        have hg : Region.wanted o (yielded (L.take n).toArray a.tmps) = Region.wanted o (yielded L.toArray a.tmps) := by
          have h3 := hguard i hlt
          rw [ho] at h3
          unfold Region.wanted
          cases hgd : o.guard with
          | none => rfl
          | some k =>
            obtain ⟨k, b⟩ := k
            simp only [hgd, decide_eq_true_eq] at h3
            simp only [yielded, hops k h3]
        simp only [hg] at hq
        exact hq

/-- The rest of a region, whose first m operations were taken first, cut in two. -/
theorem wpAny_cut {Q : Exit → Act → World → Prop} {a : Act} {w : World} {L : List Oper} {l0 : Array Bool} {F : Nat} (m n f0 : Nat) (C : World → Prop) (hC : C w) (hmn : m ≤ n) (hF : F = L.length - m) (hl0 : l0 = headL m L.length)
    (hsel : Region.noSelect (L.take n).toArray = true) (hB : Region.lexFrom .any (L.take n).toArray (n - m) m (headL m n) = true) (hcut : cutB2 .any L.toArray m n f0 = true)
    (h : wpQuiet P (L.take n).toArray C (fun a' => ∀ wd, C wd → wpAny P .any L.toArray Q (L.length - n) (headL n L.length) a' wd) ((L.take n).drop m) a) : wpAny P .any L.toArray Q F l0 a w := by
  have hn : n ≤ L.length := by
    simp only [cutB2, Bool.and_eq_true, decide_eq_true_eq] at hcut
    simpa using hcut.1.1.1
  have hback : ∀ i, i < n → ∀ j ∈ waits .any L.toArray i, j < i := by
    simp only [cutB2, Bool.and_eq_true, decide_eq_true_eq, List.all_eq_true, List.mem_range] at hcut
    exact hcut.1.1.2
  have hl : ((L.take n).drop m).length = n - m := by simp; omega
  have hq := wpAnyQ_lex (C := C) (md := .any) hsel ((L.take n).drop m) m (headL m n) a (fun j => by simp [List.getElem?_drop]) (by rw [hl]; exact hB) h
  rw [hl] at hq
  have hs : ∀ k t, (headL m k).getD t false = decide (t < m) := fun k t => by
    by_cases ht : t < m
    · have : (headL m k).getD t false = true := by
        simp only [headL, Array.getD_eq_getD_getElem?]
        rw [Array.getElem?_append_left (by simpa using ht)]
        simp [ht]
      rw [this]
      simp [ht]
    · have : (headL m k).getD t false = false := by
        simp only [headL, Array.getD_eq_getD_getElem?]
        rw [Array.getElem?_append_right (by simp; omega)]
        simp only [Array.getElem?_replicate]
        split <;> simp
      rw [this]
      simp [ht]
  have hyes : ∀ k t, t < m → (headL m k).getD t false = true := fun k t ht => by rw [hs]; simp [ht]
  have hno : ∀ k t, m ≤ t → (headL m k).getD t false = false := fun k t ht => by rw [hs]; simp; omega
  have := cut_conv2 (P := P) (C := C) hcut (Q := Q) (Lq := fun a' => ∀ wd, C wd → wpAny P .any L.toArray Q (L.length - n) (headL n L.length) a' wd) (fun a w hw h => h w hw) _ _ (headL m L.length) a w hC
    ⟨by simp [headL]; omega, by simp [headL]; omega, fun j _ => by rw [hs, hs], fun t ht j hj => by
      have htm : t < m := by
        rcases Nat.lt_or_ge t m with h' | h'
        · exact h'
        · rw [hno _ _ h'] at ht; cases ht
      exact hyes _ _ (Nat.lt_trans (hback t (by omega) j hj) htm), fun t ht => hno _ _ (by omega), fun t ht => hyes _ _ ht⟩ hq
  rw [hF, hl0, show L.length - m = n - m + (L.length - n) by omega]
  exact this
end
end Go.Proofs.Ytfckfgabeeeccaa.P1
