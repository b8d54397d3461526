/- A law for a statement whose order Go leaves open, cut in two: none of the later operations may come before the first n are done; of these each yields the same in every world of a class and leaves a world of the class; from there on the rest is walked by itself. No condition on the program. -/
import Derived.Test.YtfckfgabeeeccaaOrd
import Derived.Test.YtfckfgabeeeccaaKit
import Derived.Deep.Quiet
namespace Go.Proofs.Ytfckfgabeeeccaa.P1
open Go.RowKit

/-- What an operation waits for. -/
def waits (md : Region.Mode) (ops : Array Oper) (t : Nat) : List Nat :=
  match ops[t]? with
  | some o => (o.after.toList.filter (Region.binds md)).map (·.on)
  | none => []

/-- .. and what these wait for, and so on. -/
def reaches (md : Region.Mode) (ops : Array Oper) : Nat → List Nat → List Nat
  | 0, s => s
  | f + 1, s => reaches md ops f ((s ++ s.flatMap (waits md ops)).eraseDups)

/-- The first n wait only for one another, those ahead; all others wait for each of the first n, in f steps. -/
def cutB (md : Region.Mode) (ops : Array Oper) (n f : Nat) : Bool :=
  decide (n ≤ ops.size) && ((List.range n).all fun i => (waits md ops i).all fun j => decide (j < i)) &&
    ((List.range n).all fun i => match ops[i]? with | some o => (match o.guard with | some (k, _) => decide (k < n) | none => true) | none => false) &&
    (List.range ops.size).all fun t => decide (t < n) || (List.range n).all fun i => (reaches md ops f (waits md ops t)).contains i

section
variable {P : Program} {md : Region.Mode} {ops : Array Oper} {C : World → Prop}

theorem mem_waits {t : Nat} {o : Oper} (ho : ops[t]? = some o) {e : Edge} (he : e ∈ o.after) (hb : Region.binds md e = true) : e.on ∈ waits md ops t := by
  unfold waits
  rw [ho]
  exact List.mem_map.2 ⟨e, List.mem_filter.2 ⟨by simpa using he, hb⟩, rfl⟩

theorem of_waits {t j : Nat} (h : j ∈ waits md ops t) : ∃ o, ops[t]? = some o ∧ ∃ e, e ∈ o.after ∧ Region.binds md e = true ∧ e.on = j := by
  unfold waits at h
  split at h
  · rename_i o ho
    obtain ⟨e, he, rfl⟩ := List.mem_map.1 h
    obtain ⟨h1, h2⟩ := List.mem_filter.1 he
    exact ⟨o, ho, e, by simpa using h1, h2, rfl⟩
  · cases h

/-- What is done is done with all that it waited for. -/
def Shut (md : Region.Mode) (ops : Array Oper) (l : Array Bool) : Prop := ∀ t, l.getD t false = true → ∀ j ∈ waits md ops t, l.getD j false = true

theorem reaches_done {l : Array Bool} (hs : Shut md ops l) : ∀ (f : Nat) (s : List Nat), (∀ j ∈ s, l.getD j false = true) → ∀ j ∈ reaches md ops f s, l.getD j false = true
  | 0, _, h, j, hj => h j hj
  | f + 1, s, h, j, hj => by
    refine reaches_done hs f _ (fun i hi => ?_) j hj
    rw [List.mem_eraseDups, List.mem_append, List.mem_flatMap] at hi
    rcases hi with hi | ⟨t, ht, hi⟩
    · exact h i hi
    · exact hs t (h t ht) i hi

theorem mark_same {l : Array Bool} {j : Nat} (h : j < l.size) : l.getD j true = l.getD j false := by simp [h]

theorem mark_set {l : Array Bool} {i j : Nat} (h : l.getD j false = true) : (l.setIfInBounds i true).getD j false = true := by
  simp only [Array.getD_eq_getD_getElem?, Array.getElem?_setIfInBounds] at h ⊢
  split
  · split <;> simp_all
  · exact h

theorem mark_self {l : Array Bool} {i : Nat} (h : i < l.size) : (l.setIfInBounds i true).getD i false = true := by
  simp [h]

theorem mark_other {l : Array Bool} {i j : Nat} (h : i ≠ j) (b : Bool) : (l.setIfInBounds i true).getD j b = l.getD j b := by
  simp only [Array.getD_eq_getD_getElem?, Array.getElem?_setIfInBounds, if_neg h]

/-- More steps than are needed. -/
theorem wpAny_more {Q : Exit → Act → World → Prop} : ∀ (g : Nat) (l : Array Bool) (a : Act) (w : World), wpAny P md ops Q g l a w → wpAny P md ops Q (g + 1) l a w
  | 0, _, _, _, h => ⟨fun _ => h.2, fun i hi => by rw [h.1] at hi; cases hi⟩
  | g + 1, _, _, _, h => ⟨h.1, fun i hi => wpOp_mono (fun a' w' h' => wpAny_more g _ a' w' h') (h.2 i hi)⟩

theorem wpAny_mores {Q : Exit → Act → World → Prop} (g : Nat) (l : Array Bool) (a : Act) (w : World) (h : wpAny P md ops Q g l a w) : ∀ f, wpAny P md ops Q (f + g) l a w
  | 0 => by rw [Nat.zero_add]; exact h
  | f + 1 => by rw [show f + 1 + g = (f + g) + 1 by omega]; exact wpAny_more _ _ _ _ (wpAny_mores g l a w h f)

/-- The first n done, the others not. -/
def headL (n m : Nat) : Array Bool := Array.replicate n true ++ Array.replicate (m - n) false

/-- The marks of the whole and of its head. -/
structure CutInv (md : Region.Mode) (ops : Array Oper) (n : Nat) (lh lf : Array Bool) : Prop where
  sf : lf.size = ops.size
  sh : lh.size = n
  same : ∀ j, j < n → lh.getD j false = lf.getD j false
  shut : Shut md ops lf
  tail : ∀ t, n ≤ t → lf.getD t false = false

theorem CutInv.all {n : Nat} {lh lf : Array Bool} (inv : CutInv md ops n lh lf) (hn : n ≤ ops.size) (h : ∀ j, j < n → lf.getD j false = true) : lf = headL n ops.size := by
  have hs := inv.sf
  apply Array.ext
  · simp [headL, hs]; omega
  · intro j h1 h2
    have hj : lf.getD j false = lf[j] := by simp [h1]
    rw [← hj]
    by_cases hjn : j < n
    · rw [h j hjn]; simp [headL, hjn]
    · rw [inv.tail j (by omega)]
      simp only [headL]
      rw [Array.getElem_append_right (by simp; omega)]
      simp

theorem cut_conv {L : List Oper} {n f0 : Nat} (hcut : cutB md L.toArray n f0 = true) {Lq : Act → Prop} {Q : Exit → Act → World → Prop}
    (hL : ∀ a w, C w → Lq a → wpAny P md L.toArray Q (L.length - n) (headL n L.length) a w) :
    ∀ (f : Nat) (lh lf : Array Bool) (a : Act) (w : World), C w → CutInv md L.toArray n lh lf → wpAnyQ P md (L.take n).toArray C Lq f lh a → wpAny P md L.toArray Q (f + (L.length - n)) lf a w := by
  simp only [cutB, Bool.and_eq_true, decide_eq_true_eq, List.all_eq_true, List.mem_range, Bool.or_eq_true] at hcut
  obtain ⟨⟨⟨hn, hback⟩, hguard⟩, hreach⟩ := hcut
  have hn' : n ≤ L.length := by simpa using hn
  have hops : ∀ i, i < n → (L.take n).toArray[i]? = L.toArray[i]? := fun i hi => by simp [hi]
  have hwt : ∀ i, i < n → waits md (L.take n).toArray i = waits md L.toArray i := fun i hi => by unfold waits; rw [hops i hi]
  intro f
  induction f with
  | zero =>
    intro lh lf a w hw inv h
    have hall : ∀ j, j < n → lf.getD j false = true := by
      intro j
      induction j using Nat.strongRecOn with
      | _ j ih =>
        intro hj
        rw [← inv.same j hj]
        cases hm : lh.getD j false with
        | true => rfl
        | false =>
          have : j ∈ Region.ready md (L.take n).toArray lh := by
            refine mem_ready.2 ⟨by rw [mark_same (by rw [inv.sh]; exact hj)]; exact hm, ?_⟩
            have hjl : j < (L.take n).toArray.size := by simp; omega
            refine ⟨_, Array.getElem?_eq_getElem hjl, fun e he hb => ?_⟩
            have hw := mem_waits (Array.getElem?_eq_getElem hjl) he hb
            rw [hwt j hj] at hw
            have hlt := hback j hj e.on hw
            rw [inv.same e.on (by omega)]
            exact ih e.on hlt (by omega)
          rw [h.1] at this
          cases this
    rw [inv.all hn hall, Nat.zero_add]
    simpa using hL a w hw h.2
  | succ f ih =>
    intro lh lf a w hw inv h
    by_cases hall : ∀ j, j < n → lf.getD j false = true
    · have hr : Region.ready md (L.take n).toArray lh = [] := by
        apply List.eq_nil_iff_forall_not_mem.2
        intro j hj
        obtain ⟨h1, o, ho, _⟩ := mem_ready.1 hj
        have hjn : j < n := by
          have := (Array.getElem?_eq_some_iff.1 ho).1
          simp at this
          omega
        rw [mark_same (by rw [inv.sh]; exact hjn), inv.same j hjn, hall j hjn] at h1
        cases h1
      have := hL a w hw (h.1 hr)
      rw [inv.all hn hall]
      exact wpAny_mores _ _ _ _ (by simpa using this) (f + 1)
    · rw [show f + 1 + (L.length - n) = (f + (L.length - n)) + 1 by omega]
      have hsome : ∃ i, i ∈ Region.ready md (L.take n).toArray lh := by
        apply Classical.byContradiction
        intro hno
        apply hall
        intro j
        induction j using Nat.strongRecOn with
        | _ j ihj =>
          intro hj
          rw [← inv.same j hj]
          cases hm : lh.getD j false with
          | true => rfl
          | false =>
            refine absurd ⟨j, mem_ready.2 ⟨by rw [mark_same (by rw [inv.sh]; exact hj)]; exact hm, ?_⟩⟩ hno
            have hjl : j < (L.take n).toArray.size := by simp; omega
            refine ⟨_, Array.getElem?_eq_getElem hjl, fun e he hb => ?_⟩
            have hw := mem_waits (Array.getElem?_eq_getElem hjl) he hb
            rw [hwt j hj] at hw
            have hlt := hback j hj e.on hw
            rw [inv.same e.on (by omega)]
            exact ihj e.on hlt (by omega)
      have hin : ∀ i, i ∈ Region.ready md (L.take n).toArray lh → i ∈ Region.ready md L.toArray lf := by
        intro i hi
        obtain ⟨h1, o, ho, h2⟩ := mem_ready.1 hi
        have hin : i < n := by
          have := (Array.getElem?_eq_some_iff.1 ho).1
          simp at this
          omega
        refine mem_ready.2 ⟨?_, o, by rw [← hops i hin]; exact ho, fun e he hb => ?_⟩
        · rw [mark_same (by rw [inv.sf]; simp; omega), ← inv.same i hin, ← mark_same (by rw [inv.sh]; exact hin)]
          exact h1
        · have hw := mem_waits ho he hb
          rw [hwt i hin] at hw
          have hlt := hback i hin e.on hw
          rw [← inv.same e.on (by omega)]
          exact h2 e he hb
      refine ⟨fun h0 => ?_, fun i hi => ?_⟩
      · obtain ⟨i, hi⟩ := hsome
        have := hin i hi
        rw [h0] at this
        cases this
      · obtain ⟨h1, o, ho, h2⟩ := mem_ready.1 hi
        have hil : i < L.toArray.size := (Array.getElem?_eq_some_iff.1 ho).1
        have hlt : i < n := by
          rcases Nat.lt_or_ge i n with h' | h'
          · exact h'
          · exfalso
            apply hall
            intro j hj
            rcases hreach i hil with h3 | h3
            · omega
            · refine reaches_done inv.shut f0 (waits md L.toArray i) (fun k hk => ?_) j (by simpa using h3 j hj)
              obtain ⟨o', ho', e, he, hb, rfl⟩ := of_waits hk
              have : o' = o := Option.some.inj (ho'.symm.trans ho)
              subst this
              exact h2 e he hb
        have hrd : i ∈ Region.ready md (L.take n).toArray lh := by
          refine mem_ready.2 ⟨?_, o, by rw [hops i hlt]; exact ho, fun e he hb => ?_⟩
          · rw [mark_same (by rw [inv.sh]; exact hlt), inv.same i hlt, ← mark_same (by rw [inv.sf]; exact hil)]
            exact h1
          · have hw := mem_waits ho he hb
            have hlt' := hback i hlt e.on hw
            rw [inv.same e.on (by omega)]
            exact h2 e he hb
        have inv' : CutInv md L.toArray n (lh.setIfInBounds i true) (lf.setIfInBounds i true) := by
          refine ⟨by simp [inv.sf], by simp [inv.sh], fun j hj => ?_, fun t ht j hj => ?_, fun t ht => ?_⟩
          · by_cases e : i = j
            · subst e
              rw [mark_self (by rw [inv.sh]; exact hlt), mark_self (by rw [inv.sf]; exact hil)]
            · rw [mark_other e, mark_other e, inv.same j hj]
          · by_cases e : i = t
            · subst e
              obtain ⟨o', ho', e, he, hb, rfl⟩ := of_waits hj
              have : o' = o := Option.some.inj (ho'.symm.trans ho)
              subst this
              exact mark_set (h2 e he hb)
            · rw [mark_other e] at ht
              exact mark_set (inv.shut t ht j hj)
          · rw [mark_other (by omega)]
            exact inv.tail t ht
        have hq := wpOp_of_qOp (Q' := Q) hw (fun a' w' hw' h' => ih _ _ a' w' hw' inv' h') (h.2 i hrd)
        unfold wpOp at hq ⊢
        rw [hops i hlt] at hq
        rw [ho] at hq ⊢
        have hg : Region.wanted o (yielded (L.take n).toArray a.tmps) = Region.wanted o (yielded L.toArray a.tmps) := by
          have h3 := hguard i hlt
          rw [ho] at h3
          unfold Region.wanted
          cases hgd : o.guard with
          | none => rfl
          | some k =>
            obtain ⟨k, b⟩ := k
            simp only [hgd, decide_eq_true_eq] at h3
            simp only [yielded, hops k h3]
        simp only [hg] at hq
        exact hq

theorem wpQuiet_mono {Q Q' : Act → Prop} (hQ : ∀ a, Q a → Q' a) : ∀ (l : List Oper) (a : Act), wpQuiet P ops C Q l a → wpQuiet P ops C Q' l a
  | [], a, h => hQ a h
  | o :: l, a, h => by
    simp only [wpQuiet] at h ⊢
    split
    · rename_i hw
      rw [if_pos hw] at h
      obtain ⟨v, h1, h2⟩ := h
      exact ⟨v, h1, wpQuiet_mono hQ l _ h2⟩
    · rename_i hw
      rw [if_neg hw] at h
      exact wpQuiet_mono hQ l _ h

/-- The region cut in two. -/
theorem wp_region_cut {id : Nat} {Q : Exit → Act → World → Prop} {a : Act} {w : World} {L : List Oper} (n f0 : Nat) (C : World → Prop) (hC : C w.drew) (hm : P.follows .mixedOrders = true)
    (hB : Region.lexB .any (L.take n).toArray = true) (hcut : cutB .any L.toArray n f0 = true)
    (h : wpQuiet P (L.take n).toArray C (fun a' => ∀ wd, C wd → wpAny P .any L.toArray Q (L.length - n) (headL n L.length) a' wd) (L.take n) a) : (Code.region id L.toArray true).wp P Q a w := by
  have hn : n ≤ L.length := by
    simp only [cutB, Bool.and_eq_true, decide_eq_true_eq] at hcut
    simpa using hcut.1.1.1
  simp only [Region.lexB, Bool.and_eq_true] at hB
  have hq := wpAnyQ_lex (C := C) (md := .any) hB.1 (L.take n) 0 (Array.replicate (L.take n).toArray.size false) a (by simp) (by simpa using hB.2) h
  refine wp_region_any hm ?_
  have hl : (L.take n).length = n := by simp; omega
  have hr : ∀ m j, (Array.replicate m false).getD j false = false := fun m j => by
    rcases Nat.lt_or_ge j m with h | h
    · simp [h]
    · simp [h]
  have := cut_conv (P := P) (C := C) hcut (Q := Q) (Lq := fun a' => ∀ wd, C wd → wpAny P .any L.toArray Q (L.length - n) (headL n L.length) a' wd) (fun a w hw h => h w hw) _ _ (Array.replicate L.toArray.size false) a _ hC
    ⟨by simp, by simp; omega, fun j _ => by rw [hr, hr], fun t ht => (by rw [hr] at ht; cases ht), fun t _ => hr _ _⟩ hq
  rw [hl, show n + (L.length - n) = L.toArray.size by simp; omega] at this
  exact this

/-- .. the rest in the order of the text. -/
theorem wp_region_cut_seq {id : Nat} {Q : Exit → Act → World → Prop} {a : Act} {w : World} {L : List Oper} (n f0 : Nat) (C : World → Prop) (hC : C w.drew) (hm : P.follows .mixedOrders = true)
    (hB : Region.lexB .any (L.take n).toArray = true) (hcut : cutB .any L.toArray n f0 = true) (hs : Region.seqB .any L.toArray (L.length - n) n (headL n L.length) = true)
    (h : wpQuiet P (L.take n).toArray C (fun a' => ∀ wd, C wd → wpList P L.toArray Q (L.drop n) a' wd) (L.take n) a) : (Code.region id L.toArray true).wp P Q a w :=
  wp_region_cut n f0 C hC hm hB hcut (wpQuiet_mono (fun _ h' wd hwd => wpAny_rest n rfl hs (h' wd hwd)) _ _ h)
end
end Go.Proofs.Ytfckfgabeeeccaa.P1
