/- A law for a statement whose order Go leaves open: operations that yield the same in every world of a class are taken first, so many at once, though others may make memory meanwhile; the class is kept till an operation comes that waits, over however many others, for all of them. No condition on the program. -/
import Derived.Test.YtflicklgmhgpiaaLate
namespace Go.Proofs.Ytflicklgmhgpiaa.P1
open Go.RowKit

/-- Operations that hand back a value and never enter a function: those of valueOp, loads, structs and arrays. -/
def valueOp2 : Op → Bool
  | .load _ _ => true
  | .build _ _ => true
  | x => valueOp x

section
variable {P : Program} {md : Region.Mode} {ops : Array Oper}

theorem value_of_run2 {w w' : World} {n : Next} {ρ : Operand → Value} {o : Oper} (h : valueOp2 o.op = true) (hr : (execOp ρ o).run P w = .ok n w') : ∃ u, n = .value u := by
  by_cases hv : valueOp o.op = true
  · exact value_of_run hv hr
  · obtain ⟨dst, op, ty, pos, after, guard⟩ := o
    cases op
    case load t x => exact bind_value _ hr
    case build t xs => exact bind_value _ hr
    all_goals exact absurd h hv

theorem shut_set {l : Array Bool} {j : Nat} (hs : Shut md ops l) (hj : j ∈ Region.ready md ops l) : Shut md ops (l.setIfInBounds j true) := by
  obtain ⟨_, o, ho, h2⟩ := mem_ready.1 hj
  intro t ht k hk
  by_cases e : j = t
  · subst e
    obtain ⟨o', ho', e, he, hb, rfl⟩ := of_waits hk
    have : o' = o := Option.some.inj (ho'.symm.trans ho)
    subst this
    exact mark_set (h2 e he hb)
  · rw [mark_other e] at ht
    exact mark_set (hs t ht k hk)

/-- As wpAnyK_first; operation c waits for i over others. -/
theorem wpAnyK_firstR {Q : Exit → Act → World → Prop} {c : Nat} {D : World → Prop} {i : Nat} {oi : Oper} {v : Value} (hi : ops[i]? = some oi) (hsel : ∀ (j : Nat) (o : Oper) cs b, ops[j]? = some o → o.op ≠ .select cs b)
    (hQ : ∀ c a w, Q (.panic c) (a.put oi.dst v) w → Q (.panic c) a w) (f0 : Nat) (hci : i ∈ reaches md ops f0 (waits md ops c)) :
    ∀ (fuel : Nat) (listed : Array Bool) (a : Act) (w : World), Shut md ops listed →
      (∀ j oj, ops[j]? = some oj → j ≠ i → listed.getD j true = false → (∀ e ∈ oj.after, Region.binds md e = true → e.on ≠ i) → oi.apart ops oj = true) →
      i ∈ Region.ready md ops listed → YieldsIf P ops D oi v a → D w → listed.getD c false = false → c ≠ i →
      wpAnyK P md ops Q c D fuel (listed.setIfInBounds i true) (a.put oi.dst v) w → wpAnyK P md ops Q c D (fuel + 1) listed a w := by
  have hcw : ∀ listed : Array Bool, Shut md ops listed → i ∈ Region.ready md ops listed → ∀ j ∈ Region.ready md ops listed, j ≠ c := by
    intro listed hs hr j hj e
    subst e
    obtain ⟨_, o, ho, hall⟩ := mem_ready.1 hj
    have h1 : listed.getD i false = true := by
      refine reaches_done hs f0 _ (fun k hk => ?_) i hci
      obtain ⟨o', ho', e, he, hb, rfl⟩ := of_waits hk
      have : o' = o := Option.some.inj (ho'.symm.trans ho)
      subst this
      exact hall e he hb
    have h0 := (mem_ready.1 hr).1
    rcases Nat.lt_or_ge i listed.size with h' | h'
    · rw [mark_same h', h1] at h0; cases h0
    · simp [Array.getElem?_eq_none h'] at h1
  intro fuel
  induction fuel with
  | zero =>
    intro listed a w _ _ hr hy hS hc hne H
    refine ⟨fun h => (by rw [h] at hr; cases hr), fun j hj => ?_⟩
    by_cases hji : j = i
    · subst hji; exact hy.wpOp hi hS ⟨fun _ => hS, H⟩
    · have := ready_mono hj hji
      rw [H.1] at this
      cases this
  | succ fuel ih =>
    intro listed a w hs hfree hr hy hS hc hne H
    refine ⟨fun h => (by rw [h] at hr; cases hr), fun j hj => ?_⟩
    by_cases hji : j = i
    · subst hji; exact hy.wpOp hi hS ⟨fun _ => hS, H⟩
    · have h1 := H.2 j (ready_mono hj hji)
      obtain ⟨hjun, oj, hoj, hall⟩ := mem_ready.1 hj
      have hnot : ∀ e ∈ oj.after, Region.binds md e = true → e.on ≠ i := fun e he hb heq => by
        have h1 := hall e he hb
        have h0 := (mem_ready.1 hr).1
        rw [heq] at h1
        rcases Nat.lt_or_ge i listed.size with h' | h'
        · simp [h'] at h0 h1; rw [h0] at h1; cases h1
        · simp [Array.getElem?_eq_none h'] at h1
      have h2 := wpOp_putIf hoj (hfree j oj hoj hji hjun hnot) (fun cs b => hsel i oi cs b hi) (fun cs b => hsel j oj cs b hoj) hQ hy h1
      have hfree' : ∀ k ok, ops[k]? = some ok → k ≠ i → (listed.setIfInBounds j true).getD k true = false →
          (∀ e ∈ ok.after, Region.binds md e = true → e.on ≠ i) → oi.apart ops ok = true := fun k ok hk hki hun hno => by
        refine hfree k ok hk hki ?_ hno
        by_cases hjk : j = k
        · subst hjk; exact hjun
        · rw [Go.getD_set_ne true hjk] at hun; exact hun
      have hjc := hcw listed hs hr j hj
      have hc' : (listed.setIfInBounds j true).getD c false = false := by rw [mark_other hjc]; exact hc
      have hc2 : ((listed.setIfInBounds i true).setIfInBounds j true).getD c false = false := by rw [mark_other hjc, mark_other (Ne.symm hne)]; exact hc
      refine wpOp_mono (fun a' w' h3 => ⟨fun _ => h3.2.1 hc2, ih (listed.setIfInBounds j true) a' w' (shut_set hs hj) hfree' (ready_mono hr (Ne.symm hji)) h3.1 (h3.2.1 hc2) hc' hne ?_⟩) h2
      rw [Array.setIfInBounds_comm _ _ hji]
      exact h3.2.2

/-- What is done is done with all that it waited for. -/
def shutB (md : Region.Mode) (ops : Array Oper) (l : Array Bool) : Bool := (List.range ops.size).all fun t => !l.getD t false || (waits md ops t).all fun j => l.getD j false

theorem shut_of {l : Array Bool} (h : shutB md ops l = true) : Shut md ops l := by
  intro t ht j hj
  rcases Nat.lt_or_ge t ops.size with h' | h'
  · simp only [shutB, List.all_eq_true, List.mem_range, Bool.or_eq_true] at h
    rcases h t h' with h1 | h1
    · rw [ht] at h1; cases h1
    · exact h1 j hj
  · unfold waits at hj
    rw [Array.getElem?_eq_none h'] at hj
    cases hj

/-- So many operations from k on can be taken first, one after the other; c waits for each. -/
def segKB (md : Region.Mode) (ops : Array Oper) (rs : List Nat) : Nat → Nat → Array Bool → Bool
  | 0, _, _ => true
  | m + 1, k, listed => (match ops[k]? with | some o => valueOp2 o.op && o.dst.isSome | none => false) && (Region.ready md ops listed).contains k && Region.free md ops listed k && rs.contains k && segKB md ops rs m (k + 1) (listed.setIfInBounds k true)

theorem wpAnyK_seg {Q : Exit → Act → World → Prop} {c : Nat} {D : World → Prop} {w : World} (f0 : Nat) (hsel : Region.noSelect ops = true) (hQ : ∀ c a t v w, Q (.panic c) (a.put (some t) v) w → Q (.panic c) a w) (hD : D w) :
    ∀ (l : List Oper) (k : Nat) (listed : Array Bool) (a : Act) (fuel : Nat), (∀ j, j < l.length → l[j]? = ops[k + j]?) → k + l.length ≤ c → listed.getD c false = false → Shut md ops listed → segKB md ops (reaches md ops f0 (waits md ops c)) l.length k listed = true →
      wpQuiet P ops D (fun a' => wpAnyK P md ops Q c D fuel (segL l.length k listed) a' w) l a → wpAnyK P md ops Q c D (l.length + fuel) listed a w
  | [], _, _, _, fuel, _, _, _, _, _, h => by simpa [wpQuiet, segL] using h
  | o :: l, k, listed, a, fuel, hl, hkc, hlc, hs, hB, h => by
    have h0 : ops[k]? = some o := by simpa using (hl 0 (by simp)).symm
    simp only [List.length_cons, segKB, h0, Bool.and_eq_true] at hB
    obtain ⟨⟨⟨⟨⟨hv, hd⟩, hr⟩, hf⟩, hrc⟩, hB'⟩ := hB
    obtain ⟨t, ht⟩ := Option.isSome_iff_exists.1 hd
    have hQ' : ∀ (v : Value) c a w, Q (.panic c) (a.put o.dst v) w → Q (.panic c) a w := fun v c a w h => hQ c a t v w (by rw [← ht]; exact h)
    have hl' : ∀ j, j < l.length → l[j]? = ops[k + 1 + j]? := fun j hj => by
      have := hl (j + 1) (by simp; omega)
      simpa [Nat.add_assoc, Nat.add_comm 1 j] using this
    have e1 : (o :: l).length + fuel = (l.length + fuel) + 1 := by simp; omega
    rw [e1]
    have hne : c ≠ k := by simp at hkc; omega
    have hr' : k ∈ Region.ready md ops listed := by simpa using hr
    have hrc' : k ∈ reaches md ops f0 (waits md ops c) := by simpa using hrc
    have hlc' : (listed.setIfInBounds k true).getD c false = false := by rw [mark_other (Ne.symm hne)]; exact hlc
    simp only [wpQuiet] at h
    by_cases hw : Region.wanted o (yielded ops a.tmps) = true
    · rw [if_pos hw] at h
      obtain ⟨v, h1, h2⟩ := h
      refine wpAnyK_firstR h0 (Region.noSelect_spec hsel) (hQ' v) f0 hrc' _ _ _ _ hs (Region.free_spec h0 hf) hr' (.inl ⟨hw, fun w' hw' => ?_⟩) hD hlc hne
        (wpAnyK_seg f0 hsel hQ hD l (k + 1) _ _ fuel hl' (by simp at hkc; omega) hlc' (shut_set hs hr') hB' h2)
      have h3 := h1 w' hw'
      unfold Oper.quietAt at h3
      cases hr : (execOp a.eval o).run P w' with
      | ok n w2 =>
        rw [hr] at h3
        obtain ⟨u, rfl⟩ := value_of_run2 hv hr
        simp only [Oper.quietUpon] at h3
        obtain ⟨rfl, rfl⟩ := h3
        rfl
      | halt y w2 => rw [hr] at h3; simp only [Oper.quietUpon] at h3
    · rw [if_neg hw] at h
      exact wpAnyK_firstR h0 (Region.noSelect_spec hsel) (hQ' _) f0 hrc' _ _ _ _ hs (Region.free_spec h0 hf) hr' (.inr ⟨by simpa using hw, rfl⟩) hD hlc hne
        (wpAnyK_seg f0 hsel hQ hD l (k + 1) _ _ fuel hl' (by simp at hkc; omega) hlc' (shut_set hs hr') hB' h)

/-- The operations k .. k + m - 1 of a literal region, taken first; c: an operation behind them that waits for each of them in f0 steps. -/
theorem wpAnyK_seg_lit {L : List Oper} {Q : Exit → Act → World → Prop} {w : World} {listed : Array Bool} {a : Act} {F c : Nat} {D : World → Prop} (k m f0 fuel : Nat) (hfu : F = m + fuel) (hkm : k + m ≤ L.length) (hkc : k + m ≤ c) (hlc : listed.getD c false = false)
    (hsel : Region.noSelect L.toArray = true) (hs : shutB md L.toArray listed = true) (hB : segKB md L.toArray (reaches md L.toArray f0 (waits md L.toArray c)) m k listed = true) (hQ : ∀ c a t v w, Q (.panic c) (a.put (some t) v) w → Q (.panic c) a w) (hD : D w)
    (h : wpQuiet P L.toArray D (fun a' => wpAnyK P md L.toArray Q c D fuel (segL m k listed) a' w) ((L.drop k).take m) a) : wpAnyK P md L.toArray Q c D F listed a w := by
  have hl : ((L.drop k).take m).length = m := by simp; omega
  have := wpAnyK_seg (P := P) (Q := Q) (w := w) f0 hsel hQ hD ((L.drop k).take m) k listed a fuel (fun j hj => by
    rw [hl] at hj
    simp [List.getElem?_drop, hj]) (by rw [hl]; exact hkc) hlc (shut_of hs) (by rw [hl]; exact hB) (by rw [hl]; exact h)
  rw [hl] at this
  rw [hfu]
  exact this
end
end Go.Proofs.Ytflicklgmhgpiaa.P1
