/- A range over a function that itself ranges over a function: what such a function must do, and what a loop over it may lean on; no condition. -/
import Derived.RangeFuncNested
import Derived.RangeFuncBound
import Derived.RangeFuncCalls
import Derived.RangeFuncLeaves
import Derived.RangeFuncBox
import Derived.OrdersIn
namespace Go.Proofs.Ythkdgnohkdedpaa.Rf
open Go.RowKit

/-- A function tells values to a yield, one by one; what is no cells and was made since it began is its own. -/
def Tells {α : Type} (P : Program) (g : Nat) (lb : Array Value) (encs : α → Array Value) (Kp : World → World → Prop) (S Sp : List α → Prop) (N : Nat) (w : World) : Prop :=
  ∀ (n l : Nat) (J Jx : List α → World → Prop) (W : World), Below w.heap.size w W → OwnFrom W.heap.size J → OwnFrom W.heap.size Jx →
    (∀ m pre x W1, J pre W1 → pre.length < N → YieldAt Fence.wide m P l (encs x) W1 fun e W' => KeepsFrom W.heap.size W1 W' ∧
      ((e = .returned (.bool true) ∧ J (pre ++ [x]) W' ∧ Kp W1 W') ∨ (e = .returned (.bool false) ∧ Jx (pre ++ [x]) W'))) →
    J [] W →
    CallsIn Fence.wide n P g (#[.func (.yield l) #[] #[]] ++ lb) W fun e W' => (∃ v, e = .returned v) ∧ ((∃ xs, S xs ∧ J xs W') ∨ (∃ pre, Sp pre ∧ Jx pre W'))

theorem keeps_mono {B B' : Nat} {W W' : World} (h : KeepsFrom B W W') (hb : B ≤ B') : KeepsFrom B' W W' := ⟨h.size, fun k o hk => h.same k o (Nat.le_trans hb hk)⟩

theorem keeps_put {B l : Nat} (W : World) (o : Obj) (h : l < B) : KeepsFrom B W (W.putObj l o) := KeepsFrom.of_grownBy (grownBy_putObj' W l o) (fun j e => by cases e; exact h)

theorem own_mono {β : Type} {B B' : Nat} {I : β → World → Prop} (h : OwnFrom B I) (hb : B ≤ B') : OwnFrom B' I := fun s A C row hs hg hr => h s A C row hs hg (fun r e => ⟨Nat.le_trans hb (hr r e).1, (hr r e).2⟩)

/-- A block below what may be turned lies as it lay. -/
theorem block_kept {B k : Nat} {A C : World} {row : Option Nat} {o : Obj} (hg : A.grownBy C row) (hr : ∀ r, row = some r → B ≤ r ∧ ∃ o : Obj, A.heap[r]? = some o ∧ o.isCells = false) (hk : k < B) (h : A.heap[k]? = some o) : C.heap[k]? = some o :=
  (hg.block k (Array.getElem?_eq_some_iff.1 h).1 (fun e => by have := (hr k e.symm).1; omega)).trans h

variable {P : Program}

/-- The loop over it. -/
theorem range_tells {α : Type} {g : Operand} {ps : Array Tmp} {assign body : Code} {Q : Exit → Act → World → Prop} {a : Act} {w : World} {n : Nat} {gf : Nat} {lb : Array Value}
    (hg : a.eval g = .func (.func gf) #[] lb) (eg : ∀ args w, (callFunc gf args).run P w = .ok (.enter gf args) w)
    {encs : α → Array Value} {Kp : World → World → Prop} {S Sp : List α → Prop} {N : Nat} {w0 : World} (hseq : Tells P gf lb encs Kp S Sp N w0)
    (hKt : ∀ {A B C : World}, Kp A B → Kp B C → Kp A C) (hKb : ∀ (W : World) (l : Nat) (o o' : Obj), w.heap.size ≤ l → W.heap[l]? = some o → o.isCells = false → o.isWalk = false → Kp W (W.putObj l o')) (hb0 : Below w0.heap.size w0 w) (hps : ∀ x, (encs x).size = ps.size)
    (I : List α → World → Prop) (Ix : Code → List α → World → Prop) (hI : OwnFrom w.heap.size I) (hIx : ∀ c, OwnFrom w.heap.size (Ix c)) (h0 : I [] w) (a₁ : α → Act)
    (hassign : ∀ (m l : Nat) (x : α) (W : World) (K : Act → World → Prop), K (a₁ x) W →
      assign.wpIn (Fence.wide.inRound l) m P (Exit.then K (fun _ _ _ => False)) { tmps := (ps.zip (encs x)).foldl (fun t (p, v) => t.setIfInBounds p v) a.tmps, defers := [] } W)
    (hbody : ∀ (m l : Nat) (pre : List α) (x : α) (W : World), I pre W → pre.length < N → body.wpIn (Fence.wide.inRound l) m P (ownPostG w.heap.size Kp I Ix (pre ++ [x]) W) (a₁ x) W)
    (hdone : ∀ (D : Nat) (xs : List α) (W : World), w.heap.size ≤ D → S xs → I xs W → W.heap[D]? = some (.deferred (some [])) → Q .normal { a with defers := { target := .collected D, args := #[] } :: a.defers } W)
    (hstop : ∀ (D : Nat) (c : Code) (pre : List α) (W : World), w.heap.size ≤ D → Sp pre → Ix c pre W → W.heap[D]? = some (.deferred (some [])) → c.wpIn Fence.wide n P Q { a with defers := { target := .collected D, args := #[] } :: a.defers } W) :
    (Code.rangeFunc g ps assign body).wpIn Fence.wide n P Q a w := by
  refine wpIn_rangeFunc fun fn hfn => ?_
  obtain ⟨d, hd⟩ : ∃ d, d = w.heap.size := ⟨_, rfl⟩
  obtain ⟨R, hR⟩ : ∃ R : LoopState → Option Code → Loop, R = fun st pe => { state := st, pending := pe, fn, tmps := a.tmps, params := ps, assign, body, defers := d } := ⟨_, rfl⟩
  have hent : (Instr.enterLoop fn a.tmps ps assign body none).run P w = .ok (d + 1, [{ target := .collected d, args := #[] }]) ((w.alloc (.deferred (some []))).alloc (.loop (R .ready none))) := by
    rw [hR, hd]
    exact run_enterLoop_outer _ _ _ _ _
  have e1 : ((w.alloc (.deferred (some []))).alloc (.loop (R .ready none))).heap[d + 1]? = some (.loop (R .ready none)) := by
    have := World.alloc_heap_new (w.alloc (.deferred (some []))) (.loop (R .ready none))
    rw [World.size_alloc, ← hd] at this
    exact this
  have e2 : ((w.alloc (.deferred (some []))).alloc (.loop (R .ready none))).heap[d]? = some (.deferred (some [])) := by
    rw [hd]
    exact (Below.heap_alloc _ _ _ (by simp)).trans (World.alloc_heap_new w _)
  have e3 : I [] ((w.alloc (.deferred (some []))).alloc (.loop (R .ready none))) := hI.alloc _ (hI.alloc _ h0)
  have e4 : Below w0.heap.size w0 ((w.alloc (.deferred (some []))).alloc (.loop (R .ready none))) := hb0.trans ((((Below.refl _ w).alloc (Nat.le_refl _) _).alloc (by simp) _).mono hb0.size)
  have e5 : ((w.alloc (.deferred (some []))).alloc (.loop (R .ready none))).heap.size = d + 2 := by simp [hd]
  rw [← hd] at hI hIx hKb hbody hdone hstop
  generalize (w.alloc (.deferred (some []))).alloc (.loop (R .ready none)) = V at hent e1 e2 e3 e4 e5
  clear hb0 h0 hd
  refine ⟨d + 1, [{ target := .collected d, args := #[] }], V, { target := .fn (.func gf) lb, args := #[.func (.yield (d + 1)) #[] #[]] }, V, gf, #[.func (.yield (d + 1)) #[] #[]] ++ lb, V, hent, by simp only [resolve, hg]; simp [go_sem], fun f' _ => trivial, by simp [invoke, go_sem, eg], fun h => (by cases h), ?_⟩
  refine (hseq (n - 1) (d + 1) (fun pre W => I pre W ∧ W.heap[d + 1]? = some (.loop (R .ready none)) ∧ W.heap[d]? = some (.deferred (some [])))
    (fun pre W => ∃ c, Ix c pre W ∧ W.heap[d + 1]? = some (.loop (R .done (some c))) ∧ W.heap[d]? = some (.deferred (some []))) V e4 ?abide ?abidex ?round ⟨e3, e1, e2⟩).mono ?behind
  case abide =>
    rintro s A C row ⟨h1, h2, h3⟩ hg' hr
    exact ⟨own_mono hI (by omega) s A C row h1 hg' hr, block_kept hg' hr (by omega) h2, block_kept hg' hr (by omega) h3⟩
  case abidex =>
    rintro s A C row ⟨c, h1, h2, h3⟩ hg' hr
    exact ⟨c, own_mono (hIx c) (by omega) s A C row h1 hg' hr, block_kept hg' hr (by omega) h2, block_kept hg' hr (by omega) h3⟩
  case round =>
    rintro m pre x W ⟨h1, h2, h3⟩ hlen
    have hy := run_yield (P := P) (args := encs x) h2 (by rw [hR]; exact hps x)
    rw [hR] at hy
    refine ⟨fn, _, assign, body, hy, roundIn_of_wpIn hfn (hassign m _ x W _ ?_)⟩
    clear hy
    refine ⟨_, run_beginRound h2 (by rw [hR]), ?_⟩
    have hlt : d + 1 < W.heap.size := (Array.getElem?_eq_some_iff.1 h2).1
    have p2 : (W.putObj (d + 1) (.loop { R .ready none with state := .busy })).heap[d + 1]? = some (.loop { R .ready none with state := .busy }) := World.putObj_heap_same hlt
    have p3 : (W.putObj (d + 1) (.loop { R .ready none with state := .busy })).heap[d]? = some (.deferred (some [])) := (World.putObj_heap_other (by omega)).trans h3
    have pk : Kp W (W.putObj (d + 1) (.loop { R .ready none with state := .busy })) := hKb _ _ _ _ (by omega) h2 rfl rfl
    have pf : KeepsFrom V.heap.size W (W.putObj (d + 1) (.loop { R .ready none with state := .busy })) := keeps_put W _ (by omega)
    have pI := hI.putObj (.loop { R .ready none with state := .busy }) h1 (by omega) h2 rfl
    generalize W.putObj (d + 1) (.loop { R .ready none with state := .busy }) = Wb at p2 p3 pk pf pI
    refine wpIn_mono (hbody m _ pre x Wb pI hlen) ?_
    have last : ∀ (jump : Option Code) (W3 : World), KeepsFrom d Wb W3 →
        (Instr.endRound (d + 1) jump).run P W3 = .ok (.bool jump.isNone) (W3.putObj (d + 1) (.loop (R (if jump.isNone then .ready else .done) jump))) ∧ (∃ r, W3.heap[d + 1]? = some (.loop r)) ∧
        (W3.putObj (d + 1) (.loop (R (if jump.isNone then .ready else .done) jump))).heap[d + 1]? = some (.loop (R (if jump.isNone then .ready else .done) jump)) ∧
        (W3.putObj (d + 1) (.loop (R (if jump.isNone then .ready else .done) jump))).heap[d]? = some (.deferred (some [])) ∧
        KeepsFrom V.heap.size W (W3.putObj (d + 1) (.loop (R (if jump.isNone then .ready else .done) jump))) := fun jump W3 hk => by
      have q2 := hk.same _ _ (Nat.le_succ d) p2 rfl
      have q3 := hk.same _ _ (Nat.le_refl d) p3 rfl
      have q4 := run_endRound (P := P) jump q2
      refine ⟨?_, ⟨_, q2⟩, World.putObj_heap_same (Array.getElem?_eq_some_iff.1 q2).1, (World.putObj_heap_other (by omega)).trans q3, (pf.trans (keeps_mono hk (by omega))).trans (keeps_put W3 _ (by omega))⟩
      rw [hR] at q4 ⊢
      exact q4
    rintro e a3 W3 hp
    cases e with
    | normal =>
      obtain ⟨k1, k2, k3⟩ := hp
      obtain ⟨r1, ⟨_, r2⟩, r3, r4, r5⟩ := last none W3 k1
      exact ⟨_, _, r1, r5, .inl ⟨rfl, ⟨hI.putObj _ k3 (by omega) r2 rfl, r3, r4⟩, hKt (hKt pk k2) (hKb _ _ _ _ (by omega) r2 rfl rfl)⟩⟩
    | ret =>
      obtain ⟨k1, k3⟩ := hp
      obtain ⟨r1, ⟨_, r2⟩, r3, r4, r5⟩ := last (some .ret) W3 k1
      exact ⟨_, _, r1, r5, .inr ⟨rfl, .ret, (hIx _).putObj _ k3 (by omega) r2 rfl, r3, r4⟩⟩
    | exit id =>
      obtain ⟨k1, k3⟩ := hp
      obtain ⟨r1, ⟨_, r2⟩, r3, r4, r5⟩ := last (some (.exit id)) W3 k1
      exact ⟨_, _, r1, r5, .inr ⟨rfl, .exit id, (hIx _).putObj _ k3 (by omega) r2 rfl, r3, r4⟩⟩
    | goto t =>
      obtain ⟨k1, k3⟩ := hp
      obtain ⟨r1, ⟨_, r2⟩, r3, r4, r5⟩ := last (some (.goto t)) W3 k1
      exact ⟨_, _, r1, r5, .inr ⟨rfl, .goto t, (hIx _).putObj _ k3 (by omega) r2 rfl, r3, r4⟩⟩
    | panic ch => exact hp.elim
    | outgrown => exact hp.elim
  case behind =>
    rintro e W2 ⟨⟨v, rfl⟩, (⟨xs, hS, h1, h2, h3⟩ | ⟨pre, hSp, c, h1, h2, h3⟩)⟩
    · refine ⟨none, _, ?_, hdone d xs (W2.putObj (d + 1) (.loop (R .exhausted none))) (Nat.le_refl _) hS (hI.putObj _ h1 (by omega) h2 rfl) ((World.putObj_heap_other (by omega)).trans h3)⟩
      have := run_endLoop (P := P) h2 (by rw [hR]; simp)
      rw [hR] at this ⊢
      exact this
    · refine ⟨some c, _, ?_, hstop d c pre (W2.putObj (d + 1) (.loop (R .exhausted (some c)))) (Nat.le_refl _) hSp ((hIx c).putObj _ h1 (by omega) h2 rfl) ((World.putObj_heap_other (by omega)).trans h3)⟩
      have := run_endLoop (P := P) h2 (by rw [hR]; simp)
      rw [hR] at this ⊢
      exact this
section
variable {F : Fence} {n l : Nat} {P : Program} {md : Region.Mode} {ops : Array Oper} {Q : Exit → Act → World → Prop}

def noDefer (ops : Array Oper) : Bool := ops.toList.all fun o => match o.op with | .defer _ => false | _ => true

theorem noDefer_spec (h : noDefer ops = true) {j : Nat} {o : Oper} (ho : ops[j]? = some o) (c : Call) : o.op ≠ .defer c := fun e => by
  have := List.all_eq_true.1 h o (by simpa using Array.mem_of_getElem? ho)
  rw [e] at this
  cases this

theorem upon_round {o : Oper} {a : Act} {K : Act → World → Prop} (r : Result Next) (h : o.uponIn F n P a K Q r) : o.uponIn (F.inRound l) n P a K Q r := by
  cases r with
  | ok x w => cases x <;> exact h
  | halt x w => cases x <;> exact h

theorem op_round (hro : F.round = none) (hd : noDefer ops = true) {i : Nat} {a : Act} {w : World} {K : Act → World → Prop} (h : wpOpIn F n P ops Q i K a w) : wpOpIn (F.inRound l) n P ops Q i K a w := by
  unfold wpOpIn at *
  split
  · rename_i ho
    simpa [ho] using h
  · rename_i o ho
    simp only [ho] at h
    split
    · rename_i hw
      simp only [hw, if_true] at h
      unfold Oper.wpIn at *
      refine ⟨h.1, upon_round _ ?_⟩
      have h2 := h.2
      rw [hro, Oper.semAt_none] at h2
      rw [Oper.semAt_eq _ _ _ (noDefer_spec hd ho)]
      exact h2
    · rename_i hw
      simp only [hw] at h
      exact h

theorem any_round (hro : F.round = none) (hd : noDefer ops = true) : ∀ (fuel : Nat) (listed : Array Bool) (a : Act) (w : World), wpAnyIn F n P md ops Q fuel listed a w → wpAnyIn (F.inRound l) n P md ops Q fuel listed a w
  | 0, _, _, _, h => h
  | fuel + 1, _, _, _, h => ⟨h.1, fun i hi => wpOpIn_mono (fun a' w' h' => any_round hro hd fuel _ a' w' h') (op_round hro hd (h.2 i hi))⟩

/-- A statement within a round whose order Go leaves open is walked as everywhere. -/
theorem region_round {id : Nat} {a : Act} {w : World} (hm : P.follows .mixedOrders = true) (hro : F.round = none) (hd : noDefer ops = true) (h : wpAnyIn F n P .any ops Q ops.size (Array.replicate ops.size false) a w.drew) :
    (Code.region id ops true).wpIn (F.inRound l) n P Q a w := wpIn_region_any hm (any_round hro hd _ _ _ _ h)
end
end Go.Proofs.Ythkdgnohkdedpaa.Rf
