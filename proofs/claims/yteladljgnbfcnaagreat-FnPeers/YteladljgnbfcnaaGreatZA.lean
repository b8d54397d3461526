/- Small laws for the walks of chapter 1: one byte appended to a row of bytes that the call made, a row of bytes read as a text; conditions: the row is the call's own and shorter than 2^40.
Laws for rows of whatever element type that a call made: one element appended, one read; conditions: the row is the call's own, within 2^47 bytes.
A law for a statement whose order Go leaves open: operations that yield the same in every world are taken first, the others come in the one order that is left; no condition on the program.
A law for a statement whose order Go leaves open, cut in two: none of the later operations may come before the first n are done; of these each yields the same in every world of a class and leaves a world of the class; from there on the rest is walked by itself. No condition on the program.
A law for a statement whose order Go leaves open, cut in two behind some operations that were taken first: none of the later operations may come before the others of the first n are done. No condition on the program.
A law for a statement whose order Go leaves open, where an operation that reads may come before or behind one that makes memory: what it reads is the same in every world of a class, and the class is kept till an operation comes that waits for it. No condition on the program.
A call of a function of the program that is the only operation that may come, guarded or not, of however many arguments: by its contract; no condition.
A law for a statement whose order Go leaves open: operations that yield the same in every world of a class are taken first, so many at once, though others may make memory meanwhile; the class is kept till an operation comes that waits, over however many others, for all of them. No condition on the program.
A law for a statement whose order Go leaves open: as before, with nil checks, look-ups in maps and len among what may be taken first; and one operation that is the only one that may come, by any law on it. No condition on the program.
A law for a statement whose order Go leaves open: as before, with len among what may be taken first; and a guarded call of a function of the program that is the only operation that may come. No condition on the program.
Two operations of a drawn region may come, in either order; no condition.
A block of a few cells (a struct in a variable): what its cells hold, what it is behind a store; no condition. -/
import Derived.WalkKit
import Derived.Laws.IdiomStrings
import Derived.Laws.BytesArg
import Derived.Deep.QuietTactic
import Derived.BigQuiet
import Derived.Deep.RegionLaw
import Derived.WideShapes
import Derived.StillTail
import Derived.Deep.Quiet
import Derived.OrdersHeld
import Derived.OneCell
namespace Go.Proofs.YteladljgnbfcnaaGreat.P1
open Go.RowKit

theorem byte_of (x : Nat) (h : x < 256) : ((UInt8.ofNat x).toNat : Int) = x := by
  simp; omega

theorem hide {p : Prop} (h : p) : Hid p := h

theorem run_enter {P : Program} {f : FuncId} {fn : Func} (hf : P.funcs[f]? = some fn) (hname : (fn.name == "runtime.NumGoroutine") = false) (hb : fn.body.isNone = false) (args : Array Value) (w : World) :
    (callFunc f args).run P w = .ok (.enter f args) w := by
  have h1 : ¬ fn.name = "runtime.NumGoroutine" := by simpa using hname
  have h2 : ¬ fn.body = none := by intro h; rw [h] at hb; simp at hb
  simp [callFunc, hf, h1]
  intro h
  exact absurd h h2

/-- A world that is as W was below B. -/
structure Near (B : Nat) (W : World) where
  w : World
  h : Below B W w

theorem Near.some (B : Nat) (W : World) : Nonempty (Near B W) := ⟨⟨W, Below.refl B W⟩⟩

/-- A region that draws its order, whose operations only read and whose callees make at most memory of their own, walked once. -/
theorem wp_region_near {P : Program} {id : Nat} {Q : Exit → Act → World → Prop} {a : Act} {w : World} {l : List Oper} (B : Nat) (W : World) (hw : Below B W w) (hm : P.follows .mixedOrders = true) (hB : Region.lexB .any l.toArray = true)
    (h : wpQuiet P l.toArray (fun w' => ∃ p : Near B W, w' = p.w) (fun a' => ∀ w', (∃ p : Near B W, w' = p.w) → Q .normal a' w') l a) : (Code.region id l.toArray true).wp P Q a w :=
  wp_region_quiet (C := fun w' => ∃ p : Near B W, w' = p.w) hm hB ⟨⟨_, hw.drew⟩, rfl⟩ (by simpa using h)

theorem calls_near {P : Program} {f : FuncId} {args : Array Value} {B : Nat} {W : World} {p : Near B W} {v : Value} (hB : B ≤ W.heap.size)
    (h : Calls P f args p.w fun e w' => e = .returned v ∧ Below p.w.heap.size p.w w') : Calls P f args p.w fun e w'' => e = .returned v ∧ ∃ q : Near B W, w'' = q.w :=
  h.mono fun _ w'' ⟨he, hb⟩ => ⟨he, ⟨w'', p.h.trans (hb.mono (by have := p.h.size; omega))⟩, rfl⟩
end Go.Proofs.YteladljgnbfcnaaGreat.P1
namespace Go.Proofs.YteladljgnbfcnaaGreat.P1
open Go.RowKit

/-- One element more, of whatever type, in its block just made. -/
theorem wpList_append_one {P : Program} {W w0 : World} {B : Nat} (hbel : Below B W w0) (hB : B ≤ W.heap.size) {cs : Array Value} {ops : Array Oper} {rest : List Oper} {o : Oper} {a : Act} {Q : Exit → Act → World → Prop} (hgd : o.guard = none) (s x : Operand) (t : TypeId)
    (ho : o.op = .call { callee := .builtin .append, args := #[s, x], argTypes := #[t, t] })
    (e : TypeId) (i : TypeInfo) (z : Value) (size bytes : Nat) (ht : P.underlying t = some (.slice e)) (hi : P.info? e = some i) (hz : i.zero = some z)
    (hsize : i.size = size) (hby : i.bytes = bytes) (hzs : z.cells.size = size) (hsz : 0 < size) (hcs : cs.toList.length = size) (h1 : ∀ u ∈ cs.toList, u.oneCell' = true)
    (v : Value) (n : Nat) (xs : List Value) (hs : a.eval s = v) (hown : w0.ownsRow B e size v n xs)
    (c : Nat) (hx : a.eval x = .slice (some ⟨w0.heap.size, 0, none⟩) 1 c) (hb : n < 1099511627776) (hbytes : (n + 1) * bytes ≤ 140737488355328)
    (h : ∀ v' w', w'.ownsRow B e size v' (n + 1) (xs ++ cs.toList) → Below B W w' → wpList P ops Q rest (a.put o.dst v') w') :
    wpList P ops Q (o :: rest) a (w0.alloc (.cells cs e)) := by
  have hsz := hbel.size
  refine wpList_append_own _ hgd s x t ho B e i z size bytes ht hi hz hsize hby hzs (by assumption) v n xs hs (hown.alloc _) ⟨w0.heap.size, 0, none⟩ 1 c cs.toList hx (by omega) ?_ h1 ?_ hbytes ?_ ?_
  · intro j u hj
    simp only [Go.WideShapes.add_plain]
    have hh : (w0.alloc (.cells cs e)).heap[w0.heap.size]? = some (.cells cs e) := by
      show (w0.heap.push _)[w0.heap.size]? = _
      simp
    simp only [World.cell?, hh]
    simpa using hj
  · unfold maxLen; omega
  · simp; omega
  · intro v' w' h1 h2 _
    exact h v' w' h1 ((hbel.alloc (by omega) _).grown h2 (by simp; omega) (fun k hk => (hown.lt k hk).1))

/-- The cells of a list of ints. -/
def cellsI (l : List Int) : List Value := l.map fun n => Value.int .i64 n

theorem cellsI_length (l : List Int) : (cellsI l).length = l.length := by simp [cellsI]

/-- One int more. -/
theorem own_snocI {w : World} {B : Nat} {e : TypeId} {v : Value} {l : List Int} {z : Int} (h : w.ownsRow B e 1 v (l.length + 1) (cellsI l ++ #[Value.int .i64 z].toList)) :
    w.ownsRow B e 1 v (l ++ [z]).length (cellsI (l ++ [z])) := by
  have e1 : cellsI (l ++ [z]) = cellsI l ++ #[Value.int .i64 z].toList := by simp [cellsI]
  have e2 : (l ++ [z]).length = l.length + 1 := by simp
  rw [e1, e2]; exact h

/-- An owned row that holds something: where it lies, and its cells. -/
theorem own_at {w : World} {B : Nat} {e : TypeId} {size : Nat} {v : Value} {n : Nat} {xs : List Value} (h : w.ownsRow B e size v n xs) (hn : 0 < n) :
    ∃ g cap, v = .slice (some ⟨g, 0, none⟩) n cap ∧ B ≤ g ∧ g < w.heap.size ∧ n ≤ cap ∧ (∀ j, j < n * size → w.cell? ⟨g, j, none⟩ = xs[j]?) ∧ ∀ j, w.frozen? ⟨g, j, none⟩ = false := by
  have h0 := h
  rcases h.2 with ⟨-, h0⟩ | ⟨g, cap, cur, rfl, hb, hg, hc, -, -, -⟩
  · omega
  · exact ⟨g, cap, rfl, hb, (Array.getElem?_eq_some_iff.1 hg).1, hc, fun j hj => h0.cellAt j hj, fun j => h0.frozenAt j⟩

theorem own_mono {w : World} {B B' : Nat} {e : TypeId} {size : Nat} {v : Value} {n : Nat} {xs : List Value} (h : w.ownsRow B e size v n xs) (hB : B' ≤ B) : w.ownsRow B' e size v n xs := by
  refine ⟨h.1, ?_⟩
  rcases h.2 with h1 | ⟨g, cap, cur, h1, h2, h3⟩
  · exact .inl h1
  · exact .inr ⟨g, cap, cur, h1, Nat.le_trans hB h2, h3⟩
end Go.Proofs.YteladljgnbfcnaaGreat.P1
namespace Go.Proofs.YteladljgnbfcnaaGreat.P1
open Go.RowKit

/-- Operations that hand back a value, and never enter a function. -/
def valueOp : Op → Bool
  | .move _ => true
  | .assign _ => true
  | .pick _ _ _ => true
  | .binOp _ _ _ _ _ => true
  | .unOp _ _ _ => true
  | .convert _ _ _ => true
  | .slice _ _ _ _ _ => true
  | .index _ _ _ => true
  | .extract _ _ => true
  | .field _ _ _ => true
  | .fieldAddr _ _ _ => true
  | .indexAddr _ _ _ => true
  | _ => false

theorem bind_value {P : Program} {w w' : World} {n : Next} (s : Sem Value) (hr : (do pure (Next.value (← s)) : Sem Next).run P w = .ok n w') : ∃ u, n = .value u := by
  simp only [Sem.run_bind] at hr
  cases h : s.run P w with
  | ok x w1 => rw [h] at hr; simp [Result.andThen, Sem.run_pure] at hr; exact ⟨x, hr.1.symm⟩
  | halt x w1 => rw [h] at hr; simp [Result.andThen] at hr

theorem value_of_run {P : Program} {w w' : World} {n : Next} {ρ : Operand → Value} {o : Oper} (h : valueOp o.op = true) (hr : (execOp ρ o).run P w = .ok n w') : ∃ u, n = .value u := by
  obtain ⟨dst, op, ty, pos, after, guard⟩ := o
  cases op <;> simp only [valueOp, Bool.false_eq_true] at h
  case move x => simp only [execOp, Sem.run_pure, Result.ok.injEq] at hr; exact ⟨_, hr.1.symm⟩
  case assign x => simp only [execOp, Sem.run_pure, Result.ok.injEq] at hr; exact ⟨_, hr.1.symm⟩
  case pick c x y =>
    simp only [execOp, Sem.run_bind] at hr
    cases h : (asBool (ρ c)).run P w with
    | ok b w1 => rw [h] at hr; simp [Result.andThen, Sem.run_pure] at hr; exact ⟨_, hr.1.symm⟩
    | halt x w1 => rw [h] at hr; simp [Result.andThen] at hr
  all_goals exact bind_value _ hr

/-- The region, from a world of which only C is known. -/
theorem wp_region_open {P : Program} {ops : Array Oper} {Q : Exit → Act → World → Prop} {id : Nat} {a : Act} {w : World} (C : World → Prop) (hC : C w.drew) (hm : P.follows .mixedOrders = true)
    (h : ∀ wd, C wd → wpAny P .any ops Q ops.size (Array.replicate ops.size false) a wd) : (Code.region id ops true).wp P Q a w :=
  wp_region_any hm (h _ hC)

theorem yields_of_quiet {P : Program} {ops : Array Oper} {o : Oper} {a : Act} {v : Value} (hw : Region.wanted o (yielded ops a.tmps) = true) (hv : valueOp o.op = true)
    (h : ∀ w, (∃ p : World, w = p) → o.quietAt P a (fun w' => ∃ p : World, w' = p) w v) : Yields P ops o v a := by
  refine .inl ⟨hw, fun w => ?_⟩
  have h1 := h w ⟨w, rfl⟩
  unfold Oper.quietAt at h1
  cases hr : (execOp a.eval o).run P w with
  | ok n w' =>
    rw [hr] at h1
    obtain ⟨u, rfl⟩ := value_of_run hv hr
    simp only [Oper.quietUpon] at h1
    obtain ⟨rfl, rfl⟩ := h1
    rfl
  | halt x w' => rw [hr] at h1; simp only [Oper.quietUpon] at h1

/-- So many operations from k on can be taken first, one after the other. -/
def segB (md : Region.Mode) (ops : Array Oper) : Nat → Nat → Array Bool → Bool
  | 0, _, _ => true
  | m + 1, k, listed => (match ops[k]? with | some o => valueOp o.op && o.dst.isSome | none => false) && (Region.ready md ops listed).contains k && Region.free md ops listed k && segB md ops m (k + 1) (listed.setIfInBounds k true)

/-- What is listed then. -/
def segL : Nat → Nat → Array Bool → Array Bool
  | 0, _, listed => listed
  | m + 1, k, listed => segL m (k + 1) (listed.setIfInBounds k true)

theorem wpAny_seg {P : Program} {ops : Array Oper} {md : Region.Mode} {Q : Exit → Act → World → Prop} {w : World} (hsel : Region.noSelect ops = true) (hQ : ∀ c a t v w, Q (.panic c) (a.put (some t) v) w → Q (.panic c) a w) :
    ∀ (l : List Oper) (k : Nat) (listed : Array Bool) (a : Act) (fuel : Nat), (∀ j, j < l.length → l[j]? = ops[k + j]?) → segB md ops l.length k listed = true →
      wpQuiet P ops (fun w' => ∃ p : World, w' = p) (fun a' => wpAny P md ops Q fuel (segL l.length k listed) a' w) l a → wpAny P md ops Q (l.length + fuel) listed a w
  | [], _, _, _, fuel, _, _, h => by simpa [wpQuiet, segL] using h
  | o :: l, k, listed, a, fuel, hl, hB, h => by
    have h0 : ops[k]? = some o := by simpa using (hl 0 (by simp)).symm
    simp only [List.length_cons, segB, h0, Bool.and_eq_true] at hB
    obtain ⟨⟨⟨⟨hv, hd⟩, hr⟩, hf⟩, hB'⟩ := hB
    obtain ⟨t, ht⟩ := Option.isSome_iff_exists.1 hd
    have hQ' : ∀ (v : Value) c a w, Q (.panic c) (a.put o.dst v) w → Q (.panic c) a w := fun v c a w h => hQ c a t v w (by rw [← ht]; exact h)
    have hl' : ∀ j, j < l.length → l[j]? = ops[k + 1 + j]? := fun j hj => by
      have := hl (j + 1) (by simp; omega)
      simpa [Nat.add_assoc, Nat.add_comm 1 j] using this
    have e1 : (o :: l).length + fuel = (l.length + fuel) + 1 := by simp; omega
    rw [e1]
    simp only [wpQuiet] at h
    by_cases hw : Region.wanted o (yielded ops a.tmps) = true
    · rw [if_pos hw] at h
      obtain ⟨v, h1, h2⟩ := h
      exact wpAny_take h0 hsel hf hr (hQ' _) (yields_of_quiet hw hv h1) (wpAny_seg hsel hQ l (k + 1) _ _ fuel hl' hB' h2)
    · rw [if_neg hw] at h
      exact wpAny_take h0 hsel hf hr (hQ' _) (.inr ⟨by simpa using hw, rfl⟩) (wpAny_seg hsel hQ l (k + 1) _ _ fuel hl' hB' h)

theorem wpAny_seg_lit {P : Program} {L : List Oper} {md : Region.Mode} {Q : Exit → Act → World → Prop} {w : World} {listed : Array Bool} {a : Act} {F : Nat} (k m fuel : Nat) (hfu : F = m + fuel) (hkm : k + m ≤ L.length)
    (hsel : Region.noSelect L.toArray = true) (hB : segB md L.toArray m k listed = true) (hQ : ∀ c a t v w, Q (.panic c) (a.put (some t) v) w → Q (.panic c) a w)
    (h : wpQuiet P L.toArray (fun w' => ∃ p : World, w' = p) (fun a' => wpAny P md L.toArray Q fuel (segL m k listed) a' w) ((L.drop k).take m) a) : wpAny P md L.toArray Q F listed a w := by
  have hl : ((L.drop k).take m).length = m := by simp; omega
  have := wpAny_seg (P := P) (Q := Q) (w := w) hsel hQ ((L.drop k).take m) k listed a fuel (fun j hj => by
    rw [hl] at hj
    simp [List.getElem?_drop, hj]) (by rw [hl]; exact hB) (by rw [hl]; exact h)
  rw [hl] at this
  rw [hfu]
  exact this

/-- The rest comes in the order of the text. -/
theorem wpAny_rest {P : Program} {L : List Oper} {md : Region.Mode} {Q : Exit → Act → World → Prop} {w : World} {listed : Array Bool} {a : Act} {F : Nat} (k : Nat) (hfu : F = L.length - k)
    (hB : Region.seqB md L.toArray (L.length - k) k listed = true) (h : wpList P L.toArray Q (L.drop k) a w) : wpAny P md L.toArray Q F listed a w := by
  have hl : (L.drop k).length = L.length - k := by simp
  have := wpAny_of_seq (P := P) (md := md) (Q' := Q) (L.drop k) k listed a w (fun j => by simp [List.getElem?_drop]) (by rw [hl]; exact hB) h
  rw [hl] at this
  rw [hfu]
  exact this

end Go.Proofs.YteladljgnbfcnaaGreat.P1
namespace Go.Proofs.YteladljgnbfcnaaGreat.P1
open Go.RowKit

/-- What an operation waits for. -/
def waits (md : Region.Mode) (ops : Array Oper) (t : Nat) : List Nat :=
  match ops[t]? with
  | some o => (o.after.toList.filter (Region.binds md)).map (·.on)
  | none => []

/-- .. and what these wait for, and so on. -/
def reaches (md : Region.Mode) (ops : Array Oper) : Nat → List Nat → List Nat
  | 0, s => s
  | f + 1, s => reaches md ops f ((s ++ s.flatMap (waits md ops)).eraseDups)

section
variable {P : Program} {md : Region.Mode} {ops : Array Oper} {C : World → Prop}

theorem of_waits {t j : Nat} (h : j ∈ waits md ops t) : ∃ o, ops[t]? = some o ∧ ∃ e, e ∈ o.after ∧ Region.binds md e = true ∧ e.on = j := by
  unfold waits at h
  split at h
  · rename_i o ho
    obtain ⟨e, he, rfl⟩ := List.mem_map.1 h
    obtain ⟨h1, h2⟩ := List.mem_filter.1 he
    exact ⟨o, ho, e, by simpa using h1, h2, rfl⟩
  · cases h

/-- What is done is done with all that it waited for. -/
def Shut (md : Region.Mode) (ops : Array Oper) (l : Array Bool) : Prop := ∀ t, l.getD t false = true → ∀ j ∈ waits md ops t, l.getD j false = true

theorem reaches_done {l : Array Bool} (hs : Shut md ops l) : ∀ (f : Nat) (s : List Nat), (∀ j ∈ s, l.getD j false = true) → ∀ j ∈ reaches md ops f s, l.getD j false = true
  | 0, _, h, j, hj => h j hj
  | f + 1, s, h, j, hj => by
    refine reaches_done hs f _ (fun i hi => ?_) j hj
    rw [List.mem_eraseDups, List.mem_append, List.mem_flatMap] at hi
    rcases hi with hi | ⟨t, ht, hi⟩
    · exact h i hi
    · exact hs t (h t ht) i hi

theorem mark_same {l : Array Bool} {j : Nat} (h : j < l.size) : l.getD j true = l.getD j false := by simp [h]

theorem mark_set {l : Array Bool} {i j : Nat} (h : l.getD j false = true) : (l.setIfInBounds i true).getD j false = true := by
  simp only [Array.getD_eq_getD_getElem?, Array.getElem?_setIfInBounds] at h ⊢
  split
  · split <;> simp_all
  · exact h

theorem mark_self {l : Array Bool} {i : Nat} (h : i < l.size) : (l.setIfInBounds i true).getD i false = true := by
  simp [h]

theorem mark_other {l : Array Bool} {i j : Nat} (h : i ≠ j) (b : Bool) : (l.setIfInBounds i true).getD j b = l.getD j b := by
  simp only [Array.getD_eq_getD_getElem?, Array.getElem?_setIfInBounds, if_neg h]

/-- The first n done, the others not. -/
def headL (n m : Nat) : Array Bool := Array.replicate n true ++ Array.replicate (m - n) false

/-- The marks of the whole and of its head. -/
structure CutInv (md : Region.Mode) (ops : Array Oper) (n : Nat) (lh lf : Array Bool) : Prop where
  sf : lf.size = ops.size
  sh : lh.size = n
  same : ∀ j, j < n → lh.getD j false = lf.getD j false
  shut : Shut md ops lf
  tail : ∀ t, n ≤ t → lf.getD t false = false

theorem CutInv.all {n : Nat} {lh lf : Array Bool} (inv : CutInv md ops n lh lf) (hn : n ≤ ops.size) (h : ∀ j, j < n → lf.getD j false = true) : lf = headL n ops.size := by
  have hs := inv.sf
  apply Array.ext
  · simp [headL, hs]; omega
  · intro j h1 h2
    have hj : lf.getD j false = lf[j] := by simp [h1]
    rw [← hj]
    by_cases hjn : j < n
    · rw [h j hjn]; simp [headL, hjn]
    · rw [inv.tail j (by omega)]
      simp only [headL]
      rw [Array.getElem_append_right (by simp; omega)]
      simp

end
end Go.Proofs.YteladljgnbfcnaaGreat.P1
namespace Go.Proofs.YteladljgnbfcnaaGreat.P1
open Go.RowKit

section
variable {P : Program} {md : Region.Mode} {ops : Array Oper} {C : World → Prop}

/-- The marks of the whole and of its head. -/
structure CutInv2 (md : Region.Mode) (ops : Array Oper) (m n : Nat) (lh lf : Array Bool) : Prop where
  sf : lf.size = ops.size
  sh : lh.size = n
  same : ∀ j, j < n → lh.getD j false = lf.getD j false
  shut : Shut md ops lf
  tail : ∀ t, n ≤ t → lf.getD t false = false
  first : ∀ t, t < m → lf.getD t false = true

theorem CutInv2.all {m n : Nat} {lh lf : Array Bool} (inv : CutInv2 md ops m n lh lf) (hn : n ≤ ops.size) (h : ∀ j, j < n → lf.getD j false = true) : lf = headL n ops.size := by
  have hs := inv.sf
  apply Array.ext
  · simp [headL, hs]; omega
  · intro j h1 h2
    have hj : lf.getD j false = lf[j] := by simp [h1]
    rw [← hj]
    by_cases hjn : j < n
    · rw [h j hjn]; simp [headL, hjn]
    · rw [inv.tail j (by omega)]
      simp only [headL]
      rw [Array.getElem_append_right (by simp; omega)]
      simp

end
end Go.Proofs.YteladljgnbfcnaaGreat.P1
namespace Go.Proofs.YteladljgnbfcnaaGreat.P1
open Go.RowKit

section
variable {P : Program} {md : Region.Mode} {ops : Array Oper} {C : World → Prop}

/-- Whatever order is picked from here on, and D holds behind every operation, as long as operation c has not come. -/
def wpAnyK (P : Program) (md : Region.Mode) (ops : Array Oper) (Q : Exit → Act → World → Prop) (c : Nat) (D : World → Prop) : Nat → Array Bool → Act → World → Prop
  | 0, listed, a, w => Region.ready md ops listed = [] ∧ Q .normal a w
  | fuel + 1, listed, a, w =>
    (Region.ready md ops listed = [] → Q .normal a w) ∧
    ∀ i ∈ Region.ready md ops listed, wpOp P ops Q i (fun a' w' => ((listed.setIfInBounds i true).getD c false = false → D w') ∧ wpAnyK P md ops Q c D fuel (listed.setIfInBounds i true) a' w') a w

theorem wpAny_of_K {Q : Exit → Act → World → Prop} {c : Nat} {D : World → Prop} : ∀ (fuel : Nat) (listed : Array Bool) (a : Act) (w : World), wpAnyK P md ops Q c D fuel listed a w → wpAny P md ops Q fuel listed a w
  | 0, _, _, _, h => h
  | fuel + 1, _, _, _, h => ⟨h.1, fun i hi => wpOp_mono (fun a' w' h' => wpAny_of_K fuel _ a' w' h'.2) (h.2 i hi)⟩

/-- Behind operation c nothing more is asked. -/
theorem wpAnyK_of_any {Q : Exit → Act → World → Prop} {c : Nat} {D : World → Prop} : ∀ (fuel : Nat) (listed : Array Bool) (a : Act) (w : World), listed.getD c false = true → wpAny P md ops Q fuel listed a w → wpAnyK P md ops Q c D fuel listed a w
  | 0, _, _, _, _, h => h
  | fuel + 1, listed, _, _, hc, h => ⟨h.1, fun i hi => wpOp_mono (fun a' w' h' => ⟨fun h0 => (by rw [mark_set hc] at h0; cases h0), wpAnyK_of_any fuel _ a' w' (mark_set hc) h'⟩) (h.2 i hi)⟩

/-- An operation that may come now may be taken first, if it yields its value in every world of D, operation c waits for it, and the others wait for it or are apart from it. -/
theorem wpAnyK_first {Q : Exit → Act → World → Prop} {c : Nat} {D : World → Prop} {i : Nat} {oi : Oper} {v : Value} (hi : ops[i]? = some oi) (hsel : ∀ (j : Nat) (o : Oper) cs b, ops[j]? = some o → o.op ≠ .select cs b)
    (hQ : ∀ c a w, Q (.panic c) (a.put oi.dst v) w → Q (.panic c) a w) (hci : i ∈ waits md ops c) :
    ∀ (fuel : Nat) (listed : Array Bool) (a : Act) (w : World),
      (∀ j oj, ops[j]? = some oj → j ≠ i → listed.getD j true = false → (∀ e ∈ oj.after, Region.binds md e = true → e.on ≠ i) → oi.apart ops oj = true) →
      i ∈ Region.ready md ops listed → YieldsIf P ops D oi v a → D w → listed.getD c false = false → c ≠ i →
      wpAnyK P md ops Q c D fuel (listed.setIfInBounds i true) (a.put oi.dst v) w → wpAnyK P md ops Q c D (fuel + 1) listed a w := by
  have hcw : ∀ listed : Array Bool, i ∈ Region.ready md ops listed → ∀ j ∈ Region.ready md ops listed, j ≠ c := by
    intro listed hr j hj e
    subst e
    obtain ⟨o, ho, e, he, hb, hon⟩ := of_waits hci
    obtain ⟨_, o', ho', hall⟩ := mem_ready.1 hj
    obtain rfl : o' = o := Option.some.inj (ho'.symm.trans ho)
    have h1 := hall e he hb
    have h0 := (mem_ready.1 hr).1
    rw [hon] at h1
    rcases Nat.lt_or_ge i listed.size with h' | h'
    · rw [mark_same h', h1] at h0; cases h0
    · simp [Array.getElem?_eq_none h'] at h1
  intro fuel
  induction fuel with
  | zero =>
    intro listed a w _ hr hy hS hc hne H
    refine ⟨fun h => (by rw [h] at hr; cases hr), fun j hj => ?_⟩
    by_cases hji : j = i
    · subst hji; exact hy.wpOp hi hS ⟨fun _ => hS, H⟩
    · have := ready_mono hj hji
      rw [H.1] at this
      cases this
  | succ fuel ih =>
    intro listed a w hfree hr hy hS hc hne H
    refine ⟨fun h => (by rw [h] at hr; cases hr), fun j hj => ?_⟩
    by_cases hji : j = i
    · subst hji; exact hy.wpOp hi hS ⟨fun _ => hS, H⟩
    · have h1 := H.2 j (ready_mono hj hji)
      obtain ⟨hjun, oj, hoj, hall⟩ := mem_ready.1 hj
      have hnot : ∀ e ∈ oj.after, Region.binds md e = true → e.on ≠ i := fun e he hb heq => by
        have h1 := hall e he hb
        have h0 := (mem_ready.1 hr).1
        rw [heq] at h1
        rcases Nat.lt_or_ge i listed.size with h' | h'
        · simp [h'] at h0 h1; rw [h0] at h1; cases h1
        · simp [Array.getElem?_eq_none h'] at h1
      have h2 := wpOp_putIf hoj (hfree j oj hoj hji hjun hnot) (fun cs b => hsel i oi cs b hi) (fun cs b => hsel j oj cs b hoj) hQ hy h1
      have hfree' : ∀ k ok, ops[k]? = some ok → k ≠ i → (listed.setIfInBounds j true).getD k true = false →
          (∀ e ∈ ok.after, Region.binds md e = true → e.on ≠ i) → oi.apart ops ok = true := fun k ok hk hki hun hno => by
        refine hfree k ok hk hki ?_ hno
        by_cases hjk : j = k
        · subst hjk; exact hjun
        · rw [Go.getD_set_ne true hjk] at hun; exact hun
      have hjc := hcw listed hr j hj
      have hc' : (listed.setIfInBounds j true).getD c false = false := by rw [mark_other hjc]; exact hc
      have hc2 : ((listed.setIfInBounds i true).setIfInBounds j true).getD c false = false := by rw [mark_other hjc, mark_other (Ne.symm hne)]; exact hc
      refine wpOp_mono (fun a' w' h3 => ⟨fun _ => h3.2.1 hc2, ih (listed.setIfInBounds j true) a' w' hfree' (ready_mono hr (Ne.symm hji)) h3.1 (h3.2.1 hc2) hc' hne ?_⟩) h2
      rw [Array.setIfInBounds_comm _ _ hji]
      exact h3.2.2

/-- The one operation that may come makes memory; D holds behind it. -/
theorem wpAnyK_value {Q : Exit → Act → World → Prop} {c : Nat} {D : World → Prop} {L : List Oper} {i : Nat} {o : Oper} {v : Value} {fuel : Nat} {listed : Array Bool} {a : Act} {w w' : World} (hr : Region.ready md L.toArray listed = [i]) (hh : (L.drop i).head? = some o) (hg : o.guard = none)
    (hrun : (execOp a.eval o).run P w = .ok (.value v) w') (hD : D w') (h : wpAnyK P md L.toArray Q c D fuel (listed.setIfInBounds i true) (a.put o.dst v) w') : wpAnyK P md L.toArray Q c D (fuel + 1) listed a w := by
  have ho : L.toArray[i]? = some o := by simpa [List.head?_drop] using hh
  refine ⟨fun h0 => (by rw [hr] at h0; cases h0), fun j hj => ?_⟩
  rw [hr] at hj
  obtain rfl : j = i := by simpa using hj
  unfold wpOp
  simp only [ho]
  rw [if_pos (by simp [Region.wanted, hg])]
  refine .inl ?_
  unfold Oper.wp
  rw [hrun]
  exact ⟨fun _ => hD, h⟩

/-- The one operation that may come is a call of a function of the program: by its contract; D holds behind it. -/
theorem wpAnyK_call {Q : Exit → Act → World → Prop} {c : Nat} {D : World → Prop} {L : List Oper} (i : Nat) {o : Oper} {fuel : Nat} {listed : Array Bool} {a : Act} {w : World} (hr : Region.ready md L.toArray listed = [i]) (hh : (L.drop i).head? = some o) (hg : o.guard = none)
    (f : FuncId) (xs : Array Operand) (ts : Array TypeId) (hop : o.op = .call { callee := .value (.func f), args := xs, argTypes := ts }) (hrun : ∀ args w, (callFunc f args).run P w = .ok (.enter f args) w) (vs : Array Value) (hv0 : xs.toList.map a.eval = vs.toList) (R : Value → World → Prop)
    (hc : Calls P f vs w fun e w' => ∃ u, e = .returned u ∧ R u w') (hK : ∀ u w', R u w' → D w' ∧ wpAnyK P md L.toArray Q c D fuel (listed.setIfInBounds i true) (a.put o.dst u) w') : wpAnyK P md L.toArray Q c D (fuel + 1) listed a w := by
  have ho : L.toArray[i]? = some o := by simpa [List.head?_drop] using hh
  refine ⟨fun h0 => (by rw [hr] at h0; cases h0), fun j hj => ?_⟩
  rw [hr] at hj
  obtain rfl : j = i := by simpa using hj
  unfold wpOp
  simp only [ho]
  rw [if_pos (by simp [Region.wanted, hg])]
  refine .inl ?_
  have hv : xs.map a.eval = vs := Array.toList_inj.1 (by simpa using hv0)
  have hr : (execOp a.eval o).run P w = .ok (.enter f vs) w := by
    obtain ⟨dst, op, ty, pos, after, guard⟩ := o
    simp only at hop
    subst hop
    show (callFunc f (#[] ++ xs.map a.eval ++ #[])).run P w = _
    rw [hrun]
    simp [← hv]
  unfold Oper.wp
  rw [hr]
  refine hc.mono ?_
  rintro e w' ⟨u, rfl, hR⟩
  exact ⟨fun _ => (hK u w' hR).1, (hK u w' hR).2⟩

/-- Operation c is the one that may come. -/
theorem wpAnyK_last {Q : Exit → Act → World → Prop} {c : Nat} {D : World → Prop} {fuel : Nat} {listed : Array Bool} {a : Act} {w : World} (hr : Region.ready md ops listed = [c]) (hc : c < listed.size) (h : wpAny P md ops Q (fuel + 1) listed a w) : wpAnyK P md ops Q c D (fuel + 1) listed a w := by
  refine ⟨h.1, fun j hj => ?_⟩
  have hj' := hj
  rw [hr] at hj'
  obtain rfl : j = c := by simpa using hj'
  exact wpOp_mono (fun a' w' h' => ⟨fun h0 => (by rw [mark_self hc] at h0; cases h0), wpAnyK_of_any _ _ _ _ (mark_self hc) h'⟩) (h.2 j hj)

end
end Go.Proofs.YteladljgnbfcnaaGreat.P1
namespace Go.Proofs.YteladljgnbfcnaaGreat.P1
open Go.RowKit

end Go.Proofs.YteladljgnbfcnaaGreat.P1
namespace Go.Proofs.YteladljgnbfcnaaGreat.P1
open Go.RowKit

/-- Operations that hand back a value and never enter a function: those of valueOp, loads, structs and arrays. -/
def valueOp2 : Op → Bool
  | .load _ _ => true
  | .build _ _ => true
  | x => valueOp x

section
variable {P : Program} {md : Region.Mode} {ops : Array Oper}

theorem value_of_run2 {w w' : World} {n : Next} {ρ : Operand → Value} {o : Oper} (h : valueOp2 o.op = true) (hr : (execOp ρ o).run P w = .ok n w') : ∃ u, n = .value u := by
  by_cases hv : valueOp o.op = true
  · exact value_of_run hv hr
  · obtain ⟨dst, op, ty, pos, after, guard⟩ := o
    cases op
    case load t x => exact bind_value _ hr
    case build t xs => exact bind_value _ hr
    all_goals exact absurd h hv

theorem shut_set {l : Array Bool} {j : Nat} (hs : Shut md ops l) (hj : j ∈ Region.ready md ops l) : Shut md ops (l.setIfInBounds j true) := by
  obtain ⟨_, o, ho, h2⟩ := mem_ready.1 hj
  intro t ht k hk
  by_cases e : j = t
  · subst e
    obtain ⟨o', ho', e, he, hb, rfl⟩ := of_waits hk
    have : o' = o := Option.some.inj (ho'.symm.trans ho)
    subst this
    exact mark_set (h2 e he hb)
  · rw [mark_other e] at ht
    exact mark_set (hs t ht k hk)

/-- As wpAnyK_first; operation c waits for i over others. -/
theorem wpAnyK_firstR {Q : Exit → Act → World → Prop} {c : Nat} {D : World → Prop} {i : Nat} {oi : Oper} {v : Value} (hi : ops[i]? = some oi) (hsel : ∀ (j : Nat) (o : Oper) cs b, ops[j]? = some o → o.op ≠ .select cs b)
    (hQ : ∀ c a w, Q (.panic c) (a.put oi.dst v) w → Q (.panic c) a w) (f0 : Nat) (hci : i ∈ reaches md ops f0 (waits md ops c)) :
    ∀ (fuel : Nat) (listed : Array Bool) (a : Act) (w : World), Shut md ops listed →
      (∀ j oj, ops[j]? = some oj → j ≠ i → listed.getD j true = false → (∀ e ∈ oj.after, Region.binds md e = true → e.on ≠ i) → oi.apart ops oj = true) →
      i ∈ Region.ready md ops listed → YieldsIf P ops D oi v a → D w → listed.getD c false = false → c ≠ i →
      wpAnyK P md ops Q c D fuel (listed.setIfInBounds i true) (a.put oi.dst v) w → wpAnyK P md ops Q c D (fuel + 1) listed a w := by
  have hcw : ∀ listed : Array Bool, Shut md ops listed → i ∈ Region.ready md ops listed → ∀ j ∈ Region.ready md ops listed, j ≠ c := by
    intro listed hs hr j hj e
    subst e
    obtain ⟨_, o, ho, hall⟩ := mem_ready.1 hj
    have h1 : listed.getD i false = true := by
      refine reaches_done hs f0 _ (fun k hk => ?_) i hci
      obtain ⟨o', ho', e, he, hb, rfl⟩ := of_waits hk
      have : o' = o := Option.some.inj (ho'.symm.trans ho)
      subst this
      exact hall e he hb
    have h0 := (mem_ready.1 hr).1
    rcases Nat.lt_or_ge i listed.size with h' | h'
    · rw [mark_same h', h1] at h0; cases h0
    · simp [Array.getElem?_eq_none h'] at h1
  intro fuel
  induction fuel with
  | zero =>
    intro listed a w _ _ hr hy hS hc hne H
    refine ⟨fun h => (by rw [h] at hr; cases hr), fun j hj => ?_⟩
    by_cases hji : j = i
    · subst hji; exact hy.wpOp hi hS ⟨fun _ => hS, H⟩
    · have := ready_mono hj hji
      rw [H.1] at this
      cases this
  | succ fuel ih =>
    intro listed a w hs hfree hr hy hS hc hne H
    refine ⟨fun h => (by rw [h] at hr; cases hr), fun j hj => ?_⟩
    by_cases hji : j = i
    · subst hji; exact hy.wpOp hi hS ⟨fun _ => hS, H⟩
    · have h1 := H.2 j (ready_mono hj hji)
      obtain ⟨hjun, oj, hoj, hall⟩ := mem_ready.1 hj
      have hnot : ∀ e ∈ oj.after, Region.binds md e = true → e.on ≠ i := fun e he hb heq => by
        have h1 := hall e he hb
        have h0 := (mem_ready.1 hr).1
        rw [heq] at h1
        rcases Nat.lt_or_ge i listed.size with h' | h'
        · simp [h'] at h0 h1; rw [h0] at h1; cases h1
        · simp [Array.getElem?_eq_none h'] at h1
      have h2 := wpOp_putIf hoj (hfree j oj hoj hji hjun hnot) (fun cs b => hsel i oi cs b hi) (fun cs b => hsel j oj cs b hoj) hQ hy h1
      have hfree' : ∀ k ok, ops[k]? = some ok → k ≠ i → (listed.setIfInBounds j true).getD k true = false →
          (∀ e ∈ ok.after, Region.binds md e = true → e.on ≠ i) → oi.apart ops ok = true := fun k ok hk hki hun hno => by
        refine hfree k ok hk hki ?_ hno
        by_cases hjk : j = k
        · subst hjk; exact hjun
        · rw [Go.getD_set_ne true hjk] at hun; exact hun
      have hjc := hcw listed hs hr j hj
      have hc' : (listed.setIfInBounds j true).getD c false = false := by rw [mark_other hjc]; exact hc
      have hc2 : ((listed.setIfInBounds i true).setIfInBounds j true).getD c false = false := by rw [mark_other hjc, mark_other (Ne.symm hne)]; exact hc
      refine wpOp_mono (fun a' w' h3 => ⟨fun _ => h3.2.1 hc2, ih (listed.setIfInBounds j true) a' w' (shut_set hs hj) hfree' (ready_mono hr (Ne.symm hji)) h3.1 (h3.2.1 hc2) hc' hne ?_⟩) h2
      rw [Array.setIfInBounds_comm _ _ hji]
      exact h3.2.2

/-- What is done is done with all that it waited for. -/
def shutB (md : Region.Mode) (ops : Array Oper) (l : Array Bool) : Bool := (List.range ops.size).all fun t => !l.getD t false || (waits md ops t).all fun j => l.getD j false

theorem shut_of {l : Array Bool} (h : shutB md ops l = true) : Shut md ops l := by
  intro t ht j hj
  rcases Nat.lt_or_ge t ops.size with h' | h'
  · simp only [shutB, List.all_eq_true, List.mem_range, Bool.or_eq_true] at h
    rcases h t h' with h1 | h1
    · rw [ht] at h1; cases h1
    · exact h1 j hj
  · unfold waits at hj
    rw [Array.getElem?_eq_none h'] at hj
    cases hj

end
end Go.Proofs.YteladljgnbfcnaaGreat.P1
namespace Go.Proofs.YteladljgnbfcnaaGreat.P1
open Go.RowKit

/-- Operations that hand back a value and never enter a function: those of valueOp2, nil checks, look-ups in maps, len. -/
def valueOp3 : Op → Bool
  | .nilCheck _ => true
  | .lookup _ _ _ _ => true
  | x => valueOp2 x

section
variable {P : Program} {md : Region.Mode} {ops : Array Oper}

theorem value_of_run3 {w w' : World} {n : Next} {ρ : Operand → Value} {o : Oper} (h : valueOp3 o.op = true) (hr : (execOp ρ o).run P w = .ok n w') : ∃ u, n = .value u := by
  by_cases hv : valueOp2 o.op = true
  · exact value_of_run2 hv hr
  · obtain ⟨dst, op, ty, pos, after, guard⟩ := o
    cases op
    case nilCheck x =>
      simp only [execOp] at hr
      split at hr
      · (simp [runtimePanic, goPanic, program, go_sem, Result.andThen] at hr; split at hr <;> cases hr)
      · (simp [runtimePanic, goPanic, program, go_sem, Result.andThen] at hr; split at hr <;> cases hr)
      · (simp [runtimePanic, goPanic, program, go_sem, Result.andThen] at hr; split at hr <;> cases hr)
      · split at hr
        · (simp [runtimePanic, goPanic, program, go_sem, Result.andThen] at hr; split at hr <;> cases hr)
        · simp only [Sem.run_bind, Result.andThen] at hr
          repeat' split at hr
          all_goals first | (simp [unsupported, go_sem] at hr; done) | (simp [go_sem] at hr; exact ⟨_, hr.1.symm⟩)
        · simp [go_sem] at hr
          exact ⟨_, hr.1.symm⟩
      · simp [go_sem] at hr
        exact ⟨_, hr.1.symm⟩
    case lookup t m x c => exact bind_value _ hr
    all_goals exact absurd h hv

/-- What is asked behind one operation: K where it ends as usual, Q else. -/
def behind (K : Act → World → Prop) (Q : Exit → Act → World → Prop) : Exit → Act → World → Prop
  | .normal, a, w => K a w
  | e, a, w => Q e a w

theorem wp_behind {o : Oper} {a : Act} {w : World} {K : Act → World → Prop} {Q : Exit → Act → World → Prop} (h : o.wp P a w (wpList P ops (behind K Q) []) (behind K Q)) : o.wp P a w K Q := by
  unfold Oper.wp at *
  generalize (execOp a.eval o).run P w = r at *
  cases r with
  | ok n w' =>
    cases n <;> simp only [Oper.upon] at h ⊢ <;>
      first
        | exact h
        | exact Calls.mono h (fun e w'' he => by cases e <;> exact he)
        | exact Rows.mono h (fun _ _ he => he)
  | halt x w' => cases x <;> simp only [Oper.upon] at h ⊢ <;> exact h

theorem wpOp_one {i : Nat} {o : Oper} {a : Act} {w : World} {K : Act → World → Prop} {Q : Exit → Act → World → Prop} (ho : ops[i]? = some o) (h : wpList P ops (behind K Q) [o] a w) : wpOp P ops Q i K a w := by
  unfold wpOp
  simp only [ho]
  unfold wpList at h
  split
  · rename_i hw
    rw [if_pos hw] at h
    rcases h with h | ⟨h1, h2⟩
    · exact .inl (wp_behind h)
    · exact .inr ⟨h1, h2⟩
  · rename_i hw
    rw [if_neg hw] at h
    exact h

/-- .. and D holds behind it. -/
theorem wpAnyK_one {Q : Exit → Act → World → Prop} {c : Nat} {D : World → Prop} {L : List Oper} (i : Nat) {o : Oper} {fuel : Nat} {listed : Array Bool} {a : Act} {w : World} (hr : Region.ready md L.toArray listed = [i]) (hh : (L.drop i).head? = some o)
    (h : wpList P L.toArray (behind (fun a' w' => D w' ∧ wpAnyK P md L.toArray Q c D fuel (listed.setIfInBounds i true) a' w') Q) [o] a w) : wpAnyK P md L.toArray Q c D (fuel + 1) listed a w := by
  have ho : L.toArray[i]? = some o := by simpa [List.head?_drop] using hh
  refine ⟨fun h0 => (by rw [hr] at h0; cases h0), fun j hj => ?_⟩
  rw [hr] at hj
  obtain rfl : j = i := by simpa using hj
  exact wpOp_mono (fun a' w' h' => ⟨fun _ => h'.1, h'.2⟩) (wpOp_one ho h)

end
end Go.Proofs.YteladljgnbfcnaaGreat.P1
namespace Go.Proofs.YteladljgnbfcnaaGreat.P1
open Go.RowKit

/-- len or min, called. -/
def isLen : Op → Bool
  | .call c => (match c.callee with | .builtin .len => true | .builtin .min => true | _ => false)
  | _ => false

/-- Operations that hand back a value and never enter a function: those of valueOp3, and len. -/
def valueOp4 (x : Op) : Bool := isLen x || valueOp3 x

section
variable {P : Program} {md : Region.Mode} {ops : Array Oper}

theorem value_of_run4 {w w' : World} {n : Next} {ρ : Operand → Value} {o : Oper} (h : valueOp4 o.op = true) (hr : (execOp ρ o).run P w = .ok n w') : ∃ u, n = .value u := by
  by_cases hv : valueOp3 o.op = true
  · exact value_of_run3 hv hr
  · obtain ⟨dst, op, ty, pos, after, guard⟩ := o
    have hl : isLen op = true := by
      simp only [valueOp4, Bool.or_eq_true] at h
      rcases h with h | h
      · exact h
      · exact absurd h hv
    cases op
    case call c =>
      obtain ⟨callee, args, argTypes⟩ := c
      cases callee <;> simp only [isLen, Bool.false_eq_true] at hl
      rename_i b
      cases b <;> simp only [Bool.false_eq_true] at hl
      · simp only [execOp, resolve, invoke, builtin, Sem.run_bind, Sem.run_pure, Result.andThen_ok] at hr
        cases hx : (Builtin.len_ argTypes ty (args.map ρ)).run P w with
        | ok u w1 =>
          rw [hx] at hr
          simp only [Result.andThen, Result.ok.injEq] at hr
          exact ⟨u, hr.1.symm⟩
        | halt u w1 =>
          rw [hx] at hr
          simp [Result.andThen] at hr
      · simp only [execOp, resolve, invoke, builtin, Sem.run_bind, Sem.run_pure, Result.andThen_ok] at hr
        cases hx : (Builtin.min_ argTypes ty (args.map ρ)).run P w with
        | ok u w1 =>
          rw [hx] at hr
          simp only [Result.andThen, Result.ok.injEq] at hr
          exact ⟨u, hr.1.symm⟩
        | halt u w1 =>
          rw [hx] at hr
          simp [Result.andThen] at hr
    all_goals (simp only [isLen, Bool.false_eq_true] at hl)

/-- The one operation that may come is a call of a function of the program, guarded or not: by its contract; D holds behind it. -/
theorem wpAnyK_callW {Q : Exit → Act → World → Prop} {c : Nat} {D : World → Prop} {L : List Oper} (i : Nat) {o : Oper} {fuel : Nat} {listed : Array Bool} {a : Act} {w : World} (hr : Region.ready md L.toArray listed = [i]) (hh : (L.drop i).head? = some o) (hw : Region.wanted o (yielded L.toArray a.tmps) = true)
    (f : FuncId) (xs : Array Operand) (ts : Array TypeId) (hop : o.op = .call { callee := .value (.func f), args := xs, argTypes := ts }) (hrun : ∀ args w, (callFunc f args).run P w = .ok (.enter f args) w) (vs : Array Value) (hv0 : xs.toList.map a.eval = vs.toList) (R : Value → World → Prop)
    (hc : Calls P f vs w fun e w' => ∃ u, e = .returned u ∧ R u w') (hK : ∀ u w', R u w' → D w' ∧ wpAnyK P md L.toArray Q c D fuel (listed.setIfInBounds i true) (a.put o.dst u) w') : wpAnyK P md L.toArray Q c D (fuel + 1) listed a w := by
  have ho : L.toArray[i]? = some o := by simpa [List.head?_drop] using hh
  refine ⟨fun h0 => (by rw [hr] at h0; cases h0), fun j hj => ?_⟩
  rw [hr] at hj
  obtain rfl : j = i := by simpa using hj
  unfold wpOp
  simp only [ho]
  rw [if_pos hw]
  refine .inl ?_
  have hv : xs.map a.eval = vs := Array.toList_inj.1 (by simpa using hv0)
  have hr : (execOp a.eval o).run P w = .ok (.enter f vs) w := by
    obtain ⟨dst, op, ty, pos, after, guard⟩ := o
    simp only at hop
    subst hop
    show (callFunc f (#[] ++ xs.map a.eval ++ #[])).run P w = _
    rw [hrun]
    simp [← hv]
  unfold Oper.wp
  rw [hr]
  refine hc.mono ?_
  rintro e w' ⟨u, rfl, hR⟩
  exact ⟨fun _ => (hK u w' hR).1, (hK u w' hR).2⟩

/-- So many operations from k on can be taken first, one after the other; c waits for each. -/
def segKD (md : Region.Mode) (ops : Array Oper) (rs : List Nat) : Nat → Nat → Array Bool → Bool
  | 0, _, _ => true
  | m + 1, k, listed => (match ops[k]? with | some o => valueOp4 o.op && o.dst.isSome | none => false) && (Region.ready md ops listed).contains k && Region.free md ops listed k && rs.contains k && segKD md ops rs m (k + 1) (listed.setIfInBounds k true)

theorem wpAnyK_seg4 {Q : Exit → Act → World → Prop} {c : Nat} {D : World → Prop} {w : World} (f0 : Nat) (hsel : Region.noSelect ops = true) (hQ : ∀ c a t v w, Q (.panic c) (a.put (some t) v) w → Q (.panic c) a w) (hD : D w) :
    ∀ (l : List Oper) (k : Nat) (listed : Array Bool) (a : Act) (fuel : Nat), (∀ j, j < l.length → l[j]? = ops[k + j]?) → k + l.length ≤ c → listed.getD c false = false → Shut md ops listed → segKD md ops (reaches md ops f0 (waits md ops c)) l.length k listed = true →
      wpQuiet P ops D (fun a' => wpAnyK P md ops Q c D fuel (segL l.length k listed) a' w) l a → wpAnyK P md ops Q c D (l.length + fuel) listed a w
  | [], _, _, _, fuel, _, _, _, _, _, h => by simpa [wpQuiet, segL] using h
  | o :: l, k, listed, a, fuel, hl, hkc, hlc, hs, hB, h => by
    have h0 : ops[k]? = some o := by simpa using (hl 0 (by simp)).symm
    simp only [List.length_cons, segKD, h0, Bool.and_eq_true] at hB
    obtain ⟨⟨⟨⟨⟨hv, hd⟩, hr⟩, hf⟩, hrc⟩, hB'⟩ := hB
    obtain ⟨t, ht⟩ := Option.isSome_iff_exists.1 hd
    have hQ' : ∀ (v : Value) c a w, Q (.panic c) (a.put o.dst v) w → Q (.panic c) a w := fun v c a w h => hQ c a t v w (by rw [← ht]; exact h)
    have hl' : ∀ j, j < l.length → l[j]? = ops[k + 1 + j]? := fun j hj => by
      have := hl (j + 1) (by simp; omega)
      simpa [Nat.add_assoc, Nat.add_comm 1 j] using this
    have e1 : (o :: l).length + fuel = (l.length + fuel) + 1 := by simp; omega
    rw [e1]
    have hne : c ≠ k := by simp at hkc; omega
    have hr' : k ∈ Region.ready md ops listed := by simpa using hr
    have hrc' : k ∈ reaches md ops f0 (waits md ops c) := by simpa using hrc
    have hlc' : (listed.setIfInBounds k true).getD c false = false := by rw [mark_other (Ne.symm hne)]; exact hlc
    simp only [wpQuiet] at h
    by_cases hw : Region.wanted o (yielded ops a.tmps) = true
    · rw [if_pos hw] at h
      obtain ⟨v, h1, h2⟩ := h
      refine wpAnyK_firstR h0 (Region.noSelect_spec hsel) (hQ' v) f0 hrc' _ _ _ _ hs (Region.free_spec h0 hf) hr' (.inl ⟨hw, fun w' hw' => ?_⟩) hD hlc hne
        (wpAnyK_seg4 f0 hsel hQ hD l (k + 1) _ _ fuel hl' (by simp at hkc; omega) hlc' (shut_set hs hr') hB' h2)
      have h3 := h1 w' hw'
      unfold Oper.quietAt at h3
      cases hr : (execOp a.eval o).run P w' with
      | ok n w2 =>
        rw [hr] at h3
        obtain ⟨u, rfl⟩ := value_of_run4 hv hr
        simp only [Oper.quietUpon] at h3
        obtain ⟨rfl, rfl⟩ := h3
        rfl
      | halt y w2 => rw [hr] at h3; simp only [Oper.quietUpon] at h3
    · rw [if_neg hw] at h
      exact wpAnyK_firstR h0 (Region.noSelect_spec hsel) (hQ' _) f0 hrc' _ _ _ _ hs (Region.free_spec h0 hf) hr' (.inr ⟨by simpa using hw, rfl⟩) hD hlc hne
        (wpAnyK_seg4 f0 hsel hQ hD l (k + 1) _ _ fuel hl' (by simp at hkc; omega) hlc' (shut_set hs hr') hB' h)

/-- The operations k .. k + m - 1 of a literal region, taken first; c: an operation behind them that waits for each of them in f0 steps. -/
theorem wpAnyK_seg_lit4 {L : List Oper} {Q : Exit → Act → World → Prop} {w : World} {listed : Array Bool} {a : Act} {F c : Nat} {D : World → Prop} (k m f0 fuel : Nat) (hfu : F = m + fuel) (hkm : k + m ≤ L.length) (hkc : k + m ≤ c) (hlc : listed.getD c false = false)
    (hsel : Region.noSelect L.toArray = true) (hs : shutB md L.toArray listed = true) (hB : segKD md L.toArray (reaches md L.toArray f0 (waits md L.toArray c)) m k listed = true) (hQ : ∀ c a t v w, Q (.panic c) (a.put (some t) v) w → Q (.panic c) a w) (hD : D w)
    (h : wpQuiet P L.toArray D (fun a' => wpAnyK P md L.toArray Q c D fuel (segL m k listed) a' w) ((L.drop k).take m) a) : wpAnyK P md L.toArray Q c D F listed a w := by
  have hl : ((L.drop k).take m).length = m := by simp; omega
  have := wpAnyK_seg4 (P := P) (Q := Q) (w := w) f0 hsel hQ hD ((L.drop k).take m) k listed a fuel (fun j hj => by
    rw [hl] at hj
    simp [List.getElem?_drop, hj]) (by rw [hl]; exact hkc) hlc (shut_of hs) (by rw [hl]; exact hB) (by rw [hl]; exact h)
  rw [hl] at this
  rw [hfu]
  exact this
end
end Go.Proofs.YteladljgnbfcnaaGreat.P1
namespace Go.Proofs.YteladljgnbfcnaaGreat.P1
open Go.RowKit

/-- Two operations may come: both orders are asked. -/
theorem wpAnyK_pair {P : Program} {md : Region.Mode} {Q : Exit → Act → World → Prop} {c : Nat} {D : World → Prop} {L : List Oper} (i j : Nat) {oi oj : Oper} {fuel : Nat} {listed : Array Bool} {a : Act} {w : World} (hr : Region.ready md L.toArray listed = [i, j]) (hi : (L.drop i).head? = some oi) (hj : (L.drop j).head? = some oj)
    (h1 : wpList P L.toArray (behind (fun a' w' => D w' ∧ wpAnyK P md L.toArray Q c D fuel (listed.setIfInBounds i true) a' w') Q) [oi] a w)
    (h2 : wpList P L.toArray (behind (fun a' w' => D w' ∧ wpAnyK P md L.toArray Q c D fuel (listed.setIfInBounds j true) a' w') Q) [oj] a w) : wpAnyK P md L.toArray Q c D (fuel + 1) listed a w := by
  have hi' : L.toArray[i]? = some oi := by simpa [List.head?_drop] using hi
  have hj' : L.toArray[j]? = some oj := by simpa [List.head?_drop] using hj
  refine ⟨fun h0 => (by rw [hr] at h0; cases h0), fun k hk => ?_⟩
  rw [hr] at hk
  simp only [List.mem_cons, List.not_mem_nil, or_false] at hk
  rcases hk with rfl | rfl
  · exact wpOp_mono (fun a' w' h' => ⟨fun _ => h'.1, h'.2⟩) (wpOp_one hi' h1)
  · exact wpOp_mono (fun a' w' h' => ⟨fun _ => h'.1, h'.2⟩) (wpOp_one hj' h2)
end Go.Proofs.YteladljgnbfcnaaGreat.P1
namespace Go.Proofs.YteladljgnbfcnaaGreat.P1
open Go.RowKit

/-- Block b holds the cells cs, none of them frozen. -/
def Blk (w : World) (b : Nat) (cs : List Value) (t : TypeId) : Prop := w.heap[b]? = some (.cells cs.toArray t (0, 0))

theorem Blk.lt {w : World} {b : Nat} {cs : List Value} {t : TypeId} (h : Blk w b cs t) : b < w.heap.size := lt_of_block h

theorem Blk.cell {w : World} {b : Nat} {cs : List Value} {t : TypeId} (h : Blk w b cs t) (i : Nat) : w.cell? ⟨b, i, none⟩ = cs[i]? := by
  unfold Blk at h
  simp [World.cell?, h]

theorem Blk.free {w : World} {b : Nat} {cs : List Value} {t : TypeId} (h : Blk w b cs t) (i : Nat) : w.frozen? ⟨b, i, none⟩ = false := by
  unfold Blk at h
  simp [World.frozen?, h]

theorem Blk.set {w : World} {b : Nat} {cs : List Value} {t : TypeId} (h : Blk w b cs t) (i : Nat) (v : Value) : Blk (w.setCell ⟨b, i, none⟩ v) b (cs.set i v) t := by
  have hlt := h.lt
  have h' : w.heap[b] = .cells cs.toArray t (0, 0) := by
    unfold Blk at h
    simpa [Array.getElem?_eq_getElem hlt] using h
  unfold Blk
  show (w.heap.modify b _)[b]? = _
  rw [Array.getElem?_eq_getElem (by simpa using hlt), Array.getElem_modify_self, h']
  simp

theorem Blk.other {w : World} {b : Nat} {cs : List Value} {t : TypeId} (h : Blk w b cs t) {p : Addr} (hp : b ≠ p.block) (v : Value) : Blk (w.setCell p v) b cs t := by
  unfold Blk at *
  rw [Below.heap_setCell _ _ _ _ hp]
  exact h

theorem Blk.below {w w' : World} {b B : Nat} {cs : List Value} {t : TypeId} (h : Blk w b cs t) (hb : Below B w w') (hB : b < B) : Blk w' b cs t := by
  unfold Blk at *
  rw [hb.block b hB]
  exact h

theorem Blk.new (w : World) (cs : Array Value) (t : TypeId) : Blk (w.alloc (.cells cs t)) w.heap.size cs.toList t := by
  unfold Blk
  show (w.heap.push _)[w.heap.size]? = _
  simp

theorem Blk.drewN {w : World} {b : Nat} {cs : List Value} {t : TypeId} (h : Blk w b cs t) (n : Nat) : Blk (w.drewN n) b cs t := h
end Go.Proofs.YteladljgnbfcnaaGreat.P1
