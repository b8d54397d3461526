/- Small laws for the walks of chapter 1: one byte appended to a row of bytes that the call made, a row of bytes read as a text; conditions: the row is the call's own and shorter than 2^40. -/
import Derived.WalkKit
import Derived.Laws.IdiomStrings
import Derived.Laws.BytesArg
import Derived.Deep.QuietTactic
import Derived.BigQuiet
import Derived.Deep.RegionLaw
namespace Go.Proofs.YtknlhejpcjpeeaaDoor.P1
open Go.RowKit

/-- The cells of a list of bytes. -/
def cellsB (l : List UInt8) : List Value := l.map fun b => Value.int .u8 b.toNat

theorem cellsB_length (l : List UInt8) : (cellsB l).length = l.length := by simp [cellsB]

theorem cellsB_snoc (l : List UInt8) (x : Int) (h0 : 0 ≤ x) (h1 : x < 256) : cellsB l ++ [Value.int .u8 x] = cellsB (l ++ [UInt8.ofNat x.toNat]) := by
  simp [cellsB]; omega

/-- One byte more. -/
theorem own_snoc {w : World} {B : Nat} {e : TypeId} {v : Value} {l : List UInt8} {z : Int} (h : w.ownsRow B e 1 v (l.length + 1) (cellsB l ++ [.int .u8 z])) (b : UInt8) (hb : z = b.toNat) :
    w.ownsRow B e 1 v (l ++ [b]).length (cellsB (l ++ [b])) := by
  have e1 : cellsB (l ++ [b]) = cellsB l ++ [.int .u8 z] := by simp [cellsB, hb]
  have e2 : (l ++ [b]).length = l.length + 1 := by simp
  rw [e1, e2]; exact h

theorem byte_of (x : Nat) (h : x < 256) : ((UInt8.ofNat x).toNat : Int) = x := by
  simp; omega

theorem hide {p : Prop} (h : p) : Hid p := h

theorem wpList_append_byte {P : Program} {W w0 : World} {B : Nat} (hbel : Below B W w0) (hB : B ≤ W.heap.size) {z : Int} {ops : Array Oper} {rest : List Oper} {o : Oper} {a : Act} {Q : Exit → Act → World → Prop} (hgd : o.guard = none) (s x : Operand) (t : TypeId)
    (ho : o.op = .call { callee := .builtin .append, args := #[s, x], argTypes := #[t, t] })
    (e : TypeId) (i : TypeInfo) (ht : P.underlying t = some (.slice e)) (hi : P.info? e = some i) (hz : i.zero = some (.int .u8 0))
    (hsize : i.size = 1) (hby : i.bytes = 1) (v : Value) (n : Nat) (xs : List Value) (hs : a.eval s = v) (hown : w0.ownsRow B e 1 v n xs)
    (c : Nat) (hx : a.eval x = .slice (some ⟨w0.heap.size, 0, none⟩) 1 c) (hb : n < 1099511627776)
    (h : ∀ v' w', w'.ownsRow B e 1 v' (n + 1) (xs ++ [.int .u8 z]) → Below B W w' → wpList P ops Q rest (a.put o.dst v') w') :
    wpList P ops Q (o :: rest) a (w0.alloc (.cells #[.int .u8 z] e)) := by
  have hsz := hbel.size
  refine wpList_append_own _ hgd s x t ho B e i (.int .u8 0) 1 1 ht hi hz hsize hby rfl (by decide) v n xs hs (hown.alloc _) ⟨w0.heap.size, 0, none⟩ 1 c [.int .u8 z] hx rfl ?_ ?_ ?_ ?_ ?_ ?_
  · intro j u hj
    match j, hj with
    | 0, hj => simp at hj; subst hj; simp [Addr.add]
  · intro u hu; simp at hu; subst hu; rfl
  · unfold maxLen; omega
  · omega
  · simp; omega
  · intro v' w' h1 h2 _
    exact h v' w' h1 ((hbel.alloc (by omega) _).grown h2 (by simp; omega) (fun k hk => (hown.lt k hk).1))

theorem wpList_append_two {P : Program} {W w0 : World} {B : Nat} (hbel : Below B W w0) (hB : B ≤ W.heap.size) {z1 z2 : Int} {ops : Array Oper} {rest : List Oper} {o : Oper} {a : Act} {Q : Exit → Act → World → Prop} (hgd : o.guard = none) (s x : Operand) (t : TypeId)
    (ho : o.op = .call { callee := .builtin .append, args := #[s, x], argTypes := #[t, t] })
    (e : TypeId) (i : TypeInfo) (ht : P.underlying t = some (.slice e)) (hi : P.info? e = some i) (hz : i.zero = some (.int .u8 0))
    (hsize : i.size = 1) (hby : i.bytes = 1) (v : Value) (n : Nat) (xs : List Value) (hs : a.eval s = v) (hown : w0.ownsRow B e 1 v n xs)
    (c : Nat) (hx : a.eval x = .slice (some ⟨w0.heap.size, 0, none⟩) 2 c) (hb : n < 1099511627776)
    (h : ∀ v' w', w'.ownsRow B e 1 v' (n + 2) (xs ++ [.int .u8 z1, .int .u8 z2]) → Below B W w' → wpList P ops Q rest (a.put o.dst v') w') :
    wpList P ops Q (o :: rest) a (w0.alloc (.cells #[.int .u8 z1, .int .u8 z2] e)) := by
  have hsz := hbel.size
  refine wpList_append_own _ hgd s x t ho B e i (.int .u8 0) 1 1 ht hi hz hsize hby rfl (by decide) v n xs hs (hown.alloc _) ⟨w0.heap.size, 0, none⟩ 2 c [.int .u8 z1, .int .u8 z2] hx rfl ?_ ?_ ?_ ?_ ?_ ?_
  · intro j u hj
    match j, hj with
    | 0, hj => simp at hj; subst hj; simp [Addr.add]
    | 1, hj => simp at hj; subst hj; simp [Addr.add]
  · intro u hu; simp at hu; rcases hu with rfl | rfl <;> rfl
  · unfold maxLen; omega
  · omega
  · simp; omega
  · intro v' w' h1 h2 _
    exact h v' w' h1 ((hbel.alloc (by omega) _).grown h2 (by simp; omega) (fun k hk => (hown.lt k hk).1))

/-- An owned row of bytes that holds something, and the text that it is. -/
theorem own_text {P : Program} {w : World} {B : Nat} {e : TypeId} {v : Value} {l : List UInt8} (hown : w.ownsRow B e 1 v l.length (cellsB l)) (hl : 0 < l.length) (t d : TypeId)
    (ht : P.underlying t = some (.slice e)) (he : P.underlying e = some (.int .u8)) (hd : P.underlying d = some .string) :
    ∃ g cap, v = .slice (some ⟨g, 0, none⟩) l.length cap ∧ (convert t d (.slice (some ⟨g, 0, none⟩) l.length cap)).run P w = .ok (.string ⟨l.toArray⟩) w := by
  have hc := fun (g : Nat) => hown.cells (g := g)
  rcases hown.2 with ⟨-, h0⟩ | ⟨g, cap, cur, rfl, -, -, -, -, -, -⟩
  · omega
  · exact ⟨g, cap, rfl, run_convert_bytes_back w t d e ⟨g, 0, none⟩ cap l ht he hd (fun j hj => hc g rfl j _ (by simp [cellsB, hj]))⟩

/-- An owned row of bytes, and the text that it is. -/
theorem own_text_any {P : Program} {w : World} {B : Nat} {e : TypeId} {v : Value} {l : List UInt8} (hown : w.ownsRow B e 1 v l.length (cellsB l)) (t d : TypeId)
    (ht : P.underlying t = some (.slice e)) (he : P.underlying e = some (.int .u8)) (hd : P.underlying d = some .string) :
    (convert t d v).run P w = .ok (.string ⟨l.toArray⟩) w := by
  have hc := fun (g : Nat) => hown.cells (g := g)
  rcases hown.2 with ⟨rfl, h0⟩ | ⟨g, cap, cur, rfl, -, -, -, -, -, -⟩
  · have : l = [] := List.eq_nil_of_length_eq_zero h0
    subst this
    rw [run_convert_bytes_nil w t e ht he 0 0 d hd]; rfl
  · exact run_convert_bytes_back w t d e ⟨g, 0, none⟩ cap l ht he hd (fun j hj => hc g rfl j _ (by simp [cellsB, hj]))

theorem run_enter {P : Program} {f : FuncId} {fn : Func} (hf : P.funcs[f]? = some fn) (hname : (fn.name == "runtime.NumGoroutine") = false) (hb : fn.body.isNone = false) (args : Array Value) (w : World) :
    (callFunc f args).run P w = .ok (.enter f args) w := by
  have h1 : ¬ fn.name = "runtime.NumGoroutine" := by simpa using hname
  have h2 : ¬ fn.body = none := by intro h; rw [h] at hb; simp at hb
  simp [callFunc, hf, h1]
  intro h
  exact absurd h h2

theorem step_call_one {P : Program} {ops : Array Oper} {o : Oper} {a : Act} {w : World} {K : Act → World → Prop} {Q : Exit → Act → World → Prop} {E : Prop}
    (hg : o.guard = none) (f : FuncId) (x : Operand) (t : TypeId) (hop : o.op = .call { callee := .value (.func f), args := #[x], argTypes := #[t] })
    (hrun : ∀ args w, (callFunc f args).run P w = .ok (.enter f args) w) (v u : Value) (hv : a.eval x = v)
    (hc : Calls P f #[v] w fun e w' => e = .returned u ∧ w' = w)
    (hK : K (a.put o.dst u) w) :
    if Region.wanted o (yielded ops a.tmps) = true then Oper.wp P o a w K Q else E := by
  have hw : Region.wanted o (yielded ops a.tmps) = true := by simp [Region.wanted, hg]
  rw [if_pos hw]
  have hr : (execOp a.eval o).run P w = .ok (.enter f #[v]) w := by
    obtain ⟨dst, op, ty, pos, after, guard⟩ := o
    simp only at hop
    subst hop
    show (callFunc f (#[] ++ #[x].map a.eval ++ #[])).run P w = _
    rw [hrun]
    simp [← hv]
  unfold Oper.wp
  rw [hr]
  refine hc.mono ?_
  rintro e w' ⟨rfl, rfl⟩
  exact hK

theorem step_append_two {P : Program} {W w0 : World} {B : Nat} (hbel : Below B W w0) (hB : B ≤ W.heap.size) {z1 z2 : Int} {ops : Array Oper} {o : Oper} {a : Act} {K : Act → World → Prop} {Q : Exit → Act → World → Prop} {E : Prop} (hg : o.guard = none) (s x : Operand) (t : TypeId)
    (ho : o.op = .call { callee := .builtin .append, args := #[s, x], argTypes := #[t, t] })
    (e : TypeId) (i : TypeInfo) (ht : P.underlying t = some (.slice e)) (hi : P.info? e = some i) (hz : i.zero = some (.int .u8 0))
    (hsize : i.size = 1) (hby : i.bytes = 1) (v : Value) (n : Nat) (xs : List Value) (hs : a.eval s = v) (hown : w0.ownsRow B e 1 v n xs)
    (c : Nat) (hx : a.eval x = .slice (some ⟨w0.heap.size, 0, none⟩) 2 c) (hb : n < 1099511627776)
    (h : ∀ v' w', w'.ownsRow B e 1 v' (n + 2) (xs ++ [.int .u8 z1, .int .u8 z2]) → Below B W w' → K (a.put o.dst v') w') :
    if Region.wanted o (yielded ops a.tmps) = true then Oper.wp P o a (w0.alloc (.cells #[.int .u8 z1, .int .u8 z2] e)).drew K Q else E := by
  have hw : Region.wanted o (yielded ops a.tmps) = true := by simp [Region.wanted, hg]
  rw [if_pos hw]
  have hsz := hbel.size
  refine wp_append_own _ s x t ho B e i (.int .u8 0) 1 1 ht hi hz hsize hby rfl (by decide) v n xs hs (hown.alloc _).drew ⟨w0.heap.size, 0, none⟩ 2 c [.int .u8 z1, .int .u8 z2] hx rfl ?_ ?_ ?_ ?_ ?_ ?_
  · intro j u hj
    match j, hj with
    | 0, hj => simp at hj; subst hj; simp [Addr.add]
    | 1, hj => simp at hj; subst hj; simp [Addr.add]
  · intro u hu; simp at hu; rcases hu with rfl | rfl <;> rfl
  · unfold maxLen; omega
  · omega
  · simp; omega
  · intro v' w' h1 h2 _
    exact h v' w' h1 (((hbel.alloc (by omega) _).drew).grown h2 (by simp; omega) (fun k hk => (hown.lt k hk).1))

/-- A world that is as W was below B. -/
structure Near (B : Nat) (W : World) where
  w : World
  h : Below B W w

theorem Near.some (B : Nat) (W : World) : Nonempty (Near B W) := ⟨⟨W, Below.refl B W⟩⟩

/-- A region that draws its order, whose operations only read and whose callees make at most memory of their own, walked once. -/
theorem wp_region_near {P : Program} {id : Nat} {Q : Exit → Act → World → Prop} {a : Act} {w : World} {l : List Oper} (B : Nat) (W : World) (hw : Below B W w) (hm : P.follows .mixedOrders = true) (hB : Region.lexB .any l.toArray = true)
    (h : wpQuiet P l.toArray (fun w' => ∃ p : Near B W, w' = p.w) (fun a' => ∀ w', (∃ p : Near B W, w' = p.w) → Q .normal a' w') l a) : (Code.region id l.toArray true).wp P Q a w :=
  wp_region_quiet (C := fun w' => ∃ p : Near B W, w' = p.w) hm hB ⟨⟨_, hw.drew⟩, rfl⟩ (by simpa using h)

theorem calls_near {P : Program} {f : FuncId} {args : Array Value} {B : Nat} {W : World} {p : Near B W} {v : Value} (hB : B ≤ W.heap.size)
    (h : Calls P f args p.w fun e w' => e = .returned v ∧ Below p.w.heap.size p.w w') : Calls P f args p.w fun e w'' => e = .returned v ∧ ∃ q : Near B W, w'' = q.w :=
  h.mono fun _ w'' ⟨he, hb⟩ => ⟨he, ⟨w'', p.h.trans (hb.mono (by have := p.h.size; omega))⟩, rfl⟩
end Go.Proofs.YtknlhejpcjpeeaaDoor.P1
