/- An array of words loaded and stored whole where it lies; a row of bytes written byte by byte; no condition. -/
import Derived.Test.YtflicklgmhgpiaaDoorArrL
import Derived.Deep.MidRow
import Derived.BigQuiet
namespace Go.Proofs.YtflicklgmhgpiaaDoor.P1
open Go.RowKit

/-- The whole array, as the walk asks for it. -/
theorem Arr.load {P : Program} {w : World} {b : Nat} {xs : List Nat} (h : Arr w b xs) (n : Nat) (hn : xs.length = n) : (loadCellsFrom ⟨b, 0, none⟩ 0 n #[]).run P w = .ok (wordsV xs) w := by
  have := run_loadCells_list (P := P) w ⟨b, 0, none⟩ (wordsV xs).toList (fun j v hj => by
    have hj' : j < xs.length := by have := (List.getElem?_eq_some_iff.1 hj).1; simpa [wordsV] using this
    rw [Go.WideShapes.add_plain, Nat.zero_add, h.cell j hj']
    simp [wordsV, hj'] at hj
    simp [List.getD_eq_getElem?_getD, hj', hj])
  subst hn
  simpa [loadCells, wordsV] using this

theorem Arr.there {w : World} {b : Nat} {xs : List Nat} (h : Arr w b xs) (n : Nat) (hn : xs.length = n) : w.there b 0 n := fun j hj => by
  rw [Nat.zero_add]
  exact ⟨by rw [h.cell j (by omega)]; rfl, h.free j⟩

theorem below_setCells {B b : Nat} {a : World} (hb : B ≤ b) : ∀ (vs : List Value) (o : Nat) (w : World), Below B a w → Below B a (w.setCells b o vs)
  | [], _, _, h => h
  | v :: r, o, _, h => below_setCells hb r (o + 1) _ (h.setCell hb v)

theorem size_setCells {b : Nat} : ∀ (vs : List Value) (o : Nat) (w : World), (w.setCells b o vs).heap.size = w.heap.size
  | [], _, _ => rfl
  | v :: r, o, w => by rw [World.setCells, size_setCells r (o + 1)]; simp [World.setCell]

theorem Arr.setAll {w : World} {b : Nat} {xs : List Nat} (h : Arr w b xs) (ys : List Nat) (hl : ys.length = xs.length) : Arr (w.setCells b 0 (wordsV ys).toList) b ys := by
  have hlen : (wordsV ys).toList.length = ys.length := by simp [wordsV]
  refine ⟨by rw [size_setCells]; exact h.lt, fun i hi => ?_, fun i => by rw [World.frozen?_setCells]; exact h.free i⟩
  have := World.cell?_setCells_in b (wordsV ys).toList 0 w (fun j hj => by rw [Nat.zero_add, h.cell j (by omega)]; rfl) i (by omega)
  rw [Nat.zero_add] at this
  rw [this]
  simp [wordsV, List.getD_eq_getElem?_getD, hi]

theorem Arr.otherAll {w : World} {b c : Nat} {xs : List Nat} (h : Arr w b xs) (hne : c ≠ b) (o : Nat) (vs : List Value) : Arr (w.setCells c o vs) b xs :=
  ⟨by rw [size_setCells]; exact h.lt, fun i hi => by rw [World.cell?_setCells_out c vs o w ⟨b, i, none⟩ (fun hb _ => absurd hb.symm hne)]; exact h.cell i hi, fun i => by rw [World.frozen?_setCells]; exact h.free i⟩

/-- A whole array read, in one world. -/
theorem wpQuiet_load_agg {P : Program} {ops : Array Oper} {wd : World} {Q : Act → Prop} {rest : List Oper} {o : Oper} {a : Act} (hg : o.guard = none) (t : TypeId) (x : Operand) (d : Tmp) (hd : o.dst = some d) (ho : o.op = .load t x)
    (b : Nat) (hx : a.eval x = .pointer (some ⟨b, 0, none⟩)) (n : Nat) (hagg : ∀ w, (isAgg t).run P w = .ok true w) (hsz : ∀ w, (sizeOf t).run P w = .ok n w) (c : Array Value)
    (hl : (loadCellsFrom ⟨b, 0, none⟩ 0 n #[]).run P wd = .ok c wd)
    (h : wpQuiet P ops (fun w' => w' = wd) Q rest { tmps := a.tmps.setIfInBounds d (.agg c), defers := a.defers }) : wpQuiet P ops (fun w' => w' = wd) Q (o :: rest) a := by
  have hw : Region.wanted o (yielded ops a.tmps) = true := by simp [Region.wanted, hg]
  refine wpQuiet_step fun K hK => ?_
  rw [if_pos hw]
  refine ⟨.agg c, fun w hww => ?_, hK _ ?_⟩
  · subst hww
    unfold Oper.quietAt execOp
    simp only [ho, hx, Instr.loadAt, Instr.sureAddr, loadVar, loadCells, Sem.run_bind, Sem.run_pure, Result.andThen_ok, hagg, hsz, if_true, hl]
    exact ⟨rfl, rfl⟩
  · rw [hd]; exact h

/-- Block g holds the bytes l. -/
structure Byt (w : World) (g : Nat) (l : List UInt8) : Prop where
  lt : g < w.heap.size
  cell : ∀ i (hi : i < l.length), w.cell? ⟨g, i, none⟩ = some (.int .u8 (l[i].toNat : Int))
  free : ∀ i, w.frozen? ⟨g, i, none⟩ = false

theorem Byt.set {w : World} {g i : Nat} {l : List UInt8} (h : Byt w g l) (b : UInt8) {z : Int} (hz : z = b.toNat) : Byt (w.setCell ⟨g, i, none⟩ (.int .u8 z)) g (l.set i b) :=
  ⟨by have := h.lt; simpa [World.setCell] using this, fun j hj => by
    have hj' : j < l.length := by simpa using hj
    rw [cell_set_same w g j i _ _ (h.cell j hj')]
    by_cases e : i = j
    · subst e; rw [if_pos rfl, hz]; simp
    · rw [if_neg e, List.getElem_set_ne e], fun j => by rw [frozen_set]; exact h.free j⟩

theorem Byt.text {P : Program} {w : World} {g cap : Nat} {l : List UInt8} (h : Byt w g l) (n : Nat) (hn : l.length = n) (t d e : TypeId)
    (ht : P.underlying t = some (.slice e)) (he : P.underlying e = some (.int .u8)) (hd : P.underlying d = some .string) : (convert t d (.slice (some ⟨g, 0, none⟩) n cap)).run P w = .ok (.string ⟨l.toArray⟩) w := by
  subst hn
  exact run_convert_bytes_back w t d e ⟨g, 0, none⟩ cap l ht he hd (fun j hj => by rw [Go.WideShapes.add_plain, Nat.zero_add]; exact h.cell j hj)

theorem Byt.of_own {B : Nat} {w : World} {e : TypeId} {g n cap : Nat} {l : List UInt8} (h : w.ownsRow B e 1 (.slice (some ⟨g, 0, none⟩) n cap) n (cellsB l)) : Byt w g l := by
  have hn : l.length = n := by have := h.1; simpa [cellsB] using this
  exact ⟨(h.lt g rfl).2, fun i hi => by rw [h.cellAt i (by omega)]; simp [cellsB, hi], fun i => h.frozenAt i⟩

theorem Arr.otherB {w : World} {b c i : Nat} {l : List UInt8} (h : Byt w b l) (hne : c ≠ b) (v : Value) : Byt (w.setCell ⟨c, i, none⟩ v) b l :=
  ⟨by have := h.lt; simpa [World.setCell] using this, fun j hj => by rw [World.cell?_setCell_far _ _ _ _ hne]; exact h.cell j hj, fun j => by rw [frozen_set]; exact h.free j⟩
end Go.Proofs.YtflicklgmhgpiaaDoor.P1
