/- An array of words of 32 bits in a block of its own: read, written, left alone; no condition. -/
import Derived.Test.YtflicklgmhgpiaaDoorKit3
import Derived.Deep.RegionHeld
namespace Go.Proofs.YtflicklgmhgpiaaDoor.P1
open Go.RowKit

/-- Block b holds the words xs. -/
structure Arr (w : World) (b : Nat) (xs : List Nat) : Prop where
  lt : b < w.heap.size
  cell : ∀ i, i < xs.length → w.cell? ⟨b, i, none⟩ = some (.int .u32 (xs.getD i 0 : Nat))
  free : ∀ i, w.frozen? ⟨b, i, none⟩ = false

theorem Arr.below {w w' : World} {b B : Nat} {xs : List Nat} (h : Arr w b xs) (hb : Below B w w') (hlt : b < B) : Arr w' b xs :=
  ⟨Nat.lt_of_lt_of_le h.lt hb.size, fun i hi => by rw [hb.cell (p := ⟨b, i, none⟩) hlt]; exact h.cell i hi, fun i => by rw [hb.frozen (p := ⟨b, i, none⟩) hlt]; exact h.free i⟩

theorem Arr.drew {w : World} {b : Nat} {xs : List Nat} (h : Arr w b xs) : Arr w.drew b xs := ⟨h.lt, h.cell, h.free⟩

theorem Arr.drewN {w : World} {b : Nat} {xs : List Nat} (h : Arr w b xs) (n : Nat) : Arr (w.drewN n) b xs := ⟨h.lt, h.cell, h.free⟩

theorem frozen_set (w : World) (p q : Addr) (v : Value) : (w.setCell p v).frozen? q = w.frozen? q := by simp [go_sem]

theorem Arr.other {w : World} {b c i : Nat} {xs : List Nat} (h : Arr w b xs) (hne : c ≠ b) (v : Value) : Arr (w.setCell ⟨c, i, none⟩ v) b xs :=
  ⟨by have := h.lt; simpa [World.setCell] using this, fun j hj => by rw [World.cell?_setCell_far _ _ _ _ hne]; exact h.cell j hj, fun j => by rw [frozen_set]; exact h.free j⟩

theorem cell_set_same (w : World) (b i j : Nat) (v u : Value) (h : w.cell? ⟨b, i, none⟩ = some u) : (w.setCell ⟨b, j, none⟩ v).cell? ⟨b, i, none⟩ = some (if j = i then v else u) := by
  by_cases e : j = i
  · subst e
    rw [World.cell?_setCell_same w _ _ h, if_pos rfl]
  · rw [World.cell?_setCell_other w _ _ _ (by intro h'; cases h'; exact e rfl), if_neg e, h]

theorem Arr.set {w : World} {b i : Nat} {xs : List Nat} (h : Arr w b xs) (v : Nat) : Arr (w.setCell ⟨b, i, none⟩ (.int .u32 (v : Nat))) b (xs.set i v) :=
  ⟨by have := h.lt; simpa [World.setCell] using this, fun j hj => by
    have hj' : j < xs.length := by simpa using hj
    rw [cell_set_same w b j i _ _ (h.cell j hj')]
    by_cases e : i = j
    · subst e; simp [List.getD_eq_getElem?_getD, hj']
    · simp [List.getD_eq_getElem?_getD, e], fun j => by rw [frozen_set]; exact h.free j⟩

theorem getD_set_eq (xs : List Nat) (i v : Nat) (h : i < xs.length) : (xs.set i v).getD i 0 = v := by
  simp [List.getD_eq_getElem?_getD, h]

theorem getD_set_ne (xs : List Nat) (i j v : Nat) (h : i ≠ j) : (xs.set i v).getD j 0 = xs.getD j 0 := by
  simp [List.getD_eq_getElem?_getD, h]

/-- A block just made of words. -/
theorem Arr.new (w : World) (t : TypeId) (xs : List Nat) (cs : Array Value) (hcs : cs = (xs.map fun n => Value.int .u32 (n : Nat)).toArray) : Arr (w.alloc (.cells cs t)) w.heap.size xs := by
  have hh : (w.alloc (.cells cs t)).heap[w.heap.size]? = some (.cells cs t) := by
    show (w.heap.push _)[w.heap.size]? = _
    simp
  refine ⟨by simp, fun i hi => ?_, fun i => ?_⟩
  · have hc : (w.alloc (.cells cs t)).cell? ⟨w.heap.size, i, none⟩ = cs[i]? := by
      simp only [World.cell?, hh]
      rfl
    rw [hc, hcs]
    simp [List.getD_eq_getElem?_getD, hi]
  · simp only [World.frozen?, hh]
    simp
end Go.Proofs.YtflicklgmhgpiaaDoor.P1
