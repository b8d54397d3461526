/- The draws that pick out of a written list: some member of it; only the cursor is written. -/
import Derived.Test.YtknlhejpcjpeeaaDoorDraw
import Derived.Test.YtknlhejpcjpeeaaDoorIntS
namespace Go.Proofs.YtknlhejpcjpeeaaDoor.Cu
set_option maxRecDepth 8000
open Go.RowKit P1

/-- What a pick leaves. -/
def PickR (B g : Nat) (l : List Int) (w : World) (e : Ending) (w' : World) : Prop := ∃ x, x ∈ l ∧ e = .returned (.int .i64 x) ∧ Cur B w' g ∧ w.grownBy w' (some g)

/-- A world with something more. -/
def grown_ok (w w1 : World) : Prop := Below w.heap.size w w1

theorem grown_ok.then_ {w w1 w2 : World} {r : Option Nat} (h : grown_ok w w1) (k : w1.grownBy w2 r) : w.grownBy w2 r :=
  ⟨k.os.trans h.os, k.tape.trans h.tape, k.output.trans h.output, Nat.le_trans h.size k.size, fun i hi hne => (k.block i (Nat.lt_of_lt_of_le hi h.size) hne).trans (h.block i hi)⟩

set_option maxHeartbeats 400000 in
theorem pick_calls (B g : Nat) (w : World) (hc : Cur B w g) (l : List Int) (hl0 : 0 < l.length) (hl : l.length ≤ 65536) (n : Nat) (hn : n = l.length) (cs : Array Value) (hcs : cs = (cellsI l).toArray) :
    Calls Tryd.prog 24 #[.pointer (some ⟨g, 0, none⟩), .slice (some ⟨w.heap.size, 0, none⟩) n n] (w.alloc (.cells cs 3)) fun e w' => PickR B g l w e w' := by
  have hg := hc.2.1
  have hb : Below w.heap.size w (w.alloc (.cells cs 3)) := (Below.refl _ _).alloc (Nat.le_refl _) _
  have hc2 := cur_below hc hb hg
  have hcell : ∀ j (hj : j < l.length), (w.alloc (.cells cs 3)).cell? ⟨w.heap.size, j, none⟩ = some (.int .i64 l[j]) := by
    intro j hj
    have hh : (w.alloc (.cells cs 3)).heap[w.heap.size]? = some (.cells cs 3) := by
      show (w.heap.push _)[w.heap.size]? = _
      simp
    have hc : (w.alloc (.cells cs 3)).cell? ⟨w.heap.size, j, none⟩ = cs[j]? := by
      simp only [World.cell?, hh]
      rfl
    rw [hc, hcs]
    simp [cellsI, hj]
  obtain ⟨gl, hgl⟩ : ∃ gl, gl = w.heap.size := ⟨_, rfl⟩
  have hglt : gl < (w.alloc (.cells cs 3)).heap.size := by rw [hgl]; simp
  have hgg : grown_ok w (w.alloc (.cells cs 3)) := hb
  obtain ⟨w1, hw1⟩ : ∃ w1, w1 = w.alloc (.cells cs 3) := ⟨_, rfl⟩
  rw [← hw1] at hc2 hcell hglt hgg ⊢
  have hne : gl ≠ g := by omega
  rw [← hgl] at hcell ⊢
  have HC := hide hc2
  have HCell := hide hcell
  have HG := hide hgg
  clear hb hc hcell hgg hw1 hgl hc2 hcs
  subst hn
  go_enter Tryd.func24, Tryd.ntmps24
  go_wp2_with fail
  refine (below_calls B g _ HC.out l.length hl0 (by omega)).mono ?_
  rintro e w2 ⟨x, hx, rfl, hc2, hg2⟩
  have hcx := HCell.out x hx
  have hcx2 : w2.cell? ⟨gl, x, none⟩ = some (.int .i64 l[x]) := by
    rw [World.cell?_of_block (w := w1) (hg2.block gl hglt (by intro h; cases h; exact hne rfl))]
    exact hcx
  have hmem : l[x] ∈ l := List.getElem_mem _
  have HC2 := hide hc2
  have HG2 := hide hg2
  have HME := hide hmem
  clear hc2 hg2 hcx hmem
  go_wp2
  go_ret
  exact ⟨l[x], HME.out, rfl, HC2.out, HG.out.then_ HG2.out⟩
end Go.Proofs.YtknlhejpcjpeeaaDoor.Cu
