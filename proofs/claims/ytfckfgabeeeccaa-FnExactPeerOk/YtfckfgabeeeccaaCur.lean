/- The cursor of the draws: what is drawn is some number within its bounds; the cursor alone is written. -/
import Derived.Test.YtfckfgabeeeccaaRows
import Derived.Test.YtfckfgabeeeccaaKit
import Derived.Test.YtfckfgabeeeccaaFrame
import Derived.Laws.Bits128
import Derived.WalkKit
namespace Go.Proofs.Ytfckfgabeeeccaa.Cu
open Go.RowKit P1

theorem and255 (n : Int) : bits .and .i64 n 255 = n % 256 := by
  have h255 : (BitVec.ofInt 64 255).toNat = 2 ^ 8 - 1 := by decide
  have key : (BitVec.ofInt 64 n &&& BitVec.ofInt 64 255).toNat = (n % ((2 ^ 64 : Nat) : Int)).toNat % 2 ^ 8 := by
    rw [BitVec.toNat_and, BitVec.toNat_ofInt, h255, Nat.and_two_pow_sub_one_eq_mod]
  show IntKind.i64.wrap ((BitVec.ofInt 64 n &&& BitVec.ofInt 64 255).toNat : Nat) = n % 256
  rw [key, IntKind.wrap_i64]
  omega

/-- The bytes that a cursor goes over: below B. -/
def Code (B : Nat) (w : World) (v : Value) (n : Nat) : Prop :=
  ∃ a cap, v = .slice a n cap ∧ n ≤ 1048576 ∧ ∀ j, j < n → ∃ b off, ∃ x : Int, a = some ⟨b, off, none⟩ ∧ b < B ∧ 0 ≤ x ∧ x < 256 ∧ w.cell? ⟨b, off + j, none⟩ = some (.int .u8 x)

theorem Code.below {B : Nat} {w w' : World} {v : Value} {n : Nat} (h : Code B w v n) (hb : ∀ k, k < B → w'.heap[k]? = w.heap[k]?) : Code B w' v n := by
  obtain ⟨a, cap, h1, h2, h3⟩ := h
  refine ⟨a, cap, h1, h2, fun j hj => ?_⟩
  obtain ⟨b, off, x, e1, e2, e3, e4, e5⟩ := h3 j hj
  exact ⟨b, off, x, e1, e2, e3, e4, by rw [World.cell?_of_block (w := w) (hb b e2)]; exact e5⟩

theorem Code.more {B B' : Nat} {w : World} {v : Value} {n : Nat} (h : Code B w v n) (hB : B ≤ B') : Code B' w v n := by
  obtain ⟨a, cap, h1, h2, h3⟩ := h
  refine ⟨a, cap, h1, h2, fun j hj => ?_⟩
  obtain ⟨b, off, x, e1, e2, e3⟩ := h3 j hj
  exact ⟨b, off, x, e1, by omega, e3⟩

/-- A cursor in block g, made when there were B blocks. -/
def Cur (B : Nat) (w : World) (g : Nat) : Prop :=
  B ≤ g ∧ g < w.heap.size ∧ ∃ v n, ∃ i : Nat, ∃ h : Int, Code B w v n ∧ i ≤ n ∧ w.cell? ⟨g, 0, none⟩ = some v ∧ w.cell? ⟨g, 1, none⟩ = some (.int .i64 i) ∧ w.cell? ⟨g, 2, none⟩ = some (.int .i64 h) ∧ ∀ o, w.frozen? ⟨g, o, none⟩ = false

/-- What a drawn number leaves: it is below m; the cursor is there; only its block was written. -/
def DrawnR (B g m : Nat) (w : World) (e : Ending) (w' : World) : Prop := ∃ x : Nat, x < m ∧ e = .returned (.int .i64 x) ∧ Cur B w' g ∧ w.grownBy w' (some g)

theorem grown_refl (w : World) (r : Option Nat) : w.grownBy w r := ⟨rfl, rfl, rfl, Nat.le_refl _, fun _ _ _ => rfl⟩

theorem grown_trans {a b c : World} {r : Option Nat} (h : a.grownBy b r) (k : b.grownBy c r) : a.grownBy c r :=
  ⟨k.os.trans h.os, k.tape.trans h.tape, k.output.trans h.output, Nat.le_trans h.size k.size, fun i hi hne => (k.block i (Nat.lt_of_lt_of_le hi h.size) hne).trans (h.block i hi hne)⟩

theorem grown_set (w : World) (g o : Nat) (v : Value) : w.grownBy (w.setCell ⟨g, o, none⟩ v) (some g) :=
  ⟨rfl, rfl, rfl, by simp [World.setCell], fun k _ hne => Below.heap_setCell _ _ _ _ (fun e => hne (by rw [e]))⟩

theorem grown_drew (w : World) (r : Option Nat) (k : Nat) : w.grownBy (w.drewN k) r := ⟨rfl, rfl, rfl, Nat.le_refl _, fun _ _ _ => rfl⟩

theorem below_of_grown {B g : Nat} {w w' : World} (h : w.grownBy w' (some g)) (hB : B ≤ g) (hw : B ≤ w.heap.size) : Below B w w' :=
  ⟨h.os, h.tape, h.output, h.size, fun k hk => h.block k (by omega) (fun e => by cases e; omega)⟩

theorem drawn_and {B g : Nat} {w w' : World} (m : Int) (h1 : Cur B w' g) (h2 : w.grownBy w' (some g)) : DrawnR B g 256 w (.returned (.int .i64 (bits .and .i64 m 255))) w' :=
  ⟨(m % 256).toNat, by omega, by rw [and255]; congr 2; omega, h1, h2⟩

theorem cur_move {B g : Nat} {w w1 : World} {v : Value} {n i : Nat} {z : Int} (hB : B ≤ g) (hg : g < w.heap.size) (hc : Code B w v n) (hG : w.grownBy w1 (some g)) (hi : i ≤ n)
    (d0 : w1.cell? ⟨g, 0, none⟩ = some v) (d1 : w1.cell? ⟨g, 1, none⟩ = some (.int .i64 i)) (d2 : w1.cell? ⟨g, 2, none⟩ = some (.int .i64 z)) (df : ∀ o, w1.frozen? ⟨g, o, none⟩ = false) : Cur B w1 g :=
  ⟨hB, Nat.lt_of_lt_of_le hg hG.size, v, n, i, z, hc.below (fun k hk => hG.block k (by omega) (fun e => by cases e; omega)), hi, d0, d1, d2, df⟩

theorem drawn_le {B g m n : Nat} {w w' : World} {e : Ending} (h : DrawnR B g m w e w') (hmn : m ≤ n) : DrawnR B g n w e w' := by
  obtain ⟨x, hx, h1, h2, h3⟩ := h
  exact ⟨x, by omega, h1, h2, h3⟩

theorem cell_lt {w : World} {a : Addr} {v : Value} (h : w.cell? a = some v) : a.block < w.heap.size := by
  unfold World.cell? at h
  rcases Nat.lt_or_ge a.block w.heap.size with h' | h'
  · exact h'
  · rw [Array.getElem?_eq_none h'] at h; simp at h

/-- The code that comes in is one that a cursor can go over. -/
theorem code_of_row {w : World} {a : Option Addr} {len cap : Nat} {zs : List Int} (h : Frame.IsRow .u8 w a len cap zs) (hl : len ≤ 1048576) : Code w.heap.size w (.slice a len cap) len := by
  refine ⟨a, cap, rfl, hl, fun j hj => ?_⟩
  rcases h with ⟨_, h0, _⟩ | ⟨x, rfl, h1, _, h3, h4, h5⟩
  · omega
  · have hj' : j < zs.length := by omega
    obtain ⟨b, off, rfl, hc⟩ := ints_at h4 (by omega)
    have hb := bounds_u8 (h5 (zs.getD j 0) (by rw [List.getD_eq_getElem?_getD, List.getElem?_eq_getElem hj']; simp))
    exact ⟨b, off, _, rfl, cell_lt (hc j hj'), hb.1, by omega, hc j hj'⟩

theorem cur_new {w : World} {v : Value} {n : Nat} {t : TypeId} (h : Code w.heap.size w v n) (z : Int) : Cur w.heap.size (w.alloc (.cells #[v, .int .i64 0, .int .i64 z] t)) w.heap.size :=
  ⟨Nat.le_refl _, by simp, v, n, 0, z, h.below (fun k hk => Below.heap_alloc w _ k hk), Nat.zero_le _, by simp [go_sem], by simp [go_sem], by simp [go_sem], fun o => by simp [go_sem]⟩
end Go.Proofs.Ytfckfgabeeeccaa.Cu
