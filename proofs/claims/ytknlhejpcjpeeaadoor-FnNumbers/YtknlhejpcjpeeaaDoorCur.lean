/- The cursor of the draws: what is drawn is some number within its bounds; the cursor alone is written. -/
import Derived.Test.YtknlhejpcjpeeaaDoorRows
import Derived.Test.YtknlhejpcjpeeaaDoorKit
import Derived.Test.YtknlhejpcjpeeaaDoorFrame
import Derived.Laws.Bits128
import Derived.WalkKit
namespace Go.Proofs.YtknlhejpcjpeeaaDoor.Cu
set_option maxRecDepth 8000
open Go.RowKit P1

theorem and255 (n : Int) : bits .and .i64 n 255 = n % 256 := by
  have h255 : (BitVec.ofInt 64 255).toNat = 2 ^ 8 - 1 := by decide
  have key : (BitVec.ofInt 64 n &&& BitVec.ofInt 64 255).toNat = (n % ((2 ^ 64 : Nat) : Int)).toNat % 2 ^ 8 := by
    rw [BitVec.toNat_and, BitVec.toNat_ofInt, h255, Nat.and_two_pow_sub_one_eq_mod]
  show IntKind.i64.wrap ((BitVec.ofInt 64 n &&& BitVec.ofInt 64 255).toNat : Nat) = n % 256
  rw [key, IntKind.wrap_i64]
  omega

/-- The bytes that a cursor goes over: below B. -/
def Code (B : Nat) (w : World) (v : Value) (n : Nat) : Prop :=
  ∃ a cap, v = .slice a n cap ∧ n ≤ 1048576 ∧ ∀ j, j < n → ∃ b off, ∃ x : Int, a = some ⟨b, off, none⟩ ∧ b < B ∧ 0 ≤ x ∧ x < 256 ∧ w.cell? ⟨b, off + j, none⟩ = some (.int .u8 x)

theorem Code.below {B : Nat} {w w' : World} {v : Value} {n : Nat} (h : Code B w v n) (hb : ∀ k, k < B → w'.heap[k]? = w.heap[k]?) : Code B w' v n := by
  obtain ⟨a, cap, h1, h2, h3⟩ := h
  refine ⟨a, cap, h1, h2, fun j hj => ?_⟩
  obtain ⟨b, off, x, e1, e2, e3, e4, e5⟩ := h3 j hj
  exact ⟨b, off, x, e1, e2, e3, e4, by rw [World.cell?_of_block (w := w) (hb b e2)]; exact e5⟩

theorem Code.more {B B' : Nat} {w : World} {v : Value} {n : Nat} (h : Code B w v n) (hB : B ≤ B') : Code B' w v n := by
  obtain ⟨a, cap, h1, h2, h3⟩ := h
  refine ⟨a, cap, h1, h2, fun j hj => ?_⟩
  obtain ⟨b, off, x, e1, e2, e3⟩ := h3 j hj
  exact ⟨b, off, x, e1, by omega, e3⟩

/-- A cursor in block g, made when there were B blocks. -/
def Cur (B : Nat) (w : World) (g : Nat) : Prop :=
  B ≤ g ∧ g < w.heap.size ∧ ∃ v n, ∃ i : Nat, ∃ h : Int, Code B w v n ∧ i ≤ n ∧ w.cell? ⟨g, 0, none⟩ = some v ∧ w.cell? ⟨g, 1, none⟩ = some (.int .i64 i) ∧ w.cell? ⟨g, 2, none⟩ = some (.int .i64 h) ∧ ∀ o, w.frozen? ⟨g, o, none⟩ = false

/-- What a drawn number leaves: it is below m; the cursor is there; only its block was written. -/
def DrawnR (B g m : Nat) (w : World) (e : Ending) (w' : World) : Prop := ∃ x : Nat, x < m ∧ e = .returned (.int .i64 x) ∧ Cur B w' g ∧ w.grownBy w' (some g)

theorem grown_refl (w : World) (r : Option Nat) : w.grownBy w r := ⟨rfl, rfl, rfl, Nat.le_refl _, fun _ _ _ => rfl⟩

theorem grown_trans {a b c : World} {r : Option Nat} (h : a.grownBy b r) (k : b.grownBy c r) : a.grownBy c r :=
  ⟨k.os.trans h.os, k.tape.trans h.tape, k.output.trans h.output, Nat.le_trans h.size k.size, fun i hi hne => (k.block i (Nat.lt_of_lt_of_le hi h.size) hne).trans (h.block i hi hne)⟩

theorem grown_set (w : World) (g o : Nat) (v : Value) : w.grownBy (w.setCell ⟨g, o, none⟩ v) (some g) :=
  ⟨rfl, rfl, rfl, by simp [World.setCell], fun k _ hne => Below.heap_setCell _ _ _ _ (fun e => hne (by rw [e]))⟩

theorem grown_drew (w : World) (r : Option Nat) (k : Nat) : w.grownBy (w.drewN k) r := ⟨rfl, rfl, rfl, Nat.le_refl _, fun _ _ _ => rfl⟩

theorem below_of_grown {B g : Nat} {w w' : World} (h : w.grownBy w' (some g)) (hB : B ≤ g) (hw : B ≤ w.heap.size) : Below B w w' :=
  ⟨h.os, h.tape, h.output, h.size, fun k hk => h.block k (by omega) (fun e => by cases e; omega)⟩

theorem drawn_and {B g : Nat} {w w' : World} (m : Int) (h1 : Cur B w' g) (h2 : w.grownBy w' (some g)) : DrawnR B g 256 w (.returned (.int .i64 (bits .and .i64 m 255))) w' :=
  ⟨(m % 256).toNat, by omega, by rw [and255]; congr 2; omega, h1, h2⟩

theorem cur_move {B g : Nat} {w w1 : World} {v : Value} {n i : Nat} {z : Int} (hB : B ≤ g) (hg : g < w.heap.size) (hc : Code B w v n) (hG : w.grownBy w1 (some g)) (hi : i ≤ n)
    (d0 : w1.cell? ⟨g, 0, none⟩ = some v) (d1 : w1.cell? ⟨g, 1, none⟩ = some (.int .i64 i)) (d2 : w1.cell? ⟨g, 2, none⟩ = some (.int .i64 z)) (df : ∀ o, w1.frozen? ⟨g, o, none⟩ = false) : Cur B w1 g :=
  ⟨hB, Nat.lt_of_lt_of_le hg hG.size, v, n, i, z, hc.below (fun k hk => hG.block k (by omega) (fun e => by cases e; omega)), hi, d0, d1, d2, df⟩

set_option maxHeartbeats 400000 in
theorem byte_calls (B g : Nat) (w : World) (hc : Cur B w g) :
    Calls Tryd.prog 26 #[.pointer (some ⟨g, 0, none⟩)] w fun e w' => DrawnR B g 256 w e w' := by
  obtain ⟨hB, hg, v, n, i, h, HC, hi, c0, c1, c2, hfz⟩ := hc
  have HCo := hide HC
  obtain ⟨a, cap, rfl, hn, Hj⟩ := HC
  have Hj := hide Hj
  by_cases hlt : i < n
  · obtain ⟨b, off, x, rfl, hb, hx0, hx1, hcell⟩ := Hj.out i hlt
    have hbg : b ≠ g := by omega
    go_enter Tryd.func26, Tryd.ntmps26
    go_wp2
    obtain ⟨z, hz⟩ : ∃ z : Int, z = wrap64 (wrap64 (h * 6364136223846793005) + 1442695040888963407) := ⟨_, rfl⟩
    rw [← hz]
    clear hz
    obtain ⟨w1, hw1⟩ : ∃ w1 : World, w1 = w.setCell ⟨g, 2, none⟩ (.int .i64 z) := ⟨_, rfl⟩
    have d0 : w1.cell? ⟨g, 0, none⟩ = some (.slice (some ⟨b, off, none⟩) n cap) := by rw [hw1]; simp [go_sem, c0]
    have d1 : w1.cell? ⟨g, 1, none⟩ = some (.int .i64 i) := by rw [hw1]; simp [go_sem, c1]
    have d2 : w1.cell? ⟨g, 2, none⟩ = some (.int .i64 z) := by rw [hw1]; simp [go_sem, c2]
    have dx : w1.cell? ⟨b, off + i, none⟩ = some (.int .u8 x) := by rw [hw1]; simp [go_sem, hcell]
    have df : ∀ o, w1.frozen? ⟨g, o, none⟩ = false := by intro o; rw [hw1]; simp [go_sem, hfz]
    have HG := hide (grown_set w g 2 (.int .i64 z))
    rw [← hw1] at HG ⊢
    clear hw1 c0 c1 c2 hcell hfz
    go_quiet (fail)
    go_wp2
    go_quiet (fail)
    go_wp2
    go_quiet (fail)
    go_wp2
    go_ret
    have hG := fun k => grown_trans HG.out (grown_trans (grown_drew w1 (some g) k) (grown_set (w1.drewN k) g 1 (.int .i64 ((i : Int) + 1))))
    refine drawn_and _ (cur_move (i := i + 1) (z := z) hB hg HCo.out (hG _) (by omega) ?_ ?_ ?_ ?_) (hG _)
    · simp [go_sem, d0]
    · simp [go_sem, d1]
    · simp [go_sem, d2]
    · intro o; simp [go_sem, df]
  · go_enter Tryd.func26, Tryd.ntmps26
    go_wp2
    obtain ⟨z, hz⟩ : ∃ z : Int, z = wrap64 (wrap64 (h * 6364136223846793005) + 1442695040888963407) := ⟨_, rfl⟩
    rw [← hz]
    clear hz
    obtain ⟨w1, hw1⟩ : ∃ w1 : World, w1 = w.setCell ⟨g, 2, none⟩ (.int .i64 z) := ⟨_, rfl⟩
    have d0 : w1.cell? ⟨g, 0, none⟩ = some (.slice a n cap) := by rw [hw1]; simp [go_sem, c0]
    have d1 : w1.cell? ⟨g, 1, none⟩ = some (.int .i64 i) := by rw [hw1]; simp [go_sem, c1]
    have d2 : w1.cell? ⟨g, 2, none⟩ = some (.int .i64 z) := by rw [hw1]; simp [go_sem, c2]
    have df : ∀ o, w1.frozen? ⟨g, o, none⟩ = false := by intro o; rw [hw1]; simp [go_sem, hfz]
    have HG := hide (grown_set w g 2 (.int .i64 z))
    rw [← hw1] at HG ⊢
    clear hw1 c0 c1 c2 hfz
    go_quiet (fail)
    go_wp2
    go_quiet (fail)
    go_wp2
    go_ret
    have hG := fun k l => grown_trans HG.out (grown_trans (grown_drew w1 (some g) k) (grown_drew (w1.drewN k) (some g) l))
    refine drawn_and _ (cur_move (i := i) (z := z) hB hg HCo.out (hG _ _) (by omega) ?_ ?_ ?_ ?_) (hG _ _)
    · simp [go_sem, d0]
    · simp [go_sem, d1]
    · simp [go_sem, d2]
    · intro o; simp [go_sem, df]

theorem drawn_le {B g m n : Nat} {w w' : World} {e : Ending} (h : DrawnR B g m w e w') (hmn : m ≤ n) : DrawnR B g n w e w' := by
  obtain ⟨x, hx, h1, h2, h3⟩ := h
  exact ⟨x, by omega, h1, h2, h3⟩

set_option maxHeartbeats 400000 in
theorem below_calls (B g : Nat) (w : World) (hc : Cur B w g) (n : Nat) (hn : 0 < n) (hm : n ≤ 4294967296) :
    Calls Tryd.prog 21 #[.pointer (some ⟨g, 0, none⟩), .int .i64 n] w fun e w' => DrawnR B g n w e w' := by
  have Hc := hide hc
  clear hc
  by_cases h256 : n ≤ 256
  · go_enter Tryd.func21, Tryd.ntmps21
    go_wp2_with fail
    refine (byte_calls B g _ Hc.out).mono ?_
    rintro e w1 ⟨x, hx, rfl, hc1, hg1⟩
    have Hc1 := hide hc1
    have Hg1 := hide hg1
    clear hc1 hg1
    go_wp2
    go_ret
    exact ⟨x % n, Nat.mod_lt _ hn, by simp, Hc1.out, Hg1.out⟩
  · go_enter Tryd.func21, Tryd.ntmps21
    go_wp2_with fail
    refine (byte_calls B g _ Hc.out).mono ?_
    rintro e w1 ⟨x1, hx1, rfl, hc1, hg1⟩
    have Hc1 := hide hc1
    have Hg1 := hide hg1
    clear hc1 hg1
    go_wp2_with fail
    refine (byte_calls B g _ Hc1.out).mono ?_
    rintro e w2 ⟨x2, hx2, rfl, hc1, hg1⟩
    have Hc2 := hide hc1
    have Hg2 := hide hg1
    clear hc1 hg1
    go_wp2_with fail
    refine (byte_calls B g _ Hc2.out).mono ?_
    rintro e w3 ⟨x3, hx3, rfl, hc1, hg1⟩
    have Hc3 := hide hc1
    have Hg3 := hide hg1
    clear hc1 hg1
    go_wp2_with fail
    refine (byte_calls B g _ Hc3.out).mono ?_
    rintro e w4 ⟨x4, hx4, rfl, hc1, hg1⟩
    have Hc4 := hide hc1
    have Hg4 := hide hg1
    clear hc1 hg1
    go_wp2
    go_ret
    refine ⟨(x1 * 16777216 + x2 * 65536 + x3 * 256 + x4) % n, Nat.mod_lt _ hn, ?_, Hc4.out, grown_trans Hg1.out (grown_trans Hg2.out (grown_trans Hg3.out Hg4.out))⟩
    go_num

theorem cell_lt {w : World} {a : Addr} {v : Value} (h : w.cell? a = some v) : a.block < w.heap.size := by
  unfold World.cell? at h
  rcases Nat.lt_or_ge a.block w.heap.size with h' | h'
  · exact h'
  · rw [Array.getElem?_eq_none h'] at h; simp at h

/-- The code that comes in is one that a cursor can go over. -/
theorem code_of_row {w : World} {a : Option Addr} {len cap : Nat} {zs : List Int} (h : Frame.IsRow .u8 w a len cap zs) (hl : len ≤ 1048576) : Code w.heap.size w (.slice a len cap) len := by
  refine ⟨a, cap, rfl, hl, fun j hj => ?_⟩
  rcases h with ⟨_, h0, _⟩ | ⟨x, rfl, h1, _, h3, h4, h5⟩
  · omega
  · have hj' : j < zs.length := by omega
    obtain ⟨b, off, rfl, hc⟩ := ints_at h4 (by omega)
    have hb := bounds_u8 (h5 (zs.getD j 0) (by rw [List.getD_eq_getElem?_getD, List.getElem?_eq_getElem hj']; simp))
    exact ⟨b, off, _, rfl, cell_lt (hc j hj'), hb.1, by omega, hc j hj'⟩

theorem cur_new {w : World} {v : Value} {n : Nat} {t : TypeId} (h : Code w.heap.size w v n) (z : Int) : Cur w.heap.size (w.alloc (.cells #[v, .int .i64 0, .int .i64 z] t)) w.heap.size :=
  ⟨Nat.le_refl _, by simp, v, n, 0, z, h.below (fun k hk => Below.heap_alloc w _ k hk), Nat.zero_le _, by simp [go_sem], by simp [go_sem], by simp [go_sem], fun o => by simp [go_sem]⟩

set_option maxHeartbeats 400000 in
theorem new_calls (w : World) (a : Option Addr) (len cap : Nat) (hc : Code w.heap.size w (.slice a len cap) len) :
    Calls Tryd.prog 16 #[.slice a len cap] w fun e w' => e = .returned (.pointer (some ⟨w.heap.size, 0, none⟩)) ∧ Cur w.heap.size w' w.heap.size ∧ Below w.heap.size w w' := by
  have Hc := hide hc
  obtain ⟨a', cap', ha, hl, Hj⟩ := hc
  cases ha
  replace Hj := hide Hj
  go_enter Tryd.func16, Tryd.ntmps16
  go_wp2
  generalize (95501 + (len : Int)) = z0
  go_loop [3, 4] (fun h i => ∃ k : Nat, ∃ z : Int, k ≤ len ∧ i = .int .i64 k ∧ h = .int .i64 z) (fun _ i => len - (intOf i).toNat)
  case atStart => exact ⟨0, _, Nat.zero_le _, rfl, rfl⟩
  case round =>
    obtain ⟨k, z, hk, rfl, rfl⟩ := hrel
    by_cases hlt : k < len
    · have hk1 : decide ((k : Int) < (len : Int)) = true := by simp; omega
      by_cases h4 : k < 4000
      · have hk2 : decide ((k : Int) < 4000) = true := by simp; omega
        clear h4
        obtain ⟨b, off, x, rfl, hb, hx0, hx1, hcell⟩ := Hj.out k hlt
        go_wp2
        go_round
        case rel => exact ⟨k + 1, _, by omega, by go_num, rfl⟩
        case measure => simp [intOf]; omega
      · have hk2 : decide ((k : Int) < 4000) = false := by simp; omega
        clear h4
        go_wp2
        go_ret
        exact ⟨rfl, cur_new Hc.out z, (Below.refl _ _).alloc (Nat.le_refl _) _⟩
    · have hk1 : decide ((k : Int) < (len : Int)) = false := by simp; omega
      go_wp2
      go_ret
      exact ⟨rfl, cur_new Hc.out z, (Below.refl _ _).alloc (Nat.le_refl _) _⟩
end Go.Proofs.YtknlhejpcjpeeaaDoor.Cu
