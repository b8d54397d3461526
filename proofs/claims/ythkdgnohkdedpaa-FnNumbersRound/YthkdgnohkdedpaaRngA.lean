/- The draws of chapter 8: ids of a ring, and what the laws draw by them; what is drawn is some of its kind, in memory of its own. -/
import Derived.Test.YthkdgnohkdedpaaRng9
import Derived.Test.YthkdgnohkdedpaaBlk
namespace Go.Proofs.Ythkdgnohkdedpaa.P8
set_option maxRecDepth 8000
open Go.RowKit P1 Cu

/-- The five lists of ids that a ring is drawn from. -/
def starts : List (List Int) := [[10, 80, 150, 220, 30, 100, 200, 250], [1, 2, 3, 4, 5, 6, 7, 8], [250, 5, 60, 130, 255, 0, 90, 128], [64, 128, 192, 0, 32, 96], [9, 99, 199, 249]]

theorem own_of_blk {w : World} {B b : Nat} {l : List Int} {cs : List Value} (h : Blk w b cs 3) (hcs : cs = cellsI l) (hB : B ≤ b) (hl : l.length ≤ maxLen) : w.ownsRow B 3 1 (.slice (some ⟨b, 0, none⟩) l.length l.length) l.length (cellsI l) := by
  subst hcs
  refine ⟨by simp [cellsI], .inr ⟨b, l.length, (cellsI l).toArray, rfl, hB, h, Nat.le_refl _, hl, by simp [cellsI], ?_⟩⟩
  rw [Nat.mul_one]
  show (cellsI l).take l.length = cellsI l
  rw [List.take_of_length_le (by rw [cellsI_length]; exact Nat.le_refl _)]

theorem Cu_blk {w w' : World} {b g : Nat} {cs : List Value} {t : TypeId} (h : Blk w b cs t) (hg : w.grownBy w' (some g)) (hne : b ≠ g) : Blk w' b cs t := by
  have hlt := h.lt
  unfold Blk at h ⊢
  rw [hg.block b hlt (fun e => hne (by simpa using e))]
  exact h

/-- What drawn ids of a ring leave. -/
def StartR (B g : Nat) (w : World) (e : Ending) (w' : World) : Prop := ∃ v l, l ∈ starts ∧ e = .returned v ∧ w'.ownsRow w.heap.size 3 1 v l.length (cellsI l) ∧ Cur B w' g ∧ w.grownBy w' (some g)

set_option maxHeartbeats 2000000 in
theorem start_calls (B g : Nat) (w : World) (hc : Cur B w g) :
    Calls Try.prog 51 #[.pointer (some ⟨g, 0, none⟩)] w fun e w' => StartR B g w e w' := by
  have hgw := hc.2.1
  have b0 := Blk.new w #[.int .i64 10, .int .i64 80, .int .i64 150, .int .i64 220, .int .i64 30, .int .i64 100, .int .i64 200, .int .i64 250] 3
  replace b0 := b0.below ((Below.refl _ _).alloc (Nat.le_refl _) (.cells #[.int .i64 1, .int .i64 2, .int .i64 3, .int .i64 4, .int .i64 5, .int .i64 6, .int .i64 7, .int .i64 8] 3)) b0.lt
  replace b0 := b0.below ((Below.refl _ _).alloc (Nat.le_refl _) (.cells #[.int .i64 250, .int .i64 5, .int .i64 60, .int .i64 130, .int .i64 255, .int .i64 0, .int .i64 90, .int .i64 128] 3)) b0.lt
  replace b0 := b0.below ((Below.refl _ _).alloc (Nat.le_refl _) (.cells #[.int .i64 64, .int .i64 128, .int .i64 192, .int .i64 0, .int .i64 32, .int .i64 96] 3)) b0.lt
  replace b0 := b0.below ((Below.refl _ _).alloc (Nat.le_refl _) (.cells #[.int .i64 9, .int .i64 99, .int .i64 199, .int .i64 249] 3)) b0.lt
  replace b0 := b0.below ((Below.refl _ _).alloc (Nat.le_refl _) (.cells #[.slice (some ⟨w.heap.size, 0, none⟩) 8 8, .slice (some ⟨w.heap.size + 1, 0, none⟩) 8 8, .slice (some ⟨w.heap.size + 2, 0, none⟩) 8 8, .slice (some ⟨w.heap.size + 3, 0, none⟩) 6 6, .slice (some ⟨w.heap.size + 4, 0, none⟩) 4 4] 24)) b0.lt
  have b1 := Blk.new (w.alloc (.cells #[.int .i64 10, .int .i64 80, .int .i64 150, .int .i64 220, .int .i64 30, .int .i64 100, .int .i64 200, .int .i64 250] 3)) #[.int .i64 1, .int .i64 2, .int .i64 3, .int .i64 4, .int .i64 5, .int .i64 6, .int .i64 7, .int .i64 8] 3
  rw [show (w.alloc (.cells #[.int .i64 10, .int .i64 80, .int .i64 150, .int .i64 220, .int .i64 30, .int .i64 100, .int .i64 200, .int .i64 250] 3)).heap.size = w.heap.size + 1 from by simp [go_sem]] at b1
  replace b1 := b1.below ((Below.refl _ _).alloc (Nat.le_refl _) (.cells #[.int .i64 250, .int .i64 5, .int .i64 60, .int .i64 130, .int .i64 255, .int .i64 0, .int .i64 90, .int .i64 128] 3)) b1.lt
  replace b1 := b1.below ((Below.refl _ _).alloc (Nat.le_refl _) (.cells #[.int .i64 64, .int .i64 128, .int .i64 192, .int .i64 0, .int .i64 32, .int .i64 96] 3)) b1.lt
  replace b1 := b1.below ((Below.refl _ _).alloc (Nat.le_refl _) (.cells #[.int .i64 9, .int .i64 99, .int .i64 199, .int .i64 249] 3)) b1.lt
  replace b1 := b1.below ((Below.refl _ _).alloc (Nat.le_refl _) (.cells #[.slice (some ⟨w.heap.size, 0, none⟩) 8 8, .slice (some ⟨w.heap.size + 1, 0, none⟩) 8 8, .slice (some ⟨w.heap.size + 2, 0, none⟩) 8 8, .slice (some ⟨w.heap.size + 3, 0, none⟩) 6 6, .slice (some ⟨w.heap.size + 4, 0, none⟩) 4 4] 24)) b1.lt
  have b2 := Blk.new ((w.alloc (.cells #[.int .i64 10, .int .i64 80, .int .i64 150, .int .i64 220, .int .i64 30, .int .i64 100, .int .i64 200, .int .i64 250] 3)).alloc (.cells #[.int .i64 1, .int .i64 2, .int .i64 3, .int .i64 4, .int .i64 5, .int .i64 6, .int .i64 7, .int .i64 8] 3)) #[.int .i64 250, .int .i64 5, .int .i64 60, .int .i64 130, .int .i64 255, .int .i64 0, .int .i64 90, .int .i64 128] 3
  rw [show ((w.alloc (.cells #[.int .i64 10, .int .i64 80, .int .i64 150, .int .i64 220, .int .i64 30, .int .i64 100, .int .i64 200, .int .i64 250] 3)).alloc (.cells #[.int .i64 1, .int .i64 2, .int .i64 3, .int .i64 4, .int .i64 5, .int .i64 6, .int .i64 7, .int .i64 8] 3)).heap.size = w.heap.size + 2 from by simp [go_sem]] at b2
  replace b2 := b2.below ((Below.refl _ _).alloc (Nat.le_refl _) (.cells #[.int .i64 64, .int .i64 128, .int .i64 192, .int .i64 0, .int .i64 32, .int .i64 96] 3)) b2.lt
  replace b2 := b2.below ((Below.refl _ _).alloc (Nat.le_refl _) (.cells #[.int .i64 9, .int .i64 99, .int .i64 199, .int .i64 249] 3)) b2.lt
  replace b2 := b2.below ((Below.refl _ _).alloc (Nat.le_refl _) (.cells #[.slice (some ⟨w.heap.size, 0, none⟩) 8 8, .slice (some ⟨w.heap.size + 1, 0, none⟩) 8 8, .slice (some ⟨w.heap.size + 2, 0, none⟩) 8 8, .slice (some ⟨w.heap.size + 3, 0, none⟩) 6 6, .slice (some ⟨w.heap.size + 4, 0, none⟩) 4 4] 24)) b2.lt
  have b3 := Blk.new (((w.alloc (.cells #[.int .i64 10, .int .i64 80, .int .i64 150, .int .i64 220, .int .i64 30, .int .i64 100, .int .i64 200, .int .i64 250] 3)).alloc (.cells #[.int .i64 1, .int .i64 2, .int .i64 3, .int .i64 4, .int .i64 5, .int .i64 6, .int .i64 7, .int .i64 8] 3)).alloc (.cells #[.int .i64 250, .int .i64 5, .int .i64 60, .int .i64 130, .int .i64 255, .int .i64 0, .int .i64 90, .int .i64 128] 3)) #[.int .i64 64, .int .i64 128, .int .i64 192, .int .i64 0, .int .i64 32, .int .i64 96] 3
  rw [show (((w.alloc (.cells #[.int .i64 10, .int .i64 80, .int .i64 150, .int .i64 220, .int .i64 30, .int .i64 100, .int .i64 200, .int .i64 250] 3)).alloc (.cells #[.int .i64 1, .int .i64 2, .int .i64 3, .int .i64 4, .int .i64 5, .int .i64 6, .int .i64 7, .int .i64 8] 3)).alloc (.cells #[.int .i64 250, .int .i64 5, .int .i64 60, .int .i64 130, .int .i64 255, .int .i64 0, .int .i64 90, .int .i64 128] 3)).heap.size = w.heap.size + 3 from by simp [go_sem]] at b3
  replace b3 := b3.below ((Below.refl _ _).alloc (Nat.le_refl _) (.cells #[.int .i64 9, .int .i64 99, .int .i64 199, .int .i64 249] 3)) b3.lt
  replace b3 := b3.below ((Below.refl _ _).alloc (Nat.le_refl _) (.cells #[.slice (some ⟨w.heap.size, 0, none⟩) 8 8, .slice (some ⟨w.heap.size + 1, 0, none⟩) 8 8, .slice (some ⟨w.heap.size + 2, 0, none⟩) 8 8, .slice (some ⟨w.heap.size + 3, 0, none⟩) 6 6, .slice (some ⟨w.heap.size + 4, 0, none⟩) 4 4] 24)) b3.lt
  have b4 := Blk.new ((((w.alloc (.cells #[.int .i64 10, .int .i64 80, .int .i64 150, .int .i64 220, .int .i64 30, .int .i64 100, .int .i64 200, .int .i64 250] 3)).alloc (.cells #[.int .i64 1, .int .i64 2, .int .i64 3, .int .i64 4, .int .i64 5, .int .i64 6, .int .i64 7, .int .i64 8] 3)).alloc (.cells #[.int .i64 250, .int .i64 5, .int .i64 60, .int .i64 130, .int .i64 255, .int .i64 0, .int .i64 90, .int .i64 128] 3)).alloc (.cells #[.int .i64 64, .int .i64 128, .int .i64 192, .int .i64 0, .int .i64 32, .int .i64 96] 3)) #[.int .i64 9, .int .i64 99, .int .i64 199, .int .i64 249] 3
  rw [show ((((w.alloc (.cells #[.int .i64 10, .int .i64 80, .int .i64 150, .int .i64 220, .int .i64 30, .int .i64 100, .int .i64 200, .int .i64 250] 3)).alloc (.cells #[.int .i64 1, .int .i64 2, .int .i64 3, .int .i64 4, .int .i64 5, .int .i64 6, .int .i64 7, .int .i64 8] 3)).alloc (.cells #[.int .i64 250, .int .i64 5, .int .i64 60, .int .i64 130, .int .i64 255, .int .i64 0, .int .i64 90, .int .i64 128] 3)).alloc (.cells #[.int .i64 64, .int .i64 128, .int .i64 192, .int .i64 0, .int .i64 32, .int .i64 96] 3)).heap.size = w.heap.size + 4 from by simp [go_sem]] at b4
  replace b4 := b4.below ((Below.refl _ _).alloc (Nat.le_refl _) (.cells #[.slice (some ⟨w.heap.size, 0, none⟩) 8 8, .slice (some ⟨w.heap.size + 1, 0, none⟩) 8 8, .slice (some ⟨w.heap.size + 2, 0, none⟩) 8 8, .slice (some ⟨w.heap.size + 3, 0, none⟩) 6 6, .slice (some ⟨w.heap.size + 4, 0, none⟩) 4 4] 24)) b4.lt
  have bS := Blk.new (((((w.alloc (.cells #[.int .i64 10, .int .i64 80, .int .i64 150, .int .i64 220, .int .i64 30, .int .i64 100, .int .i64 200, .int .i64 250] 3)).alloc (.cells #[.int .i64 1, .int .i64 2, .int .i64 3, .int .i64 4, .int .i64 5, .int .i64 6, .int .i64 7, .int .i64 8] 3)).alloc (.cells #[.int .i64 250, .int .i64 5, .int .i64 60, .int .i64 130, .int .i64 255, .int .i64 0, .int .i64 90, .int .i64 128] 3)).alloc (.cells #[.int .i64 64, .int .i64 128, .int .i64 192, .int .i64 0, .int .i64 32, .int .i64 96] 3)).alloc (.cells #[.int .i64 9, .int .i64 99, .int .i64 199, .int .i64 249] 3)) #[.slice (some ⟨w.heap.size, 0, none⟩) 8 8, .slice (some ⟨w.heap.size + 1, 0, none⟩) 8 8, .slice (some ⟨w.heap.size + 2, 0, none⟩) 8 8, .slice (some ⟨w.heap.size + 3, 0, none⟩) 6 6, .slice (some ⟨w.heap.size + 4, 0, none⟩) 4 4] 24
  rw [show (((((w.alloc (.cells #[.int .i64 10, .int .i64 80, .int .i64 150, .int .i64 220, .int .i64 30, .int .i64 100, .int .i64 200, .int .i64 250] 3)).alloc (.cells #[.int .i64 1, .int .i64 2, .int .i64 3, .int .i64 4, .int .i64 5, .int .i64 6, .int .i64 7, .int .i64 8] 3)).alloc (.cells #[.int .i64 250, .int .i64 5, .int .i64 60, .int .i64 130, .int .i64 255, .int .i64 0, .int .i64 90, .int .i64 128] 3)).alloc (.cells #[.int .i64 64, .int .i64 128, .int .i64 192, .int .i64 0, .int .i64 32, .int .i64 96] 3)).alloc (.cells #[.int .i64 9, .int .i64 99, .int .i64 199, .int .i64 249] 3)).heap.size = w.heap.size + 5 from by simp [go_sem]] at bS
  have hb : Below w.heap.size w ((((((w.alloc (.cells #[.int .i64 10, .int .i64 80, .int .i64 150, .int .i64 220, .int .i64 30, .int .i64 100, .int .i64 200, .int .i64 250] 3)).alloc (.cells #[.int .i64 1, .int .i64 2, .int .i64 3, .int .i64 4, .int .i64 5, .int .i64 6, .int .i64 7, .int .i64 8] 3)).alloc (.cells #[.int .i64 250, .int .i64 5, .int .i64 60, .int .i64 130, .int .i64 255, .int .i64 0, .int .i64 90, .int .i64 128] 3)).alloc (.cells #[.int .i64 64, .int .i64 128, .int .i64 192, .int .i64 0, .int .i64 32, .int .i64 96] 3)).alloc (.cells #[.int .i64 9, .int .i64 99, .int .i64 199, .int .i64 249] 3)).alloc (.cells #[.slice (some ⟨w.heap.size, 0, none⟩) 8 8, .slice (some ⟨w.heap.size + 1, 0, none⟩) 8 8, .slice (some ⟨w.heap.size + 2, 0, none⟩) 8 8, .slice (some ⟨w.heap.size + 3, 0, none⟩) 6 6, .slice (some ⟨w.heap.size + 4, 0, none⟩) 4 4] 24)) := (((((((Below.refl w.heap.size w).alloc (Nat.le_refl _) _).alloc (by simp) _).alloc (by simp; omega) _).alloc (by simp; omega) _).alloc (by simp; omega) _).alloc (by simp; omega) _)
  have HC := hide (cur_below hc hb hgw)
  have HG := hide (grown_more (grown_refl w (some g)) hb (Nat.le_refl _))
  clear hc hb
  go_enter Try.func51, Try.ntmps51
  go_wp2_with fail
  generalize ((((((w.alloc (.cells #[.int .i64 10, .int .i64 80, .int .i64 150, .int .i64 220, .int .i64 30, .int .i64 100, .int .i64 200, .int .i64 250] 3)).alloc (.cells #[.int .i64 1, .int .i64 2, .int .i64 3, .int .i64 4, .int .i64 5, .int .i64 6, .int .i64 7, .int .i64 8] 3)).alloc (.cells #[.int .i64 250, .int .i64 5, .int .i64 60, .int .i64 130, .int .i64 255, .int .i64 0, .int .i64 90, .int .i64 128] 3)).alloc (.cells #[.int .i64 64, .int .i64 128, .int .i64 192, .int .i64 0, .int .i64 32, .int .i64 96] 3)).alloc (.cells #[.int .i64 9, .int .i64 99, .int .i64 199, .int .i64 249] 3)).alloc (.cells #[.slice (some ⟨w.heap.size, 0, none⟩) 8 8, .slice (some ⟨w.heap.size + 1, 0, none⟩) 8 8, .slice (some ⟨w.heap.size + 2, 0, none⟩) 8 8, .slice (some ⟨w.heap.size + 3, 0, none⟩) 6 6, .slice (some ⟨w.heap.size + 4, 0, none⟩) 4 4] 24)) = w6 at *
  refine (below_calls B g w6 HC.out 5 (by decide) (by decide)).mono ?_
  rintro e w7 ⟨x, hx, rfl, hc7, hg7⟩
  have HC7 := hide hc7
  have HG7 := hide (grown_trans HG.out hg7)
  have hsz : w.heap.size ≤ w7.heap.size := HG7.out.size
  have B0 := hide (Cu_blk b0 hg7 (by omega))
  have B1 := hide (Cu_blk b1 hg7 (by omega))
  have B2 := hide (Cu_blk b2 hg7 (by omega))
  have B3 := hide (Cu_blk b3 hg7 (by omega))
  have B4 := hide (Cu_blk b4 hg7 (by omega))
  have hS := Cu_blk bS hg7 (by omega)
  have lS := hS.lt
  clear hc7 hg7 HC HG b0 b1 b2 b3 b4 bS
  have h5 : x = 0 ∨ x = 1 ∨ x = 2 ∨ x = 3 ∨ x = 4 := by omega
  rcases h5 with rfl | rfl | rfl | rfl | rfl
  · have c5 : w7.cell? ⟨w.heap.size + 5, 0, none⟩ = some (.slice (some ⟨w.heap.size, 0, none⟩) 8 8) := by rw [hS.cell 0]; rfl
    clear hS
    go_wp2_with fail
    go_ret
    exact ⟨_, [10, 80, 150, 220, 30, 100, 200, 250], by decide, rfl, own_of_blk B0.out rfl (by omega) (by decide), HC7.out, HG7.out⟩
  · have c5 : w7.cell? ⟨w.heap.size + 5, 1, none⟩ = some (.slice (some ⟨w.heap.size + 1, 0, none⟩) 8 8) := by rw [hS.cell 1]; rfl
    clear hS
    go_wp2_with fail
    go_ret
    exact ⟨_, [1, 2, 3, 4, 5, 6, 7, 8], by decide, rfl, own_of_blk B1.out rfl (by omega) (by decide), HC7.out, HG7.out⟩
  · have c5 : w7.cell? ⟨w.heap.size + 5, 2, none⟩ = some (.slice (some ⟨w.heap.size + 2, 0, none⟩) 8 8) := by rw [hS.cell 2]; rfl
    clear hS
    go_wp2_with fail
    go_ret
    exact ⟨_, [250, 5, 60, 130, 255, 0, 90, 128], by decide, rfl, own_of_blk B2.out rfl (by omega) (by decide), HC7.out, HG7.out⟩
  · have c5 : w7.cell? ⟨w.heap.size + 5, 3, none⟩ = some (.slice (some ⟨w.heap.size + 3, 0, none⟩) 6 6) := by rw [hS.cell 3]; rfl
    clear hS
    go_wp2_with fail
    go_ret
    exact ⟨_, [64, 128, 192, 0, 32, 96], by decide, rfl, own_of_blk B3.out rfl (by omega) (by decide), HC7.out, HG7.out⟩
  · have c5 : w7.cell? ⟨w.heap.size + 5, 4, none⟩ = some (.slice (some ⟨w.heap.size + 4, 0, none⟩) 4 4) := by rw [hS.cell 4]; rfl
    clear hS
    go_wp2_with fail
    go_ret
    exact ⟨_, [9, 99, 199, 249], by decide, rfl, own_of_blk B4.out rfl (by omega) (by decide), HC7.out, HG7.out⟩

set_option maxHeartbeats 400000 in
theorem drawIds_calls (w : World) (a : Option Addr) (len cap : Nat) (hc : Cu.Code w.heap.size w (.slice a len cap) len) :
    Calls Try.prog 13 #[.slice a len cap] w fun e w' => ∃ v l, l ∈ starts ∧ e = .returned v ∧ w'.ownsRow w.heap.size 3 1 v l.length (cellsI l) ∧ Below w.heap.size w w' := by
  have HC := hide hc
  clear hc
  go_enter Try.func13, Try.ntmps13
  go_wp2_with fail
  refine (new_calls _ a len cap HC.out).mono ?_
  rintro e w1 ⟨rfl, hc1, hb1⟩
  have HC1 := hide hc1
  have HB1 := hide hb1
  clear hc1 hb1
  go_wp2_with fail
  refine (start_calls _ _ w1 HC1.out).mono ?_
  rintro e w2 ⟨v, l, hl, rfl, ho, hc2, hg2⟩
  have HL := hide hl
  have HO := hide (own_mono ho HB1.out.size)
  have HB := hide (HB1.out.trans (below_of_grown hg2 (Nat.le_refl _) HB1.out.size))
  clear hl ho hc2 hg2 HB1 HC1 HC
  go_wp2_with fail
  go_ret
  exact ⟨_, l, HL.out, rfl, HO.out, HB.out⟩

set_option maxHeartbeats 400000 in
theorem drawBetween_calls (w : World) (a : Option Addr) (len cap : Nat) (hc : Cu.Code w.heap.size w (.slice a len cap) len) :
    Calls Try.prog 18 #[.slice a len cap] w fun e w' => ∃ x y z : Int, e = .returned (.tuple #[.int .i64 x, .int .i64 y, .int .i64 z]) ∧ Below w.heap.size w w' := by
  have HC := hide hc
  clear hc
  go_enter Try.func18, Try.ntmps18
  go_wp2_with fail
  refine (new_calls _ a len cap HC.out).mono ?_
  rintro e w1 ⟨rfl, hc1, hb1⟩
  have HC1 := hide hc1
  have HB1 := hide hb1
  clear hc1 hb1 HC
  go_wp2_with fail
  refine (num_calls _ _ w1 HC1.out).mono ?_
  rintro e w2 ⟨x, rfl, hc2, hg2⟩
  have HC2 := hide hc2
  have HB2 := hide (HB1.out.trans (below_of_grown hg2 (Nat.le_refl _) HB1.out.size))
  clear hc2 hg2 HB1 HC1
  go_wp2_with fail
  refine (num_calls _ _ w2 HC2.out).mono ?_
  rintro e w3 ⟨y, rfl, hc3, hg3⟩
  have HC3 := hide hc3
  have HB3 := hide (HB2.out.trans (below_of_grown hg3 (Nat.le_refl _) HB2.out.size))
  clear hc3 hg3 HB2 HC2
  go_wp2_with fail
  refine (num_calls _ _ w3 HC3.out).mono ?_
  rintro e w4 ⟨z, rfl, hc4, hg4⟩
  have HB4 := hide (HB3.out.trans (below_of_grown hg4 (Nat.le_refl _) HB3.out.size))
  clear hc4 hg4 HB3 HC3
  go_wp2_with fail
  go_ret3
  exact ⟨x, y, z, rfl, HB4.out⟩

/-- What drawn ids and one more number leave. -/
def PairR (w : World) (e : Ending) (w' : World) : Prop := ∃ v l, ∃ x : Int, l.length ≤ 8 ∧ e = .returned (.tuple #[v, .int .i64 x]) ∧ w'.ownsRow w.heap.size 3 1 v l.length (cellsI l) ∧ Below w.heap.size w w'

set_option maxHeartbeats 400000 in
theorem drawOwner_calls (w : World) (a : Option Addr) (len cap : Nat) (hc : Cu.Code w.heap.size w (.slice a len cap) len) :
    Calls Try.prog 19 #[.slice a len cap] w fun e w' => PairR w e w' := by
  have HC := hide hc
  clear hc
  go_enter Try.func19, Try.ntmps19
  go_wp2_with fail
  refine (new_calls _ a len cap HC.out).mono ?_
  rintro e w1 ⟨rfl, hc1, hb1⟩
  have HC1 := hide hc1
  have HB1 := hide hb1
  clear hc1 hb1 HC
  go_wp2_with fail
  refine (num_calls _ _ w1 HC1.out).mono ?_
  rintro e w2 ⟨x, rfl, hc2, hg2⟩
  have HC2 := hide hc2
  have HB2 := hide (HB1.out.trans (below_of_grown hg2 (Nat.le_refl _) HB1.out.size))
  clear hc2 hg2 HB1 HC1
  go_wp2_with fail
  refine (ids_calls _ _ w2 HC2.out).mono ?_
  rintro e w3 ⟨v, l, hl, rfl, ho, hc3, hg3⟩
  have HO := hide (own_mono ho HB2.out.size)
  have HB3 := hide (HB2.out.trans (below_of_grown hg3 (Nat.le_refl _) HB2.out.size))
  clear ho hc3 hg3 HB2 HC2
  go_wp2_with fail
  go_ret2
  exact ⟨v, l, x, by omega, rfl, HO.out, HB3.out⟩

set_option maxHeartbeats 1000000 in
theorem drawOrdered_calls (w : World) (a : Option Addr) (len cap : Nat) (hc : Cu.Code w.heap.size w (.slice a len cap) len) :
    Calls Try.prog 20 #[.slice a len cap] w fun e w' => PairR w e w' := by
  obtain ⟨i0, hi, hz0, hz1, hz2⟩ := info_parts info_int
  have HC := hide hc
  clear hc
  go_enter Try.func20, Try.ntmps20
  go_wp2_with fail
  refine (new_calls _ a len cap HC.out).mono ?_
  rintro e w1 ⟨rfl, hc1, hb1⟩
  have HC1 := hide hc1
  have HB1 := hide hb1
  have hg1 := hc1.2.1
  clear hc1 hb1 HC
  go_wp2_with fail
  refine (ids_calls _ _ w1 HC1.out).mono ?_
  rintro e w2 ⟨v, l, hl, rfl, ho, hc2, hg2⟩
  have HC2 := hide hc2
  have HO2 := hide ho
  have HB2 := hide (HB1.out.trans (below_of_grown hg2 (Nat.le_refl _) HB1.out.size))
  have hs2 : w1.heap.size ≤ w2.heap.size := hg2.size
  have hs1 := HB1.out.size
  clear hc2 ho hg2 HC1 HB1
  obtain ⟨av, cv, hsh⟩ := own_sh HO2.out
  subst hsh
  by_cases h0 : 0 < l.length
  · go_wp2_with fail
    refine (once8_calls _ _ w2 HC2.out 2 (by decide) (by decide)).mono ?_
    rintro e w3 ⟨b, rfl, hc3, hg3⟩
    have HC3 := hide hc3
    have HO3 := hide (own_kept HO2.out hg3 hg1)
    have HB3 := hide (HB2.out.trans (below_of_grown hg3 (Nat.le_refl _) HB2.out.size))
    have hs3 : w1.heap.size ≤ w3.heap.size := Nat.le_trans hs2 hg3.size
    clear hc3 hg3 HC2 HO2 HB2
    cases b with
    | true =>
      obtain ⟨a2, c2, hsh, HA⟩ := IntsAt.of_own HO3.out
      cases hsh
      obtain ⟨ga, oa, rfl, ha2, ha3⟩ := HA 0 h0
      rw [Nat.add_zero] at ha3
      clear HA
      generalize l[0] = y at *
      go_wp2_with (at_builtin; refine wpList_append_one (cs := #[.int .i64 y]) (Below.refl w1.heap.size _) hs3 rfl (.tmp 17) (.tmp 21) 24 rfl 3 i0 (.int .i64 0) 1 8 Try.underlying24 hi hz0 hz1 hz2 rfl (by decide) rfl (by simp [Value.oneCell']) _ _ _ rfl HO3.out 1 rfl (by omega) (by omega) ?_)
      intro v' w5 hown5 hbel5
      have HO5 := hide (own_snocI hown5)
      have HB5 := hide (HB3.out.trans (hbel5.mono hs1))
      have hl5 : (l ++ [y]).length ≤ 8 := by simp; omega
      clear hown5 hbel5 HO3 HC3 HB3 ha3 ha2
      have h5 : 0 < (l ++ [y]).length := by simp
      generalize l ++ [y] = m at *
      obtain ⟨a5, c5, hsh, HA⟩ := IntsAt.of_own HO5.out
      subst hsh
      obtain ⟨gb, ob, rfl, hb2, hb3⟩ := HA 0 h5
      rw [Nat.add_zero] at hb3
      clear HA
      generalize m[0] = y5 at *
      go_wp2_with fail
      go_quiet (fail)
      have HO6 := hide (show (w5.drewN nq).ownsRow w1.heap.size 3 1 (.slice (some ⟨gb, ob, none⟩) m.length c5) m.length (cellsI m) from HO5.out)
      have HB6 := hide (below_drewN HB5.out nq)
      clear HO5 HB5 hb2 hb3
      generalize w5.drewN nq = w6 at *
      go_wp2_with fail
      go_ret2
      exact ⟨_, m, y5, hl5, rfl, own_mono HO6.out hs1, HB6.out⟩
    | false =>
      go_wp2_with fail
      refine (num_calls _ _ w3 HC3.out).mono ?_
      rintro e w4 ⟨x, rfl, hc4, hg4⟩
      have HO4 := hide (own_kept HO3.out hg4 hg1)
      have HB4 := hide (HB3.out.trans (below_of_grown hg4 (Nat.le_refl _) HB3.out.size))
      clear hc4 hg4 HB3 HC3 HO3
      go_wp2_with fail
      go_ret2
      exact ⟨_, l, x, by omega, rfl, own_mono HO4.out hs1, HB4.out⟩
  · have hl0 : l = [] := List.eq_nil_of_length_eq_zero (by omega)
    subst hl0
    go_wp2_with fail
    refine (num_calls _ _ w2 HC2.out).mono ?_
    rintro e w4 ⟨x, rfl, hc4, hg4⟩
    have HO4 := hide (own_kept HO2.out hg4 hg1)
    have HB4 := hide (HB2.out.trans (below_of_grown hg4 (Nat.le_refl _) HB2.out.size))
    clear hc4 hg4 HB2 HC2 HO2
    go_wp2_with fail
    go_ret2
    exact ⟨_, [], x, by decide, rfl, own_mono HO4.out hs1, HB4.out⟩
end Go.Proofs.Ythkdgnohkdedpaa.P8
