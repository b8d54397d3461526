/- The contract of the laws' toCred; no condition. -/
import Derived.Test.YtflicklgmhgpiaaCrd3
namespace Go.Proofs.Ytflicklgmhgpiaa.P5
set_option maxRecDepth 8000
open Go.RowKit P1

set_option maxHeartbeats 1000000 in
theorem toCred_calls (c : Cr) (w : World) :
    Calls Try.prog 12 #[credV c] w fun e w' => e = .returned (credV c) ∧ Below w.heap.size w w' := by
  obtain ⟨k, ow, on, wh, aw, an, bw, bn, u, n⟩ := c
  simp only [credV]
  go_enter Try.func12, Try.ntmps12
  go_wp2_with fail
  have HB := hide (Below.three w (.cells #[.int .i64 k, .int .i64 ow, .int .i64 on, .int .i64 wh, .int .i64 aw, .int .i64 an, .int .i64 bw, .int .i64 bn, .int .i64 u, .int .i64 n] 29) (.cells #[.int .i64 0, .int .i64 0, .int .i64 0, .int .i64 0, .int .i64 0, .int .i64 0, .int .i64 0, .int .i64 0, .int .i64 0, .int .i64 0] 32) (.cells #[.int .i64 k, .int .i64 0, .int .i64 0, .int .i64 0, .int .i64 0, .int .i64 0, .int .i64 0, .int .i64 0, .int .i64 0, .int .i64 0] 32))
  have g0 := Blk.new w #[.int .i64 k, .int .i64 ow, .int .i64 on, .int .i64 wh, .int .i64 aw, .int .i64 an, .int .i64 bw, .int .i64 bn, .int .i64 u, .int .i64 n] 29
  have g0 := g0.below ((Below.refl _ _).alloc (Nat.le_refl _) (.cells #[.int .i64 0, .int .i64 0, .int .i64 0, .int .i64 0, .int .i64 0, .int .i64 0, .int .i64 0, .int .i64 0, .int .i64 0, .int .i64 0] 32)) g0.lt
  have g0 := g0.below ((Below.refl _ _).alloc (Nat.le_refl _) (.cells #[.int .i64 k, .int .i64 0, .int .i64 0, .int .i64 0, .int .i64 0, .int .i64 0, .int .i64 0, .int .i64 0, .int .i64 0, .int .i64 0] 32)) g0.lt
  have g1 := Blk.new (w.alloc (.cells #[.int .i64 k, .int .i64 ow, .int .i64 on, .int .i64 wh, .int .i64 aw, .int .i64 an, .int .i64 bw, .int .i64 bn, .int .i64 u, .int .i64 n] 29)) #[.int .i64 0, .int .i64 0, .int .i64 0, .int .i64 0, .int .i64 0, .int .i64 0, .int .i64 0, .int .i64 0, .int .i64 0, .int .i64 0] 32
  have g1 := g1.below ((Below.refl _ _).alloc (Nat.le_refl _) (.cells #[.int .i64 k, .int .i64 0, .int .i64 0, .int .i64 0, .int .i64 0, .int .i64 0, .int .i64 0, .int .i64 0, .int .i64 0, .int .i64 0] 32)) g1.lt
  have g2 := Blk.new ((w.alloc (.cells #[.int .i64 k, .int .i64 ow, .int .i64 on, .int .i64 wh, .int .i64 aw, .int .i64 an, .int .i64 bw, .int .i64 bn, .int .i64 u, .int .i64 n] 29)).alloc (.cells #[.int .i64 0, .int .i64 0, .int .i64 0, .int .i64 0, .int .i64 0, .int .i64 0, .int .i64 0, .int .i64 0, .int .i64 0, .int .i64 0] 32)) #[.int .i64 k, .int .i64 0, .int .i64 0, .int .i64 0, .int .i64 0, .int .i64 0, .int .i64 0, .int .i64 0, .int .i64 0, .int .i64 0] 32
  rw [show (w.alloc (.cells #[.int .i64 k, .int .i64 ow, .int .i64 on, .int .i64 wh, .int .i64 aw, .int .i64 an, .int .i64 bw, .int .i64 bn, .int .i64 u, .int .i64 n] 29)).heap.size = w.heap.size + 1 from by simp [go_sem]] at g1
  rw [show ((w.alloc (.cells #[.int .i64 k, .int .i64 ow, .int .i64 on, .int .i64 wh, .int .i64 aw, .int .i64 an, .int .i64 bw, .int .i64 bn, .int .i64 u, .int .i64 n] 29)).alloc (.cells #[.int .i64 0, .int .i64 0, .int .i64 0, .int .i64 0, .int .i64 0, .int .i64 0, .int .i64 0, .int .i64 0, .int .i64 0, .int .i64 0] 32)).heap.size = w.heap.size + 1 + 1 from by simp [go_sem]] at g2
  obtain ⟨b2, e2⟩ : ∃ b, b = w.heap.size + 1 + 1 := ⟨_, rfl⟩
  obtain ⟨b1, e1⟩ : ∃ b, b = w.heap.size + 1 := ⟨_, rfl⟩
  obtain ⟨b0, e0⟩ : ∃ b, b = w.heap.size := ⟨_, rfl⟩
  rw [← e2] at g2 ⊢
  rw [← e1] at g1 ⊢
  rw [← e0] at g0 ⊢
  have h02 : b0 ≠ b2 := by omega
  have h12 : b1 ≠ b2 := by omega
  have h20 : b2 ≠ b0 := by omega
  have h21 : b2 ≠ b1 := by omega
  have h01 : b0 ≠ b1 := by omega
  have hw2 : w.heap.size ≤ b2 := by omega
  have hw1 : w.heap.size ≤ b1 := by omega
  clear e0 e1 e2
  generalize ((w.alloc (.cells #[.int .i64 k, .int .i64 ow, .int .i64 on, .int .i64 wh, .int .i64 aw, .int .i64 an, .int .i64 bw, .int .i64 bn, .int .i64 u, .int .i64 n] 29)).alloc (.cells #[.int .i64 0, .int .i64 0, .int .i64 0, .int .i64 0, .int .i64 0, .int .i64 0, .int .i64 0, .int .i64 0, .int .i64 0, .int .i64 0] 32)).alloc (.cells #[.int .i64 k, .int .i64 0, .int .i64 0, .int .i64 0, .int .i64 0, .int .i64 0, .int .i64 0, .int .i64 0, .int .i64 0, .int .i64 0] 32) = w1 at *
  have G0 := hide g0
  have G1 := hide g1
  have G2 := hide g2
  clear g0 g1 g2
  refine (toRole_calls ow on _).mono ?_
  rintro e wa1 ⟨rfl, hb⟩
  have HB := hide (HB.out.trans (hb.mono HB.out.size))
  have g0 := G0.out.below hb G0.out.lt
  have g1 := G1.out.below hb G1.out.lt
  have g2 := G2.out.below hb G2.out.lt
  clear hb G0 G1 G2
  have a3 : wa1.cell? ⟨b0, 3, none⟩ = some (.int .i64 wh) := by rw [g0.cell 3]; rfl
  have a4 : wa1.cell? ⟨b0, 4, none⟩ = some (.int .i64 aw) := by rw [g0.cell 4]; rfl
  have a5 : wa1.cell? ⟨b0, 5, none⟩ = some (.int .i64 an) := by rw [g0.cell 5]; rfl
  have d1 : wa1.cell? ⟨b2, 1, none⟩ = some (.int .i64 0) := by rw [g2.cell 1]; rfl
  have f1 := g2.free 1
  have d2 : wa1.cell? ⟨b2, 2, none⟩ = some (.int .i64 0) := by rw [g2.cell 2]; rfl
  have f2 := g2.free 2
  have d3 : wa1.cell? ⟨b2, 3, none⟩ = some (.int .i64 0) := by rw [g2.cell 3]; rfl
  have f3 := g2.free 3
  have G2 := hide (((g2.set 1 (.int .i64 ow)).set 2 (.int .i64 on)).set 3 (.int .i64 wh))
  have G0 := hide (((g0.other (p := ⟨b2, 1, none⟩) h02 (.int .i64 ow)).other (p := ⟨b2, 2, none⟩) h02 (.int .i64 on)).other (p := ⟨b2, 3, none⟩) h02 (.int .i64 wh))
  have G1 := hide (((g1.other (p := ⟨b2, 1, none⟩) h12 (.int .i64 ow)).other (p := ⟨b2, 2, none⟩) h12 (.int .i64 on)).other (p := ⟨b2, 3, none⟩) h12 (.int .i64 wh))
  have HB := hide (((HB.out.setCell (p := ⟨b2, 1, none⟩) hw2 (.int .i64 ow)).setCell (p := ⟨b2, 2, none⟩) hw2 (.int .i64 on)).setCell (p := ⟨b2, 3, none⟩) hw2 (.int .i64 wh))
  clear g0 g1 g2
  go_wp2_with fail
  clear a3 a4 a5 d1 f1 d2 f2 d3 f3
  generalize (((wa1.setCell ⟨b2, 1, none⟩ (.int .i64 ow)).setCell ⟨b2, 2, none⟩ (.int .i64 on)).setCell ⟨b2, 3, none⟩ (.int .i64 wh)) = w2 at *
  refine (toRole_calls aw an _).mono ?_
  rintro e wa2 ⟨rfl, hb⟩
  have HB := hide (HB.out.trans (hb.mono HB.out.size))
  have g0 := G0.out.below hb G0.out.lt
  have g1 := G1.out.below hb G1.out.lt
  have g2 := G2.out.below hb G2.out.lt
  clear hb G0 G1 G2
  have a6 : wa2.cell? ⟨b0, 6, none⟩ = some (.int .i64 bw) := by rw [g0.cell 6]; rfl
  have a7 : wa2.cell? ⟨b0, 7, none⟩ = some (.int .i64 bn) := by rw [g0.cell 7]; rfl
  have d4 : wa2.cell? ⟨b2, 4, none⟩ = some (.int .i64 0) := by rw [g2.cell 4]; rfl
  have f4 := g2.free 4
  have d5 : wa2.cell? ⟨b2, 5, none⟩ = some (.int .i64 0) := by rw [g2.cell 5]; rfl
  have f5 := g2.free 5
  have G2 := hide ((g2.set 4 (.int .i64 aw)).set 5 (.int .i64 an))
  have G0 := hide ((g0.other (p := ⟨b2, 4, none⟩) h02 (.int .i64 aw)).other (p := ⟨b2, 5, none⟩) h02 (.int .i64 an))
  have G1 := hide ((g1.other (p := ⟨b2, 4, none⟩) h12 (.int .i64 aw)).other (p := ⟨b2, 5, none⟩) h12 (.int .i64 an))
  have HB := hide ((HB.out.setCell (p := ⟨b2, 4, none⟩) hw2 (.int .i64 aw)).setCell (p := ⟨b2, 5, none⟩) hw2 (.int .i64 an))
  clear g0 g1 g2
  go_wp2_with fail
  clear a6 a7 d4 f4 d5 f5
  generalize ((wa2.setCell ⟨b2, 4, none⟩ (.int .i64 aw)).setCell ⟨b2, 5, none⟩ (.int .i64 an)) = w3 at *
  refine (toRole_calls bw bn _).mono ?_
  rintro e wa3 ⟨rfl, hb⟩
  have HB := hide (HB.out.trans (hb.mono HB.out.size))
  have g0 := G0.out.below hb G0.out.lt
  have g1 := G1.out.below hb G1.out.lt
  have g2 := G2.out.below hb G2.out.lt
  clear hb G0 G1 G2
  have a8 : wa3.cell? ⟨b0, 8, none⟩ = some (.int .i64 u) := by rw [g0.cell 8]; rfl
  have a9 : wa3.cell? ⟨b0, 9, none⟩ = some (.int .i64 n) := by rw [g0.cell 9]; rfl
  have d6 : wa3.cell? ⟨b2, 6, none⟩ = some (.int .i64 0) := by rw [g2.cell 6]; rfl
  have f6 := g2.free 6
  have d7 : wa3.cell? ⟨b2, 7, none⟩ = some (.int .i64 0) := by rw [g2.cell 7]; rfl
  have f7 := g2.free 7
  have d8 : wa3.cell? ⟨b2, 8, none⟩ = some (.int .i64 0) := by rw [g2.cell 8]; rfl
  have f8 := g2.free 8
  have d9 : wa3.cell? ⟨b2, 9, none⟩ = some (.int .i64 0) := by rw [g2.cell 9]; rfl
  have f9 := g2.free 9
  have G2 := hide ((((g2.set 6 (.int .i64 bw)).set 7 (.int .i64 bn)).set 8 (.int .i64 u)).set 9 (.int .i64 n))
  have G0 := hide ((((g0.other (p := ⟨b2, 6, none⟩) h02 (.int .i64 bw)).other (p := ⟨b2, 7, none⟩) h02 (.int .i64 bn)).other (p := ⟨b2, 8, none⟩) h02 (.int .i64 u)).other (p := ⟨b2, 9, none⟩) h02 (.int .i64 n))
  have G1 := hide ((((g1.other (p := ⟨b2, 6, none⟩) h12 (.int .i64 bw)).other (p := ⟨b2, 7, none⟩) h12 (.int .i64 bn)).other (p := ⟨b2, 8, none⟩) h12 (.int .i64 u)).other (p := ⟨b2, 9, none⟩) h12 (.int .i64 n))
  have HB := hide ((((HB.out.setCell (p := ⟨b2, 6, none⟩) hw2 (.int .i64 bw)).setCell (p := ⟨b2, 7, none⟩) hw2 (.int .i64 bn)).setCell (p := ⟨b2, 8, none⟩) hw2 (.int .i64 u)).setCell (p := ⟨b2, 9, none⟩) hw2 (.int .i64 n))
  have r0 : wa3.cell? ⟨b1, 0, none⟩ = some (.int .i64 0) := by rw [g1.cell 0]; rfl
  have fr0 := g1.free 0
  have r1 : wa3.cell? ⟨b1, 1, none⟩ = some (.int .i64 0) := by rw [g1.cell 1]; rfl
  have fr1 := g1.free 1
  have r2 : wa3.cell? ⟨b1, 2, none⟩ = some (.int .i64 0) := by rw [g1.cell 2]; rfl
  have fr2 := g1.free 2
  have r3 : wa3.cell? ⟨b1, 3, none⟩ = some (.int .i64 0) := by rw [g1.cell 3]; rfl
  have fr3 := g1.free 3
  have r4 : wa3.cell? ⟨b1, 4, none⟩ = some (.int .i64 0) := by rw [g1.cell 4]; rfl
  have fr4 := g1.free 4
  have r5 : wa3.cell? ⟨b1, 5, none⟩ = some (.int .i64 0) := by rw [g1.cell 5]; rfl
  have fr5 := g1.free 5
  have r6 : wa3.cell? ⟨b1, 6, none⟩ = some (.int .i64 0) := by rw [g1.cell 6]; rfl
  have fr6 := g1.free 6
  have r7 : wa3.cell? ⟨b1, 7, none⟩ = some (.int .i64 0) := by rw [g1.cell 7]; rfl
  have fr7 := g1.free 7
  have r8 : wa3.cell? ⟨b1, 8, none⟩ = some (.int .i64 0) := by rw [g1.cell 8]; rfl
  have fr8 := g1.free 8
  have r9 : wa3.cell? ⟨b1, 9, none⟩ = some (.int .i64 0) := by rw [g1.cell 9]; rfl
  have fr9 := g1.free 9
  have d0 : wa3.cell? ⟨b2, 0, none⟩ = some (.int .i64 k) := by rw [g2.cell 0]; rfl
  have d1 : wa3.cell? ⟨b2, 1, none⟩ = some (.int .i64 ow) := by rw [g2.cell 1]; rfl
  have d2 : wa3.cell? ⟨b2, 2, none⟩ = some (.int .i64 on) := by rw [g2.cell 2]; rfl
  have d3 : wa3.cell? ⟨b2, 3, none⟩ = some (.int .i64 wh) := by rw [g2.cell 3]; rfl
  have d4 : wa3.cell? ⟨b2, 4, none⟩ = some (.int .i64 aw) := by rw [g2.cell 4]; rfl
  have d5 : wa3.cell? ⟨b2, 5, none⟩ = some (.int .i64 an) := by rw [g2.cell 5]; rfl
  clear g0 g1 g2
  go_wp2_with fail
  have hF := ((((((((((G1.out.set 0 (.int .i64 k)).set 1 (.int .i64 ow)).set 2 (.int .i64 on)).set 3 (.int .i64 wh)).set 4 (.int .i64 aw)).set 5 (.int .i64 an)).set 6 (.int .i64 bw)).set 7 (.int .i64 bn)).set 8 (.int .i64 u)).set 9 (.int .i64 n))
  have hbF := ((((((((((HB.out.setCell (p := ⟨b1, 0, none⟩) hw1 (.int .i64 k)).setCell (p := ⟨b1, 1, none⟩) hw1 (.int .i64 ow)).setCell (p := ⟨b1, 2, none⟩) hw1 (.int .i64 on)).setCell (p := ⟨b1, 3, none⟩) hw1 (.int .i64 wh)).setCell (p := ⟨b1, 4, none⟩) hw1 (.int .i64 aw)).setCell (p := ⟨b1, 5, none⟩) hw1 (.int .i64 an)).setCell (p := ⟨b1, 6, none⟩) hw1 (.int .i64 bw)).setCell (p := ⟨b1, 7, none⟩) hw1 (.int .i64 bn)).setCell (p := ⟨b1, 8, none⟩) hw1 (.int .i64 u)).setCell (p := ⟨b1, 9, none⟩) hw1 (.int .i64 n))
  clear r0 fr0 r1 fr1 r2 fr2 r3 fr3 r4 fr4 r5 fr5 r6 fr6 r7 fr7 r8 fr8 r9 fr9 d0 d1 d2 d3 d4 d5 d6 d7 d8 d9 f6 f7 f8 f9 a8 a9 G0 G1 G2 HB
  generalize ((((((((((((((wa3.setCell ⟨b2, 6, none⟩ (.int .i64 bw)).setCell ⟨b2, 7, none⟩ (.int .i64 bn)).setCell ⟨b2, 8, none⟩ (.int .i64 u)).setCell ⟨b2, 9, none⟩ (.int .i64 n)).setCell ⟨b1, 0, none⟩ (.int .i64 k)).setCell ⟨b1, 1, none⟩ (.int .i64 ow)).setCell ⟨b1, 2, none⟩ (.int .i64 on)).setCell ⟨b1, 3, none⟩ (.int .i64 wh)).setCell ⟨b1, 4, none⟩ (.int .i64 aw)).setCell ⟨b1, 5, none⟩ (.int .i64 an)).setCell ⟨b1, 6, none⟩ (.int .i64 bw)).setCell ⟨b1, 7, none⟩ (.int .i64 bn)).setCell ⟨b1, 8, none⟩ (.int .i64 u)).setCell ⟨b1, 9, none⟩ (.int .i64 n)) = wF at *
  have x0 : wF.cell? ⟨b1, 0, none⟩ = some (.int .i64 k) := by rw [hF.cell 0]; rfl
  have x1 : wF.cell? ⟨b1, 1, none⟩ = some (.int .i64 ow) := by rw [hF.cell 1]; rfl
  have x2 : wF.cell? ⟨b1, 2, none⟩ = some (.int .i64 on) := by rw [hF.cell 2]; rfl
  have x3 : wF.cell? ⟨b1, 3, none⟩ = some (.int .i64 wh) := by rw [hF.cell 3]; rfl
  have x4 : wF.cell? ⟨b1, 4, none⟩ = some (.int .i64 aw) := by rw [hF.cell 4]; rfl
  have x5 : wF.cell? ⟨b1, 5, none⟩ = some (.int .i64 an) := by rw [hF.cell 5]; rfl
  have x6 : wF.cell? ⟨b1, 6, none⟩ = some (.int .i64 bw) := by rw [hF.cell 6]; rfl
  have x7 : wF.cell? ⟨b1, 7, none⟩ = some (.int .i64 bn) := by rw [hF.cell 7]; rfl
  have x8 : wF.cell? ⟨b1, 8, none⟩ = some (.int .i64 u) := by rw [hF.cell 8]; rfl
  have x9 : wF.cell? ⟨b1, 9, none⟩ = some (.int .i64 n) := by rw [hF.cell 9]; rfl
  refine bodyPost_ret (v := .agg #[.int .i64 k, .int .i64 ow, .int .i64 on, .int .i64 wh, .int .i64 aw, .int .i64 an, .int .i64 bw, .int .i64 bn, .int .i64 u, .int .i64 n]) (by simp [results, Try.results12, go_sem, x0, x1, x2, x3, x4, x5, x6, x7, x8, x9]) rfl ⟨rfl, hbF⟩
end Go.Proofs.Ytflicklgmhgpiaa.P5
