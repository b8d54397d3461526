/- The contracts of the specification's CredLess and of the laws' eqRole and toRole; no condition. -/
import Derived.Test.YtflicklgmhgpiaaDoorCrd2
namespace Go.Proofs.YtflicklgmhgpiaaDoor.P5
set_option maxRecDepth 8000
open Go.RowKit P1

/-- Three new blocks. -/
theorem Below.three (w : World) (x y z : Obj) : Below w.heap.size w (((w.alloc x).alloc y).alloc z) := by
  have h1 := (Below.refl w.heap.size w).alloc (Nat.le_refl _) x
  have h2 := h1.alloc h1.size y
  exact h2.alloc h2.size z

set_option maxHeartbeats 400000 in
theorem toRole_calls (a b : Int) (w : World) :
    Calls Tryd.prog 23 #[roleV a b] w fun e w' => e = .returned (roleV a b) ∧ Below w.heap.size w w' := by
  go_enter Tryd.func23, Tryd.ntmps23
  go_wp2_with fail
  refine bodyPost_ret (v := roleV a b) (by simp [results, Tryd.results23, go_sem]) rfl ⟨rfl, Below.three _ _ _ _⟩

set_option maxHeartbeats 400000 in
theorem specCredLess_calls (c d : Cr) (w : World) :
    Calls Tryd.prog 19 #[credV c, credV d] w fun e w' => e = .returned (.bool (Op.bytesLess (credT c) (credT d))) ∧ Below w.heap.size w w' := by
  have H1 := hide (fun wx => specCredText_calls c wx)
  have H2 := hide (fun wx => specCredText_calls d wx)
  have l1 := credT_le c
  have l2 := credT_le d
  generalize credT c = s at *
  generalize credT d = t at *
  obtain ⟨k, ow, on, wh, aw, an, bw, bn, u, n⟩ := c
  obtain ⟨k', ow', on', wh', aw', an', bw', bn', u', n'⟩ := d
  simp only [credV] at H1 H2 ⊢
  have hb1 := (Below.refl w.heap.size w).alloc (Nat.le_refl _) (.cells #[.int .i64 k, .int .i64 ow, .int .i64 on, .int .i64 wh, .int .i64 aw, .int .i64 an, .int .i64 bw, .int .i64 bn, .int .i64 u, .int .i64 n] 27)
  have HA := Blk.new w #[.int .i64 k, .int .i64 ow, .int .i64 on, .int .i64 wh, .int .i64 aw, .int .i64 an, .int .i64 bw, .int .i64 bn, .int .i64 u, .int .i64 n] 27
  have hb2 := hb1.alloc hb1.size (.cells #[.int .i64 k', .int .i64 ow', .int .i64 on', .int .i64 wh', .int .i64 aw', .int .i64 an', .int .i64 bw', .int .i64 bn', .int .i64 u', .int .i64 n'] 27)
  have HD := Blk.new (w.alloc (.cells #[.int .i64 k, .int .i64 ow, .int .i64 on, .int .i64 wh, .int .i64 aw, .int .i64 an, .int .i64 bw, .int .i64 bn, .int .i64 u, .int .i64 n] 27)) #[.int .i64 k', .int .i64 ow', .int .i64 on', .int .i64 wh', .int .i64 aw', .int .i64 an', .int .i64 bw', .int .i64 bn', .int .i64 u', .int .i64 n'] 27
  have HA := HA.below ((Below.refl _ (w.alloc (.cells #[.int .i64 k, .int .i64 ow, .int .i64 on, .int .i64 wh, .int .i64 aw, .int .i64 an, .int .i64 bw, .int .i64 bn, .int .i64 u, .int .i64 n] 27))).alloc (Nat.le_refl _) (.cells #[.int .i64 k', .int .i64 ow', .int .i64 on', .int .i64 wh', .int .i64 aw', .int .i64 an', .int .i64 bw', .int .i64 bn', .int .i64 u', .int .i64 n'] 27)) HA.lt
  have HB2 := hide hb2
  clear hb1 hb2
  go_enter Tryd.func19, Tryd.ntmps19
  go_wp2_with fail
  rw [show (w.alloc (.cells #[.int .i64 k, .int .i64 ow, .int .i64 on, .int .i64 wh, .int .i64 aw, .int .i64 an, .int .i64 bw, .int .i64 bn, .int .i64 u, .int .i64 n] 27)).heap.size = w.heap.size + 1 from by simp [go_sem]] at HD
  obtain ⟨b1, e1⟩ : ∃ b, b = w.heap.size + 1 := ⟨_, rfl⟩
  rw [← e1] at HD ⊢
  clear e1
  obtain ⟨b0, e0⟩ : ∃ b, b = w.heap.size := ⟨_, rfl⟩
  rw [← e0] at HA ⊢
  clear e0
  generalize (w.alloc (.cells #[.int .i64 k, .int .i64 ow, .int .i64 on, .int .i64 wh, .int .i64 aw, .int .i64 an, .int .i64 bw, .int .i64 bn, .int .i64 u, .int .i64 n] 27)).alloc (.cells #[.int .i64 k', .int .i64 ow', .int .i64 on', .int .i64 wh', .int .i64 aw', .int .i64 an', .int .i64 bw', .int .i64 bn', .int .i64 u', .int .i64 n'] 27) = w1 at *
  have n0 : ∀ p : Near w1.heap.size w1, p.w.cell? ⟨b0, 0, none⟩ = some (.int .i64 k) := fun p => by rw [(HA.below p.h HA.lt).cell 0]; rfl
  have n1 : ∀ p : Near w1.heap.size w1, p.w.cell? ⟨b0, 1, none⟩ = some (.int .i64 ow) := fun p => by rw [(HA.below p.h HA.lt).cell 1]; rfl
  have n2 : ∀ p : Near w1.heap.size w1, p.w.cell? ⟨b0, 2, none⟩ = some (.int .i64 on) := fun p => by rw [(HA.below p.h HA.lt).cell 2]; rfl
  have n3 : ∀ p : Near w1.heap.size w1, p.w.cell? ⟨b0, 3, none⟩ = some (.int .i64 wh) := fun p => by rw [(HA.below p.h HA.lt).cell 3]; rfl
  have n4 : ∀ p : Near w1.heap.size w1, p.w.cell? ⟨b0, 4, none⟩ = some (.int .i64 aw) := fun p => by rw [(HA.below p.h HA.lt).cell 4]; rfl
  have n5 : ∀ p : Near w1.heap.size w1, p.w.cell? ⟨b0, 5, none⟩ = some (.int .i64 an) := fun p => by rw [(HA.below p.h HA.lt).cell 5]; rfl
  have n6 : ∀ p : Near w1.heap.size w1, p.w.cell? ⟨b0, 6, none⟩ = some (.int .i64 bw) := fun p => by rw [(HA.below p.h HA.lt).cell 6]; rfl
  have n7 : ∀ p : Near w1.heap.size w1, p.w.cell? ⟨b0, 7, none⟩ = some (.int .i64 bn) := fun p => by rw [(HA.below p.h HA.lt).cell 7]; rfl
  have n8 : ∀ p : Near w1.heap.size w1, p.w.cell? ⟨b0, 8, none⟩ = some (.int .i64 u) := fun p => by rw [(HA.below p.h HA.lt).cell 8]; rfl
  have n9 : ∀ p : Near w1.heap.size w1, p.w.cell? ⟨b0, 9, none⟩ = some (.int .i64 n) := fun p => by rw [(HA.below p.h HA.lt).cell 9]; rfl
  have m0 : ∀ p : Near w1.heap.size w1, p.w.cell? ⟨b1, 0, none⟩ = some (.int .i64 k') := fun p => by rw [(HD.below p.h HD.lt).cell 0]; rfl
  have m1 : ∀ p : Near w1.heap.size w1, p.w.cell? ⟨b1, 1, none⟩ = some (.int .i64 ow') := fun p => by rw [(HD.below p.h HD.lt).cell 1]; rfl
  have m2 : ∀ p : Near w1.heap.size w1, p.w.cell? ⟨b1, 2, none⟩ = some (.int .i64 on') := fun p => by rw [(HD.below p.h HD.lt).cell 2]; rfl
  have m3 : ∀ p : Near w1.heap.size w1, p.w.cell? ⟨b1, 3, none⟩ = some (.int .i64 wh') := fun p => by rw [(HD.below p.h HD.lt).cell 3]; rfl
  have m4 : ∀ p : Near w1.heap.size w1, p.w.cell? ⟨b1, 4, none⟩ = some (.int .i64 aw') := fun p => by rw [(HD.below p.h HD.lt).cell 4]; rfl
  have m5 : ∀ p : Near w1.heap.size w1, p.w.cell? ⟨b1, 5, none⟩ = some (.int .i64 an') := fun p => by rw [(HD.below p.h HD.lt).cell 5]; rfl
  have m6 : ∀ p : Near w1.heap.size w1, p.w.cell? ⟨b1, 6, none⟩ = some (.int .i64 bw') := fun p => by rw [(HD.below p.h HD.lt).cell 6]; rfl
  have m7 : ∀ p : Near w1.heap.size w1, p.w.cell? ⟨b1, 7, none⟩ = some (.int .i64 bn') := fun p => by rw [(HD.below p.h HD.lt).cell 7]; rfl
  have m8 : ∀ p : Near w1.heap.size w1, p.w.cell? ⟨b1, 8, none⟩ = some (.int .i64 u') := fun p => by rw [(HD.below p.h HD.lt).cell 8]; rfl
  have m9 : ∀ p : Near w1.heap.size w1, p.w.cell? ⟨b1, 9, none⟩ = some (.int .i64 n') := fun p => by rw [(HD.below p.h HD.lt).cell 9]; rfl
  clear HA HD
  have hnn := Near.some w1.heap.size w1
  refine wp_region_near w1.heap.size w1 (Below.refl _ _) (by kernel_rfl) (by kernel_rfl) ?_
  repeat (go_big_quiet_step (fail))
  go_big_quiet_step (exact calls_near (Nat.le_refl _) (H1.out _))
  repeat (go_big_quiet_step (fail))
  go_big_quiet_step (exact calls_near (Nat.le_refl _) (H2.out _))
  repeat (go_big_quiet_step (fail))
  refine wpQuiet_nil ?_
  rintro w3 ⟨pq, rfl⟩
  have hqb := pq.h
  obtain ⟨w3, hq⟩ := pq
  simp only at hqb ⊢
  clear hq hnn n0 n1 n2 n3 n4 n5 n6 n7 n8 n9 m0 m1 m2 m3 m4 m5 m6 m7 m8 m9 H1 H2
  go_wp2_with fail
  go_ret
  exact ⟨rfl, HB2.out.trans (hqb.mono HB2.out.size)⟩
end Go.Proofs.YtflicklgmhgpiaaDoor.P5
