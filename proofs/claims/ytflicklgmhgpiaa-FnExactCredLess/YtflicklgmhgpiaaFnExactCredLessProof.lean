/- For every two words the program's CredLess answers as the specification's (FnExactCredLess returns true); no condition. -/
import Derived.Test.YtflicklgmhgpiaaRows
import Derived.Test.YtflicklgmhgpiaaFrame
import Derived.Test.YtflicklgmhgpiaaFrameC
import Derived.Test.YtflicklgmhgpiaaCrd4
import Derived.Test.YtflicklgmhgpiaaCrdI2
import Derived.WalkKit
import Derived.ProofKit
import Derived.OpenShut
import Derived.ShutString
import Derived.ChangeVars
namespace Go.Proofs.Ytflicklgmhgpiaa.fnExactCredLess
set_option maxRecDepth 8000
open Go.ChangeShapes Go.WideShapes Go.ChangeAt Go.RowKit
open Go.ChangeMaps (open_string shut_string)
set_option linter.unusedVariables false

theorem own : ownKnob Try.prog.godebug = none := by kernel_rfl
theorem laidOut : laidOutB Try.prog = true := by kernel_rfl

open P1 P5 in
set_option maxHeartbeats 1000000 in
theorem walk (w : World) (c d : Cr) :
    Calls Try.prog 7 #[credV c, credV d] w fun e w' => e = .returned (.bool true) ∧ Below w.heap.size w w' := by
  have H1 := hide (fun wx => toCred_calls c wx)
  have H2 := hide (fun wx => toCred_calls d wx)
  have HS := hide (fun wx => specCredLess_calls c d wx)
  have HI := hide (fun wx => implCredLess_calls c d wx)
  generalize Op.bytesLess (credT c) (credT d) = r at HS HI
  obtain ⟨k, ow, on, wh, aw, an, bw, bn, u, n⟩ := c
  obtain ⟨k', ow', on', wh', aw', an', bw', bn', u', n'⟩ := d
  simp only [credV] at H1 H2 HS HI ⊢
  have hb1 := (Below.refl w.heap.size w).alloc (Nat.le_refl _) (.cells #[.int .i64 k, .int .i64 ow, .int .i64 on, .int .i64 wh, .int .i64 aw, .int .i64 an, .int .i64 bw, .int .i64 bn, .int .i64 u, .int .i64 n] 29)
  have HB := hide (hb1.alloc hb1.size (.cells #[.int .i64 k', .int .i64 ow', .int .i64 on', .int .i64 wh', .int .i64 aw', .int .i64 an', .int .i64 bw', .int .i64 bn', .int .i64 u', .int .i64 n'] 29))
  have ha := Blk.new w #[.int .i64 k, .int .i64 ow, .int .i64 on, .int .i64 wh, .int .i64 aw, .int .i64 an, .int .i64 bw, .int .i64 bn, .int .i64 u, .int .i64 n] 29
  have HA := hide (ha.below ((Below.refl _ (w.alloc (.cells #[.int .i64 k, .int .i64 ow, .int .i64 on, .int .i64 wh, .int .i64 aw, .int .i64 an, .int .i64 bw, .int .i64 bn, .int .i64 u, .int .i64 n] 29))).alloc (Nat.le_refl _) (.cells #[.int .i64 k', .int .i64 ow', .int .i64 on', .int .i64 wh', .int .i64 aw', .int .i64 an', .int .i64 bw', .int .i64 bn', .int .i64 u', .int .i64 n'] 29)) ha.lt)
  have hd := Blk.new (w.alloc (.cells #[.int .i64 k, .int .i64 ow, .int .i64 on, .int .i64 wh, .int .i64 aw, .int .i64 an, .int .i64 bw, .int .i64 bn, .int .i64 u, .int .i64 n] 29)) #[.int .i64 k', .int .i64 ow', .int .i64 on', .int .i64 wh', .int .i64 aw', .int .i64 an', .int .i64 bw', .int .i64 bn', .int .i64 u', .int .i64 n'] 29
  rw [show (w.alloc (.cells #[.int .i64 k, .int .i64 ow, .int .i64 on, .int .i64 wh, .int .i64 aw, .int .i64 an, .int .i64 bw, .int .i64 bn, .int .i64 u, .int .i64 n] 29)).heap.size = w.heap.size + 1 from by simp [go_sem]] at hd
  have HD := hide hd
  clear hb1 ha hd
  go_enter Try.func7, Try.ntmps7
  go_wp2_with fail
  obtain ⟨b1, e1⟩ : ∃ b, b = w.heap.size + 1 := ⟨_, rfl⟩
  obtain ⟨b0, e0⟩ : ∃ b, b = w.heap.size := ⟨_, rfl⟩
  rw [← e1] at HD ⊢
  rw [← e0] at HA ⊢
  clear e0 e1
  generalize (w.alloc (.cells #[.int .i64 k, .int .i64 ow, .int .i64 on, .int .i64 wh, .int .i64 aw, .int .i64 an, .int .i64 bw, .int .i64 bn, .int .i64 u, .int .i64 n] 29)).alloc (.cells #[.int .i64 k', .int .i64 ow', .int .i64 on', .int .i64 wh', .int .i64 aw', .int .i64 an', .int .i64 bw', .int .i64 bn', .int .i64 u', .int .i64 n'] 29) = w1 at *
  have n0 : ∀ p : Near w1.heap.size w1, p.w.cell? ⟨b0, 0, none⟩ = some (.int .i64 k) := fun p => by rw [(HA.out.below p.h HA.out.lt).cell 0]; rfl
  have n1 : ∀ p : Near w1.heap.size w1, p.w.cell? ⟨b0, 1, none⟩ = some (.int .i64 ow) := fun p => by rw [(HA.out.below p.h HA.out.lt).cell 1]; rfl
  have n2 : ∀ p : Near w1.heap.size w1, p.w.cell? ⟨b0, 2, none⟩ = some (.int .i64 on) := fun p => by rw [(HA.out.below p.h HA.out.lt).cell 2]; rfl
  have n3 : ∀ p : Near w1.heap.size w1, p.w.cell? ⟨b0, 3, none⟩ = some (.int .i64 wh) := fun p => by rw [(HA.out.below p.h HA.out.lt).cell 3]; rfl
  have n4 : ∀ p : Near w1.heap.size w1, p.w.cell? ⟨b0, 4, none⟩ = some (.int .i64 aw) := fun p => by rw [(HA.out.below p.h HA.out.lt).cell 4]; rfl
  have n5 : ∀ p : Near w1.heap.size w1, p.w.cell? ⟨b0, 5, none⟩ = some (.int .i64 an) := fun p => by rw [(HA.out.below p.h HA.out.lt).cell 5]; rfl
  have n6 : ∀ p : Near w1.heap.size w1, p.w.cell? ⟨b0, 6, none⟩ = some (.int .i64 bw) := fun p => by rw [(HA.out.below p.h HA.out.lt).cell 6]; rfl
  have n7 : ∀ p : Near w1.heap.size w1, p.w.cell? ⟨b0, 7, none⟩ = some (.int .i64 bn) := fun p => by rw [(HA.out.below p.h HA.out.lt).cell 7]; rfl
  have n8 : ∀ p : Near w1.heap.size w1, p.w.cell? ⟨b0, 8, none⟩ = some (.int .i64 u) := fun p => by rw [(HA.out.below p.h HA.out.lt).cell 8]; rfl
  have n9 : ∀ p : Near w1.heap.size w1, p.w.cell? ⟨b0, 9, none⟩ = some (.int .i64 n) := fun p => by rw [(HA.out.below p.h HA.out.lt).cell 9]; rfl
  have m0 : ∀ p : Near w1.heap.size w1, p.w.cell? ⟨b1, 0, none⟩ = some (.int .i64 k') := fun p => by rw [(HD.out.below p.h HD.out.lt).cell 0]; rfl
  have m1 : ∀ p : Near w1.heap.size w1, p.w.cell? ⟨b1, 1, none⟩ = some (.int .i64 ow') := fun p => by rw [(HD.out.below p.h HD.out.lt).cell 1]; rfl
  have m2 : ∀ p : Near w1.heap.size w1, p.w.cell? ⟨b1, 2, none⟩ = some (.int .i64 on') := fun p => by rw [(HD.out.below p.h HD.out.lt).cell 2]; rfl
  have m3 : ∀ p : Near w1.heap.size w1, p.w.cell? ⟨b1, 3, none⟩ = some (.int .i64 wh') := fun p => by rw [(HD.out.below p.h HD.out.lt).cell 3]; rfl
  have m4 : ∀ p : Near w1.heap.size w1, p.w.cell? ⟨b1, 4, none⟩ = some (.int .i64 aw') := fun p => by rw [(HD.out.below p.h HD.out.lt).cell 4]; rfl
  have m5 : ∀ p : Near w1.heap.size w1, p.w.cell? ⟨b1, 5, none⟩ = some (.int .i64 an') := fun p => by rw [(HD.out.below p.h HD.out.lt).cell 5]; rfl
  have m6 : ∀ p : Near w1.heap.size w1, p.w.cell? ⟨b1, 6, none⟩ = some (.int .i64 bw') := fun p => by rw [(HD.out.below p.h HD.out.lt).cell 6]; rfl
  have m7 : ∀ p : Near w1.heap.size w1, p.w.cell? ⟨b1, 7, none⟩ = some (.int .i64 bn') := fun p => by rw [(HD.out.below p.h HD.out.lt).cell 7]; rfl
  have m8 : ∀ p : Near w1.heap.size w1, p.w.cell? ⟨b1, 8, none⟩ = some (.int .i64 u') := fun p => by rw [(HD.out.below p.h HD.out.lt).cell 8]; rfl
  have m9 : ∀ p : Near w1.heap.size w1, p.w.cell? ⟨b1, 9, none⟩ = some (.int .i64 n') := fun p => by rw [(HD.out.below p.h HD.out.lt).cell 9]; rfl
  have hnn := Near.some w1.heap.size w1
  refine wp_region_near w1.heap.size w1 (Below.refl _ _) (by kernel_rfl) (by kernel_rfl) ?_
  repeat (go_big_quiet_step (fail))
  go_big_quiet_step (exact calls_near (Nat.le_refl _) (H1.out _))
  repeat (go_big_quiet_step (fail))
  go_big_quiet_step (exact calls_near (Nat.le_refl _) (H2.out _))
  repeat (go_big_quiet_step (fail))
  go_big_quiet_step (exact calls_near (Nat.le_refl _) (HS.out _))
  repeat (go_big_quiet_step (fail))
  refine wpQuiet_nil ?_
  rintro w3 ⟨pq, rfl⟩
  have hqb := pq.h
  obtain ⟨w3, hq⟩ := pq
  simp only at hqb ⊢
  have HA := hide (HA.out.below hqb HA.out.lt)
  have HD := hide (HD.out.below hqb HD.out.lt)
  have HB := hide (HB.out.trans (hqb.mono HB.out.size))
  clear hq hqb hnn n0 n1 n2 n3 n4 n5 n6 n7 n8 n9 m0 m1 m2 m3 m4 m5 m6 m7 m8 m9
  go_wp2_with fail
  have n0 : ∀ p : Near w3.heap.size w3, p.w.cell? ⟨b0, 0, none⟩ = some (.int .i64 k) := fun p => by rw [(HA.out.below p.h HA.out.lt).cell 0]; rfl
  have n1 : ∀ p : Near w3.heap.size w3, p.w.cell? ⟨b0, 1, none⟩ = some (.int .i64 ow) := fun p => by rw [(HA.out.below p.h HA.out.lt).cell 1]; rfl
  have n2 : ∀ p : Near w3.heap.size w3, p.w.cell? ⟨b0, 2, none⟩ = some (.int .i64 on) := fun p => by rw [(HA.out.below p.h HA.out.lt).cell 2]; rfl
  have n3 : ∀ p : Near w3.heap.size w3, p.w.cell? ⟨b0, 3, none⟩ = some (.int .i64 wh) := fun p => by rw [(HA.out.below p.h HA.out.lt).cell 3]; rfl
  have n4 : ∀ p : Near w3.heap.size w3, p.w.cell? ⟨b0, 4, none⟩ = some (.int .i64 aw) := fun p => by rw [(HA.out.below p.h HA.out.lt).cell 4]; rfl
  have n5 : ∀ p : Near w3.heap.size w3, p.w.cell? ⟨b0, 5, none⟩ = some (.int .i64 an) := fun p => by rw [(HA.out.below p.h HA.out.lt).cell 5]; rfl
  have n6 : ∀ p : Near w3.heap.size w3, p.w.cell? ⟨b0, 6, none⟩ = some (.int .i64 bw) := fun p => by rw [(HA.out.below p.h HA.out.lt).cell 6]; rfl
  have n7 : ∀ p : Near w3.heap.size w3, p.w.cell? ⟨b0, 7, none⟩ = some (.int .i64 bn) := fun p => by rw [(HA.out.below p.h HA.out.lt).cell 7]; rfl
  have n8 : ∀ p : Near w3.heap.size w3, p.w.cell? ⟨b0, 8, none⟩ = some (.int .i64 u) := fun p => by rw [(HA.out.below p.h HA.out.lt).cell 8]; rfl
  have n9 : ∀ p : Near w3.heap.size w3, p.w.cell? ⟨b0, 9, none⟩ = some (.int .i64 n) := fun p => by rw [(HA.out.below p.h HA.out.lt).cell 9]; rfl
  have m0 : ∀ p : Near w3.heap.size w3, p.w.cell? ⟨b1, 0, none⟩ = some (.int .i64 k') := fun p => by rw [(HD.out.below p.h HD.out.lt).cell 0]; rfl
  have m1 : ∀ p : Near w3.heap.size w3, p.w.cell? ⟨b1, 1, none⟩ = some (.int .i64 ow') := fun p => by rw [(HD.out.below p.h HD.out.lt).cell 1]; rfl
  have m2 : ∀ p : Near w3.heap.size w3, p.w.cell? ⟨b1, 2, none⟩ = some (.int .i64 on') := fun p => by rw [(HD.out.below p.h HD.out.lt).cell 2]; rfl
  have m3 : ∀ p : Near w3.heap.size w3, p.w.cell? ⟨b1, 3, none⟩ = some (.int .i64 wh') := fun p => by rw [(HD.out.below p.h HD.out.lt).cell 3]; rfl
  have m4 : ∀ p : Near w3.heap.size w3, p.w.cell? ⟨b1, 4, none⟩ = some (.int .i64 aw') := fun p => by rw [(HD.out.below p.h HD.out.lt).cell 4]; rfl
  have m5 : ∀ p : Near w3.heap.size w3, p.w.cell? ⟨b1, 5, none⟩ = some (.int .i64 an') := fun p => by rw [(HD.out.below p.h HD.out.lt).cell 5]; rfl
  have m6 : ∀ p : Near w3.heap.size w3, p.w.cell? ⟨b1, 6, none⟩ = some (.int .i64 bw') := fun p => by rw [(HD.out.below p.h HD.out.lt).cell 6]; rfl
  have m7 : ∀ p : Near w3.heap.size w3, p.w.cell? ⟨b1, 7, none⟩ = some (.int .i64 bn') := fun p => by rw [(HD.out.below p.h HD.out.lt).cell 7]; rfl
  have m8 : ∀ p : Near w3.heap.size w3, p.w.cell? ⟨b1, 8, none⟩ = some (.int .i64 u') := fun p => by rw [(HD.out.below p.h HD.out.lt).cell 8]; rfl
  have m9 : ∀ p : Near w3.heap.size w3, p.w.cell? ⟨b1, 9, none⟩ = some (.int .i64 n') := fun p => by rw [(HD.out.below p.h HD.out.lt).cell 9]; rfl
  have hnn := Near.some w3.heap.size w3
  refine wp_region_near w3.heap.size w3 (Below.refl _ _) (by kernel_rfl) (by kernel_rfl) ?_
  repeat (go_big_quiet_step (fail))
  go_big_quiet_step (exact calls_near (Nat.le_refl _) (H1.out _))
  repeat (go_big_quiet_step (fail))
  go_big_quiet_step (exact calls_near (Nat.le_refl _) (H2.out _))
  repeat (go_big_quiet_step (fail))
  go_big_quiet_step (exact calls_near (Nat.le_refl _) (HI.out _))
  repeat (go_big_quiet_step (fail))
  refine wpQuiet_nil ?_
  rintro w5 ⟨pq, rfl⟩
  have hqb := pq.h
  obtain ⟨w5, hq⟩ := pq
  simp only at hqb ⊢
  have HA := hide (HA.out.below hqb HA.out.lt)
  have HD := hide (HD.out.below hqb HD.out.lt)
  have HB := hide (HB.out.trans (hqb.mono HB.out.size))
  clear hq hqb hnn n0 n1 n2 n3 n4 n5 n6 n7 n8 n9 m0 m1 m2 m3 m4 m5 m6 m7 m8 m9
  have hne : (r != r) = false := by simp
  go_wp2_with fail
  go_ret
  exact ⟨rfl, HB.out⟩

set_option maxRecDepth 100000 in
theorem lifted (os : Os) (started : os.Started) (H : Type) (enc : TypeId × Value → H) :
    ReturnsInHanded {} Try.checked os 7 .any (Rows.fnExactCredLessSpec.pre6 enc Try.prog Try.f7 Rows.fnExactCredLessRow.domain false) (Rows.fnExactCredLessSpec.post enc Try.prog Try.f7 false true false false) := by
  refine returnsInHanded_of_change (C := Try.checked) own started (by kernel_rfl) Try.func7
    (ChangeSpec.witness6 (enc := enc) (C := Try.checked) false ⟨#[], #[.agg #[.int .i64 0, .int .i64 0, .int .i64 0, .int .i64 0, .int .i64 0, .int .i64 0, .int .i64 0, .int .i64 0, .int .i64 0, .int .i64 0], .agg #[.int .i64 0, .int .i64 0, .int .i64 0, .int .i64 0, .int .i64 0, .int .i64 0, .int .i64 0, .int .i64 0, .int .i64 0, .int .i64 0]], []⟩ 8 (by kernel_rfl) (by kernel_rfl) (by kernel_rfl) (by kernel_rfl)) ?_
  intro W base args ds gs before hval0 hW hcnd _
  have hval : ∀ (j : Nat) t v, Try.f7.params[j]? = some t → args[j]? = some v → Value.okWide Try.prog W .any base t v := hval0
  have hW' := hW
  obtain ⟨p, q, hA0, hV0, rfl, hfz, hnd⟩ := hW
  have hA : DataW.TrodAll enc Try.prog W 0 (fun _ => true) true Try.f7.params.toList args.toList ds p := hA0
  rw [Try.params7] at hA hval
  obtain ⟨v0, vs0, d0, ds0, p0, q0, hargs, rfl, rfl, h0, r0⟩ := trodAll_cons hA
  obtain ⟨v1, vs1, d1, ds1, p1, q1, rfl, rfl, rfl, h1, r1⟩ := trodAll_cons r0
  obtain ⟨rfl, rfl, rfl⟩ := trodAll_nil r1
  obtain rfl : args = #[v0, v1] := by cases args; simp_all
  obtain ⟨rfl, rfl⟩ := trodVars_none hV0
  obtain ⟨a0, rfl⟩ := Frame.open_cred (hval 0 29 v0 rfl rfl) h0
  obtain ⟨a1, rfl⟩ := Frame.open_cred (hval 1 29 v1 rfl rfl) h1
  clear hA0 hval0
  refine (walk (w := W) a0 a1 ).mono fun e W' ⟨he, bel⟩ => ?_
  subst he
  exact ⟨_, rfl, Frame.post_law laidOut (by kernel_rfl) (by kernel_rfl) (by kernel_rfl) Try.underlying4 hW' rfl bel⟩

theorem over : Rows.FnExactCredLessSaid :=
  OpenClaim.holds_of_wide 7 Try.f7 rfl rfl rfl rfl rfl rfl rfl ⟨rfl, rfl, rfl, rfl, rfl⟩ rfl rfl rfl rfl rfl (by kernel_rfl) Try.func7 (by kernel_rfl)
    (of_decide_eq_true (by kernel_rfl)) (by unfold Func.isWrapper; first | (rw [if_pos (by decide +kernel)]; kernel_rfl) | (rw [if_neg (by decide +kernel)]; exact ⟨rfl, rfl⟩))
    (fun os started H enc _ => lifted os started H enc)

theorem proved : Rows.FnExactCredLessSaid := over
#print axioms proved
end Go.Proofs.Ytflicklgmhgpiaa.fnExactCredLess
