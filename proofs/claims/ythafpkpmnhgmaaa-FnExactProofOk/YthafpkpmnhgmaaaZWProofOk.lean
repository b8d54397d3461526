/- The walk of FnExactProofOk; no condition. -/
import Derived.Test.YthafpkpmnhgmaaaZY
import Derived.Test.YthafpkpmnhgmaaaZW
import Derived.Test.YthafpkpmnhgmaaaZT
namespace Go.Proofs.Ythafpkpmnhgmaaa.P7
set_option maxRecDepth 8000
open Go.RowKit P1 P5 P6 Rc Rr

set_option maxHeartbeats 4000000 in
theorem walkProofOk (w : World) (v : Value) (L : List St) (hv : StepsAt w v L) (hlm : L.length ≤ maxLen) (hfm : ∀ s ∈ L, s.fr.length ≤ maxLen) (a b who : Int) :
    Calls Try.prog 6 #[v, roleV a b, .int .i64 who] w fun e w' => e = .returned (.bool true) ∧ Below w.heap.size w w' := by
  have HV0 := hide hv
  obtain ⟨a0, ca, hsh, -⟩ := hv
  unfold maxLen at hlm hfm
  have HSZ := hide (fun wx (h : StepsAt wx v L) => szSteps_calls wx v L h (by omega) (fun s hs => by have := hfm s hs; omega))
  clear hlm hfm
  have HTX := hide (fun wx => toRole_calls a b wx)
  simp only [roleV] at HTX ⊢
  have HIx := hide (fun wx B E vx vs (h : StepsOwn wx B E vx L vs) (hz : size L ≤ 1048576) => implProofOk_calls wx vx L a b who h.read h.cap_ (len_le hz) (fun s hs => Nat.le_trans (fr_le hs) hz))
  have HSx := hide (fun wx B E vx vs (h : StepsOwn wx B E vx L vs) (hz : size L ≤ 1048576) => specProofOk_calls wx vx L a b who h.read (len_le hz) (fun s hs => Nat.le_trans (fr_le hs) hz))
  simp only [roleV] at HIx HSx
  obtain ⟨r0, E0⟩ : ∃ r, r = proofOk L a b who := ⟨_, rfl⟩
  simp only [← E0] at HIx HSx
  clear E0
  have hrr : (r0 != r0) = false := by simp
  have HT := hide (fun wx (h : StepsAt wx v L) (hz : size L ≤ 1048576) => toSteps_calls wx v L h hz)
  have HBA := hide ((Below.refl w.heap.size w).alloc (Nat.le_refl _) (.cells #[.int .i64 a, .int .i64 b] 56))
  have HG := hide (Blk.new w #[.int .i64 a, .int .i64 b] 56)
  have HV := hide (HV0.out.below HBA.out (Nat.le_refl _))
  clear HV0
  subst hsh
  go_enter Try.func6, Try.ntmps6
  go_wp2_with fail
  obtain ⟨b3, e3⟩ : ∃ b, b = w.heap.size := ⟨_, rfl⟩
  rw [← e3] at HG ⊢
  clear e3
  generalize w.alloc (.cells #[.int .i64 a, .int .i64 b] 56) = w1 at *
  refine (HSZ.out w1 HV.out).mono ?_
  rintro e w2 ⟨⟨r, rfl, hr⟩, hb2⟩
  have HV := hide (HV.out.below hb2 (Nat.le_refl _))
  have HBA := hide (HBA.out.trans (hb2.mono HBA.out.size))
  have HG := hide (HG.out.below hb2 HG.out.lt)
  clear hb2 HSZ
  rcases hr with rfl | ⟨hr0, hz⟩
  · go_wp2_with fail
    go_ret
    exact ⟨rfl, HBA.out⟩
  have hneg : decide (r < 0) = false := by simp; omega
  have HZ := hide hz
  have HLL := hide (len_le hz)
  have HB := hide (Below.refl w2.heap.size w2)
  have HVx : Hid (∀ wx, Below w2.heap.size w2 wx → StepsAt wx (.slice a0 L.length ca) L) := fun wx hb => HV.out.below hb (Nat.le_refl _)
  have hl3 := HG.out.lt
  have HGx : Hid (∀ wx, Below w2.heap.size w2 wx → Blk wx b3 [.int .i64 a, .int .i64 b] 56) := fun wx hb => HG.out.below hb hl3
  clear HV hz HG
  go_wp2_with fail
  clear hneg hr0
  have nq0 : ∀ p : BlkAt b3 [.int .i64 a, .int .i64 b] 56, p.w.cell? ⟨b3, 0, none⟩ = some (.int .i64 a) := fun p => by rw [p.h.cell 0]; rfl
  have nq1 : ∀ p : BlkAt b3 [.int .i64 a, .int .i64 b] 56, p.w.cell? ⟨b3, 1, none⟩ = some (.int .i64 b) := fun p => by rw [p.h.cell 1]; rfl
  have hnn : Nonempty (BlkAt b3 [.int .i64 a, .int .i64 b] 56) := ⟨⟨w2, HGx.out _ HB.out⟩⟩
  refine wp_region_open (fun wd => wd = w2.drew) rfl (by kernel_rfl) ?_
  rintro wd rfl
  have hbd := (Below.refl w2.heap.size w2).drew
  have HB := hide (HB.out.trans (hbd.mono HB.out.size))
  clear hbd
  generalize hwd : w2.drew = wd at *
  clear hwd
  refine wpAny_seg_lit 0 1 6 rfl (by decide) (by kernel_rfl) (by kernel_rfl) (fun _ _ _ _ _ h => h) ?_
  simp only [List.take_succ_cons, List.take_zero, List.drop_zero]
  repeat (go_big_quiet_step (fail))
  refine wpQuiet_nil ?_
  refine wpAny_seg_lit 4 1 5 rfl (by decide) (by kernel_rfl) (by kernel_rfl) (fun _ _ _ _ _ h => h) ?_
  simp only [List.take_succ_cons, List.take_zero, List.drop_succ_cons, List.drop_zero]
  repeat (go_big_quiet_step (fail))
  refine wpQuiet_nil ?_
  refine wpAny_of_K (c := 3) (D := fun w' => ∃ p : BlkAt b3 [.int .i64 a, .int .i64 b] 56, w' = p.w) _ _ _ _ ?_
  refine wpAnyK_seg_lit 2 1 4 4 rfl (by decide) (by decide) (by kernel_rfl) (by kernel_rfl) (by kernel_rfl) (by kernel_rfl) (fun _ _ _ _ _ h => h) ⟨⟨wd, HGx.out _ HB.out⟩, rfl⟩ ?_
  simp only [List.take_succ_cons, List.take_zero, List.drop_succ_cons, List.drop_zero]
  repeat (go_big_quiet_step (fail))
  refine wpQuiet_nil ?_
  clear nq0 nq1 hnn
  refine wpAnyK_call 1 (by kernel_rfl) rfl rfl 35 _ _ rfl enterTS #[.slice a0 L.length ca] rfl (fun v' w' => ∃ vs, StepsOwn w' wd.heap.size w'.heap.size v' L vs ∧ Below wd.heap.size wd w') ((HT.out wd (HVx.out _ HB.out) HZ.out).mono fun e w' ⟨v', vs, h1, h2, h3⟩ => ⟨v', h1, vs, h2, h3⟩) ?_
  rintro vA wA ⟨vsA, hoA, hb⟩
  have HB := hide (HB.out.trans (hb.mono HB.out.size))
  refine ⟨⟨⟨wA, HGx.out _ HB.out⟩, rfl⟩, ?_⟩
  have HOA := hide hoA
  have HEA : wA.heap.size ≤ wA.heap.size := Nat.le_refl _
  clear hoA hb
  obtain ⟨aA, cA, hsA⟩ := own_shape HOA.out.row
  subst hsA
  refine wpAnyK_last (by kernel_rfl) (by decide) ?_
  refine wpAny_one 3 (by kernel_rfl) rfl ?_
  simp only [Act.put, List.setIfInBounds_toArray, List.set_cons_succ, List.set_cons_zero]
  go_wp2_with fail
  refine (HTX.out _).mono ?_
  rintro e wB ⟨rfl, hb⟩
  have HOA := hide (HOA.out.below hb (Nat.le_refl _))
  have HB := hide (HB.out.trans (hb.mono HB.out.size))
  clear hb
  go_wp2_with fail
  show wpAny _ _ _ _ _ _ _ _
  refine wpAny_rest 5 rfl (by kernel_rfl) ?_
  simp only [List.drop_succ_cons, List.drop_zero]
  go_wp2_with fail
  refine (HSx.out _ _ _ _ _ HOA.out HZ.out).mono ?_
  rintro e w3 ⟨rfl, hb⟩
  have HB := hide (HB.out.trans (hb.mono HB.out.size))
  clear hb HOA HEA
  go_wp2_with fail
  refine (HT.out _ (HVx.out _ HB.out) HZ.out).mono ?_
  rintro e wX ⟨vX, vsX, rfl, hoX, hb⟩
  have HB := hide (HB.out.trans (hb.mono HB.out.size))
  have HOX := hide hoX
  clear hoX hb
  obtain ⟨aX, cX, hsX⟩ := own_shape HOX.out.row
  subst hsX
  have GX := hide (HGx.out _ HB.out)
  have cx0 : wX.cell? ⟨b3, 0, none⟩ = some (.int .i64 a) := by rw [GX.out.cell 0]; rfl
  have cx1 : wX.cell? ⟨b3, 1, none⟩ = some (.int .i64 b) := by rw [GX.out.cell 1]; rfl
  have lx := GX.out.lt
  go_wp2_with fail
  refine (HTX.out _).mono ?_
  rintro e wY ⟨rfl, hb⟩
  have HOX := hide (HOX.out.below hb (Nat.le_refl _))
  have HB := hide (HB.out.trans (hb.mono HB.out.size))
  clear hb GX lx cx0 cx1
  go_wp2_with fail
  refine (HIx.out _ _ _ _ _ HOX.out HZ.out).mono ?_
  rintro e w4 ⟨rfl, hb⟩
  have HRX := hide (HOX.out.read.below hb (Nat.le_refl _))
  have HB := hide (HB.out.trans (hb.mono HB.out.size))
  clear hb HOX
  go_wp2_with fail
  refine (HT.out _ (HVx.out _ HB.out) HZ.out).mono ?_
  rintro e wZ ⟨vZ, vsZ, rfl, hoZ, hb⟩
  have HRX := hide (HRX.out.below hb (Nat.le_refl _))
  have HB := hide (HB.out.trans (hb.mono HB.out.size))
  have HOZ := hide hoZ
  clear hoZ hb
  obtain ⟨aZ, cZ, hsZ⟩ := own_shape HOZ.out.row
  subst hsZ
  go_wp2_with fail
  refine (eqSteps_calls wZ _ _ L HRX.out HOZ.out.read (by have := HLL.out; omega) (fun s hs => by have := fr_le hs; have := HZ.out; omega)).mono ?_
  rintro e w5 ⟨rfl, hb⟩
  have HB := hide (HB.out.trans (hb.mono HB.out.size))
  clear hb
  go_wp2_with fail
  go_ret
  exact ⟨rfl, HBA.out.trans (HB.out.mono HBA.out.size)⟩
end Go.Proofs.Ythafpkpmnhgmaaa.P7
