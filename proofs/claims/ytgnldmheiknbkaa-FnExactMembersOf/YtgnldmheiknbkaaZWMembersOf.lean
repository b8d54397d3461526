/- The walk of FnExactMembersOf; no condition. -/
import Derived.Test.YtgnldmheiknbkaaZS
import Derived.Test.YtgnldmheiknbkaaZT
import Derived.Test.YtgnldmheiknbkaaZRecI
namespace Go.Proofs.Ytgnldmheiknbkaa.P6
set_option maxRecDepth 8000
open Go.RowKit P1 P5 Rc

set_option maxHeartbeats 4000000 in
theorem walkMembersOf (w : World) (v : Value) (L : List Cr) (hv : RowAt crR w v L) (hlm : L.length ≤ maxLen) (a b : Int) :
    Calls Try.prog 8 #[v, roleV a b] w fun e w' => e = .returned (.bool true) ∧ Below w.heap.size w w' := by
  have HV0 := hide hv
  obtain ⟨a0, ca, hsh, -⟩ := hv.open_
  clear hv
  unfold maxLen at hlm
  have HTX := hide (fun wx => toRole_calls a b wx)
  simp only [roleV] at HTX ⊢
  by_cases hbig : 1048576 < L.length
  · subst hsh
    have hs := szCred_calls (w.alloc (.cells #[.int .i64 a, .int .i64 b] 52)) a0 L.length ca (by omega)
    rw [if_pos hbig] at hs
    go_enter Try.func8, Try.ntmps8
    go_wp2_with fail
    refine hs.mono ?_
    rintro e w2 ⟨rfl, rfl⟩
    go_wp2_with fail
    go_ret
    exact ⟨rfl, (Below.refl _ _).alloc (Nat.le_refl _) _⟩
  have hl : L.length ≤ 1048576 := by omega
  have HIx := hide (fun wx vx (h : RowAt crR wx vx L) => show Calls Try.prog 19 #[vx, .agg #[.int .i64 a, .int .i64 b]] wx (fun e w' => ∃ v', e = .returned v' ∧ w'.ownsRow wx.heap.size 3 1 v' (membersOf L a b).length (cellsI (flat inR (membersOf L a b))) ∧ Below wx.heap.size wx w') by rw [flat_in]; exact implMembers_calls wx vx L a b h hl)
  have HSx := hide (fun wx vx (h : RowAt crR wx vx L) => show Calls Try.prog 28 #[vx, .agg #[.int .i64 a, .int .i64 b]] wx (fun e w' => ∃ v', e = .returned v' ∧ w'.ownsRow wx.heap.size 3 1 v' (membersOf L a b).length (cellsI (flat inR (membersOf L a b))) ∧ Below wx.heap.size wx w') by rw [flat_in]; exact specMembers_calls wx vx L a b h hl)
  have hAl : (membersOf L a b).length ≤ 1048576 := membersOf_le L a b
  obtain ⟨A, EA⟩ : ∃ A, A = membersOf L a b := ⟨_, rfl⟩
  simp only [← EA] at HIx HSx hAl
  clear EA hbig hlm
  have HFL : Hid ((flat crR L).length = L.length * 10) := flat_length crR L
  have HFA : Hid ((flat inR A).length = A.length * 1) := flat_length inR A
  have HBA := hide ((Below.refl w.heap.size w).alloc (Nat.le_refl _) (.cells #[.int .i64 a, .int .i64 b] 52))
  have HG := hide (Blk.new w #[.int .i64 a, .int .i64 b] 52)
  have HV := hide (HV0.out.below HBA.out (Nat.le_refl _))
  rw [hsh] at HV ⊢
  clear HV0 hsh
  go_enter Try.func8, Try.ntmps8
  go_wp2_with fail
  obtain ⟨b3, e3⟩ : ∃ b, b = w.heap.size := ⟨_, rfl⟩
  rw [← e3] at HG ⊢
  clear e3
  generalize w.alloc (.cells #[.int .i64 a, .int .i64 b] 52) = w1 at *
  have hs := szCred_calls w1 a0 L.length ca (by omega)
  rw [if_neg (by omega)] at hs
  refine hs.mono ?_
  rintro e w2 ⟨rfl, rfl⟩
  clear hs
  have hneg : decide ((1048576 : Int) - (L.length : Int) < 0) = false := by simp; omega
  have HB := hide (Below.refl w2.heap.size w2)
  have HVx : Hid (∀ wx, Below w2.heap.size w2 wx → RowAt crR wx (.slice a0 L.length ca) L) := fun wx hb => HV.out.below hb (Nat.le_refl _)
  have hl3 := HG.out.lt
  have HGx : Hid (∀ wx, Below w2.heap.size w2 wx → Blk wx b3 [.int .i64 a, .int .i64 b] 52) := fun wx hb => HG.out.below hb hl3
  have HT : Hid (∀ wx, RowAt crR wx (.slice a0 L.length ca) L → Calls Try.prog 39 #[.slice a0 L.length ca] wx fun e w' => ∃ v', e = .returned v' ∧ w'.ownsRow wx.heap.size 29 10 v' (L).length (cellsI (flat crR (L))) ∧ Below wx.heap.size wx w') := fun wx h => toCredS_calls wx _ L h hl
  clear HV HG
  go_wp2_with fail
  clear hneg
  have nqA0 : ∀ p : BlkAt b3 [.int .i64 a, .int .i64 b] 52, p.w.cell? ⟨b3, 0, none⟩ = some (.int .i64 a) := fun p => by rw [p.h.cell 0]; rfl
  have nqA1 : ∀ p : BlkAt b3 [.int .i64 a, .int .i64 b] 52, p.w.cell? ⟨b3, 1, none⟩ = some (.int .i64 b) := fun p => by rw [p.h.cell 1]; rfl
  have hnn : Nonempty (BlkAt b3 [.int .i64 a, .int .i64 b] 52) := ⟨⟨w2, HGx.out _ HB.out⟩⟩
  refine wp_region_open (fun wd => wd = w2.drew) rfl (by kernel_rfl) ?_
  rintro wd rfl
  have hbd := (Below.refl w2.heap.size w2).drew
  have HB := hide (HB.out.trans (hbd.mono HB.out.size))
  clear hbd
  generalize w2.drew = wdA at *
  refine wpAny_seg_lit 0 1 5 rfl (by decide) (by kernel_rfl) (by kernel_rfl) (fun _ _ _ _ _ h => h) ?_
  simp only [List.take_succ_cons, List.take_zero, List.drop_zero]
  repeat (go_big_quiet_step (fail))
  refine wpQuiet_nil ?_
  refine wpAny_of_K (c := 3) (D := fun w' => ∃ p : BlkAt b3 [.int .i64 a, .int .i64 b] 52, w' = p.w) _ _ _ _ ?_
  refine wpAnyK_seg_lit 2 1 4 4 rfl (by decide) (by decide) (by kernel_rfl) (by kernel_rfl) (by kernel_rfl) (by kernel_rfl) (fun _ _ _ _ _ h => h) ⟨⟨wdA, HGx.out _ HB.out⟩, rfl⟩ ?_
  simp only [List.take_succ_cons, List.take_zero, List.drop_succ_cons, List.drop_zero]
  repeat (go_big_quiet_step (fail))
  refine wpQuiet_nil ?_
  clear nqA0 nqA1 hnn
  refine wpAnyK_call 1 (by kernel_rfl) rfl rfl 39 _ _ rfl enterTC #[.slice a0 L.length ca] rfl (fun v' w' => w'.ownsRow wdA.heap.size 29 10 v' (L).length (cellsI (flat crR (L))) ∧ Below wdA.heap.size wdA w') ((HT.out wdA (HVx.out _ HB.out)).mono fun e w' ⟨v', h1, h2, h3⟩ => ⟨v', h1, h2, h3⟩) ?_
  rintro vtA wtA ⟨hot, hb⟩
  have HRt := hide (RowAt.of_own hot)
  obtain ⟨at_, ct, hst⟩ := own_shape hot
  have HB := hide (HB.out.trans (hb.mono HB.out.size))
  refine ⟨⟨⟨wtA, HGx.out _ HB.out⟩, rfl⟩, ?_⟩
  clear hot hb
  subst hst
  refine wpAnyK_last (by kernel_rfl) (by decide) ?_
  refine wpAny_rest 3 rfl (by kernel_rfl) ?_
  simp only [List.drop_succ_cons, List.drop_zero, Act.put, List.setIfInBounds_toArray, List.set_cons_succ, List.set_cons_zero]
  go_wp2_with fail
  refine (HTX.out _).mono ?_
  rintro e wuA ⟨rfl, hb⟩
  have HRt := hide (HRt.out.below hb (Nat.le_refl _))
  have HB := hide (HB.out.trans (hb.mono HB.out.size))
  clear hb
  go_wp2_with fail
  refine (HSx.out wuA _ HRt.out).mono ?_
  rintro e wA ⟨vA, rfl, ho, hb⟩
  have HB := hide (HB.out.trans (hb.mono HB.out.size))
  have HOA := hide ho
  clear ho hb HRt
  have hwz : w2.heap.size ≤ wA.heap.size := HB.out.size
  go_wp2_with fail
  refine (HT.out wA (HVx.out _ HB.out)).mono ?_
  rintro e wX ⟨vX, rfl, hx, hb⟩
  have hAX := own_apart HOA.out hx
  have HB := hide (HB.out.trans (hb.mono HB.out.size))
  have HOA := hide (own_below HOA.out hb)
  have HOX := hide hx
  clear hx hb
  have GX := hide (HGx.out _ HB.out)
  have cx0 : wX.cell? ⟨b3, 0, none⟩ = some (.int .i64 a) := by rw [GX.out.cell 0]; rfl
  have cx1 : wX.cell? ⟨b3, 1, none⟩ = some (.int .i64 b) := by rw [GX.out.cell 1]; rfl
  have lx := GX.out.lt
  go_wp2_with fail
  refine (HTX.out _).mono ?_
  rintro e wY ⟨rfl, hb⟩
  have HOA := hide (own_below HOA.out hb)
  have HOX := hide (own_below HOX.out hb)
  have HB := hide (HB.out.trans (hb.mono HB.out.size))
  clear hb GX lx cx0 cx1
  have hwzY : w2.heap.size ≤ wY.heap.size := HB.out.size
  go_wp2_with fail
  refine (HIx.out wY vX (RowAt.of_own HOX.out)).mono ?_
  rintro e wG ⟨vG, rfl, hx, hb⟩
  have hAG := own_apart HOA.out hx
  have hGX := own_apart_r HOX.out hx
  have HB := hide (HB.out.trans (hb.mono HB.out.size))
  have HOA := hide (own_below HOA.out hb)
  have HOX := hide (own_below HOX.out hb)
  have HOG := hide hx
  clear hx hb
  go_wp2_with fail
  refine (eqIntR_calls wG vG vA A (RowAt.of_own HOG.out) (RowAt.of_own HOA.out) (by omega)).mono ?_
  rintro e wE ⟨rfl, hb⟩
  have HOA := hide (own_below HOA.out hb)
  have HOX := hide (own_below HOX.out hb)
  have HOG := hide (own_below HOG.out hb)
  have HB := hide (HB.out.trans (hb.mono HB.out.size))
  clear hb
  go_wp2_with fail
  refine (HT.out wE (HVx.out _ HB.out)).mono ?_
  rintro e wZ ⟨vZ, rfl, hx, hb⟩
  have HOA := hide (own_below HOA.out hb)
  have HOX := hide (own_below HOX.out hb)
  have HOG := hide (own_below HOG.out hb)
  have HB := hide (HB.out.trans (hb.mono HB.out.size))
  have HRZ := hide (RowAt.of_own hx)
  clear hx hb
  go_wp2_with fail
  refine (eqCredS_calls wZ vX vZ L (RowAt.of_own HOX.out) HRZ.out (by omega)).mono ?_
  rintro e wF ⟨rfl, hb⟩
  have HOA := hide (own_below HOA.out hb)
  have HOX := hide (own_below HOX.out hb)
  have HOG := hide (own_below HOG.out hb)
  have HB := hide (HB.out.trans (hb.mono HB.out.size))
  clear hb HRZ
  go_wp2_with fail
  refine (markCredS_calls wF _ vX L.length (flat crR L) 1 HFL.out HOX.out (by decide) (by omega)).mono ?_
  rintro e wM ⟨rfl, -, hgr⟩
  have HB := hide (HB.out.grown hgr HB.out.size (fun k hk => Nat.le_trans hwz (HOX.out.lt k hk).1))
  have HOA := hide (HOA.out.kept hgr hAX)
  have HOG := hide (HOG.out.kept hgr hGX)
  clear hgr HOX hAX hGX
  have hk1 : decide ((((1 + L.length * 10 : Nat) : Int)) < 0) = false := by simp; omega
  go_wp2_with fail
  refine (eqIntR_calls wM vG vA A (RowAt.of_own HOG.out) (RowAt.of_own HOA.out) (by omega)).mono ?_
  rintro e wN ⟨rfl, hb⟩
  have HOA := hide (own_below HOA.out hb)
  have HOG := hide (own_below HOG.out hb)
  have HB := hide (HB.out.trans (hb.mono HB.out.size))
  clear hb hk1
  go_wp2_with fail
  refine (markIntR_calls wN _ vG A.length (flat inR A) 1 HFA.out HOG.out (by decide) (by omega)).mono ?_
  rintro e wP ⟨rfl, hmk, hgr⟩
  have HB := hide (HB.out.grown hgr HB.out.size (fun k hk => Nat.le_trans hwzY (HOG.out.lt k hk).1))
  have HOA := hide (HOA.out.kept hgr hAG)
  have HMK := hide hmk
  clear hgr hmk HOG hAG
  have HHD := hide (fun wx (h : wx.ownsRow wY.heap.size 3 1 vG A.length (cellsI (marks (1 : Nat) (A.length * 1)))) => heldIntR_calls wx _ vG A.length 1 h (by decide) (by omega))
  generalize hq3 : ((1 + A.length * 1 : Nat) : Int) = q3 at *
  have hq4 : decide (q3 < 0) = false := by simp; omega
  have hq5 : (q3 != q3) = false := by simp
  clear hq3
  go_wp2_with fail
  refine (HHD.out wP HMK.out).mono ?_
  rintro e wQ ⟨rfl, rfl⟩
  go_wp2_with fail
  have nqH0 : ∀ p : BlkAt b3 [.int .i64 a, .int .i64 b] 52, p.w.cell? ⟨b3, 0, none⟩ = some (.int .i64 a) := fun p => by rw [p.h.cell 0]; rfl
  have nqH1 : ∀ p : BlkAt b3 [.int .i64 a, .int .i64 b] 52, p.w.cell? ⟨b3, 1, none⟩ = some (.int .i64 b) := fun p => by rw [p.h.cell 1]; rfl
  have hnn : Nonempty (BlkAt b3 [.int .i64 a, .int .i64 b] 52) := ⟨⟨wQ, HGx.out _ HB.out⟩⟩
  refine wp_region_open (fun wd => wd = wQ.drew) rfl (by kernel_rfl) ?_
  rintro wd rfl
  have hbd := (Below.refl wQ.heap.size wQ).drew
  have HOA := hide (own_below HOA.out hbd)
  have HMK := hide (own_below HMK.out hbd)
  have HB := hide (HB.out.trans (hbd.mono HB.out.size))
  clear hbd
  generalize wQ.drew = wdH at *
  refine wpAny_seg_lit 0 1 5 rfl (by decide) (by kernel_rfl) (by kernel_rfl) (fun _ _ _ _ _ h => h) ?_
  simp only [List.take_succ_cons, List.take_zero, List.drop_zero]
  repeat (go_big_quiet_step (fail))
  refine wpQuiet_nil ?_
  refine wpAny_of_K (c := 3) (D := fun w' => ∃ p : BlkAt b3 [.int .i64 a, .int .i64 b] 52, w' = p.w) _ _ _ _ ?_
  refine wpAnyK_seg_lit 2 1 4 4 rfl (by decide) (by decide) (by kernel_rfl) (by kernel_rfl) (by kernel_rfl) (by kernel_rfl) (fun _ _ _ _ _ h => h) ⟨⟨wdH, HGx.out _ HB.out⟩, rfl⟩ ?_
  simp only [List.take_succ_cons, List.take_zero, List.drop_succ_cons, List.drop_zero]
  repeat (go_big_quiet_step (fail))
  refine wpQuiet_nil ?_
  clear nqH0 nqH1 hnn
  refine wpAnyK_call 1 (by kernel_rfl) rfl rfl 39 _ _ rfl enterTC #[.slice a0 L.length ca] rfl (fun v' w' => w'.ownsRow wdH.heap.size 29 10 v' (L).length (cellsI (flat crR (L))) ∧ Below wdH.heap.size wdH w') ((HT.out wdH (HVx.out _ HB.out)).mono fun e w' ⟨v', h1, h2, h3⟩ => ⟨v', h1, h2, h3⟩) ?_
  rintro vtH wtH ⟨hot, hb⟩
  have HRt := hide (RowAt.of_own hot)
  obtain ⟨at_, ct, hst⟩ := own_shape hot
  have HOA := hide (own_below HOA.out hb)
  have HMK := hide (own_below HMK.out hb)
  have HB := hide (HB.out.trans (hb.mono HB.out.size))
  refine ⟨⟨⟨wtH, HGx.out _ HB.out⟩, rfl⟩, ?_⟩
  clear hot hb
  subst hst
  refine wpAnyK_last (by kernel_rfl) (by decide) ?_
  refine wpAny_rest 3 rfl (by kernel_rfl) ?_
  simp only [List.drop_succ_cons, List.drop_zero, Act.put, List.setIfInBounds_toArray, List.set_cons_succ, List.set_cons_zero]
  go_wp2_with fail
  refine (HTX.out _).mono ?_
  rintro e wuH ⟨rfl, hb⟩
  have HRt := hide (HRt.out.below hb (Nat.le_refl _))
  have HOA := hide (own_below HOA.out hb)
  have HMK := hide (own_below HMK.out hb)
  have HB := hide (HB.out.trans (hb.mono HB.out.size))
  clear hb
  go_wp2_with fail
  refine (HIx.out wuH _ HRt.out).mono ?_
  rintro e wH ⟨vH, rfl, ho, hb⟩
  have HOA := hide (own_below HOA.out hb)
  have HMK := hide (own_below HMK.out hb)
  have HB := hide (HB.out.trans (hb.mono HB.out.size))
  have HOH := hide ho
  clear ho hb HRt
  go_wp2_with fail
  refine (eqIntR_calls wH vH vA A (RowAt.of_own HOH.out) (RowAt.of_own HOA.out) (by omega)).mono ?_
  rintro e wR ⟨rfl, hb⟩
  have HMK := hide (own_below HMK.out hb)
  have HB := hide (HB.out.trans (hb.mono HB.out.size))
  clear hb
  go_wp2_with fail
  refine (HHD.out wR HMK.out).mono ?_
  rintro e wS ⟨rfl, rfl⟩
  go_wp2_with fail
  go_ret
  exact ⟨rfl, HBA.out.trans (HB.out.mono HBA.out.size)⟩
end Go.Proofs.Ytgnldmheiknbkaa.P6
