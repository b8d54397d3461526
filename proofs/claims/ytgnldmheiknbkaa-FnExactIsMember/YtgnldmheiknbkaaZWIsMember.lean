/- The walk of FnExactIsMember; no condition. -/
import Derived.Test.YtgnldmheiknbkaaZS
import Derived.Test.YtgnldmheiknbkaaZT
import Derived.Test.YtgnldmheiknbkaaZN
import Derived.Test.YtgnldmheiknbkaaZA
namespace Go.Proofs.Ytgnldmheiknbkaa.P6
set_option maxRecDepth 8000
open Go.RowKit P1 P5 Rc

theorem enterTR : ∀ args w, (callFunc 42 args).run Try.prog w = .ok (.enter 42 args) w := run_enter Try.func42 (by kernel_rfl) (by kernel_rfl)
theorem enterSM : ∀ args w, (callFunc 26 args).run Try.prog w = .ok (.enter 26 args) w := run_enter Try.func26 (by kernel_rfl) (by kernel_rfl)

set_option maxHeartbeats 4000000 in
theorem walkIsMember (w : World) (v : Value) (L : List Cr) (hv : RowAt crR w v L) (hlm : L.length ≤ maxLen) (a b who : Int) :
    Calls Try.prog 7 #[v, roleV a b, .int .i64 who] w fun e w' => e = .returned (.bool true) ∧ Below w.heap.size w w' := by
  have HV0 := hide hv
  obtain ⟨a0, ca, hsh, -⟩ := hv.open_
  clear hv
  unfold maxLen at hlm
  have HTX := hide (fun wx => toRole_calls a b wx)
  simp only [roleV] at HTX ⊢
  by_cases hbig : 1048576 < L.length
  · subst hsh
    have hs := szCred_calls (w.alloc (.cells #[.int .i64 a, .int .i64 b] 52)) a0 L.length ca (by omega)
    rw [if_pos hbig] at hs
    go_enter Try.func7, Try.ntmps7
    go_wp2_with fail
    refine hs.mono ?_
    rintro e w2 ⟨rfl, rfl⟩
    go_wp2_with fail
    go_ret
    exact ⟨rfl, (Below.refl _ _).alloc (Nat.le_refl _) _⟩
  have hl : L.length ≤ 1048576 := by omega
  have HIx := hide (fun wx vx (h : RowAt crR wx vx L) => implIsMember_calls wx vx L a b who h hl)
  have HSx := hide (fun wx vx (h : RowAt crR wx vx L) => specIsMember_calls wx vx L a b who h hl)
  generalize decide ((⟨a, b, who⟩ : Fa) ∈ factsOf L) = R at HIx HSx
  simp only [roleV] at HIx HSx
  have hRR : (R != R) = false := by simp
  clear hbig hlm
  have HBA := hide ((Below.refl w.heap.size w).alloc (Nat.le_refl _) (.cells #[.int .i64 a, .int .i64 b] 52))
  have HG := hide (Blk.new w #[.int .i64 a, .int .i64 b] 52)
  have HV := hide (HV0.out.below HBA.out (Nat.le_refl _))
  rw [hsh] at HV ⊢
  clear HV0 hsh
  go_enter Try.func7, Try.ntmps7
  go_wp2_with fail
  obtain ⟨b3, e3⟩ : ∃ b, b = w.heap.size := ⟨_, rfl⟩
  rw [← e3] at HG ⊢
  clear e3
  generalize w.alloc (.cells #[.int .i64 a, .int .i64 b] 52) = w1 at *
  have hs := szCred_calls w1 a0 L.length ca (by omega)
  rw [if_neg (by omega)] at hs
  refine hs.mono ?_
  rintro e w2 ⟨rfl, rfl⟩
  clear hs
  have hneg : decide ((1048576 : Int) - (L.length : Int) < 0) = false := by simp; omega
  have HB := hide (Below.refl w2.heap.size w2)
  have HVx : Hid (∀ wx, Below w2.heap.size w2 wx → RowAt crR wx (.slice a0 L.length ca) L) := fun wx hb => HV.out.below hb (Nat.le_refl _)
  have hl3 := HG.out.lt
  have HGx : Hid (∀ wx, Below w2.heap.size w2 wx → Blk wx b3 [.int .i64 a, .int .i64 b] 52) := fun wx hb => HG.out.below hb hl3
  have HT : Hid (∀ wx, RowAt crR wx (.slice a0 L.length ca) L → Calls Try.prog 39 #[.slice a0 L.length ca] wx fun e w' => ∃ v', e = .returned v' ∧ w'.ownsRow wx.heap.size 29 10 v' (L).length (cellsI (flat crR (L))) ∧ Below wx.heap.size wx w') := fun wx h => toCredS_calls wx _ L h hl
  clear HV HG
  go_wp2_with fail
  clear hneg
  have nq0 : ∀ p : BlkAt b3 [.int .i64 a, .int .i64 b] 52, p.w.cell? ⟨b3, 0, none⟩ = some (.int .i64 a) := fun p => by rw [p.h.cell 0]; rfl
  have nq1 : ∀ p : BlkAt b3 [.int .i64 a, .int .i64 b] 52, p.w.cell? ⟨b3, 1, none⟩ = some (.int .i64 b) := fun p => by rw [p.h.cell 1]; rfl
  have hnn : Nonempty (BlkAt b3 [.int .i64 a, .int .i64 b] 52) := ⟨⟨w2, HGx.out _ HB.out⟩⟩
  refine wp_region_open (fun wd => wd = w2.drew) rfl (by kernel_rfl) ?_
  rintro wd rfl
  have hbd := (Below.refl w2.heap.size w2).drew
  have HB := hide (HB.out.trans (hbd.mono HB.out.size))
  clear hbd
  generalize w2.drew = wd at *
  refine wpAny_seg_lit 0 1 6 rfl (by decide) (by kernel_rfl) (by kernel_rfl) (fun _ _ _ _ _ h => h) ?_
  simp only [List.take_succ_cons, List.take_zero, List.drop_zero]
  repeat (go_big_quiet_step (fail))
  refine wpQuiet_nil ?_
  refine wpAny_seg_lit 4 1 5 rfl (by decide) (by kernel_rfl) (by kernel_rfl) (fun _ _ _ _ _ h => h) ?_
  simp only [List.take_succ_cons, List.take_zero, List.drop_succ_cons, List.drop_zero]
  repeat (go_big_quiet_step (fail))
  refine wpQuiet_nil ?_
  refine wpAny_of_K (c := 3) (D := fun w' => ∃ p : BlkAt b3 [.int .i64 a, .int .i64 b] 52, w' = p.w) _ _ _ _ ?_
  refine wpAnyK_seg_lit 2 1 4 4 rfl (by decide) (by decide) (by kernel_rfl) (by kernel_rfl) (by kernel_rfl) (by kernel_rfl) (fun _ _ _ _ _ h => h) ⟨⟨wd, HGx.out _ HB.out⟩, rfl⟩ ?_
  simp only [List.take_succ_cons, List.take_zero, List.drop_succ_cons, List.drop_zero]
  repeat (go_big_quiet_step (fail))
  refine wpQuiet_nil ?_
  clear nq0 nq1 hnn
  refine wpAnyK_call 1 (by kernel_rfl) rfl rfl 39 _ _ rfl enterTC #[.slice a0 L.length ca] rfl (fun v' w' => w'.ownsRow wd.heap.size 29 10 v' (L).length (cellsI (flat crR (L))) ∧ Below wd.heap.size wd w') ((HT.out wd (HVx.out _ HB.out)).mono fun e w' ⟨v', h1, h2, h3⟩ => ⟨v', h1, h2, h3⟩) ?_
  rintro vt wt ⟨hot, hb⟩
  have HRt := hide (RowAt.of_own hot)
  obtain ⟨at_, ct, hst⟩ := own_shape hot
  have HB := hide (HB.out.trans (hb.mono HB.out.size))
  refine ⟨⟨⟨wt, HGx.out _ HB.out⟩, rfl⟩, ?_⟩
  clear hot hb
  subst hst
  refine wpAnyK_last (by kernel_rfl) (by decide) ?_
  refine wpAny_callW 3 (by kernel_rfl) rfl rfl 42 _ _ rfl enterTR #[.agg #[.int .i64 a, .int .i64 b]] rfl (fun v' w' => v' = .agg #[.int .i64 a, .int .i64 b] ∧ Below wt.heap.size wt w') ((HTX.out wt).mono fun e w' ⟨h1, h2⟩ => ⟨_, h1, rfl, h2⟩) ?_
  rintro vu wu ⟨rfl, hb⟩
  have HRt := hide (HRt.out.below hb (Nat.le_refl _))
  have HB := hide (HB.out.trans (hb.mono HB.out.size))
  clear hb
  refine wpAny_callW 5 (by kernel_rfl) rfl rfl 26 _ _ rfl enterSM #[.slice at_ L.length ct, .agg #[.int .i64 a, .int .i64 b], .int .i64 who] rfl (fun v' w' => v' = .bool R ∧ Below wu.heap.size wu w') ((HSx.out wu _ HRt.out).mono fun e w' ⟨h1, h2⟩ => ⟨_, h1, rfl, h2⟩) ?_
  rintro vA wA ⟨rfl, hb⟩
  have HB := hide (HB.out.trans (hb.mono HB.out.size))
  clear hb HRt
  refine wpAny_rest 6 rfl (by kernel_rfl) ?_
  simp only [List.drop_succ_cons, List.drop_zero, Act.put, List.setIfInBounds_toArray, List.set_cons_succ, List.set_cons_zero]
  go_wp2_with fail
  refine (HT.out wA (HVx.out _ HB.out)).mono ?_
  rintro e wX ⟨vX, rfl, hx, hb⟩
  have HB := hide (HB.out.trans (hb.mono HB.out.size))
  have HOX := hide hx
  clear hx hb
  have GX := hide (HGx.out _ HB.out)
  have cx0 : wX.cell? ⟨b3, 0, none⟩ = some (.int .i64 a) := by rw [GX.out.cell 0]; rfl
  have cx1 : wX.cell? ⟨b3, 1, none⟩ = some (.int .i64 b) := by rw [GX.out.cell 1]; rfl
  have lx := GX.out.lt
  go_wp2_with fail
  refine (HTX.out _).mono ?_
  rintro e wY ⟨rfl, hb⟩
  have HOX := hide (own_below HOX.out hb)
  have HB := hide (HB.out.trans (hb.mono HB.out.size))
  clear hb GX lx cx0 cx1
  go_wp2_with fail
  refine (HIx.out wY vX (RowAt.of_own HOX.out)).mono ?_
  rintro e wG ⟨rfl, hb⟩
  have HOX := hide (own_below HOX.out hb)
  have HB := hide (HB.out.trans (hb.mono HB.out.size))
  clear hb
  go_wp2_with fail
  refine (HT.out wG (HVx.out _ HB.out)).mono ?_
  rintro e wZ ⟨vZ, rfl, hx, hb⟩
  have HOX := hide (own_below HOX.out hb)
  have HB := hide (HB.out.trans (hb.mono HB.out.size))
  have HRZ := hide (RowAt.of_own hx)
  clear hx hb
  go_wp2_with fail
  refine (eqCredS_calls wZ vX vZ L (RowAt.of_own HOX.out) HRZ.out (by omega)).mono ?_
  rintro e wF ⟨rfl, hb⟩
  have HB := hide (HB.out.trans (hb.mono HB.out.size))
  clear hb HRZ
  go_wp2_with fail
  go_ret
  exact ⟨rfl, HBA.out.trans (HB.out.mono HBA.out.size)⟩
end Go.Proofs.Ytgnldmheiknbkaa.P6
