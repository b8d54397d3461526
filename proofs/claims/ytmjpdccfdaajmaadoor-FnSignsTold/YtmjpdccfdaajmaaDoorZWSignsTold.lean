/- The walk of FnSignsTold: it returns true; condition: the listed tables hold what their text lays. -/
import Derived.Test.YtmjpdccfdaajmaaDoorZJ
import Derived.Test.YtmjpdccfdaajmaaDoorZG
import Derived.Test.YtmjpdccfdaajmaaDoorZA
namespace Go.Proofs.YtmjpdccfdaajmaaDoor.P4
set_option maxRecDepth 8000
open Go.RowKit P1 P3

theorem enterQI : ∀ args w, (callFunc 16 args).run Tryd.prog w = .ok (.enter 16 args) w := run_enter Tryd.func16 (by kernel_rfl) (by kernel_rfl)
theorem enterQS : ∀ args w, (callFunc 34 args).run Tryd.prog w = .ok (.enter 34 args) w := run_enter Tryd.func34 (by kernel_rfl) (by kernel_rfl)
theorem enterSI : ∀ args w, (callFunc 33 args).run Tryd.prog w = .ok (.enter 33 args) w := run_enter Tryd.func33 (by kernel_rfl) (by kernel_rfl)

theorem sEnds_le (seed leaf : Int) (t : List UInt8) : (sEnds seed leaf t).length ≤ 11 ∧ ∀ x ∈ sEnds seed leaf t, x.length ≤ 8 := by
  unfold sEnds
  split
  · exact ⟨by rw [endN_length]; omega, end_le seed leaf t⟩
  · simp

theorem sWay_le (seed leaf : Int) : (sWay seed leaf).length ≤ 2 ∧ ∀ x ∈ sWay seed leaf, x.length ≤ 8 := by
  unfold sWay
  split
  · rename_i h
    exact ⟨by rw [wayN_length]; omega, fun x hx => Nat.le_of_eq (way8 seed leaf.toNat (by have := h.1.2; omega) x hx)⟩
  · simp

set_option maxHeartbeats 4000000 in
theorem signsToldWalk (w : World) (a : Option Addr) (len cap : Nat) (z : List Int) (hr : Frame.IsRow .u8 w a len cap z) (hG : Glo w) :
    Calls Tryd.prog 4 #[.slice a len cap] w fun e w' => e = .returned (.bool true) ∧ Below w.heap.size w w' := by
  have Hr := hide hr
  have HG := hide hG
  clear hr hG
  by_cases hbig : 1048576 < len
  · have hd : decide (1048576 < (len : Int)) = true := by simp; omega
    go_enter Tryd.func4, Tryd.ntmps4
    go_wp2_with fail
    refine (Cu.big_calls _ a len cap).mono ?_
    rintro e w1 ⟨rfl, rfl⟩
    rw [hd]
    go_wp2
    go_ret
    exact ⟨rfl, Below.refl _ _⟩
  · have hd : decide (1048576 < (len : Int)) = false := by simp; omega
    have HC := hide (Cu.code_of_row Hr.out (by omega))
    clear Hr hbig
    go_enter Tryd.func4, Tryd.ntmps4
    go_wp2_with fail
    refine (Cu.big_calls _ a len cap).mono ?_
    rintro e w1 ⟨rfl, rfl⟩
    rw [hd]
    clear hd
    have HCm : Hid (∀ wx, Below w1.heap.size w1 wx → Cu.Code wx.heap.size wx (.slice a len cap) len) := fun wx hb => (HC.out.below (fun k hk => hb.block k hk)).more hb.size
    clear HC
    go_wp2_with fail
    refine (Cu.drawSign_calls w1 a len cap (HCm.out _ (Below.refl _ _))).mono ?_
    rintro e w2 ⟨sd, lf, t, hsd, hlf, ht, rfl, hb2⟩
    have HB2 := hide hb2
    clear hb2 hsd hlf
    have H1 := hide (fun wx (hg : Glo wx) => implSign_calls sd lf t (by omega) wx hg)
    have H2 := hide (fun wx => specSign_calls sd lf t (by omega) wx)
    have hE := sEnds_le sd lf t
    have hW := sWay_le sd lf
    generalize sLeaf sd lf = slf at *
    generalize sEnds sd lf t = E at *
    generalize sWay sd lf = W at *
    generalize decide (sOk sd lf) = ok at *
    have HE := hide hE
    have HW := hide hW
    clear hE hW
    go_wp2_with fail
    refine (H1.out _ (HG.out.below HB2.out)).mono ?_
    rintro e w3 ⟨v1, rfl, hv1, hb3⟩
    obtain ⟨vE1, vW1, hv1e, q1, q2, -⟩ := hv1.val
    obtain ⟨a1, m1, c1, rfl⟩ := own_shape q1
    obtain ⟨a2, m2, c2, rfl⟩ := own_shape q2
    have hbA : Below w3.heap.size w3 (w3.alloc (.cells #[.int .i64 slf, .slice a1 m1 c1, .slice a2 m2 c2] 29)) := (Below.refl _ _).alloc (Nat.le_refl _) _
    have HV4 := hide (hv1.below hbA)
    have HA4 := hide (Blk.new w3 #[.int .i64 slf, .slice a1 m1 c1, .slice a2 m2 c2] 29)
    have hb3' := HB2.out.trans (hb3.mono HB2.out.size)
    have HB4 := hide (hb3'.trans (hbA.mono hb3'.size))
    subst hv1e
    clear hv1 q1 q2 hb3 hb3' hbA HB2
    go_wp2_with fail
    obtain ⟨b6, hb6⟩ : ∃ b, b = w3.heap.size := ⟨_, rfl⟩
    rw [← hb6] at HA4 ⊢
    clear hb6
    generalize w3.alloc (.cells #[.int .i64 slf, .slice a1 m1 c1, .slice a2 m2 c2] 29) = w4 at *
    refine (H2.out _).mono ?_
    rintro e w5 ⟨v2, rfl, hv2, hb5⟩
    obtain ⟨vE2, vW2, hv2e, q1, q2, -⟩ := hv2.val
    obtain ⟨a3, m3, c3, rfl⟩ := own_shape q1
    obtain ⟨a4, m4, c4, rfl⟩ := own_shape q2
    have hbA : Below w5.heap.size w5 (w5.alloc (.cells #[.int .i64 slf, .slice a3 m3 c3, .slice a4 m4 c4] 29)) := (Below.refl _ _).alloc (Nat.le_refl _) _
    have HV6 := hide ((HV4.out.below hb5).below hbA)
    have HU6 := hide (hv2.below hbA)
    have hA5 := HA4.out.below hb5 HA4.out.lt
    have HA6 := hide (hA5.below hbA hA5.lt)
    have HC6 := hide (Blk.new w5 #[.int .i64 slf, .slice a3 m3 c3, .slice a4 m4 c4] 29)
    have hb5' := HB4.out.trans (hb5.mono HB4.out.size)
    have HB6 := hide (hb5'.trans (hbA.mono hb5'.size))
    subst hv2e
    clear hv2 q1 q2 hb5 hb5' hbA hA5 HB4 HV4 HA4
    go_wp2_with fail
    obtain ⟨b8, hb8⟩ : ∃ b, b = w5.heap.size := ⟨_, rfl⟩
    rw [← hb8] at HC6 ⊢
    clear hb8
    generalize w5.alloc (.cells #[.int .i64 slf, .slice a3 m3 c3, .slice a4 m4 c4] 29) = w6 at *
    refine (drawSigned_calls w6 a len cap (HCm.out _ HB6.out)).mono ?_
    rintro e w7 ⟨ky, u, v3, lf3, E3, W3, hky, hu, rfl, hv3, hb7⟩
    obtain ⟨⟨vE3, vW3, hv3e, tE3, tW3⟩, d1, d2, d3, d4⟩ := hv3
    obtain ⟨a5, c5, hE3⟩ := texts_len tE3
    obtain ⟨a6, c6, hW3⟩ := texts_len tW3
    have hSV : SigAt w7 v3 lf3 E3 W3 := ⟨⟨vE3, vW3, hv3e, tE3, tW3⟩, d1, d2, d3, d4⟩
    obtain ⟨m5, hm5⟩ : ∃ m, m = E3.length := ⟨_, rfl⟩
    obtain ⟨m6, hm6⟩ : ∃ m, m = W3.length := ⟨_, rfl⟩
    rw [← hm5] at hE3
    rw [← hm6] at hW3
    subst hE3 hW3
    subst hv3e
    have hbA : Below w7.heap.size w7 (w7.alloc (.cells #[.int .i64 lf3, .slice a5 m5 c5, .slice a6 m6 c6] 29)) := (Below.refl _ _).alloc (Nat.le_refl _) _
    have HV8 := hide ((HV6.out.below hb7).below hbA)
    have HU8 := hide ((HU6.out.below hb7).below hbA)
    have HSV8 := hide (hSV.below hbA)
    have hA7 := HA6.out.below hb7 HA6.out.lt
    have HA8 := hide (hA7.below hbA hA7.lt)
    have hC7 := HC6.out.below hb7 HC6.out.lt
    have HC8 := hide (hC7.below hbA hC7.lt)
    have HD8 := hide (Blk.new w7 #[.int .i64 lf3, .slice a5 m5 c5, .slice a6 m6 c6] 29)
    have hb7' := HB6.out.trans (hb7.mono HB6.out.size)
    have HB8 := hide (hb7'.trans (hbA.mono hb7'.size))
    clear tE3 tW3 d1 d2 d3 d4 hSV hm5 hm6 hb7 hb7' hbA hA7 hC7 HB6 HV6 HU6 HA6 HC6 hky
    go_wp2_with fail
    obtain ⟨b12, hb12⟩ : ∃ b, b = w7.heap.size := ⟨_, rfl⟩
    rw [← hb12] at HD8 ⊢
    clear hb12
    generalize w7.alloc (.cells #[.int .i64 lf3, .slice a5 m5 c5, .slice a6 m6 c6] 29) = w8 at *
    refine (Cu.drawChain_calls w8 a len cap (HCm.out _ HB8.out)).mono ?_
    rintro e w9 ⟨x, cn, hx, hcn, rfl, hb9⟩
    have HV9 := hide (HV8.out.below hb9)
    have HU9 := hide (HU8.out.below hb9)
    have HSV9 := hide (HSV8.out.below hb9)
    have HA9 := hide (HA8.out.below hb9 HA8.out.lt)
    have HC9 := hide (HC8.out.below hb9 HC8.out.lt)
    have HD9 := hide (HD8.out.below hb9 HD8.out.lt)
    have HB9 := hide (HB8.out.trans (hb9.mono HB8.out.size))
    clear hb9 hcn HV8 HU8 HSV8 HA8 HC8 HD8 HB8
    go_wp2_with fail
    refine (Cu.drawSecret_calls w9 a len cap (HCm.out _ HB9.out)).mono ?_
    rintro e w10 ⟨ss, sl, si, hss, hsl, hsi, rfl, hb10⟩
    have HV := hide (HV9.out.below hb10)
    have HU := hide (HU9.out.below hb10)
    have HSV := hide (HSV9.out.below hb10)
    have HA := hide (HA9.out.below hb10 HA9.out.lt)
    have HCc := hide (HC9.out.below hb10 HC9.out.lt)
    have HD := hide (HD9.out.below hb10 HD9.out.lt)
    have HB := hide (HB9.out.trans (hb10.mono HB9.out.size))
    clear hb10 hss hsl hsi HV9 HU9 HSV9 HA9 HC9 HD9 HB9 HCm
    go_wp2_with fail
    have hokk : (ok == ok) = true := by simp
    have lA := HA.out.lt
    have lC := HCc.out.lt
    have lD := HD.out.lt
    have A0 : ∀ p : Near w10.heap.size w10, p.w.cell? ⟨b6, 0, none⟩ = some (.int .i64 slf) := fun p => by rw [(HA.out.below p.h lA).cell 0]; rfl
    have A1 : ∀ p : Near w10.heap.size w10, p.w.cell? ⟨b6, 1, none⟩ = some (.slice a1 m1 c1) := fun p => by rw [(HA.out.below p.h lA).cell 1]; rfl
    have A2 : ∀ p : Near w10.heap.size w10, p.w.cell? ⟨b6, 2, none⟩ = some (.slice a2 m2 c2) := fun p => by rw [(HA.out.below p.h lA).cell 2]; rfl
    have C0 : ∀ p : Near w10.heap.size w10, p.w.cell? ⟨b8, 0, none⟩ = some (.int .i64 slf) := fun p => by rw [(HCc.out.below p.h lC).cell 0]; rfl
    have C1 : ∀ p : Near w10.heap.size w10, p.w.cell? ⟨b8, 1, none⟩ = some (.slice a3 m3 c3) := fun p => by rw [(HCc.out.below p.h lC).cell 1]; rfl
    have C2 : ∀ p : Near w10.heap.size w10, p.w.cell? ⟨b8, 2, none⟩ = some (.slice a4 m4 c4) := fun p => by rw [(HCc.out.below p.h lC).cell 2]; rfl
    have D0 : ∀ p : Near w10.heap.size w10, p.w.cell? ⟨b12, 0, none⟩ = some (.int .i64 lf3) := fun p => by rw [(HD.out.below p.h lD).cell 0]; rfl
    have D1 : ∀ p : Near w10.heap.size w10, p.w.cell? ⟨b12, 1, none⟩ = some (.slice a5 m5 c5) := fun p => by rw [(HD.out.below p.h lD).cell 1]; rfl
    have D2 : ∀ p : Near w10.heap.size w10, p.w.cell? ⟨b12, 2, none⟩ = some (.slice a6 m6 c6) := fun p => by rw [(HD.out.below p.h lD).cell 2]; rfl
    have hnn := Near.some w10.heap.size w10
    have HGp : Hid (∀ p : Near w10.heap.size w10, Glo p.w) := fun p => HG.out.below (HB.out.trans (p.h.mono HB.out.size))
    have S1 := hide (fun (p : Near w10.heap.size w10) => sameSign_calls p.w _ _ slf E W ((HV.out.below p.h).at_ (by have := HE.out.1; omega) (by have := HW.out.1; omega) (fun x hx => Nat.le_trans (HE.out.2 x hx) (by omega)) (fun x hx => Nat.le_trans (HW.out.2 x hx) (by omega))) ((HU.out.below p.h).at_ (by have := HE.out.1; omega) (by have := HW.out.1; omega) (fun x hx => Nat.le_trans (HE.out.2 x hx) (by omega)) (fun x hx => Nat.le_trans (HW.out.2 x hx) (by omega))))
    have S2 := hide (fun (p : Near w10.heap.size w10) => implSigned_calls ky u (by omega) p.w _ lf3 E3 W3 (HSV.out.below p.h) (HGp.out p))
    have S3 := hide (fun (p : Near w10.heap.size w10) => specSigned_calls ky u (by omega) p.w _ lf3 E3 W3 (HSV.out.below p.h))
    generalize decide (signedV ky u lf3 E3 W3) = r at *
    have hrr : (r == r) = true := by simp
    have S4 := hide (fun (p : Near w10.heap.size w10) => implChain_calls x (by omega) cn p.w (HGp.out p))
    have S5 := hide (fun (p : Near w10.heap.size w10) => specChain_calls x (by omega) cn p.w)
    have S6 := hide (fun (p : Near w10.heap.size w10) => implSecret_calls ss sl si p.w (HGp.out p))
    have S7 := hide (fun (p : Near w10.heap.size w10) => specSecret_calls ss sl si p.w)
    generalize chainV x cn = ch at *
    generalize secret ss sl si = sc at *
    refine wp_region_cut 40 40 (fun w' => ∃ p : Near w10.heap.size w10, w' = p.w) ⟨⟨_, (Below.refl _ _).drew⟩, rfl⟩ (by kernel_rfl) (by kernel_rfl) (by kernel_rfl) ?_
    simp only [List.take_succ_cons, List.take_zero]
    repeat (go_big_quiet_step (fail))
    go_big_quiet_step (exact calls_near (Nat.le_refl _) (S1.out _))
    repeat (go_big_quiet_step (fail))
    go_big_quiet_step (exact calls_near (Nat.le_refl _) (S2.out _))
    repeat (go_big_quiet_step (fail))
    go_big_quiet_step (exact calls_near (Nat.le_refl _) (S3.out _))
    repeat (go_big_quiet_step (fail))
    go_big_quiet_step (exact calls_near (Nat.le_refl _) (S4.out _))
    repeat (go_big_quiet_step (fail))
    go_big_quiet_step (exact calls_near (Nat.le_refl _) (S5.out _))
    repeat (go_big_quiet_step (fail))
    go_big_quiet_step (exact calls_near (Nat.le_refl _) (S6.out _))
    repeat (go_big_quiet_step (fail))
    go_big_quiet_step (exact calls_near (Nat.le_refl _) (S7.out _))
    repeat (go_big_quiet_step (fail))
    refine wpQuiet_nil ?_
    rintro wd ⟨pd, rfl⟩
    have hgd := HGp.out pd
    have hbd := HB.out.trans (pd.h.mono HB.out.size)
    generalize pd.w = w11 at *
    have HGD := hide hgd
    have HBD := hide hbd
    clear pd hgd hbd A0 A1 A2 C0 C1 C2 D0 D1 D2 hnn S1 S2 S3 S4 S5 S6 S7 HGp HV HU HSV HA HCc HD HB
    refine wpAny_seg_lit 40 1 14 rfl (by decide) (by kernel_rfl) (by kernel_rfl) (fun _ _ _ _ _ h => h) ?_
    simp only [List.take_succ_cons, List.take_zero, List.drop_succ_cons, List.drop_zero]
    repeat (go_big_quiet_step (fail))
    refine wpQuiet_nil ?_
    refine wpAny_seg_lit 42 1 13 rfl (by decide) (by kernel_rfl) (by kernel_rfl) (fun _ _ _ _ _ h => h) ?_
    simp only [List.take_succ_cons, List.take_zero, List.drop_succ_cons, List.drop_zero]
    repeat (go_big_quiet_step (fail))
    refine wpQuiet_nil ?_
    refine wpAny_callW 41 (by kernel_rfl) rfl (by kernel_rfl) 16 _ _ rfl enterQI #[.string ⟨u.toArray⟩] rfl (fun v w' => w'.ownsRow w11.heap.size 3 1 v 11 (cellsI (quads u)) ∧ Below w11.heap.size w11 w') (implQuads_calls u (by omega) w11 HGD.out) ?_
    rintro vq1 w12 ⟨hq1, hb12⟩
    have HB12 := hide (HBD.out.trans (hb12.mono HBD.out.size))
    refine wpAny_callW 43 (by kernel_rfl) rfl (by kernel_rfl) 34 _ _ rfl enterQS #[.string ⟨u.toArray⟩] rfl (fun v w' => w'.ownsRow w12.heap.size 3 1 v 11 (cellsI (quads u)) ∧ Below w12.heap.size w12 w') (specQuads_calls u (by omega) w12) ?_
    rintro vq2 w13 ⟨hq2, hb13⟩
    have HB13 := hide (HB12.out.trans (hb13.mono HB12.out.size))
    have hql := quads_length u
    have hi1 : IntsAt w13 vq1 (quads u) := IntsAt.of_own (by rw [hql]; exact own_below hq1 hb13)
    have hi2 : IntsAt w13 vq2 (quads u) := IntsAt.of_own (by rw [hql]; exact hq2)
    have hss := sameInts_calls w13 vq1 vq2 (quads u) (quads u) hi1 hi2 (by omega) (by omega)
    rw [decide_eq_true rfl] at hss
    refine wpAny_callW 44 (by kernel_rfl) rfl (by kernel_rfl) 33 _ _ rfl enterSI #[vq1, vq2] rfl (fun v w' => v = .bool true ∧ ∃ n, w' = w13.drewN n) (hss.mono (fun e w' ⟨h1, h2⟩ => ⟨_, h1, rfl, h2⟩)) ?_
    rintro v w14 ⟨rfl, nd, rfl⟩
    have hb14 : Below w1.heap.size w1 (w13.drewN nd) := below_drewN HB13.out nd
    generalize w13.drewN nd = w14 at *
    have HB14 := hide hb14
    have HG14 : Hid (∀ p : Near w14.heap.size w14, Glo p.w) := fun p => HG.out.below (HB14.out.trans (p.h.mono HB14.out.size))
    have T1 := hide (fun (p : Near w14.heap.size w14) => implChain_calls x (by omega) 1 p.w (HG14.out p))
    have T3 := hide (fun (p : Near w14.heap.size w14) => implChain_calls x (by omega) 3 p.w (HG14.out p))
    have e1 : chainV x 1 = chain 1 x := chainV_nat x 1 (by omega)
    have e3 : chainV x 3 = chain 3 x := chainV_nat x 3 (by omega)
    have hl1 := chain_length 1 x (by omega)
    have T2 := hide (fun (p : Near w14.heap.size w14) => implChain_calls (chain 1 x) (by omega) 2 p.w (HG14.out p))
    have e2 : chainV (chain 1 x) 2 = chain 3 x := by rw [show (2 : Int) = ((2 : Nat) : Int) from rfl, chainV_nat _ 2 (by omega), chain_add]
    simp only [e1] at T1
    simp only [e2] at T2
    simp only [e3] at T3
    generalize chain 1 x = x1 at *
    generalize chain 3 x = x3 at *
    have hnn := Near.some w14.heap.size w14
    clear hq1 hq2 hi1 hi2 hss hb12 hb13 hb14 HB12 HB13 HBD HGD e1 e2 e3 hql
    refine wpAny_cut 45 55 40 (fun w' => ∃ p : Near w14.heap.size w14, w' = p.w) ⟨⟨_, Below.refl _ _⟩, rfl⟩ (by decide) rfl (by kernel_rfl) (by kernel_rfl) (by kernel_rfl) (by kernel_rfl) ?_
    simp only [List.take_succ_cons, List.take_zero, List.drop_succ_cons, List.drop_zero, Act.put, List.setIfInBounds_toArray, List.set_cons_succ, List.set_cons_zero]
    repeat (go_big_quiet_step (fail))
    go_big_quiet_step (exact calls_near (Nat.le_refl _) (T1.out _))
    repeat (go_big_quiet_step (fail))
    go_big_quiet_step (exact calls_near (Nat.le_refl _) (T2.out _))
    repeat (go_big_quiet_step (fail))
    go_big_quiet_step (exact calls_near (Nat.le_refl _) (T3.out _))
    repeat (go_big_quiet_step (fail))
    refine wpQuiet_nil ?_
    rintro w15 ⟨pq, rfl⟩
    have hqb := pq.h
    obtain ⟨w15, hq⟩ := pq
    simp only at hqb ⊢
    have HB15 := hide (HB14.out.trans (hqb.mono HB14.out.size))
    clear hq hqb hnn T1 T2 T3 HG14 HB14
    refine ⟨by kernel_rfl, ?_⟩
    go_wp2_with fail
    go_ret
    exact ⟨rfl, HB15.out⟩
end Go.Proofs.YtmjpdccfdaajmaaDoor.P4
