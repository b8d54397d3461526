/- The walk of FnChangesTold: it returns true, where the program's five functions answer as ChgH says; no other condition. -/
import Derived.Test.YteladljgnbfcnaaGreatDoorZRT
import Derived.Test.YteladljgnbfcnaaGreatDoorZRK
import Derived.Test.YteladljgnbfcnaaGreatDoorZRS
import Derived.Test.YteladljgnbfcnaaGreatDoorZRN
import Derived.Test.YteladljgnbfcnaaGreatDoorZRI
import Derived.Test.YteladljgnbfcnaaGreatDoorZA
import Derived.Deep.CutRange
namespace Go.Proofs.YteladljgnbfcnaaGreatDoor.P9
set_option maxRecDepth 8000
open Go.RowKit P1 P8 Da Cu

theorem entT0 : ∀ args w, (callFunc 26 args).run Tryz.prog w = .ok (.enter 26 args) w := run_enter Tryz.func26 (by kernel_rfl) (by kernel_rfl)
theorem entT1 : ∀ args w, (callFunc 14 args).run Tryz.prog w = .ok (.enter 14 args) w := run_enter Tryz.func14 (by kernel_rfl) (by kernel_rfl)
theorem entT2 : ∀ args w, (callFunc 27 args).run Tryz.prog w = .ok (.enter 27 args) w := run_enter Tryz.func27 (by kernel_rfl) (by kernel_rfl)

set_option maxRecDepth 100000 in
set_option maxHeartbeats 8000000 in
theorem chgToldWalk (w : World) (hJ : JoinedC w) (hG : GoneC w) (hS : SettleC w) (hF : FingeredC w) (hI : IdealC) (a0 : Option Addr) (len cap : Nat) (z : List Int) (hr : Frame.IsRow .u8 w a0 len cap z) :
    Calls Tryz.prog 4 #[.slice a0 len cap] w fun e w' => e = .returned (.bool true) ∧ Below w.heap.size w w' := by
  have hcap : len ≤ maxLen := by
    rcases hr with ⟨_, rfl, _⟩ | ⟨_, _, h1, h2, _⟩
    · unfold maxLen; omega
    · omega
  unfold maxLen at hcap
  by_cases hbig : 1048576 < len
  · have hd : decide (1048576 < (len : Int)) = true := by simp; omega
    clear hJ hG hS hF hI
    go_enter Tryz.func4, Tryz.ntmps4
    go_wp2_with fail
    refine (big_calls _ a0 len cap).mono ?_
    rintro e w1 ⟨rfl, rfl⟩
    rw [hd]
    go_wp2
    go_ret
    exact ⟨rfl, Below.refl _ _⟩
  have hl : len ≤ 1048576 := by omega
  have HC1 := hide (code_of_row hr hl)
  have hd : decide (1048576 < (len : Int)) = false := by simp; omega
  have HJ := hide hJ
  have HG := hide hG
  have HS := hide hS
  have HF := hide hF
  have HI := hide hI
  clear hr hJ hG hS hF hI
  go_enter Tryz.func4, Tryz.ntmps4
  go_wp2_with fail
  refine (big_calls _ a0 len cap).mono ?_
  rintro e w1 ⟨rfl, rfl⟩
  rw [hd]
  clear hd hbig

  have HB1 := hide (Below.refl w1.heap.size w1)
  go_wp2_with fail
  refine (drawJoined_calls w1 a0 len cap HC1.out).mono ?_
  rintro e w2 ⟨vx, Rx, idx, byx, fx, rfl, ho, hfp, hrx, hb⟩
  have HC2 := hide (code_at HC1.out hb)
  have HB2 := hide (HB1.out.trans (hb.mono HB1.out.size))
  obtain ⟨gx, cx, hsh⟩ := peers_shape ho (by have := hrx.least; omega)
  subst hsh
  have HXx := hide hrx
  have Px2 := hide (show PeersAt w2 (.slice (some ⟨gx, 0, none⟩) Rx.length cx) Rx from ⟨T0, ho.reads⟩)
  clear ho hfp hrx
  clear hb HC1 HB1 
  go_upto_region 4 with fail
  have Yx3 := Blk.new w2 #[.slice (some ⟨gx, 0, none⟩) Rx.length cx] 26
  have hba := (Below.refl w2.heap.size w2).alloc (Nat.le_refl _) (.cells #[.slice (some ⟨gx, 0, none⟩) Rx.length cx] 26)
  have HC3 := hide (code_at HC2.out hba)
  have HB3 := hide (HB2.out.trans (hba.mono HB2.out.size))
  have Px3 := hide (Px2.out.below hba (Nat.le_refl _))
  obtain ⟨b3, eb3⟩ : ∃ b, b = w2.heap.size := ⟨_, rfl⟩
  rw [← eb3] at Yx3 ⊢
  clear eb3 hba HC2 HB2 Px2
  generalize w2.alloc (.cells #[.slice (some ⟨gx, 0, none⟩) Rx.length cx] 26) = w3 at *
  obtain ⟨Ra, ta, eX⟩ : ∃ a b, joined Rx idx byx = (a, b) := ⟨_, _, rfl⟩
  have HXa := hide (show RingX Ra by have := HXx.out.joined idx byx; rwa [eX] at this)
  have CX := hide (HJ.out w3 _ Rx idx byx HB3.out Px3.out HXx.out)
  have CS := hide (fun wx (hv : PeersAt wx (.slice (some ⟨gx, 0, none⟩) Rx.length cx) Rx) => specJoined_calls wx _ Rx idx byx hv HXx.out.len HXx.out.small HXx.out.ring)
  rw [eX] at CX CS
  clear eX
  have y0 := blk_free_cell Yx3 0 rfl
  have yl0 := Yx3.lt
  go_wp2_with fail
  refine CX.out.mono ?_
  rintro e w4 ⟨va, fa, rfl, ho, hfp, hb⟩
  have HC4 := hide (code_at HC3.out hb)
  have HB4 := hide (HB3.out.trans (hb.mono HB3.out.size))
  have Px4 := hide (Px3.out.below hb (Nat.le_refl _))
  have Yx4 := Yx3.below hb Yx3.lt
  obtain ⟨ga, ca, hsh⟩ := peers_shape ho (by have := HXa.out.least; omega)
  subst hsh
  have Pa4 := hide (show PeersAt w4 (.slice (some ⟨ga, 0, none⟩) Ra.length ca) Ra from ⟨T0, ho.reads⟩)
  clear ho hfp
  clear hb HC3 HB3 Px3 Yx3 y0 yl0 CX
  go_upto_region 5 with fail
  have Ya5 := Blk.new w4 #[.slice (some ⟨ga, 0, none⟩) Ra.length ca] 26
  have hba := (Below.refl w4.heap.size w4).alloc (Nat.le_refl _) (.cells #[.slice (some ⟨ga, 0, none⟩) Ra.length ca] 26)
  have HC5 := hide (code_at HC4.out hba)
  have HB5 := hide (HB4.out.trans (hba.mono HB4.out.size))
  have Px5 := hide (Px4.out.below hba (Nat.le_refl _))
  have Yx5 := Yx4.below hba Yx4.lt
  have Pa5 := hide (Pa4.out.below hba (Nat.le_refl _))
  obtain ⟨b6, eb6⟩ : ∃ b, b = w4.heap.size := ⟨_, rfl⟩
  rw [← eb6] at Ya5 ⊢
  clear eb6 hba HC4 HB4 Px4 Yx4 Pa4
  generalize w4.alloc (.cells #[.slice (some ⟨ga, 0, none⟩) Ra.length ca] 26) = w5 at *
  have y0 := blk_free_cell Yx5 0 rfl
  have yl0 := Yx5.lt
  go_wp2_with fail
  refine (CS.out w5 Px5.out).mono ?_
  rintro e w6 ⟨vA, fA, rfl, ho, hfp, hb⟩
  have HC6 := hide (code_at HC5.out hb)
  have HB6 := hide (HB5.out.trans (hb.mono HB5.out.size))
  have Px6 := hide (Px5.out.below hb (Nat.le_refl _))
  have Yx6 := Yx5.below hb Yx5.lt
  have Pa6 := hide (Pa5.out.below hb (Nat.le_refl _))
  have Ya6 := Ya5.below hb Ya5.lt
  obtain ⟨gA, cA, hsh⟩ := peers_shape ho (by have := HXa.out.least; omega)
  subst hsh
  have PA6 := hide (show PeersAt w6 (.slice (some ⟨gA, 0, none⟩) Ra.length cA) Ra from ⟨T0, ho.reads⟩)
  clear ho hfp
  clear hb HC5 HB5 Px5 Yx5 Pa5 Ya5 y0 yl0 CS
  go_upto_region 6 with fail
  have YA7 := Blk.new w6 #[.slice (some ⟨gA, 0, none⟩) Ra.length cA] 26
  have hba := (Below.refl w6.heap.size w6).alloc (Nat.le_refl _) (.cells #[.slice (some ⟨gA, 0, none⟩) Ra.length cA] 26)
  have HC7 := hide (code_at HC6.out hba)
  have HB7 := hide (HB6.out.trans (hba.mono HB6.out.size))
  have Px7 := hide (Px6.out.below hba (Nat.le_refl _))
  have Yx7 := Yx6.below hba Yx6.lt
  have Pa7 := hide (Pa6.out.below hba (Nat.le_refl _))
  have Ya7 := Ya6.below hba Ya6.lt
  have PA7 := hide (PA6.out.below hba (Nat.le_refl _))
  obtain ⟨b8, eb8⟩ : ∃ b, b = w6.heap.size := ⟨_, rfl⟩
  rw [← eb8] at YA7 ⊢
  clear eb8 hba HC6 HB6 Px6 Yx6 Pa6 Ya6 PA6
  generalize w6.alloc (.cells #[.slice (some ⟨gA, 0, none⟩) Ra.length cA] 26) = w7 at *
  clear Px7 Yx7
  clear HXx
  go_wp2_with fail
  refine (drawSettle_calls w7 a0 len cap HC7.out).mono ?_
  rintro e w8 ⟨vy, Ry, idy, fy, rfl, ho, hfp, hrx, hb⟩
  have HC8 := hide (code_at HC7.out hb)
  have HB8 := hide (HB7.out.trans (hb.mono HB7.out.size))
  have Pa8 := hide (Pa7.out.below hb (Nat.le_refl _))
  have Ya8 := Ya7.below hb Ya7.lt
  have PA8 := hide (PA7.out.below hb (Nat.le_refl _))
  have YA8 := YA7.below hb YA7.lt
  obtain ⟨gy, cy, hsh⟩ := peers_shape ho (by have := hrx.least; omega)
  subst hsh
  have HXy := hide hrx
  have Py8 := hide (show PeersAt w8 (.slice (some ⟨gy, 0, none⟩) Ry.length cy) Ry from ⟨T0, ho.reads⟩)
  clear ho hfp hrx
  clear hb HC7 HB7 Pa7 Ya7 PA7 YA7 
  go_upto_region 7 with fail
  have Yy9 := Blk.new w8 #[.slice (some ⟨gy, 0, none⟩) Ry.length cy] 26
  have hba := (Below.refl w8.heap.size w8).alloc (Nat.le_refl _) (.cells #[.slice (some ⟨gy, 0, none⟩) Ry.length cy] 26)
  have HC9 := hide (code_at HC8.out hba)
  have HB9 := hide (HB8.out.trans (hba.mono HB8.out.size))
  have Pa9 := hide (Pa8.out.below hba (Nat.le_refl _))
  have Ya9 := Ya8.below hba Ya8.lt
  have PA9 := hide (PA8.out.below hba (Nat.le_refl _))
  have YA9 := YA8.below hba YA8.lt
  have Py9 := hide (Py8.out.below hba (Nat.le_refl _))
  obtain ⟨b10, eb10⟩ : ∃ b, b = w8.heap.size := ⟨_, rfl⟩
  rw [← eb10] at Yy9 ⊢
  clear eb10 hba HC8 HB8 Pa8 Ya8 PA8 YA8 Py8
  generalize w8.alloc (.cells #[.slice (some ⟨gy, 0, none⟩) Ry.length cy] 26) = w9 at *
  obtain ⟨Rs, ts, eX⟩ : ∃ a b, settle Ry idy = (a, b) := ⟨_, _, rfl⟩
  have HXs := hide (show RingX Rs by have := HXy.out.settle idy; rwa [eX] at this)
  have CX := hide (HS.out w9 _ Ry idy HB9.out Py9.out HXy.out)
  have CS := hide (fun wx (hv : PeersAt wx (.slice (some ⟨gy, 0, none⟩) Ry.length cy) Ry) => specSettle_calls wx _ Ry idy hv HXy.out.len HXy.out.small)
  rw [eX] at CX CS
  clear eX
  have y0 := blk_free_cell Yy9 0 rfl
  have yl0 := Yy9.lt
  go_wp2_with fail
  refine CX.out.mono ?_
  rintro e w10 ⟨vs, fs, rfl, ho, hfp, hb⟩
  have HC10 := hide (code_at HC9.out hb)
  have HB10 := hide (HB9.out.trans (hb.mono HB9.out.size))
  have Pa10 := hide (Pa9.out.below hb (Nat.le_refl _))
  have Ya10 := Ya9.below hb Ya9.lt
  have PA10 := hide (PA9.out.below hb (Nat.le_refl _))
  have YA10 := YA9.below hb YA9.lt
  have Py10 := hide (Py9.out.below hb (Nat.le_refl _))
  have Yy10 := Yy9.below hb Yy9.lt
  obtain ⟨gs, cs, hsh⟩ := peers_shape ho (by have := HXs.out.least; omega)
  subst hsh
  have Ps10 := hide (show PeersAt w10 (.slice (some ⟨gs, 0, none⟩) Rs.length cs) Rs from ⟨T0, ho.reads⟩)
  clear ho hfp
  clear hb HC9 HB9 Pa9 Ya9 PA9 YA9 Py9 Yy9 y0 yl0 CX
  go_upto_region 8 with fail
  have Ys11 := Blk.new w10 #[.slice (some ⟨gs, 0, none⟩) Rs.length cs] 26
  have hba := (Below.refl w10.heap.size w10).alloc (Nat.le_refl _) (.cells #[.slice (some ⟨gs, 0, none⟩) Rs.length cs] 26)
  have HC11 := hide (code_at HC10.out hba)
  have HB11 := hide (HB10.out.trans (hba.mono HB10.out.size))
  have Pa11 := hide (Pa10.out.below hba (Nat.le_refl _))
  have Ya11 := Ya10.below hba Ya10.lt
  have PA11 := hide (PA10.out.below hba (Nat.le_refl _))
  have YA11 := YA10.below hba YA10.lt
  have Py11 := hide (Py10.out.below hba (Nat.le_refl _))
  have Yy11 := Yy10.below hba Yy10.lt
  have Ps11 := hide (Ps10.out.below hba (Nat.le_refl _))
  obtain ⟨b12, eb12⟩ : ∃ b, b = w10.heap.size := ⟨_, rfl⟩
  rw [← eb12] at Ys11 ⊢
  clear eb12 hba HC10 HB10 Pa10 Ya10 PA10 YA10 Py10 Yy10 Ps10
  generalize w10.alloc (.cells #[.slice (some ⟨gs, 0, none⟩) Rs.length cs] 26) = w11 at *
  have y0 := blk_free_cell Yy11 0 rfl
  have yl0 := Yy11.lt
  go_wp2_with fail
  refine (CS.out w11 Py11.out).mono ?_
  rintro e w12 ⟨vS, fS, rfl, ho, hfp, hb⟩
  have HC12 := hide (code_at HC11.out hb)
  have HB12 := hide (HB11.out.trans (hb.mono HB11.out.size))
  have Pa12 := hide (Pa11.out.below hb (Nat.le_refl _))
  have Ya12 := Ya11.below hb Ya11.lt
  have PA12 := hide (PA11.out.below hb (Nat.le_refl _))
  have YA12 := YA11.below hb YA11.lt
  have Py12 := hide (Py11.out.below hb (Nat.le_refl _))
  have Yy12 := Yy11.below hb Yy11.lt
  have Ps12 := hide (Ps11.out.below hb (Nat.le_refl _))
  have Ys12 := Ys11.below hb Ys11.lt
  obtain ⟨gS, cS, hsh⟩ := peers_shape ho (by have := HXs.out.least; omega)
  subst hsh
  have PS12 := hide (show PeersAt w12 (.slice (some ⟨gS, 0, none⟩) Rs.length cS) Rs from ⟨T0, ho.reads⟩)
  clear ho hfp
  clear hb HC11 HB11 Pa11 Ya11 PA11 YA11 Py11 Yy11 Ps11 Ys11 y0 yl0 CS
  go_upto_region 9 with fail
  have YS13 := Blk.new w12 #[.slice (some ⟨gS, 0, none⟩) Rs.length cS] 26
  have hba := (Below.refl w12.heap.size w12).alloc (Nat.le_refl _) (.cells #[.slice (some ⟨gS, 0, none⟩) Rs.length cS] 26)
  have HC13 := hide (code_at HC12.out hba)
  have HB13 := hide (HB12.out.trans (hba.mono HB12.out.size))
  have Pa13 := hide (Pa12.out.below hba (Nat.le_refl _))
  have Ya13 := Ya12.below hba Ya12.lt
  have PA13 := hide (PA12.out.below hba (Nat.le_refl _))
  have YA13 := YA12.below hba YA12.lt
  have Py13 := hide (Py12.out.below hba (Nat.le_refl _))
  have Yy13 := Yy12.below hba Yy12.lt
  have Ps13 := hide (Ps12.out.below hba (Nat.le_refl _))
  have Ys13 := Ys12.below hba Ys12.lt
  have PS13 := hide (PS12.out.below hba (Nat.le_refl _))
  obtain ⟨b14, eb14⟩ : ∃ b, b = w12.heap.size := ⟨_, rfl⟩
  rw [← eb14] at YS13 ⊢
  clear eb14 hba HC12 HB12 Pa12 Ya12 PA12 YA12 Py12 Yy12 Ps12 Ys12 PS12
  generalize w12.alloc (.cells #[.slice (some ⟨gS, 0, none⟩) Rs.length cS] 26) = w13 at *
  clear Py13 Yy13
  clear HXy
  go_wp2_with fail
  refine (drawGone_calls w13 a0 len cap HC13.out).mono ?_
  rintro e w14 ⟨vu, Ru, idu, fu, rfl, ho, hfp, hrx, hb⟩
  have HC14 := hide (code_at HC13.out hb)
  have HB14 := hide (HB13.out.trans (hb.mono HB13.out.size))
  have Pa14 := hide (Pa13.out.below hb (Nat.le_refl _))
  have Ya14 := Ya13.below hb Ya13.lt
  have PA14 := hide (PA13.out.below hb (Nat.le_refl _))
  have YA14 := YA13.below hb YA13.lt
  have Ps14 := hide (Ps13.out.below hb (Nat.le_refl _))
  have Ys14 := Ys13.below hb Ys13.lt
  have PS14 := hide (PS13.out.below hb (Nat.le_refl _))
  have YS14 := YS13.below hb YS13.lt
  obtain ⟨gu, cu, hsh⟩ := peers_shape ho (by have := hrx.least; omega)
  subst hsh
  have HXu := hide hrx
  have Pu14 := hide (show PeersAt w14 (.slice (some ⟨gu, 0, none⟩) Ru.length cu) Ru from ⟨T0, ho.reads⟩)
  clear ho hfp hrx
  clear hb HC13 HB13 Pa13 Ya13 PA13 YA13 Ps13 Ys13 PS13 YS13 
  go_upto_region 10 with fail
  have Yu15 := Blk.new w14 #[.slice (some ⟨gu, 0, none⟩) Ru.length cu] 26
  have hba := (Below.refl w14.heap.size w14).alloc (Nat.le_refl _) (.cells #[.slice (some ⟨gu, 0, none⟩) Ru.length cu] 26)
  have HC15 := hide (code_at HC14.out hba)
  have HB15 := hide (HB14.out.trans (hba.mono HB14.out.size))
  have Pa15 := hide (Pa14.out.below hba (Nat.le_refl _))
  have Ya15 := Ya14.below hba Ya14.lt
  have PA15 := hide (PA14.out.below hba (Nat.le_refl _))
  have YA15 := YA14.below hba YA14.lt
  have Ps15 := hide (Ps14.out.below hba (Nat.le_refl _))
  have Ys15 := Ys14.below hba Ys14.lt
  have PS15 := hide (PS14.out.below hba (Nat.le_refl _))
  have YS15 := YS14.below hba YS14.lt
  have Pu15 := hide (Pu14.out.below hba (Nat.le_refl _))
  obtain ⟨b16, eb16⟩ : ∃ b, b = w14.heap.size := ⟨_, rfl⟩
  rw [← eb16] at Yu15 ⊢
  clear eb16 hba HC14 HB14 Pa14 Ya14 PA14 YA14 Ps14 Ys14 PS14 YS14 Pu14
  generalize w14.alloc (.cells #[.slice (some ⟨gu, 0, none⟩) Ru.length cu] 26) = w15 at *
  obtain ⟨Rg, tg, eX⟩ : ∃ a b, gone Ru idu = (a, b) := ⟨_, _, rfl⟩
  have HXg := hide (show RingX Rg by have := HXu.out.gone idu; rwa [eX] at this)
  have CX := hide (HG.out w15 _ Ru idu HB15.out Pu15.out HXu.out)
  have CS := hide (fun wx (hv : PeersAt wx (.slice (some ⟨gu, 0, none⟩) Ru.length cu) Ru) => specGone_calls wx _ Ru idu hv HXu.out.len HXu.out.small)
  rw [eX] at CX CS
  clear eX
  have y0 := blk_free_cell Yu15 0 rfl
  have yl0 := Yu15.lt
  go_wp2_with fail
  refine CX.out.mono ?_
  rintro e w16 ⟨vg, fg, rfl, ho, hfp, hb⟩
  have HC16 := hide (code_at HC15.out hb)
  have HB16 := hide (HB15.out.trans (hb.mono HB15.out.size))
  have Pa16 := hide (Pa15.out.below hb (Nat.le_refl _))
  have Ya16 := Ya15.below hb Ya15.lt
  have PA16 := hide (PA15.out.below hb (Nat.le_refl _))
  have YA16 := YA15.below hb YA15.lt
  have Ps16 := hide (Ps15.out.below hb (Nat.le_refl _))
  have Ys16 := Ys15.below hb Ys15.lt
  have PS16 := hide (PS15.out.below hb (Nat.le_refl _))
  have YS16 := YS15.below hb YS15.lt
  have Pu16 := hide (Pu15.out.below hb (Nat.le_refl _))
  have Yu16 := Yu15.below hb Yu15.lt
  obtain ⟨gg, cg, hsh⟩ := peers_shape ho (by have := HXg.out.least; omega)
  subst hsh
  have Pg16 := hide (show PeersAt w16 (.slice (some ⟨gg, 0, none⟩) Rg.length cg) Rg from ⟨T0, ho.reads⟩)
  clear ho hfp
  clear hb HC15 HB15 Pa15 Ya15 PA15 YA15 Ps15 Ys15 PS15 YS15 Pu15 Yu15 y0 yl0 CX
  go_upto_region 11 with fail
  have Yg17 := Blk.new w16 #[.slice (some ⟨gg, 0, none⟩) Rg.length cg] 26
  have hba := (Below.refl w16.heap.size w16).alloc (Nat.le_refl _) (.cells #[.slice (some ⟨gg, 0, none⟩) Rg.length cg] 26)
  have HC17 := hide (code_at HC16.out hba)
  have HB17 := hide (HB16.out.trans (hba.mono HB16.out.size))
  have Pa17 := hide (Pa16.out.below hba (Nat.le_refl _))
  have Ya17 := Ya16.below hba Ya16.lt
  have PA17 := hide (PA16.out.below hba (Nat.le_refl _))
  have YA17 := YA16.below hba YA16.lt
  have Ps17 := hide (Ps16.out.below hba (Nat.le_refl _))
  have Ys17 := Ys16.below hba Ys16.lt
  have PS17 := hide (PS16.out.below hba (Nat.le_refl _))
  have YS17 := YS16.below hba YS16.lt
  have Pu17 := hide (Pu16.out.below hba (Nat.le_refl _))
  have Yu17 := Yu16.below hba Yu16.lt
  have Pg17 := hide (Pg16.out.below hba (Nat.le_refl _))
  obtain ⟨b18, eb18⟩ : ∃ b, b = w16.heap.size := ⟨_, rfl⟩
  rw [← eb18] at Yg17 ⊢
  clear eb18 hba HC16 HB16 Pa16 Ya16 PA16 YA16 Ps16 Ys16 PS16 YS16 Pu16 Yu16 Pg16
  generalize w16.alloc (.cells #[.slice (some ⟨gg, 0, none⟩) Rg.length cg] 26) = w17 at *
  have y0 := blk_free_cell Yu17 0 rfl
  have yl0 := Yu17.lt
  go_wp2_with fail
  refine (CS.out w17 Pu17.out).mono ?_
  rintro e w18 ⟨vG, fG, rfl, ho, hfp, hb⟩
  have HC18 := hide (code_at HC17.out hb)
  have HB18 := hide (HB17.out.trans (hb.mono HB17.out.size))
  have Pa18 := hide (Pa17.out.below hb (Nat.le_refl _))
  have Ya18 := Ya17.below hb Ya17.lt
  have PA18 := hide (PA17.out.below hb (Nat.le_refl _))
  have YA18 := YA17.below hb YA17.lt
  have Ps18 := hide (Ps17.out.below hb (Nat.le_refl _))
  have Ys18 := Ys17.below hb Ys17.lt
  have PS18 := hide (PS17.out.below hb (Nat.le_refl _))
  have YS18 := YS17.below hb YS17.lt
  have Pu18 := hide (Pu17.out.below hb (Nat.le_refl _))
  have Yu18 := Yu17.below hb Yu17.lt
  have Pg18 := hide (Pg17.out.below hb (Nat.le_refl _))
  have Yg18 := Yg17.below hb Yg17.lt
  obtain ⟨gG, cG, hsh⟩ := peers_shape ho (by have := HXg.out.least; omega)
  subst hsh
  have PG18 := hide (show PeersAt w18 (.slice (some ⟨gG, 0, none⟩) Rg.length cG) Rg from ⟨T0, ho.reads⟩)
  clear ho hfp
  clear hb HC17 HB17 Pa17 Ya17 PA17 YA17 Ps17 Ys17 PS17 YS17 Pu17 Yu17 Pg17 Yg17 y0 yl0 CS
  go_upto_region 12 with fail
  have YG19 := Blk.new w18 #[.slice (some ⟨gG, 0, none⟩) Rg.length cG] 26
  have hba := (Below.refl w18.heap.size w18).alloc (Nat.le_refl _) (.cells #[.slice (some ⟨gG, 0, none⟩) Rg.length cG] 26)
  have HC19 := hide (code_at HC18.out hba)
  have HB19 := hide (HB18.out.trans (hba.mono HB18.out.size))
  have Pa19 := hide (Pa18.out.below hba (Nat.le_refl _))
  have Ya19 := Ya18.below hba Ya18.lt
  have PA19 := hide (PA18.out.below hba (Nat.le_refl _))
  have YA19 := YA18.below hba YA18.lt
  have Ps19 := hide (Ps18.out.below hba (Nat.le_refl _))
  have Ys19 := Ys18.below hba Ys18.lt
  have PS19 := hide (PS18.out.below hba (Nat.le_refl _))
  have YS19 := YS18.below hba YS18.lt
  have Pu19 := hide (Pu18.out.below hba (Nat.le_refl _))
  have Yu19 := Yu18.below hba Yu18.lt
  have Pg19 := hide (Pg18.out.below hba (Nat.le_refl _))
  have Yg19 := Yg18.below hba Yg18.lt
  have PG19 := hide (PG18.out.below hba (Nat.le_refl _))
  obtain ⟨b20, eb20⟩ : ∃ b, b = w18.heap.size := ⟨_, rfl⟩
  rw [← eb20] at YG19 ⊢
  clear eb20 hba HC18 HB18 Pa18 Ya18 PA18 YA18 Ps18 Ys18 PS18 YS18 Pu18 Yu18 Pg18 Yg18 PG18
  generalize w18.alloc (.cells #[.slice (some ⟨gG, 0, none⟩) Rg.length cG] 26) = w19 at *
  obtain ⟨Rf, tf, eX⟩ : ∃ a b, fingered Ru idu = (a, b) := ⟨_, _, rfl⟩
  have HXf := hide (show RingX Rf by have := HXu.out.fingered idu; rwa [eX] at this)
  have CX := hide (HF.out w19 _ Ru idu HB19.out Pu19.out HXu.out)
  have CS := hide (fun wx (hv : PeersAt wx (.slice (some ⟨gu, 0, none⟩) Ru.length cu) Ru) => specFingered_calls wx _ Ru idu hv HXu.out.len HXu.out.small HXu.out.ring)
  rw [eX] at CX CS
  clear eX
  have y0 := blk_free_cell Yu19 0 rfl
  have yl0 := Yu19.lt
  go_wp2_with fail
  refine CX.out.mono ?_
  rintro e w20 ⟨vf, ff, rfl, ho, hfp, hb⟩
  have HC20 := hide (code_at HC19.out hb)
  have HB20 := hide (HB19.out.trans (hb.mono HB19.out.size))
  have Pa20 := hide (Pa19.out.below hb (Nat.le_refl _))
  have Ya20 := Ya19.below hb Ya19.lt
  have PA20 := hide (PA19.out.below hb (Nat.le_refl _))
  have YA20 := YA19.below hb YA19.lt
  have Ps20 := hide (Ps19.out.below hb (Nat.le_refl _))
  have Ys20 := Ys19.below hb Ys19.lt
  have PS20 := hide (PS19.out.below hb (Nat.le_refl _))
  have YS20 := YS19.below hb YS19.lt
  have Pu20 := hide (Pu19.out.below hb (Nat.le_refl _))
  have Yu20 := Yu19.below hb Yu19.lt
  have Pg20 := hide (Pg19.out.below hb (Nat.le_refl _))
  have Yg20 := Yg19.below hb Yg19.lt
  have PG20 := hide (PG19.out.below hb (Nat.le_refl _))
  have YG20 := YG19.below hb YG19.lt
  obtain ⟨gf, cf, hsh⟩ := peers_shape ho (by have := HXf.out.least; omega)
  subst hsh
  have Pf20 := hide (show PeersAt w20 (.slice (some ⟨gf, 0, none⟩) Rf.length cf) Rf from ⟨T0, ho.reads⟩)
  clear ho hfp
  clear hb HC19 HB19 Pa19 Ya19 PA19 YA19 Ps19 Ys19 PS19 YS19 Pu19 Yu19 Pg19 Yg19 PG19 YG19 y0 yl0 CX
  go_upto_region 13 with fail
  have Yf21 := Blk.new w20 #[.slice (some ⟨gf, 0, none⟩) Rf.length cf] 26
  have hba := (Below.refl w20.heap.size w20).alloc (Nat.le_refl _) (.cells #[.slice (some ⟨gf, 0, none⟩) Rf.length cf] 26)
  have HC21 := hide (code_at HC20.out hba)
  have HB21 := hide (HB20.out.trans (hba.mono HB20.out.size))
  have Pa21 := hide (Pa20.out.below hba (Nat.le_refl _))
  have Ya21 := Ya20.below hba Ya20.lt
  have PA21 := hide (PA20.out.below hba (Nat.le_refl _))
  have YA21 := YA20.below hba YA20.lt
  have Ps21 := hide (Ps20.out.below hba (Nat.le_refl _))
  have Ys21 := Ys20.below hba Ys20.lt
  have PS21 := hide (PS20.out.below hba (Nat.le_refl _))
  have YS21 := YS20.below hba YS20.lt
  have Pu21 := hide (Pu20.out.below hba (Nat.le_refl _))
  have Yu21 := Yu20.below hba Yu20.lt
  have Pg21 := hide (Pg20.out.below hba (Nat.le_refl _))
  have Yg21 := Yg20.below hba Yg20.lt
  have PG21 := hide (PG20.out.below hba (Nat.le_refl _))
  have YG21 := YG20.below hba YG20.lt
  have Pf21 := hide (Pf20.out.below hba (Nat.le_refl _))
  obtain ⟨b22, eb22⟩ : ∃ b, b = w20.heap.size := ⟨_, rfl⟩
  rw [← eb22] at Yf21 ⊢
  clear eb22 hba HC20 HB20 Pa20 Ya20 PA20 YA20 Ps20 Ys20 PS20 YS20 Pu20 Yu20 Pg20 Yg20 PG20 YG20 Pf20
  generalize w20.alloc (.cells #[.slice (some ⟨gf, 0, none⟩) Rf.length cf] 26) = w21 at *
  have y0 := blk_free_cell Yu21 0 rfl
  have yl0 := Yu21.lt
  go_wp2_with fail
  refine (CS.out w21 Pu21.out).mono ?_
  rintro e w22 ⟨vF, fF, rfl, ho, hfp, hb⟩
  have HC22 := hide (code_at HC21.out hb)
  have HB22 := hide (HB21.out.trans (hb.mono HB21.out.size))
  have Pa22 := hide (Pa21.out.below hb (Nat.le_refl _))
  have Ya22 := Ya21.below hb Ya21.lt
  have PA22 := hide (PA21.out.below hb (Nat.le_refl _))
  have YA22 := YA21.below hb YA21.lt
  have Ps22 := hide (Ps21.out.below hb (Nat.le_refl _))
  have Ys22 := Ys21.below hb Ys21.lt
  have PS22 := hide (PS21.out.below hb (Nat.le_refl _))
  have YS22 := YS21.below hb YS21.lt
  have Pu22 := hide (Pu21.out.below hb (Nat.le_refl _))
  have Yu22 := Yu21.below hb Yu21.lt
  have Pg22 := hide (Pg21.out.below hb (Nat.le_refl _))
  have Yg22 := Yg21.below hb Yg21.lt
  have PG22 := hide (PG21.out.below hb (Nat.le_refl _))
  have YG22 := YG21.below hb YG21.lt
  have Pf22 := hide (Pf21.out.below hb (Nat.le_refl _))
  have Yf22 := Yf21.below hb Yf21.lt
  obtain ⟨gF, cF, hsh⟩ := peers_shape ho (by have := HXf.out.least; omega)
  subst hsh
  have PF22 := hide (show PeersAt w22 (.slice (some ⟨gF, 0, none⟩) Rf.length cF) Rf from ⟨T0, ho.reads⟩)
  clear ho hfp
  clear hb HC21 HB21 Pa21 Ya21 PA21 YA21 Ps21 Ys21 PS21 YS21 Pu21 Yu21 Pg21 Yg21 PG21 YG21 Pf21 Yf21 y0 yl0 CS
  go_upto_region 14 with fail
  have YF23 := Blk.new w22 #[.slice (some ⟨gF, 0, none⟩) Rf.length cF] 26
  have hba := (Below.refl w22.heap.size w22).alloc (Nat.le_refl _) (.cells #[.slice (some ⟨gF, 0, none⟩) Rf.length cF] 26)
  have HC23 := hide (code_at HC22.out hba)
  have HB23 := hide (HB22.out.trans (hba.mono HB22.out.size))
  have Pa23 := hide (Pa22.out.below hba (Nat.le_refl _))
  have Ya23 := Ya22.below hba Ya22.lt
  have PA23 := hide (PA22.out.below hba (Nat.le_refl _))
  have YA23 := YA22.below hba YA22.lt
  have Ps23 := hide (Ps22.out.below hba (Nat.le_refl _))
  have Ys23 := Ys22.below hba Ys22.lt
  have PS23 := hide (PS22.out.below hba (Nat.le_refl _))
  have YS23 := YS22.below hba YS22.lt
  have Pu23 := hide (Pu22.out.below hba (Nat.le_refl _))
  have Yu23 := Yu22.below hba Yu22.lt
  have Pg23 := hide (Pg22.out.below hba (Nat.le_refl _))
  have Yg23 := Yg22.below hba Yg22.lt
  have PG23 := hide (PG22.out.below hba (Nat.le_refl _))
  have YG23 := YG22.below hba YG22.lt
  have Pf23 := hide (Pf22.out.below hba (Nat.le_refl _))
  have Yf23 := Yf22.below hba Yf22.lt
  have PF23 := hide (PF22.out.below hba (Nat.le_refl _))
  obtain ⟨b24, eb24⟩ : ∃ b, b = w22.heap.size := ⟨_, rfl⟩
  rw [← eb24] at YF23 ⊢
  clear eb24 hba HC22 HB22 Pa22 Ya22 PA22 YA22 Ps22 Ys22 PS22 YS22 Pu22 Yu22 Pg22 Yg22 PG22 YG22 Pf22 Yf22 PF22
  generalize w22.alloc (.cells #[.slice (some ⟨gF, 0, none⟩) Rf.length cF] 26) = w23 at *
  clear Pu23 Yu23
  clear HXu
  go_wp2_with fail
  refine (drawIdeal_calls w23 a0 len cap HC23.out).mono ?_
  rintro e w24 ⟨vz, Rz, fz, rfl, ho, hfp, hrx, hb⟩
  have HC24 := hide (code_at HC23.out hb)
  have HB24 := hide (HB23.out.trans (hb.mono HB23.out.size))
  have Pa24 := hide (Pa23.out.below hb (Nat.le_refl _))
  have Ya24 := Ya23.below hb Ya23.lt
  have PA24 := hide (PA23.out.below hb (Nat.le_refl _))
  have YA24 := YA23.below hb YA23.lt
  have Ps24 := hide (Ps23.out.below hb (Nat.le_refl _))
  have Ys24 := Ys23.below hb Ys23.lt
  have PS24 := hide (PS23.out.below hb (Nat.le_refl _))
  have YS24 := YS23.below hb YS23.lt
  have Pg24 := hide (Pg23.out.below hb (Nat.le_refl _))
  have Yg24 := Yg23.below hb Yg23.lt
  have PG24 := hide (PG23.out.below hb (Nat.le_refl _))
  have YG24 := YG23.below hb YG23.lt
  have Pf24 := hide (Pf23.out.below hb (Nat.le_refl _))
  have Yf24 := Yf23.below hb Yf23.lt
  have PF24 := hide (PF23.out.below hb (Nat.le_refl _))
  have YF24 := YF23.below hb YF23.lt
  obtain ⟨gz, cz, hsh⟩ := peers_shape ho (by have := hrx.least; omega)
  subst hsh
  have HXz := hide hrx
  have Pz24 := hide (show PeersAt w24 (.slice (some ⟨gz, 0, none⟩) Rz.length cz) Rz from ⟨T0, ho.reads⟩)
  clear ho hfp hrx
  clear hb HC23 HB23 Pa23 Ya23 PA23 YA23 Ps23 Ys23 PS23 YS23 Pg23 Yg23 PG23 YG23 Pf23 Yf23 PF23 YF23 
  go_upto_region 15 with fail
  have Yz25 := Blk.new w24 #[.slice (some ⟨gz, 0, none⟩) Rz.length cz] 26
  have hba := (Below.refl w24.heap.size w24).alloc (Nat.le_refl _) (.cells #[.slice (some ⟨gz, 0, none⟩) Rz.length cz] 26)
  have HC25 := hide (code_at HC24.out hba)
  have HB25 := hide (HB24.out.trans (hba.mono HB24.out.size))
  have Pa25 := hide (Pa24.out.below hba (Nat.le_refl _))
  have Ya25 := Ya24.below hba Ya24.lt
  have PA25 := hide (PA24.out.below hba (Nat.le_refl _))
  have YA25 := YA24.below hba YA24.lt
  have Ps25 := hide (Ps24.out.below hba (Nat.le_refl _))
  have Ys25 := Ys24.below hba Ys24.lt
  have PS25 := hide (PS24.out.below hba (Nat.le_refl _))
  have YS25 := YS24.below hba YS24.lt
  have Pg25 := hide (Pg24.out.below hba (Nat.le_refl _))
  have Yg25 := Yg24.below hba Yg24.lt
  have PG25 := hide (PG24.out.below hba (Nat.le_refl _))
  have YG25 := YG24.below hba YG24.lt
  have Pf25 := hide (Pf24.out.below hba (Nat.le_refl _))
  have Yf25 := Yf24.below hba Yf24.lt
  have PF25 := hide (PF24.out.below hba (Nat.le_refl _))
  have YF25 := YF24.below hba YF24.lt
  have Pz25 := hide (Pz24.out.below hba (Nat.le_refl _))
  obtain ⟨b26, eb26⟩ : ∃ b, b = w24.heap.size := ⟨_, rfl⟩
  rw [← eb26] at Yz25 ⊢
  clear eb26 hba HC24 HB24 Pa24 Ya24 PA24 YA24 Ps24 Ys24 PS24 YS24 Pg24 Yg24 PG24 YG24 Pf24 Yf24 PF24 YF24 Pz24
  generalize w24.alloc (.cells #[.slice (some ⟨gz, 0, none⟩) Rz.length cz] 26) = w25 at *
  have n6 : ∀ p : Near w25.heap.size w25, p.w.cell? ⟨b6, 0, none⟩ = some (.slice (some ⟨ga, 0, none⟩) Ra.length ca) := fun p => blk_free_cell (Ya25.below p.h Ya25.lt) 0 rfl
  have n8 : ∀ p : Near w25.heap.size w25, p.w.cell? ⟨b8, 0, none⟩ = some (.slice (some ⟨gA, 0, none⟩) Ra.length cA) := fun p => blk_free_cell (YA25.below p.h YA25.lt) 0 rfl
  have n12 : ∀ p : Near w25.heap.size w25, p.w.cell? ⟨b12, 0, none⟩ = some (.slice (some ⟨gs, 0, none⟩) Rs.length cs) := fun p => blk_free_cell (Ys25.below p.h Ys25.lt) 0 rfl
  have n14 : ∀ p : Near w25.heap.size w25, p.w.cell? ⟨b14, 0, none⟩ = some (.slice (some ⟨gS, 0, none⟩) Rs.length cS) := fun p => blk_free_cell (YS25.below p.h YS25.lt) 0 rfl
  have n18 : ∀ p : Near w25.heap.size w25, p.w.cell? ⟨b18, 0, none⟩ = some (.slice (some ⟨gg, 0, none⟩) Rg.length cg) := fun p => blk_free_cell (Yg25.below p.h Yg25.lt) 0 rfl
  have n20 : ∀ p : Near w25.heap.size w25, p.w.cell? ⟨b20, 0, none⟩ = some (.slice (some ⟨gG, 0, none⟩) Rg.length cG) := fun p => blk_free_cell (YG25.below p.h YG25.lt) 0 rfl
  have n22 : ∀ p : Near w25.heap.size w25, p.w.cell? ⟨b22, 0, none⟩ = some (.slice (some ⟨gf, 0, none⟩) Rf.length cf) := fun p => blk_free_cell (Yf25.below p.h Yf25.lt) 0 rfl
  have n24 : ∀ p : Near w25.heap.size w25, p.w.cell? ⟨b24, 0, none⟩ = some (.slice (some ⟨gF, 0, none⟩) Rf.length cF) := fun p => blk_free_cell (YF25.below p.h YF25.lt) 0 rfl
  have n26 : ∀ p : Near w25.heap.size w25, p.w.cell? ⟨b26, 0, none⟩ = some (.slice (some ⟨gz, 0, none⟩) Rz.length cz) := fun p => blk_free_cell (Yz25.below p.h Yz25.lt) 0 rfl
  have Ka := hide (fun wx (hb : Below w25.heap.size w25 wx) => sameRing_calls wx (.slice (some ⟨ga, 0, none⟩) Ra.length ca) (.slice (some ⟨gA, 0, none⟩) Ra.length cA) Ra (Pa25.out.below hb (Nat.le_refl _)) (PA25.out.below hb (Nat.le_refl _)) HXa.out.len HXa.out.small)
  have qa : (ta == ta) = true := by cases ta <;> rfl
  have Ks := hide (fun wx (hb : Below w25.heap.size w25 wx) => sameRing_calls wx (.slice (some ⟨gs, 0, none⟩) Rs.length cs) (.slice (some ⟨gS, 0, none⟩) Rs.length cS) Rs (Ps25.out.below hb (Nat.le_refl _)) (PS25.out.below hb (Nat.le_refl _)) HXs.out.len HXs.out.small)
  have qs : (ts == ts) = true := by cases ts <;> rfl
  have Kg := hide (fun wx (hb : Below w25.heap.size w25 wx) => sameRing_calls wx (.slice (some ⟨gg, 0, none⟩) Rg.length cg) (.slice (some ⟨gG, 0, none⟩) Rg.length cG) Rg (Pg25.out.below hb (Nat.le_refl _)) (PG25.out.below hb (Nat.le_refl _)) HXg.out.len HXg.out.small)
  have qg : (tg == tg) = true := by cases tg <;> rfl
  have Kf := hide (fun wx (hb : Below w25.heap.size w25 wx) => sameRing_calls wx (.slice (some ⟨gf, 0, none⟩) Rf.length cf) (.slice (some ⟨gF, 0, none⟩) Rf.length cF) Rf (Pf25.out.below hb (Nat.le_refl _)) (PF25.out.below hb (Nat.le_refl _)) HXf.out.len HXf.out.small)
  have qf : (tf == tf) = true := by cases tf <;> rfl
  have KI := hide (fun wx (hb : Below w25.heap.size w25 wx) => HI.out wx _ Rz (Pz25.out.below hb (Nat.le_refl _)) HXz.out)
  have KS := hide (fun wx (hb : Below w25.heap.size w25 wx) => specIdeal_calls wx _ Rz (Pz25.out.below hb (Nat.le_refl _)) HXz.out.len HXz.out.small)
  generalize ideal Rz = iz at *
  have qz : (iz == iz) = true := by cases iz <;> rfl
  have hnn := Near.some w25.heap.size w25
  clear HXa HXs HXg HXf HXz HJ HG HS HF HI Ya25 Pa25 YA25 PA25 Ys25 Ps25 YS25 PS25 Yg25 Pg25 YG25 PG25 Yf25 Pf25 YF25 PF25 Yz25 Pz25 HC25
  refine wp_region_open (fun wd => ∃ p : Near w25.heap.size w25, wd = p.w) ⟨⟨_, (Below.refl _ _).drew⟩, rfl⟩ (by kernel_rfl) ?_
  rintro wd ⟨pd, rfl⟩
  have hqb := pd.h
  obtain ⟨x0, hq⟩ := pd
  simp only at hqb ⊢
  have HBq := hide hqb
  clear hq hqb
  refine wpAny_of_K (c := 45) (D := fun w' => ∃ p : Near w25.heap.size w25, w' = p.w) _ _ _ _ ?_
  refine wpAnyK_seg_lit4 0 6 12 40 rfl (by decide) (by decide) (by kernel_rfl) (by kernel_rfl) (by kernel_rfl) (by kernel_rfl) (fun _ _ _ _ _ h => h) ⟨⟨x0, HBq.out⟩, rfl⟩ ?_
  simp only [List.take_succ_cons, List.take_zero, List.drop_zero]
  repeat (go_big_quiet_step (fail))
  refine wpQuiet_nil ?_
  refine wpAnyK_callW 6 (by kernel_rfl) rfl rfl 26 _ _ rfl entT0 #[.agg #[.slice (some ⟨ga, 0, none⟩) Ra.length ca], .agg #[.slice (some ⟨gA, 0, none⟩) Ra.length cA]] rfl (fun v' w' => v' = .bool true ∧ Below x0.heap.size x0 w') ((Ka.out _ HBq.out).mono fun e w' ⟨h1, h2⟩ => ⟨_, h1, rfl, h2⟩) ?_
  rintro _ x1 ⟨rfl, hb⟩
  have HBq := hide (HBq.out.trans (hb.mono HBq.out.size))
  refine ⟨⟨⟨x1, HBq.out⟩, rfl⟩, ?_⟩
  simp only [Act.put, List.setIfInBounds_toArray, List.set_cons_succ, List.set_cons_zero]
  clear hb
  refine wpAnyK_seg_lit4 7 9 12 30 rfl (by decide) (by decide) (by kernel_rfl) (by kernel_rfl) (by kernel_rfl) (by kernel_rfl) (fun _ _ _ _ _ h => h) ⟨⟨x1, HBq.out⟩, rfl⟩ ?_
  simp only [List.take_succ_cons, List.take_zero, List.drop_succ_cons, List.drop_zero]
  repeat (go_big_quiet_step (fail))
  refine wpQuiet_nil ?_
  refine wpAnyK_callW 16 (by kernel_rfl) rfl rfl 26 _ _ rfl entT0 #[.agg #[.slice (some ⟨gs, 0, none⟩) Rs.length cs], .agg #[.slice (some ⟨gS, 0, none⟩) Rs.length cS]] rfl (fun v' w' => v' = .bool true ∧ Below x1.heap.size x1 w') ((Ks.out _ HBq.out).mono fun e w' ⟨h1, h2⟩ => ⟨_, h1, rfl, h2⟩) ?_
  rintro _ x2 ⟨rfl, hb⟩
  have HBq := hide (HBq.out.trans (hb.mono HBq.out.size))
  refine ⟨⟨⟨x2, HBq.out⟩, rfl⟩, ?_⟩
  simp only [Act.put, List.setIfInBounds_toArray, List.set_cons_succ, List.set_cons_zero]
  clear hb
  refine wpAnyK_seg_lit4 17 9 12 20 rfl (by decide) (by decide) (by kernel_rfl) (by kernel_rfl) (by kernel_rfl) (by kernel_rfl) (fun _ _ _ _ _ h => h) ⟨⟨x2, HBq.out⟩, rfl⟩ ?_
  simp only [List.take_succ_cons, List.take_zero, List.drop_succ_cons, List.drop_zero]
  repeat (go_big_quiet_step (fail))
  refine wpQuiet_nil ?_
  refine wpAnyK_callW 26 (by kernel_rfl) rfl rfl 26 _ _ rfl entT0 #[.agg #[.slice (some ⟨gg, 0, none⟩) Rg.length cg], .agg #[.slice (some ⟨gG, 0, none⟩) Rg.length cG]] rfl (fun v' w' => v' = .bool true ∧ Below x2.heap.size x2 w') ((Kg.out _ HBq.out).mono fun e w' ⟨h1, h2⟩ => ⟨_, h1, rfl, h2⟩) ?_
  rintro _ x3 ⟨rfl, hb⟩
  have HBq := hide (HBq.out.trans (hb.mono HBq.out.size))
  refine ⟨⟨⟨x3, HBq.out⟩, rfl⟩, ?_⟩
  simp only [Act.put, List.setIfInBounds_toArray, List.set_cons_succ, List.set_cons_zero]
  clear hb
  refine wpAnyK_seg_lit4 27 9 12 10 rfl (by decide) (by decide) (by kernel_rfl) (by kernel_rfl) (by kernel_rfl) (by kernel_rfl) (fun _ _ _ _ _ h => h) ⟨⟨x3, HBq.out⟩, rfl⟩ ?_
  simp only [List.take_succ_cons, List.take_zero, List.drop_succ_cons, List.drop_zero]
  repeat (go_big_quiet_step (fail))
  refine wpQuiet_nil ?_
  refine wpAnyK_callW 36 (by kernel_rfl) rfl rfl 26 _ _ rfl entT0 #[.agg #[.slice (some ⟨gf, 0, none⟩) Rf.length cf], .agg #[.slice (some ⟨gF, 0, none⟩) Rf.length cF]] rfl (fun v' w' => v' = .bool true ∧ Below x3.heap.size x3 w') ((Kf.out _ HBq.out).mono fun e w' ⟨h1, h2⟩ => ⟨_, h1, rfl, h2⟩) ?_
  rintro _ x4 ⟨rfl, hb⟩
  have HBq := hide (HBq.out.trans (hb.mono HBq.out.size))
  refine ⟨⟨⟨x4, HBq.out⟩, rfl⟩, ?_⟩
  simp only [Act.put, List.setIfInBounds_toArray, List.set_cons_succ, List.set_cons_zero]
  clear hb
  refine wpAnyK_seg_lit4 37 3 12 6 rfl (by decide) (by decide) (by kernel_rfl) (by kernel_rfl) (by kernel_rfl) (by kernel_rfl) (fun _ _ _ _ _ h => h) ⟨⟨x4, HBq.out⟩, rfl⟩ ?_
  simp only [List.take_succ_cons, List.take_zero, List.drop_succ_cons, List.drop_zero]
  repeat (go_big_quiet_step (fail))
  refine wpQuiet_nil ?_
  refine wpAnyK_seg_lit4 41 1 12 5 rfl (by decide) (by decide) (by kernel_rfl) (by kernel_rfl) (by kernel_rfl) (by kernel_rfl) (fun _ _ _ _ _ h => h) ⟨⟨x4, HBq.out⟩, rfl⟩ ?_
  simp only [List.take_succ_cons, List.take_zero, List.drop_succ_cons, List.drop_zero]
  repeat (go_big_quiet_step (fail))
  refine wpQuiet_nil ?_
  refine wpAnyK_callW 40 (by kernel_rfl) rfl rfl 14 _ _ rfl entT1 #[.agg #[.slice (some ⟨gz, 0, none⟩) Rz.length cz]] rfl (fun v' w' => v' = .bool iz ∧ Below x4.heap.size x4 w') ((KI.out _ HBq.out).mono fun e w' ⟨h1, h2⟩ => ⟨_, h1, rfl, h2⟩) ?_
  rintro _ x5 ⟨rfl, hb⟩
  have HBq := hide (HBq.out.trans (hb.mono HBq.out.size))
  refine ⟨⟨⟨x5, HBq.out⟩, rfl⟩, ?_⟩
  simp only [Act.put, List.setIfInBounds_toArray, List.set_cons_succ, List.set_cons_zero]
  clear hb
  refine wpAnyK_callW 42 (by kernel_rfl) rfl rfl 27 _ _ rfl entT2 #[.agg #[.slice (some ⟨gz, 0, none⟩) Rz.length cz]] rfl (fun v' w' => v' = .bool iz ∧ Below x5.heap.size x5 w') ((KS.out _ HBq.out).mono fun e w' ⟨h1, h2⟩ => ⟨_, h1, rfl, h2⟩) ?_
  rintro _ x6 ⟨rfl, hb⟩
  have HBq := hide (HBq.out.trans (hb.mono HBq.out.size))
  refine ⟨⟨⟨x6, HBq.out⟩, rfl⟩, ?_⟩
  simp only [Act.put, List.setIfInBounds_toArray, List.set_cons_succ, List.set_cons_zero]
  clear hb
  refine wpAnyK_seg_lit4 43 2 12 1 rfl (by decide) (by decide) (by kernel_rfl) (by kernel_rfl) (by kernel_rfl) (by kernel_rfl) (fun _ _ _ _ _ h => h) ⟨⟨x6, HBq.out⟩, rfl⟩ ?_
  simp only [List.take_succ_cons, List.take_zero, List.drop_succ_cons, List.drop_zero]
  repeat (go_big_quiet_step (fail))
  refine wpQuiet_nil ?_
  refine wpAnyK_last (by kernel_rfl) (by decide) ?_
  refine wpAny_rest 45 rfl (by kernel_rfl) ?_
  simp only [List.drop_succ_cons, List.drop_zero]
  have HBf := hide (HB25.out.trans (HBq.out.mono HB25.out.size))
  clear n6 n8 n12 n14 n18 n20 n22 n24 n26 hnn Ka Ks Kg Kf KI KS HBq HB25
  go_wp2_with fail
  go_ret
  exact ⟨rfl, HBf.out⟩
end Go.Proofs.YteladljgnbfcnaaGreatDoor.P9
