/- The walk of FnChanges: it returns true, where the program's five functions answer as ChgH says; no other condition. -/
import Derived.Test.YteladljgnbfcnaaGreatDoorZRT
import Derived.Test.YteladljgnbfcnaaGreatDoorZRS
import Derived.Test.YteladljgnbfcnaaGreatDoorZRR
import Derived.Test.YteladljgnbfcnaaGreatDoorZRA
import Derived.Test.YteladljgnbfcnaaGreatDoorZRD
import Derived.Test.YteladljgnbfcnaaGreatDoorZRB
import Derived.Test.YteladljgnbfcnaaGreatDoorZJ
import Derived.Deep.CutRange
import Derived.BigQuiet
namespace Go.Proofs.YteladljgnbfcnaaGreatDoor.P9
set_option maxRecDepth 8000
open Go.RowKit P1 P8 Da Cu

theorem tmodC {n : Int} (m : Nat) (hm : 0 < m) (h : 0 ≤ n) : ∃ k : Nat, k < m ∧ n.tmod (m : Int) = (k : Int) := by
  obtain ⟨k, rfl⟩ : ∃ k : Nat, n = (k : Int) := ⟨n.toNat, by omega⟩
  exact ⟨k % m, Nat.mod_lt _ hm, rfl⟩

set_option maxRecDepth 100000 in
set_option maxHeartbeats 8000000 in
theorem changesWalk (w : World) (hJ : JoinedC w) (hG : GoneC w) (hS : SettleC w) (hF : FingeredC w) (hI : IdealC) (a0 : Option Addr) (len cap : Nat) (z : List Int) (hr : Frame.IsRow .u8 w a0 len cap z) :
    Calls Tryz.prog 3 #[.slice a0 len cap] w fun e w' => e = .returned (.bool true) ∧ Below w.heap.size w w' := by
  have hcap : len ≤ maxLen := by
    rcases hr with ⟨_, rfl, _⟩ | ⟨_, _, h1, h2, _⟩
    · unfold maxLen; omega
    · omega
  unfold maxLen at hcap
  by_cases hbig : 1048576 < len
  · have hd : decide (1048576 < (len : Int)) = true := by simp; omega
    clear hJ hG hS hF hI
    go_enter Tryz.func3, Tryz.ntmps3
    go_wp2_with fail
    refine (big_calls _ a0 len cap).mono ?_
    rintro e w1 ⟨rfl, rfl⟩
    rw [hd]
    go_wp2
    go_ret
    exact ⟨rfl, Below.refl _ _⟩
  have hl : len ≤ 1048576 := by omega
  have HC1 := hide (code_of_row hr hl)
  have hd : decide (1048576 < (len : Int)) = false := by simp; omega
  have HJ := hide hJ
  have HG := hide hG
  have HS := hide hS
  have HF := hide hF
  have HI := hide hI
  clear hr hJ hG hS hF hI
  go_enter Tryz.func3, Tryz.ntmps3
  go_wp2_with fail
  refine (big_calls _ a0 len cap).mono ?_
  rintro e w1 ⟨rfl, rfl⟩
  rw [hd]
  clear hd hbig
  go_wp2_with fail
  refine (drawRing_calls w1 a0 len cap HC1.out).mono ?_
  rintro e w2 ⟨v, R, fp, rfl, ho, hfp, hrd, hb⟩
  obtain ⟨gr, cr, hsh⟩ := peers_shape ho (by have := hrd.least; omega)
  subst hsh
  have HRD := hide hrd
  have HR2 := hide (show PeersAt w2 (.slice (some ⟨gr, 0, none⟩) R.length cr) R from ⟨T0, ho.reads⟩)
  have HC2 := hide (code_at HC1.out hb)
  have HB2 := hide hb
  clear ho hfp hrd hb HC1
  go_upto_region 4 with fail
  have Y3 := Blk.new w2 #[.slice (some ⟨gr, 0, none⟩) R.length cr] 26
  have hba := (Below.refl w2.heap.size w2).alloc (Nat.le_refl _) (.cells #[.slice (some ⟨gr, 0, none⟩) R.length cr] 26)
  have HR3 := hide (HR2.out.below hba (Nat.le_refl _))
  have HC3 := hide (code_at HC2.out hba)
  have HB3 := hide (HB2.out.trans (hba.mono HB2.out.size))
  obtain ⟨b3, eb3⟩ : ∃ b, b = w2.heap.size := ⟨_, rfl⟩
  rw [← eb3] at Y3 ⊢
  clear eb3 hba HR2 HC2 HB2
  generalize w2.alloc (.cells #[.slice (some ⟨gr, 0, none⟩) R.length cr] 26) = w3 at *
  go_wp2_with fail
  refine (places_calls w3 a0 len cap HC3.out).mono ?_
  rintro e w4 ⟨vp, p, hp12, hpall, rfl, hop, hb⟩
  have HR4 := hide (HR3.out.below hb (Nat.le_refl _))
  have HC4 := hide (code_at HC3.out hb)
  have HB4 := hide (HB3.out.trans (hb.mono HB3.out.size))
  have Y4 := Y3.below hb Y3.lt
  have HP4 := hide (IntsAt.of_own hop)
  clear hop
  clear hb HR3 HC3 HB3 Y3 
  obtain ⟨ap, cp, hap, HA2⟩ := HP4.out
  subst hap
  obtain ⟨g0, o0, e0, l0, c1⟩ := HA2 0 (by omega)
  obtain ⟨g1, o1, e1, l1, c2⟩ := HA2 1 (by omega)
  subst e0
  cases e1
  rw [Nat.add_zero] at c1
  have hp0 := (hpall p[0] (List.getElem_mem _)).1
  have hp1 := (hpall p[1] (List.getElem_mem _)).1
  rw [hp12]
  clear HA2 HP4 hpall
  generalize p[0] = p0 at *
  generalize p[1] = p1 at *
  have hl4 := HRD.out.least
  have hl8 := HRD.out.most
  obtain ⟨i, hi, hti⟩ := tmodC R.length (by omega) hp0
  obtain ⟨k, hk, htk⟩ := tmodC 4 (by decide) hp1
  have hk' : k < R.length := by omega
  obtain ⟨u3, u4, u5, hci⟩ := cells_of_peer HR4.out hi
  obtain ⟨v3, v4, v5, hck⟩ := cells_of_peer HR4.out hk'
  have ci := hci.id
  have ck := hck.id
  have li := cell_lt' ci
  clear hci hck
  generalize R[i].id = id at *
  generalize R[k].id = by_ at *
  replace htk : p1.tmod 4 = (k : Int) := htk
  have t2 : ((R.length : Int) == 0) = false := beq_eq_false_iff_ne.2 (by omega)
  clear hp0 hp1
  go_upto_region 5 with fail
  have nj : ∀ p : Near w4.heap.size w4, p.w.cell? ⟨gr, k * 6, none⟩ = some (.int .i64 by_) := fun p => (p.h.cell (p := ⟨gr, k * 6, none⟩) (cell_lt' ck)).trans ck
  have nq : ∀ p : Near w4.heap.size w4, p.w.cell? ⟨g0, o0 + 1, none⟩ = some (.int .i64 p1) := fun p => (p.h.cell (p := ⟨g0, o0 + 1, none⟩) l1).trans c2
  have n3 : ∀ p : Near w4.heap.size w4, p.w.cell? ⟨b3, 0, none⟩ = some (.slice (some ⟨gr, 0, none⟩) R.length cr) := fun p => blk_free_cell (Y4.below p.h Y4.lt) 0 rfl
  have np : ∀ p : Near w4.heap.size w4, p.w.cell? ⟨g0, o0, none⟩ = some (.int .i64 p0) := fun p => (p.h.cell (p := ⟨g0, o0, none⟩) l0).trans c1
  have nk : ∀ p : Near w4.heap.size w4, p.w.cell? ⟨gr, i * 6, none⟩ = some (.int .i64 id) := fun p => (p.h.cell (p := ⟨gr, i * 6, none⟩) li).trans ci
  have hnn := Near.some w4.heap.size w4
  refine wp_region_open (fun wd => ∃ p : Near w4.heap.size w4, wd = p.w) ⟨⟨_, (Below.refl _ _).drew⟩, rfl⟩ (by kernel_rfl) ?_
  rintro wd ⟨pd, rfl⟩
  have hb := pd.h
  obtain ⟨w5, hq⟩ := pd
  simp only at hb ⊢
  have HBq := hide hb
  clear hq hb
  refine wpAny_of_K (c := 12) (D := fun w' => ∃ p : Near w4.heap.size w4, w' = p.w) _ _ _ _ ?_
  refine wpAnyK_seg_lit4 0 9 12 4 rfl (by decide) (by decide) (by kernel_rfl) (by kernel_rfl) (by kernel_rfl) (by kernel_rfl) (fun _ _ _ _ _ h => h) ⟨⟨w5, HBq.out⟩, rfl⟩ ?_
  simp only [List.take_succ_cons, List.take_zero, List.drop_zero]
  repeat (go_big_quiet_step (fail))
  refine wpQuiet_nil ?_
  first | rw [hti] | skip
  refine wpAnyK_seg_lit4 9 3 12 1 rfl (by decide) (by decide) (by kernel_rfl) (by kernel_rfl) (by kernel_rfl) (by kernel_rfl) (fun _ _ _ _ _ h => h) ⟨⟨w5, HBq.out⟩, rfl⟩ ?_
  simp only [List.take_succ_cons, List.take_zero, List.drop_succ_cons, List.drop_zero]
  repeat (go_big_quiet_step (fail))
  refine wpQuiet_nil ?_
  refine wpAnyK_last (by kernel_rfl) (by decide) ?_
  refine wpAny_rest 12 rfl (by kernel_rfl) ?_
  simp only [List.drop_succ_cons, List.drop_zero]
  have hb := HBq.out
  have HR5 := hide (HR4.out.below hb (Nat.le_refl _))
  have HC5 := hide (code_at HC4.out hb)
  have HB5 := hide (HB4.out.trans (hb.mono HB4.out.size))
  have Y5 := Y4.below hb Y4.lt
  have ck5 : w5.cell? ⟨gr, k * 6, none⟩ = some (.int .i64 by_) := nj ⟨w5, hb⟩
  have c25 : w5.cell? ⟨g0, o0 + 1, none⟩ = some (.int .i64 p1) := nq ⟨w5, hb⟩
  clear hb HBq hnn HR4 HC4 HB4 Y4 n3 np nk c1 c2 ci ck nj nq
  have lk5 := cell_lt' ck5
  have lq5 := cell_lt' c25
  go_upto_region 6 with fail
  have n3 : ∀ p : Near w5.heap.size w5, p.w.cell? ⟨b3, 0, none⟩ = some (.slice (some ⟨gr, 0, none⟩) R.length cr) := fun p => blk_free_cell (Y5.below p.h Y5.lt) 0 rfl
  have np : ∀ p : Near w5.heap.size w5, p.w.cell? ⟨g0, o0 + 1, none⟩ = some (.int .i64 p1) := fun p => (p.h.cell (p := ⟨g0, o0 + 1, none⟩) lq5).trans c25
  have nk : ∀ p : Near w5.heap.size w5, p.w.cell? ⟨gr, k * 6, none⟩ = some (.int .i64 by_) := fun p => (p.h.cell (p := ⟨gr, k * 6, none⟩) lk5).trans ck5
  have hnn := Near.some w5.heap.size w5
  refine wp_region_open (fun wd => ∃ p : Near w5.heap.size w5, wd = p.w) ⟨⟨_, (Below.refl _ _).drew⟩, rfl⟩ (by kernel_rfl) ?_
  rintro wd ⟨pd, rfl⟩
  have hb := pd.h
  obtain ⟨w6, hq⟩ := pd
  simp only at hb ⊢
  have HBq := hide hb
  clear hq hb
  refine wpAny_of_K (c := 9) (D := fun w' => ∃ p : Near w5.heap.size w5, w' = p.w) _ _ _ _ ?_
  refine wpAnyK_seg_lit4 0 6 12 4 rfl (by decide) (by decide) (by kernel_rfl) (by kernel_rfl) (by kernel_rfl) (by kernel_rfl) (fun _ _ _ _ _ h => h) ⟨⟨w6, HBq.out⟩, rfl⟩ ?_
  simp only [List.take_succ_cons, List.take_zero, List.drop_zero]
  repeat (go_big_quiet_step (fail))
  refine wpQuiet_nil ?_
  first | rw [htk] | skip
  refine wpAnyK_seg_lit4 6 3 12 1 rfl (by decide) (by decide) (by kernel_rfl) (by kernel_rfl) (by kernel_rfl) (by kernel_rfl) (fun _ _ _ _ _ h => h) ⟨⟨w6, HBq.out⟩, rfl⟩ ?_
  simp only [List.take_succ_cons, List.take_zero, List.drop_succ_cons, List.drop_zero]
  repeat (go_big_quiet_step (fail))
  refine wpQuiet_nil ?_
  refine wpAnyK_last (by kernel_rfl) (by decide) ?_
  refine wpAny_rest 9 rfl (by kernel_rfl) ?_
  simp only [List.drop_succ_cons, List.drop_zero]
  have hb := HBq.out
  have HR6 := hide (HR5.out.below hb (Nat.le_refl _))
  have HC6 := hide (code_at HC5.out hb)
  have HB6 := hide (HB5.out.trans (hb.mono HB5.out.size))
  have Y6 := Y5.below hb Y5.lt
  clear hb HBq hnn HR5 HC5 HB5 Y5 n3 np nk c25 ck5 lk5 lq5
  go_upto_region 7 with fail
  clear l0 l1 hti htk hp12 hi hk hk' hl4 hl8 t2 li
  have CX := hide (HJ.out w6 _ R id by_ HB6.out HR6.out HRD.out.x)
  obtain ⟨Ra, ta, eX⟩ : ∃ a b, joined R id by_ = (a, b) := ⟨_, _, rfl⟩
  rw [eX] at CX
  have HDa := hide (show RingD Ra by have := HRD.out.joined id by_; rwa [eX] at this)
  have HTa : Hid (ta = true → peerAt R id < 0 ∧ 0 ≤ nextOf Ra id) := fun h => by have := joined_told HRD.out.rok (id := id) (by_ := by_) (by rw [eX]; exact h); rwa [eX] at this
  clear eX
  have y0 := blk_free_cell Y6 0 rfl
  have yl0 := Y6.lt
  go_wp2_with fail
  refine CX.out.mono ?_
  rintro e w7 ⟨va, fa, rfl, ho, hfp, hb⟩
  have HR7 := hide (HR6.out.below hb (Nat.le_refl _))
  have HC7 := hide (code_at HC6.out hb)
  have HB7 := hide (HB6.out.trans (hb.mono HB6.out.size))
  have Y7 := Y6.below hb Y6.lt
  obtain ⟨ga, ca, hsh⟩ := peers_shape ho (by have := HDa.out.least; omega)
  subst hsh
  have Pa7 := hide (show PeersAt w7 (.slice (some ⟨ga, 0, none⟩) Ra.length ca) Ra from ⟨T0, ho.reads⟩)
  clear ho hfp
  clear hb HR6 HC6 HB6 Y6 y0 yl0 CX
  go_upto_region 8 with fail
  have Ya8 := Blk.new w7 #[.slice (some ⟨ga, 0, none⟩) Ra.length ca] 26
  have hba := (Below.refl w7.heap.size w7).alloc (Nat.le_refl _) (.cells #[.slice (some ⟨ga, 0, none⟩) Ra.length ca] 26)
  have HR8 := hide (HR7.out.below hba (Nat.le_refl _))
  have HC8 := hide (code_at HC7.out hba)
  have HB8 := hide (HB7.out.trans (hba.mono HB7.out.size))
  have Y8 := Y7.below hba Y7.lt
  have Pa8 := hide (Pa7.out.below hba (Nat.le_refl _))
  obtain ⟨b7, eb7⟩ : ∃ b, b = w7.heap.size := ⟨_, rfl⟩
  rw [← eb7] at Ya8 ⊢
  clear eb7 hba HR7 HC7 HB7 Y7 Pa7
  generalize w7.alloc (.cells #[.slice (some ⟨ga, 0, none⟩) Ra.length ca] 26) = w8 at *
  have CX := hide (HG.out w8 _ R id HB8.out HR8.out HRD.out.x)
  obtain ⟨Rb, tb, eX⟩ : ∃ a b, gone R id = (a, b) := ⟨_, _, rfl⟩
  rw [eX] at CX
  have HDb := hide (show RingD Rb by have := HRD.out.gone id; rwa [eX] at this)
  have HTb : Hid (tb = true → 0 ≤ peerAt R id ∧ peerAt Rb id < 0) := fun h => by have := gone_told HRD.out.rok (id := id) (by rw [eX]; exact h); rwa [eX] at this
  clear eX
  have y0 := blk_free_cell Y8 0 rfl
  have yl0 := Y8.lt
  go_wp2_with fail
  refine CX.out.mono ?_
  rintro e w9 ⟨vb, fb, rfl, ho, hfp, hb⟩
  have HR9 := hide (HR8.out.below hb (Nat.le_refl _))
  have HC9 := hide (code_at HC8.out hb)
  have HB9 := hide (HB8.out.trans (hb.mono HB8.out.size))
  have Y9 := Y8.below hb Y8.lt
  have Pa9 := hide (Pa8.out.below hb (Nat.le_refl _))
  have Ya9 := Ya8.below hb Ya8.lt
  obtain ⟨gb, cb, hsh⟩ := peers_shape ho (by have := HDb.out.least; omega)
  subst hsh
  have Pb9 := hide (show PeersAt w9 (.slice (some ⟨gb, 0, none⟩) Rb.length cb) Rb from ⟨T0, ho.reads⟩)
  clear ho hfp
  clear hb HR8 HC8 HB8 Y8 Pa8 Ya8 y0 yl0 CX
  go_upto_region 9 with fail
  have Yb10 := Blk.new w9 #[.slice (some ⟨gb, 0, none⟩) Rb.length cb] 26
  have hba := (Below.refl w9.heap.size w9).alloc (Nat.le_refl _) (.cells #[.slice (some ⟨gb, 0, none⟩) Rb.length cb] 26)
  have HR10 := hide (HR9.out.below hba (Nat.le_refl _))
  have HC10 := hide (code_at HC9.out hba)
  have HB10 := hide (HB9.out.trans (hba.mono HB9.out.size))
  have Y10 := Y9.below hba Y9.lt
  have Pa10 := hide (Pa9.out.below hba (Nat.le_refl _))
  have Ya10 := Ya9.below hba Ya9.lt
  have Pb10 := hide (Pb9.out.below hba (Nat.le_refl _))
  obtain ⟨b9, eb9⟩ : ∃ b, b = w9.heap.size := ⟨_, rfl⟩
  rw [← eb9] at Yb10 ⊢
  clear eb9 hba HR9 HC9 HB9 Y9 Pa9 Ya9 Pb9
  generalize w9.alloc (.cells #[.slice (some ⟨gb, 0, none⟩) Rb.length cb] 26) = w10 at *
  have CX := hide (HS.out w10 _ R id HB10.out HR10.out HRD.out.x)
  obtain ⟨Rc, tc, eX⟩ : ∃ a b, settle R id = (a, b) := ⟨_, _, rfl⟩
  rw [eX] at CX
  have HDc := hide (show RingD Rc by have := HRD.out.settle id; rwa [eX] at this)
  have HTc : Hid (tc = decide (0 ≤ peerAt R id)) := by have := settle_told HRD.out.rok id; rwa [eX] at this
  clear eX
  have y0 := blk_free_cell Y10 0 rfl
  have yl0 := Y10.lt
  go_wp2_with fail
  refine CX.out.mono ?_
  rintro e w11 ⟨vc, fc, rfl, ho, hfp, hb⟩
  have HR11 := hide (HR10.out.below hb (Nat.le_refl _))
  have HC11 := hide (code_at HC10.out hb)
  have HB11 := hide (HB10.out.trans (hb.mono HB10.out.size))
  have Y11 := Y10.below hb Y10.lt
  have Pa11 := hide (Pa10.out.below hb (Nat.le_refl _))
  have Ya11 := Ya10.below hb Ya10.lt
  have Pb11 := hide (Pb10.out.below hb (Nat.le_refl _))
  have Yb11 := Yb10.below hb Yb10.lt
  obtain ⟨gc, cc, hsh⟩ := peers_shape ho (by have := HDc.out.least; omega)
  subst hsh
  have Pc11 := hide (show PeersAt w11 (.slice (some ⟨gc, 0, none⟩) Rc.length cc) Rc from ⟨T0, ho.reads⟩)
  clear ho hfp
  clear hb HR10 HC10 HB10 Y10 Pa10 Ya10 Pb10 Yb10 y0 yl0 CX
  go_upto_region 10 with fail
  have Yc12 := Blk.new w11 #[.slice (some ⟨gc, 0, none⟩) Rc.length cc] 26
  have hba := (Below.refl w11.heap.size w11).alloc (Nat.le_refl _) (.cells #[.slice (some ⟨gc, 0, none⟩) Rc.length cc] 26)
  have HR12 := hide (HR11.out.below hba (Nat.le_refl _))
  have HC12 := hide (code_at HC11.out hba)
  have HB12 := hide (HB11.out.trans (hba.mono HB11.out.size))
  have Y12 := Y11.below hba Y11.lt
  have Pa12 := hide (Pa11.out.below hba (Nat.le_refl _))
  have Ya12 := Ya11.below hba Ya11.lt
  have Pb12 := hide (Pb11.out.below hba (Nat.le_refl _))
  have Yb12 := Yb11.below hba Yb11.lt
  have Pc12 := hide (Pc11.out.below hba (Nat.le_refl _))
  obtain ⟨b11, eb11⟩ : ∃ b, b = w11.heap.size := ⟨_, rfl⟩
  rw [← eb11] at Yc12 ⊢
  clear eb11 hba HR11 HC11 HB11 Y11 Pa11 Ya11 Pb11 Yb11 Pc11
  generalize w11.alloc (.cells #[.slice (some ⟨gc, 0, none⟩) Rc.length cc] 26) = w12 at *
  have CX := hide (HF.out w12 _ R id HB12.out HR12.out HRD.out.x)
  obtain ⟨Rd, td, eX⟩ : ∃ a b, fingered R id = (a, b) := ⟨_, _, rfl⟩
  rw [eX] at CX
  have HDd := hide (show RingD Rd by have := HRD.out.fingered id; rwa [eX] at this)
  have HTd : Hid (td = decide (0 ≤ peerAt R id)) := by have := fingered_told R id; rwa [eX] at this
  clear eX
  have y0 := blk_free_cell Y12 0 rfl
  have yl0 := Y12.lt
  go_wp2_with fail
  refine CX.out.mono ?_
  rintro e w13 ⟨vd, fd, rfl, ho, hfp, hb⟩
  have HR13 := hide (HR12.out.below hb (Nat.le_refl _))
  have HC13 := hide (code_at HC12.out hb)
  have HB13 := hide (HB12.out.trans (hb.mono HB12.out.size))
  have Y13 := Y12.below hb Y12.lt
  have Pa13 := hide (Pa12.out.below hb (Nat.le_refl _))
  have Ya13 := Ya12.below hb Ya12.lt
  have Pb13 := hide (Pb12.out.below hb (Nat.le_refl _))
  have Yb13 := Yb12.below hb Yb12.lt
  have Pc13 := hide (Pc12.out.below hb (Nat.le_refl _))
  have Yc13 := Yc12.below hb Yc12.lt
  obtain ⟨gd, cd, hsh⟩ := peers_shape ho (by have := HDd.out.least; omega)
  subst hsh
  have Pd13 := hide (show PeersAt w13 (.slice (some ⟨gd, 0, none⟩) Rd.length cd) Rd from ⟨T0, ho.reads⟩)
  clear ho hfp
  clear hb HR12 HC12 HB12 Y12 Pa12 Ya12 Pb12 Yb12 Pc12 Yc12 y0 yl0 CX
  go_upto_region 11 with fail
  have Yd14 := Blk.new w13 #[.slice (some ⟨gd, 0, none⟩) Rd.length cd] 26
  have hba := (Below.refl w13.heap.size w13).alloc (Nat.le_refl _) (.cells #[.slice (some ⟨gd, 0, none⟩) Rd.length cd] 26)
  have HR14 := hide (HR13.out.below hba (Nat.le_refl _))
  have HC14 := hide (code_at HC13.out hba)
  have HB14 := hide (HB13.out.trans (hba.mono HB13.out.size))
  have Y14 := Y13.below hba Y13.lt
  have Pa14 := hide (Pa13.out.below hba (Nat.le_refl _))
  have Ya14 := Ya13.below hba Ya13.lt
  have Pb14 := hide (Pb13.out.below hba (Nat.le_refl _))
  have Yb14 := Yb13.below hba Yb13.lt
  have Pc14 := hide (Pc13.out.below hba (Nat.le_refl _))
  have Yc14 := Yc13.below hba Yc13.lt
  have Pd14 := hide (Pd13.out.below hba (Nat.le_refl _))
  obtain ⟨b13, eb13⟩ : ∃ b, b = w13.heap.size := ⟨_, rfl⟩
  rw [← eb13] at Yd14 ⊢
  clear eb13 hba HR13 HC13 HB13 Y13 Pa13 Ya13 Pb13 Yb13 Pc13 Yc13 Pd13
  generalize w13.alloc (.cells #[.slice (some ⟨gd, 0, none⟩) Rd.length cd] 26) = w14 at *
  have CP := hide (fun wx (hv : PeersAt wx (.slice (some ⟨gr, 0, none⟩) R.length cr) R) => specPeerAt_calls wx _ R id hv HRD.out.len)
  generalize peerAt R id = px at *
  have y0 := blk_free_cell Y14 0 rfl
  have yl0 := Y14.lt
  go_wp2_with fail
  refine (CP.out w14 HR14.out).mono ?_
  rintro e w15 ⟨rfl, hb⟩
  have HR15 := hide (HR14.out.below hb (Nat.le_refl _))
  have HC15 := hide (code_at HC14.out hb)
  have HB15 := hide (HB14.out.trans (hb.mono HB14.out.size))
  have Y15 := Y14.below hb Y14.lt
  have Pa15 := hide (Pa14.out.below hb (Nat.le_refl _))
  have Ya15 := Ya14.below hb Ya14.lt
  have Pb15 := hide (Pb14.out.below hb (Nat.le_refl _))
  have Yb15 := Yb14.below hb Yb14.lt
  have Pc15 := hide (Pc14.out.below hb (Nat.le_refl _))
  have Yc15 := Yc14.below hb Yc14.lt
  have Pd15 := hide (Pd14.out.below hb (Nat.le_refl _))
  have Yd15 := Yd14.below hb Yd14.lt
  clear hb HR14 HC14 HB14 Y14 Pa14 Ya14 Pb14 Yb14 Pc14 Yc14 Pd14 Yd14 y0 yl0 CP
  go_upto_region 12 with fail
  have KR := hide (fun wx (hv : PeersAt wx (.slice (some ⟨gr, 0, none⟩) R.length cr) R) => specRingOk_calls wx _ R hv HRD.out.len HRD.out.small)
  rw [(rok_iff R).2 HRD.out.rok] at KR
  have Ka := hide (fun wx (hv : PeersAt wx (.slice (some ⟨ga, 0, none⟩) Ra.length ca) Ra) => specRingOk_calls wx _ Ra hv HDa.out.len HDa.out.small)
  rw [(rok_iff Ra).2 HDa.out.rok] at Ka
  have Kb := hide (fun wx (hv : PeersAt wx (.slice (some ⟨gb, 0, none⟩) Rb.length cb) Rb) => specRingOk_calls wx _ Rb hv HDb.out.len HDb.out.small)
  rw [(rok_iff Rb).2 HDb.out.rok] at Kb
  have Kc := hide (fun wx (hv : PeersAt wx (.slice (some ⟨gc, 0, none⟩) Rc.length cc) Rc) => specRingOk_calls wx _ Rc hv HDc.out.len HDc.out.small)
  rw [(rok_iff Rc).2 HDc.out.rok] at Kc
  have Kd := hide (fun wx (hv : PeersAt wx (.slice (some ⟨gd, 0, none⟩) Rd.length cd) Rd) => specRingOk_calls wx _ Rd hv HDd.out.len HDd.out.small)
  rw [(rok_iff Rd).2 HDd.out.rok] at Kd
  have CN := hide (fun wx (hv : PeersAt wx (.slice (some ⟨ga, 0, none⟩) Ra.length ca) Ra) => specNext_calls wx _ Ra id hv HDa.out.len (fun p hp => (HDa.out.small p hp).b))
  have CQ := hide (fun wx (hv : PeersAt wx (.slice (some ⟨gb, 0, none⟩) Rb.length cb) Rb) => specPeerAt_calls wx _ Rb id hv HDb.out.len)
  generalize nextOf Ra id = nx at *
  generalize peerAt Rb id = pb at *
  clear HDa HDb HDc HDd HRD
  have y0 := blk_free_cell Y15 0 rfl
  have yl0 := Y15.lt
  go_wp2_with fail
  refine (KR.out w15 HR15.out).mono ?_
  rintro e w16 ⟨rfl, hb⟩
  have HR16 := hide (HR15.out.below hb (Nat.le_refl _))
  have HC16 := hide (code_at HC15.out hb)
  have HB16 := hide (HB15.out.trans (hb.mono HB15.out.size))
  have Y16 := Y15.below hb Y15.lt
  have Pa16 := hide (Pa15.out.below hb (Nat.le_refl _))
  have Ya16 := Ya15.below hb Ya15.lt
  have Pb16 := hide (Pb15.out.below hb (Nat.le_refl _))
  have Yb16 := Yb15.below hb Yb15.lt
  have Pc16 := hide (Pc15.out.below hb (Nat.le_refl _))
  have Yc16 := Yc15.below hb Yc15.lt
  have Pd16 := hide (Pd15.out.below hb (Nat.le_refl _))
  have Yd16 := Yd15.below hb Yd15.lt
  clear hb HR15 HC15 HB15 Y15 Pa15 Ya15 Pb15 Yb15 Pc15 Yc15 Pd15 Yd15 y0 yl0 KR
  go_wp2_with fail
  refine (drawIds_calls w16 a0 len cap HC16.out).mono ?_
  rintro e w17 ⟨vi, ids, hst, rfl, hoi, hb⟩
  have HR17 := hide (HR16.out.below hb (Nat.le_refl _))
  have HC17 := hide (code_at HC16.out hb)
  have HB17 := hide (HB16.out.trans (hb.mono HB16.out.size))
  have Y17 := Y16.below hb Y16.lt
  have Pa17 := hide (Pa16.out.below hb (Nat.le_refl _))
  have Ya17 := Ya16.below hb Ya16.lt
  have Pb17 := hide (Pb16.out.below hb (Nat.le_refl _))
  have Yb17 := Yb16.below hb Yb16.lt
  have Pc17 := hide (Pc16.out.below hb (Nat.le_refl _))
  have Yc17 := Yc16.below hb Yc16.lt
  have Pd17 := hide (Pd16.out.below hb (Nat.le_refl _))
  have Yd17 := Yd16.below hb Yd16.lt
  have HST := hide hst
  have HII17 := hide (IntsAt.of_own hoi)
  clear hst hoi
  clear hb HR16 HC16 HB16 Y16 Pa16 Ya16 Pb16 Yb16 Pc16 Yc16 Pd16 Yd16 
  go_wp2_with fail
  refine (specRingNew_calls w17 vi ids HII17.out (by have := starts_len ids HST.out; omega)).mono ?_
  rintro e w18 ⟨vn, fn, rfl, ho, hfp, hb⟩
  have HR18 := hide (HR17.out.below hb (Nat.le_refl _))
  have HC18 := hide (code_at HC17.out hb)
  have HB18 := hide (HB17.out.trans (hb.mono HB17.out.size))
  have Y18 := Y17.below hb Y17.lt
  have Pa18 := hide (Pa17.out.below hb (Nat.le_refl _))
  have Ya18 := Ya17.below hb Ya17.lt
  have Pb18 := hide (Pb17.out.below hb (Nat.le_refl _))
  have Yb18 := Yb17.below hb Yb17.lt
  have Pc18 := hide (Pc17.out.below hb (Nat.le_refl _))
  have Yc18 := Yc17.below hb Yc17.lt
  have Pd18 := hide (Pd17.out.below hb (Nat.le_refl _))
  have Yd18 := Yd17.below hb Yd17.lt
  have HV_18 := hide (show PeersAt w18 vn (ringNew ids) from ⟨T0, ho.reads⟩)
  clear ho hfp
  clear hb HR17 HC17 HB17 Y17 Pa17 Ya17 Pb17 Yb17 Pc17 Yc17 Pd17 Yd17  HII17
  have CI := hide (HI.out w18 vn (ringNew ids) HV_18.out (starts_ring ids HST.out).x)
  rw [starts_ideal ids HST.out] at CI
  go_wp2_with fail
  refine CI.out.mono ?_
  rintro e w19 ⟨rfl, hb⟩
  have HR19 := hide (HR18.out.below hb (Nat.le_refl _))
  have HC19 := hide (code_at HC18.out hb)
  have HB19 := hide (HB18.out.trans (hb.mono HB18.out.size))
  have Y19 := Y18.below hb Y18.lt
  have Pa19 := hide (Pa18.out.below hb (Nat.le_refl _))
  have Ya19 := Ya18.below hb Ya18.lt
  have Pb19 := hide (Pb18.out.below hb (Nat.le_refl _))
  have Yb19 := Yb18.below hb Yb18.lt
  have Pc19 := hide (Pc18.out.below hb (Nat.le_refl _))
  have Yc19 := Yc18.below hb Yc18.lt
  have Pd19 := hide (Pd18.out.below hb (Nat.le_refl _))
  have Yd19 := Yd18.below hb Yd18.lt
  clear hb HR18 HC18 HB18 Y18 Pa18 Ya18 Pb18 Yb18 Pc18 Yc18 Pd18 Yd18  CI HV_18 HST
  have y0 := blk_free_cell Ya19 0 rfl
  have yl0 := Ya19.lt
  go_wp2_with fail
  refine (Ka.out w19 Pa19.out).mono ?_
  rintro e w20 ⟨rfl, hb⟩
  have HR20 := hide (HR19.out.below hb (Nat.le_refl _))
  have HC20 := hide (code_at HC19.out hb)
  have HB20 := hide (HB19.out.trans (hb.mono HB19.out.size))
  have Y20 := Y19.below hb Y19.lt
  have Pa20 := hide (Pa19.out.below hb (Nat.le_refl _))
  have Ya20 := Ya19.below hb Ya19.lt
  have Pb20 := hide (Pb19.out.below hb (Nat.le_refl _))
  have Yb20 := Yb19.below hb Yb19.lt
  have Pc20 := hide (Pc19.out.below hb (Nat.le_refl _))
  have Yc20 := Yc19.below hb Yc19.lt
  have Pd20 := hide (Pd19.out.below hb (Nat.le_refl _))
  have Yd20 := Yd19.below hb Yd19.lt
  clear hb HR19 HC19 HB19 Y19 Pa19 Ya19 Pb19 Yb19 Pc19 Yc19 Pd19 Yd19 y0 yl0 Ka
  have y0 := blk_free_cell Yb20 0 rfl
  have yl0 := Yb20.lt
  go_wp2_with fail
  refine (Kb.out w20 Pb20.out).mono ?_
  rintro e w21 ⟨rfl, hb⟩
  have HR21 := hide (HR20.out.below hb (Nat.le_refl _))
  have HC21 := hide (code_at HC20.out hb)
  have HB21 := hide (HB20.out.trans (hb.mono HB20.out.size))
  have Y21 := Y20.below hb Y20.lt
  have Pa21 := hide (Pa20.out.below hb (Nat.le_refl _))
  have Ya21 := Ya20.below hb Ya20.lt
  have Pb21 := hide (Pb20.out.below hb (Nat.le_refl _))
  have Yb21 := Yb20.below hb Yb20.lt
  have Pc21 := hide (Pc20.out.below hb (Nat.le_refl _))
  have Yc21 := Yc20.below hb Yc20.lt
  have Pd21 := hide (Pd20.out.below hb (Nat.le_refl _))
  have Yd21 := Yd20.below hb Yd20.lt
  clear hb HR20 HC20 HB20 Y20 Pa20 Ya20 Pb20 Yb20 Pc20 Yc20 Pd20 Yd20 y0 yl0 Kb
  have y0 := blk_free_cell Yc21 0 rfl
  have yl0 := Yc21.lt
  go_wp2_with fail
  refine (Kc.out w21 Pc21.out).mono ?_
  rintro e w22 ⟨rfl, hb⟩
  have HR22 := hide (HR21.out.below hb (Nat.le_refl _))
  have HC22 := hide (code_at HC21.out hb)
  have HB22 := hide (HB21.out.trans (hb.mono HB21.out.size))
  have Y22 := Y21.below hb Y21.lt
  have Pa22 := hide (Pa21.out.below hb (Nat.le_refl _))
  have Ya22 := Ya21.below hb Ya21.lt
  have Pb22 := hide (Pb21.out.below hb (Nat.le_refl _))
  have Yb22 := Yb21.below hb Yb21.lt
  have Pc22 := hide (Pc21.out.below hb (Nat.le_refl _))
  have Yc22 := Yc21.below hb Yc21.lt
  have Pd22 := hide (Pd21.out.below hb (Nat.le_refl _))
  have Yd22 := Yd21.below hb Yd21.lt
  clear hb HR21 HC21 HB21 Y21 Pa21 Ya21 Pb21 Yb21 Pc21 Yc21 Pd21 Yd21 y0 yl0 Kc
  have y0 := blk_free_cell Yd22 0 rfl
  have yl0 := Yd22.lt
  go_wp2_with fail
  refine (Kd.out w22 Pd22.out).mono ?_
  rintro e w23 ⟨rfl, hb⟩
  have HR23 := hide (HR22.out.below hb (Nat.le_refl _))
  have HC23 := hide (code_at HC22.out hb)
  have HB23 := hide (HB22.out.trans (hb.mono HB22.out.size))
  have Y23 := Y22.below hb Y22.lt
  have Pa23 := hide (Pa22.out.below hb (Nat.le_refl _))
  have Ya23 := Ya22.below hb Ya22.lt
  have Pb23 := hide (Pb22.out.below hb (Nat.le_refl _))
  have Yb23 := Yb22.below hb Yb22.lt
  have Pc23 := hide (Pc22.out.below hb (Nat.le_refl _))
  have Yc23 := Yc22.below hb Yc22.lt
  have Pd23 := hide (Pd22.out.below hb (Nat.le_refl _))
  have Yd23 := Yd22.below hb Yd22.lt
  clear hb HR22 HC22 HB22 Y22 Pa22 Ya22 Pb22 Yb22 Pc22 Yc22 Pd22 Yd22 y0 yl0 Kd
  have yA := blk_free_cell Ya23 0 rfl
  have ylA := Ya23.lt
  have yB := blk_free_cell Yb23 0 rfl
  have ylB := Yb23.lt
  by_cases hh : 0 ≤ px
  · have dh : decide (px ≥ 0) = true := decide_eq_true hh
    have ec : tc = true := HTc.out.trans (decide_eq_true hh)
    have ed : td = true := HTd.out.trans (decide_eq_true hh)
    have ea : ta = false := by
      cases h : ta with
      | false => rfl
      | true => have := (HTa.out h).1; omega
    subst ec ed ea
    cases tb with
    | false =>
      clear HTa HTb HTc HTd hh CN CQ
      go_wp2_with fail
      go_ret
      exact ⟨rfl, HB23.out⟩
    | true =>
      have dq : decide (pb < 0) = true := decide_eq_true (HTb.out rfl).2
      clear HTa HTb HTc HTd hh CN
      go_wp2_with fail
      refine (CQ.out w23 Pb23.out).mono ?_
      rintro e wz ⟨rfl, hb⟩
      have HBz := hide (HB23.out.trans (hb.mono HB23.out.size))
      clear hb CQ
      go_wp2_with fail
      go_ret
      exact ⟨rfl, HBz.out⟩
  · have dh : decide (px ≥ 0) = false := decide_eq_false hh
    have ec : tc = false := HTc.out.trans (decide_eq_false hh)
    have ed : td = false := HTd.out.trans (decide_eq_false hh)
    have eb : tb = false := by
      cases h : tb with
      | false => rfl
      | true => have := (HTb.out h).1; omega
    subst ec ed eb
    cases ta with
    | false =>
      clear HTa HTb HTc HTd hh CN CQ
      go_wp2_with fail
      go_ret
      exact ⟨rfl, HB23.out⟩
    | true =>
      have dq : decide (nx ≥ 0) = true := decide_eq_true (HTa.out rfl).2
      clear HTa HTb HTc HTd hh CQ
      go_wp2_with fail
      refine (CN.out w23 Pa23.out).mono ?_
      rintro e wz ⟨rfl, hb⟩
      have HBz := hide (HB23.out.trans (hb.mono HB23.out.size))
      clear hb CN
      go_wp2_with fail
      go_ret
      exact ⟨rfl, HBz.out⟩
end Go.Proofs.YteladljgnbfcnaaGreatDoor.P9
