/- The walk of FnFounds: it returns true; no condition. -/
import Derived.Test.YtckldfknhmhkgaaZRO
import Derived.Test.YtckldfknhmhkgaaZRP
import Derived.Test.YtckldfknhmhkgaaZRH
import Derived.Test.YtckldfknhmhkgaaZRB
import Derived.Test.YtckldfknhmhkgaaZJ
import Derived.Deep.CutRange
namespace Go.Proofs.Ytckldfknhmhkgaa.P9
set_option maxRecDepth 8000
open Go.RowKit P1 P8 Da Cu

theorem entF0 : ∀ args w, (callFunc 14 args).run Try.prog w = .ok (.enter 14 args) w := run_enter Try.func14 (by kernel_rfl) (by kernel_rfl)
theorem entF1 : ∀ args w, (callFunc 13 args).run Try.prog w = .ok (.enter 13 args) w := run_enter Try.func13 (by kernel_rfl) (by kernel_rfl)

theorem reach_small {l : List Pr} (h : ∀ p ∈ l, Small p) : Reach l := fun p hp => ⟨(h p hp).b, by
  have h1 := (h p hp).b
  have h2 := (h p hp).f
  rw [List.length_append]
  omega⟩

theorem tmod_nat {n : Int} (m : Nat) (hm : 0 < m) (h : 0 ≤ n) : ∃ k : Nat, k < m ∧ n.tmod (m : Int) = (k : Int) := by
  obtain ⟨k, rfl⟩ : ∃ k : Nat, n = (k : Int) := ⟨n.toNat, by omega⟩
  exact ⟨k % m, Nat.mod_lt _ hm, rfl⟩

theorem below_drewN (w : World) (m : Nat) : Below w.heap.size w (w.drewN m) := by
  have h := Below.refl w.heap.size w
  exact ⟨h.os, h.tape, h.output, h.size, h.block⟩

/-- What is told of a key: who has it is there, after at most so many hops. -/
theorem trip_facts {l : List Pr} (hr : OnRing l) (by_ key : Int) : ∃ (x : Int) (h : Nat) (b : Bool), tripV (find l by_ key) = .tuple #[.agg #[.int .i64 x, .int .i64 (h : Int)], .bool b] ∧ (b = true → 0 ≤ peerAt l x ∧ h ≤ 65) := by
  cases hf : find l by_ key with
  | none => exact ⟨-1, 0, false, rfl, fun e => by cases e⟩
  | some p => exact ⟨p.1, p.2, true, rfl, fun _ => findGo_at hr key 66 by_ p.1 p.2 hf⟩

set_option maxRecDepth 100000 in
set_option maxHeartbeats 8000000 in
theorem foundsWalk (w : World) (a0 : Option Addr) (len cap : Nat) (z : List Int) (hr : Frame.IsRow .u8 w a0 len cap z) :
    Calls Try.prog 3 #[.slice a0 len cap] w fun e w' => e = .returned (.bool true) ∧ Below w.heap.size w w' := by
  have hcap : len ≤ maxLen := by
    rcases hr with ⟨_, rfl, _⟩ | ⟨_, _, h1, h2, _⟩
    · unfold maxLen; omega
    · omega
  unfold maxLen at hcap
  by_cases hbig : 1048576 < len
  · have hd : decide (1048576 < (len : Int)) = true := by simp; omega
    go_enter Try.func3, Try.ntmps3
    go_wp2_with fail
    refine (big_calls _ a0 len cap).mono ?_
    rintro e w1 ⟨rfl, rfl⟩
    rw [hd]
    go_wp2
    go_ret
    exact ⟨rfl, Below.refl _ _⟩
  have hl : len ≤ 1048576 := by omega
  have HC := hide (code_of_row hr hl)
  have hd : decide (1048576 < (len : Int)) = false := by simp; omega
  clear hr
  go_enter Try.func3, Try.ntmps3
  go_wp2_with fail
  refine (big_calls _ a0 len cap).mono ?_
  rintro e w1 ⟨rfl, rfl⟩
  rw [hd]
  clear hd hbig
  go_wp2_with fail
  refine (drawIds_calls w1 a0 len cap HC.out).mono ?_
  rintro e w2 ⟨vi, ids, hst, rfl, hoi, hbi⟩
  have HB2 := hide hbi
  have HST := hide hst
  have hil := starts_len ids hst
  have hi4 := starts_base ids hst
  have HRD := hide (starts_ring ids hst)
  have HC2 := hide (code_at HC.out hbi)
  have HI2 := hide (IntsAt.of_own hoi)
  clear hst hbi hoi
  go_wp2_with fail
  refine (places_calls w2 a0 len cap HC2.out).mono ?_
  rintro e w3 ⟨vp, p, hp12, hpall, rfl, hop, hbp⟩
  have HI3 := hide (HI2.out.below hbp (Nat.le_refl _))
  have HC3 := hide (code_at HC2.out hbp)
  have HB3 := hide (HB2.out.trans (hbp.mono HB2.out.size))
  have HP3 := hide (IntsAt.of_own hop)
  obtain ⟨i, hi, hti⟩ := tmod_nat 4 (by decide) (hpall p[0] (List.getElem_mem _)).1
  obtain ⟨k, hk, htk⟩ := tmod_nat 256 (by decide) (hpall p[1] (List.getElem_mem _)).1
  have hil2 : i < ids.length := Nat.lt_of_lt_of_le hi hi4
  obtain ⟨n, hfind, hn4⟩ := start_found HST.out hi hil2 hk
  have HFI := hide hfind
  clear hop hbp hpall HB2 HI2 HC2 hfind
  have CR := hide (specRingNew_calls w3 vi ids HI3.out (by omega))
  generalize ringNew ids = R at *
  obtain ⟨ai, ci, hsh, -⟩ := HI3.out
  subst hsh
  go_wp2_with fail
  refine CR.out.mono ?_
  rintro e w4 ⟨v, fp, rfl, ho, hfp, hb4⟩
  obtain ⟨gr, cr, hsh⟩ := peers_shape ho (by have := HRD.out.least; omega)
  subst hsh
  have HI4 := hide (HI3.out.below hb4 (Nat.le_refl _))
  have HP4 := hide (HP3.out.below hb4 (Nat.le_refl _))
  have HC4 := hide (code_at HC3.out hb4)
  have HB4 := hide (HB3.out.trans (hb4.mono HB3.out.size))
  clear CR hfp HI3 HP3 HC3 HB3 hb4
  go_upto_region 6 with fail
  have Y := Blk.new w4 #[.slice (some ⟨gr, 0, none⟩) R.length cr] 28
  have hba := (Below.refl w4.heap.size w4).alloc (Nat.le_refl _) (.cells #[.slice (some ⟨gr, 0, none⟩) R.length cr] 28)
  have HR5 := hide (show PeersAt (w4.alloc (.cells #[.slice (some ⟨gr, 0, none⟩) R.length cr] 28)) (.slice (some ⟨gr, 0, none⟩) R.length cr) R from ⟨T0, (owns_below ho hba).reads⟩)
  have HI5 := hide (HI4.out.below hba (Nat.le_refl _))
  have HP5 := hide (HP4.out.below hba (Nat.le_refl _))
  have HC5 := hide (code_at HC4.out hba)
  have HB5 := hide (HB4.out.trans (hba.mono HB4.out.size))
  obtain ⟨b5, e5⟩ : ∃ b, b = w4.heap.size := ⟨_, rfl⟩
  rw [← e5] at Y ⊢
  clear e5 hba ho HI4 HP4 HC4 HB4
  generalize w4.alloc (.cells #[.slice (some ⟨gr, 0, none⟩) R.length cr] 28) = w5 at *
  obtain ⟨ax, cx, hax, HA⟩ := HI5.out
  cases hax
  obtain ⟨gi, oi, rfl, li, c0⟩ := HA i hil2
  obtain ⟨ap, cp, hap, HA2⟩ := HP5.out
  subst hap
  obtain ⟨g0, o0, e0, l0, c1⟩ := HA2 0 (by omega)
  obtain ⟨g1, o1, e1, l1, c2⟩ := HA2 1 (by omega)
  subst e0
  cases e1
  rw [Nat.add_zero] at c1
  rw [hp12]
  clear HA HA2 HI5 HP5
  generalize p[0] = p0 at *
  generalize p[1] = p1 at *
  generalize ids[i] = by_ at *
  replace hti : p0.tmod 4 = (i : Int) := hti
  replace htk : p1.tmod 256 = (k : Int) := htk
  have t0 : 0 ≤ p0.tmod 4 := by omega
  have t1 : p0.tmod 4 < (ids.length : Int) := by omega
  rw [show i = (p0.tmod 4).toNat by omega] at c0
  clear hti hi hil2
  go_upto_region 7 with fail
  clear c0 c1 t0 t1 li l0
  go_upto_region 8 with fail
  clear c2 l1 htk hp12
  obtain ⟨H, eH⟩ : ∃ H, H = hereOf R := ⟨_, rfl⟩
  have hHl : H.length ≤ 1048576 := by
    have := hereOf_take R R.length
    rw [List.take_length, ← eH] at this
    have := HRD.out.len
    omega
  have CH := hide (fun wx (hv : PeersAt wx (.slice (some ⟨gr, 0, none⟩) R.length cr) R) => specHere_calls wx _ R hv HRD.out.len)
  have CO := hide (fun wx vh (hv : IntsAt wx vh H) => specOwner_calls wx vh H (k : Int) hv hHl)
  rw [← eH] at HFI CH
  have CF := hide (implFind_calls w5 _ R by_ (k : Int) HR5.out HRD.out.len (reach_small HRD.out.small) HRD.out.ring)
  rw [HFI.out, show tripV (some (ownerOf (k : Int) H, n)) = .tuple #[.agg #[.int .i64 (ownerOf (k : Int) H), .int .i64 ((n : Nat) : Int)], .bool true] from rfl] at CF
  generalize ownerOf (k : Int) H = own at *
  clear HFI eH HST
  have y0 := blk_free_cell Y 0 rfl
  have yl := Y.lt
  go_wp2_with fail
  refine CF.out.mono ?_
  rintro e w6 ⟨rfl, hb6⟩
  have HR6 := hide (HR5.out.below hb6 (Nat.le_refl _))
  have Y6 := Y.below hb6 Y.lt
  have HC6 := hide (code_at HC5.out hb6)
  have HB6 := hide (HB5.out.trans (hb6.mono HB5.out.size))
  clear CF hb6 HR5 Y HC5 HB5 y0 yl HRD
  go_upto_region 9 with fail
  have N7 := Blk.new w6 #[.int .i64 own, .int .i64 n] 31
  have hba := (Below.refl w6.heap.size w6).alloc (Nat.le_refl _) (.cells #[.int .i64 own, .int .i64 n] 31)
  have HR7 := hide (HR6.out.below hba (Nat.le_refl _))
  have Y7 := Y6.below hba Y6.lt
  have HC7 := hide (code_at HC6.out hba)
  have HB7 := hide (HB6.out.trans (hba.mono HB6.out.size))
  obtain ⟨b8, eb8⟩ : ∃ b, b = w6.heap.size := ⟨_, rfl⟩
  rw [← eb8] at N7 ⊢
  clear eb8 hba HR6 Y6 HC6 HB6
  generalize w6.alloc (.cells #[.int .i64 own, .int .i64 n] 31) = w7 at *
  have T8_7 := N7
  clear N7
  go_wp2_with fail
  refine (drawFind_calls w7 a0 len cap HC7.out).mono ?_
  rintro e w8 ⟨v, l, id, key, fx, rfl, ho, hf, hx, hb⟩
  have HR8 := hide (HR7.out.below hb (Nat.le_refl _))
  have Y8 := Y7.below hb Y7.lt
  have HC8 := hide (code_at HC7.out hb)
  have HB8 := hide (HB7.out.trans (hb.mono HB7.out.size))
  have T8_8 := T8_7.below hb T8_7.lt
  clear hb HR7 Y7 HC7 HB7 T8_7
  obtain ⟨ax, cx, hsh⟩ := peers_sl ho
  subst hsh
  have HX := hide hx
  have HON := hide (on_ids hx.on)
  have hxl : l.length ≤ 1048576 := Nat.le_trans hx.most (by decide)
  clear hx hf HC8
  go_upto_region 10 with fail
  have HO8 := hide (show PeersAt w8 (.slice ax l.length cx) l from ⟨T0, ho.reads⟩)
  clear ho
  have N9 := Blk.new w8 #[.slice ax l.length cx] 28
  have hba := (Below.refl w8.heap.size w8).alloc (Nat.le_refl _) (.cells #[.slice ax l.length cx] 28)
  have HR9 := hide (HR8.out.below hba (Nat.le_refl _))
  have HO9 := hide (HO8.out.below hba (Nat.le_refl _))
  have Y9 := Y8.below hba Y8.lt
  have T8_9 := T8_8.below hba T8_8.lt
  have HB9 := hide (HB8.out.trans (hba.mono HB8.out.size))
  obtain ⟨b10, eb10⟩ : ∃ b, b = w8.heap.size := ⟨_, rfl⟩
  rw [← eb10] at N9 ⊢
  clear eb10 hba HR8 HO8 Y8 T8_8 HB8
  generalize w8.alloc (.cells #[.slice ax l.length cx] 28) = w9 at *
  have X9 := N9
  clear N9
  obtain ⟨tx, th, tb, et, htb⟩ := trip_facts HON.out id key
  have HTB := hide htb
  have CI := hide (fun wx (hv : PeersAt wx (.slice ax l.length cx) l) => implFind_calls wx _ l id key hv hxl (reach_small HX.out.small) HON.out)
  have CS := hide (fun wx (hv : PeersAt wx (.slice ax l.length cx) l) => specFind_calls wx _ l id key hv hxl HX.out.small HON.out)
  have CJ := hide (fun wx (hv : PeersAt wx (.slice ax l.length cx) l) => implStepTo_calls wx _ l id key hv hxl (reach_small HX.out.small) HON.out)
  have CT := hide (fun wx (hv : PeersAt wx (.slice ax l.length cx) l) => specStepTo_calls wx _ l id key hv hxl HX.out.small)
  have CP := hide (fun wx (hv : PeersAt wx (.slice ax l.length cx) l) => specPeerAt_calls wx _ l tx hv hxl)
  rw [et] at CI CS
  generalize stepTo l id key = st at *
  obtain ⟨sx, sb⟩ := st
  generalize peerAt l tx = px at *
  clear et htb HON HX
  have x0 := blk_free_cell X9 0 rfl
  have xl := X9.lt
  go_wp2_with fail
  refine (CI.out w9 HO9.out).mono ?_
  rintro e w10 ⟨rfl, hb⟩
  have HR10 := hide (HR9.out.below hb (Nat.le_refl _))
  have HO10 := hide (HO9.out.below hb (Nat.le_refl _))
  have Y10 := Y9.below hb Y9.lt
  have T8_10 := T8_9.below hb T8_9.lt
  have HB10 := hide (HB9.out.trans (hb.mono HB9.out.size))
  have X10 := X9.below hb X9.lt
  clear hb HR9 HO9 Y9 T8_9 HB9 X9 CI x0 xl
  go_upto_region 11 with fail
  have N11 := Blk.new w10 #[.int .i64 tx, .int .i64 th] 31
  have hba := (Below.refl w10.heap.size w10).alloc (Nat.le_refl _) (.cells #[.int .i64 tx, .int .i64 th] 31)
  have HR11 := hide (HR10.out.below hba (Nat.le_refl _))
  have HO11 := hide (HO10.out.below hba (Nat.le_refl _))
  have Y11 := Y10.below hba Y10.lt
  have T8_11 := T8_10.below hba T8_10.lt
  have HB11 := hide (HB10.out.trans (hba.mono HB10.out.size))
  have X11 := X10.below hba X10.lt
  obtain ⟨b13, eb13⟩ : ∃ b, b = w10.heap.size := ⟨_, rfl⟩
  rw [← eb13] at N11 ⊢
  clear eb13 hba HR10 HO10 Y10 T8_10 HB10 X10
  generalize w10.alloc (.cells #[.int .i64 tx, .int .i64 th] 31) = w11 at *
  have U11 := N11
  clear N11
  have x0 := blk_free_cell X11 0 rfl
  have xl := X11.lt
  go_wp2_with fail
  refine (CS.out w11 HO11.out).mono ?_
  rintro e w12 ⟨rfl, hb⟩
  have HR12 := hide (HR11.out.below hb (Nat.le_refl _))
  have HO12 := hide (HO11.out.below hb (Nat.le_refl _))
  have Y12 := Y11.below hb Y11.lt
  have T8_12 := T8_11.below hb T8_11.lt
  have HB12 := hide (HB11.out.trans (hb.mono HB11.out.size))
  have X12 := X11.below hb X11.lt
  have U12 := U11.below hb U11.lt
  clear hb HR11 HO11 Y11 T8_11 HB11 X11 U11 CS x0 xl
  go_upto_region 12 with fail
  have N13 := Blk.new w12 #[.int .i64 tx, .int .i64 th] 31
  have hba := (Below.refl w12.heap.size w12).alloc (Nat.le_refl _) (.cells #[.int .i64 tx, .int .i64 th] 31)
  have HR13 := hide (HR12.out.below hba (Nat.le_refl _))
  have HO13 := hide (HO12.out.below hba (Nat.le_refl _))
  have Y13 := Y12.below hba Y12.lt
  have T8_13 := T8_12.below hba T8_12.lt
  have HB13 := hide (HB12.out.trans (hba.mono HB12.out.size))
  have X13 := X12.below hba X12.lt
  have U13 := U12.below hba U12.lt
  obtain ⟨b15, eb15⟩ : ∃ b, b = w12.heap.size := ⟨_, rfl⟩
  rw [← eb15] at N13 ⊢
  clear eb15 hba HR12 HO12 Y12 T8_12 HB12 X12 U12
  generalize w12.alloc (.cells #[.int .i64 tx, .int .i64 th] 31) = w13 at *
  have V13 := N13
  clear N13
  have x0 := blk_free_cell X13 0 rfl
  have xl := X13.lt
  go_wp2_with fail
  refine (CJ.out w13 HO13.out).mono ?_
  rintro e w14 ⟨rfl, hb⟩
  have HR14 := hide (HR13.out.below hb (Nat.le_refl _))
  have HO14 := hide (HO13.out.below hb (Nat.le_refl _))
  have Y14 := Y13.below hb Y13.lt
  have T8_14 := T8_13.below hb T8_13.lt
  have HB14 := hide (HB13.out.trans (hb.mono HB13.out.size))
  have X14 := X13.below hb X13.lt
  have U14 := U13.below hb U13.lt
  have V14 := V13.below hb V13.lt
  clear hb HR13 HO13 Y13 T8_13 HB13 X13 U13 V13 CJ x0 xl
  have x0 := blk_free_cell X14 0 rfl
  have xl := X14.lt
  go_upto_region 13 with fail
  go_wp2_with fail
  refine (CT.out w14 HO14.out).mono ?_
  rintro e w15 ⟨rfl, hb⟩
  have HR15 := hide (HR14.out.below hb (Nat.le_refl _))
  have HO15 := hide (HO14.out.below hb (Nat.le_refl _))
  have Y15 := Y14.below hb Y14.lt
  have T8_15 := T8_14.below hb T8_14.lt
  have HB15 := hide (HB14.out.trans (hb.mono HB14.out.size))
  have X15 := X14.below hb X14.lt
  have U15 := U14.below hb U14.lt
  have V15 := V14.below hb V14.lt
  clear hb HR14 HO14 Y14 T8_14 HB14 X14 U14 V14 CT x0 xl
  go_upto_region 14 with fail
  have hn4d : decide ((n : Int) ≤ 4) = true := decide_eq_true (by omega)
  have n5 : ∀ p : Near w15.heap.size w15, p.w.cell? ⟨b5, 0, none⟩ = some (.slice (some ⟨gr, 0, none⟩) R.length cr) := fun p => blk_free_cell (Y15.below p.h Y15.lt) 0 rfl
  have n10 : ∀ p : Near w15.heap.size w15, p.w.cell? ⟨b10, 0, none⟩ = some (.slice ax l.length cx) := fun p => blk_free_cell (X15.below p.h X15.lt) 0 rfl
  have n80 : ∀ p : Near w15.heap.size w15, p.w.cell? ⟨b8, 0, none⟩ = some (.int .i64 own) := fun p => blk_free_cell (T8_15.below p.h T8_15.lt) 0 rfl
  have n81 : ∀ p : Near w15.heap.size w15, p.w.cell? ⟨b8, 1, none⟩ = some (.int .i64 ((n : Nat) : Int)) := fun p => blk_free_cell (T8_15.below p.h T8_15.lt) 1 rfl
  have n130 : ∀ p : Near w15.heap.size w15, p.w.cell? ⟨b13, 0, none⟩ = some (.int .i64 tx) := fun p => blk_free_cell (U15.below p.h U15.lt) 0 rfl
  have n131 : ∀ p : Near w15.heap.size w15, p.w.cell? ⟨b13, 1, none⟩ = some (.int .i64 ((th : Nat) : Int)) := fun p => blk_free_cell (U15.below p.h U15.lt) 1 rfl
  have n150 : ∀ p : Near w15.heap.size w15, p.w.cell? ⟨b15, 0, none⟩ = some (.int .i64 tx) := fun p => blk_free_cell (V15.below p.h V15.lt) 0 rfl
  have n151 : ∀ p : Near w15.heap.size w15, p.w.cell? ⟨b15, 1, none⟩ = some (.int .i64 ((th : Nat) : Int)) := fun p => blk_free_cell (V15.below p.h V15.lt) 1 rfl
  have hnn := Near.some w15.heap.size w15
  have CH15 := hide (fun wx (hb : Below w15.heap.size w15 wx) => CH.out wx (HR15.out.below hb (Nat.le_refl _)))
  have CP15 := hide (fun wx (hb : Below w15.heap.size w15 wx) => CP.out wx (HO15.out.below hb (Nat.le_refl _)))
  clear Y15 X15 T8_15 U15 V15 HR15 HO15 CH CP
  obtain ⟨hhl, ehl⟩ : ∃ q, q = H.length := ⟨_, rfl⟩
  cases tb with
  | true =>
    obtain ⟨hp0, h65⟩ := HTB.out rfl
    have dp : decide (px ≥ 0) = true := decide_eq_true hp0
    have dh : decide ((th : Int) ≤ 65) = true := decide_eq_true (by omega)
    clear HTB hp0
    refine wp_region_open (fun wd => ∃ p : Near w15.heap.size w15, wd = p.w) ⟨⟨_, (Below.refl _ _).drew⟩, rfl⟩ (by kernel_rfl) ?_
    rintro wd ⟨pd, rfl⟩
    have hqb := pd.h
    obtain ⟨x0, hq⟩ := pd
    simp only at hqb ⊢
    have HBq := hide hqb
    clear hq hqb
    refine wpAny_of_K (c := 42) (D := fun w' => ∃ p : Near w15.heap.size w15, w' = p.w) _ _ _ _ ?_
    refine wpAnyK_seg_lit4 0 5 12 47 rfl (by decide) (by decide) (by kernel_rfl) (by kernel_rfl) (by kernel_rfl) (by kernel_rfl) (fun _ _ _ _ _ h => h) ⟨⟨x0, HBq.out⟩, rfl⟩ ?_
    simp only [List.take_succ_cons, List.take_zero, List.drop_zero]
    repeat (go_big_quiet_step (fail))
    refine wpQuiet_nil ?_
    refine wpAnyK_seg_lit4 6 1 12 46 rfl (by decide) (by decide) (by kernel_rfl) (by kernel_rfl) (by kernel_rfl) (by kernel_rfl) (fun _ _ _ _ _ h => h) ⟨⟨x0, HBq.out⟩, rfl⟩ ?_
    simp only [List.take_succ_cons, List.take_zero, List.drop_succ_cons, List.drop_zero]
    repeat (go_big_quiet_step (fail))
    refine wpQuiet_nil ?_
    refine wpAnyK_callW 5 (by kernel_rfl) rfl rfl 14 _ _ rfl entF0 #[.agg #[.slice (some ⟨gr, 0, none⟩) R.length cr]] rfl (fun v' w' => IntsAt w' v' H ∧ Below x0.heap.size x0 w') ((CH15.out _ HBq.out).mono fun e w' ⟨v', h1, h2, h3⟩ => ⟨v', h1, IntsAt.of_own h2, h3⟩) ?_
    rintro vh x1 ⟨hi, hb⟩
    have HIh := hide hi
    have HBq := hide (HBq.out.trans (hb.mono HBq.out.size))
    refine ⟨⟨⟨x1, HBq.out⟩, rfl⟩, ?_⟩
    simp only [Act.put, List.setIfInBounds_toArray, List.set_cons_succ, List.set_cons_zero]
    clear hb hi
    refine wpAnyK_callW 7 (by kernel_rfl) rfl rfl 13 _ _ rfl entF1 #[vh, .int .i64 (k : Int)] rfl (fun v' w' => v' = .int .i64 own ∧ Below x1.heap.size x1 w') ((CO.out _ _ HIh.out).mono fun e w' ⟨h1, m, h2⟩ => ⟨_, h1, rfl, h2 ▸ below_drewN _ m⟩) ?_
    rintro _ x2 ⟨rfl, hb⟩
    have HBq := hide (HBq.out.trans (hb.mono HBq.out.size))
    refine ⟨⟨⟨x2, HBq.out⟩, rfl⟩, ?_⟩
    simp only [Act.put, List.setIfInBounds_toArray, List.set_cons_succ, List.set_cons_zero]
    clear hb HIh
    refine wpAnyK_seg_lit4 8 34 12 10 rfl (by decide) (by decide) (by kernel_rfl) (by kernel_rfl) (by kernel_rfl) (by kernel_rfl) (fun _ _ _ _ _ h => h) ⟨⟨x2, HBq.out⟩, rfl⟩ ?_
    simp only [List.take_succ_cons, List.take_zero, List.drop_succ_cons, List.drop_zero]
    repeat (go_big_quiet_step (fail))
    refine wpQuiet_nil ?_
    refine wpAnyK_last (by kernel_rfl) (by decide) ?_
    refine wpAny_rest 42 rfl (by kernel_rfl) ?_
    simp only [List.drop_succ_cons, List.drop_zero]
    have HBz := hide (HB15.out.trans (HBq.out.mono HB15.out.size))
    have m1 : x2.cell? ⟨b13, 1, none⟩ = some (.int .i64 ((th : Nat) : Int)) := n131 ⟨x2, HBq.out⟩
    have CPx := hide (CP15.out x2 HBq.out)
    clear n5 n10 n80 n81 n130 n131 n150 n151 hnn CP15 CH15 CO HBq
    go_wp2_with fail
    refine CPx.out.mono ?_
    rintro e x3 ⟨rfl, hb⟩
    have m2 : x3.cell? ⟨b13, 1, none⟩ = some (.int .i64 ((th : Nat) : Int)) := (hb.cell (p := ⟨b13, 1, none⟩) (cell_lt' m1)).trans m1
    have HBf := hide (HBz.out.trans (hb.mono HBz.out.size))
    clear hb m1
    go_wp2_with fail
    go_ret
    exact ⟨rfl, HBf.out⟩
  | false =>
    clear HTB
    refine wp_region_open (fun wd => ∃ p : Near w15.heap.size w15, wd = p.w) ⟨⟨_, (Below.refl _ _).drew⟩, rfl⟩ (by kernel_rfl) ?_
    rintro wd ⟨pd, rfl⟩
    have hqb := pd.h
    obtain ⟨x0, hq⟩ := pd
    simp only at hqb ⊢
    have HBq := hide hqb
    clear hq hqb
    refine wpAny_of_K (c := 42) (D := fun w' => ∃ p : Near w15.heap.size w15, w' = p.w) _ _ _ _ ?_
    refine wpAnyK_seg_lit4 0 5 12 47 rfl (by decide) (by decide) (by kernel_rfl) (by kernel_rfl) (by kernel_rfl) (by kernel_rfl) (fun _ _ _ _ _ h => h) ⟨⟨x0, HBq.out⟩, rfl⟩ ?_
    simp only [List.take_succ_cons, List.take_zero, List.drop_zero]
    repeat (go_big_quiet_step (fail))
    refine wpQuiet_nil ?_
    refine wpAnyK_seg_lit4 6 1 12 46 rfl (by decide) (by decide) (by kernel_rfl) (by kernel_rfl) (by kernel_rfl) (by kernel_rfl) (fun _ _ _ _ _ h => h) ⟨⟨x0, HBq.out⟩, rfl⟩ ?_
    simp only [List.take_succ_cons, List.take_zero, List.drop_succ_cons, List.drop_zero]
    repeat (go_big_quiet_step (fail))
    refine wpQuiet_nil ?_
    refine wpAnyK_callW 5 (by kernel_rfl) rfl rfl 14 _ _ rfl entF0 #[.agg #[.slice (some ⟨gr, 0, none⟩) R.length cr]] rfl (fun v' w' => IntsAt w' v' H ∧ Below x0.heap.size x0 w') ((CH15.out _ HBq.out).mono fun e w' ⟨v', h1, h2, h3⟩ => ⟨v', h1, IntsAt.of_own h2, h3⟩) ?_
    rintro vh x1 ⟨hi, hb⟩
    have HIh := hide hi
    have HBq := hide (HBq.out.trans (hb.mono HBq.out.size))
    refine ⟨⟨⟨x1, HBq.out⟩, rfl⟩, ?_⟩
    simp only [Act.put, List.setIfInBounds_toArray, List.set_cons_succ, List.set_cons_zero]
    clear hb hi
    refine wpAnyK_callW 7 (by kernel_rfl) rfl rfl 13 _ _ rfl entF1 #[vh, .int .i64 (k : Int)] rfl (fun v' w' => v' = .int .i64 own ∧ Below x1.heap.size x1 w') ((CO.out _ _ HIh.out).mono fun e w' ⟨h1, m, h2⟩ => ⟨_, h1, rfl, h2 ▸ below_drewN _ m⟩) ?_
    rintro _ x2 ⟨rfl, hb⟩
    have HBq := hide (HBq.out.trans (hb.mono HBq.out.size))
    refine ⟨⟨⟨x2, HBq.out⟩, rfl⟩, ?_⟩
    simp only [Act.put, List.setIfInBounds_toArray, List.set_cons_succ, List.set_cons_zero]
    clear hb HIh
    refine wpAnyK_seg_lit4 8 34 12 10 rfl (by decide) (by decide) (by kernel_rfl) (by kernel_rfl) (by kernel_rfl) (by kernel_rfl) (fun _ _ _ _ _ h => h) ⟨⟨x2, HBq.out⟩, rfl⟩ ?_
    simp only [List.take_succ_cons, List.take_zero, List.drop_succ_cons, List.drop_zero]
    repeat (go_big_quiet_step (fail))
    refine wpQuiet_nil ?_
    refine wpAnyK_last (by kernel_rfl) (by decide) ?_
    refine wpAny_rest 42 rfl (by kernel_rfl) ?_
    simp only [List.drop_succ_cons, List.drop_zero]
    have HBz := hide (HB15.out.trans (HBq.out.mono HB15.out.size))
    clear n5 n10 n80 n81 n130 n131 n150 n151 hnn CP15 CH15 CO HBq
    go_wp2_with fail
    go_ret
    exact ⟨rfl, HBz.out⟩
end Go.Proofs.Ytckldfknhmhkgaa.P9
