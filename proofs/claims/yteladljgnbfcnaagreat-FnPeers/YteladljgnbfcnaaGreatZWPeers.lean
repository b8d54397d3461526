/- The walk of FnPeers: it returns true; no condition. -/
import Derived.Test.YteladljgnbfcnaaGreatZRN
import Derived.Deep.CutRange
namespace Go.Proofs.YteladljgnbfcnaaGreat.P9
set_option maxRecDepth 8000
open Go.RowKit P1 P8 Da Cu

theorem entP0 : ∀ args w, (callFunc 8 args).run Tryz.prog w = .ok (.enter 8 args) w := run_enter Tryz.func8 (by kernel_rfl) (by kernel_rfl)
theorem entP1 : ∀ args w, (callFunc 9 args).run Tryz.prog w = .ok (.enter 9 args) w := run_enter Tryz.func9 (by kernel_rfl) (by kernel_rfl)
theorem entP2 : ∀ args w, (callFunc 10 args).run Tryz.prog w = .ok (.enter 10 args) w := run_enter Tryz.func10 (by kernel_rfl) (by kernel_rfl)
theorem entP3 : ∀ args w, (callFunc 14 args).run Tryz.prog w = .ok (.enter 14 args) w := run_enter Tryz.func14 (by kernel_rfl) (by kernel_rfl)
theorem entP4 : ∀ args w, (callFunc 15 args).run Tryz.prog w = .ok (.enter 15 args) w := run_enter Tryz.func15 (by kernel_rfl) (by kernel_rfl)
theorem entP5 : ∀ args w, (callFunc 7 args).run Tryz.prog w = .ok (.enter 7 args) w := run_enter Tryz.func7 (by kernel_rfl) (by kernel_rfl)
theorem entP6 : ∀ args w, (callFunc 17 args).run Tryz.prog w = .ok (.enter 17 args) w := run_enter Tryz.func17 (by kernel_rfl) (by kernel_rfl)
theorem entP7 : ∀ args w, (callFunc 16 args).run Tryz.prog w = .ok (.enter 16 args) w := run_enter Tryz.func16 (by kernel_rfl) (by kernel_rfl)
theorem entP8 : ∀ args w, (callFunc 18 args).run Tryz.prog w = .ok (.enter 18 args) w := run_enter Tryz.func18 (by kernel_rfl) (by kernel_rfl)
theorem entP9 : ∀ args w, (callFunc 19 args).run Tryz.prog w = .ok (.enter 19 args) w := run_enter Tryz.func19 (by kernel_rfl) (by kernel_rfl)
theorem entP10 : ∀ args w, (callFunc 6 args).run Tryz.prog w = .ok (.enter 6 args) w := run_enter Tryz.func6 (by kernel_rfl) (by kernel_rfl)
theorem entP11 : ∀ args w, (callFunc 21 args).run Tryz.prog w = .ok (.enter 21 args) w := run_enter Tryz.func21 (by kernel_rfl) (by kernel_rfl)
theorem entP12 : ∀ args w, (callFunc 20 args).run Tryz.prog w = .ok (.enter 20 args) w := run_enter Tryz.func20 (by kernel_rfl) (by kernel_rfl)
theorem entP13 : ∀ args w, (callFunc 22 args).run Tryz.prog w = .ok (.enter 22 args) w := run_enter Tryz.func22 (by kernel_rfl) (by kernel_rfl)
theorem entP14 : ∀ args w, (callFunc 23 args).run Tryz.prog w = .ok (.enter 23 args) w := run_enter Tryz.func23 (by kernel_rfl) (by kernel_rfl)

set_option maxRecDepth 100000 in
set_option maxHeartbeats 8000000 in
theorem peersWalk (w : World) (a0 : Option Addr) (len cap : Nat) (z : List Int) (hr : Frame.IsRow .u8 w a0 len cap z) :
    Calls Tryz.prog 3 #[.slice a0 len cap] w fun e w' => e = .returned (.bool true) ∧ Below w.heap.size w w' := by
  have hcap : len ≤ maxLen := by
    rcases hr with ⟨_, rfl, _⟩ | ⟨_, _, h1, h2, _⟩
    · unfold maxLen; omega
    · omega
  unfold maxLen at hcap
  by_cases hbig : 1048576 < len
  · have hd : decide (1048576 < (len : Int)) = true := by simp; omega
    go_enter Tryz.func3, Tryz.ntmps3
    go_wp2_with fail
    refine (big_calls _ a0 len cap).mono ?_
    rintro e w1 ⟨rfl, rfl⟩
    rw [hd]
    go_wp2
    go_ret
    exact ⟨rfl, Below.refl _ _⟩
  have hl : len ≤ 1048576 := by omega
  have HC := hide (code_of_row hr hl)
  have hd : decide (1048576 < (len : Int)) = false := by simp; omega
  clear hr
  go_enter Tryz.func3, Tryz.ntmps3
  go_wp2_with fail
  refine (big_calls _ a0 len cap).mono ?_
  rintro e w1 ⟨rfl, rfl⟩
  rw [hd]
  clear hd hbig
  go_wp2_with fail
  refine (drawIds_calls w1 a0 len cap HC.out).mono ?_
  rintro e w2 ⟨vi, ids, hst, rfl, hoi, hbi⟩
  have HB2 := hide hbi
  have hil := starts_len ids hst
  have HRD := hide (starts_ring ids hst)
  obtain ⟨hH4, hOK, hFA⟩ := ring_facts (start_ring hst)
  have HFA := hide hFA
  have HOK := hide hOK
  have CR := hide (implRingNew_calls w2 vi ids (IntsAt.of_own hoi) (by omega))
  obtain ⟨ai, ci, hsh⟩ := own_sh hoi
  subst hsh
  generalize ringNew ids = R at *
  clear hst hFA hOK hoi hbi
  go_wp2_with fail
  refine CR.out.mono ?_
  rintro e w3 ⟨v, fp, rfl, ho, hfp, hb3⟩
  obtain ⟨gr, cr, hsh⟩ := peers_shape ho (by have := HRD.out.least; omega)
  subst hsh
  clear CR hfp
  go_upto_region 5 with fail
  have Y4 := Blk.new w3 #[.slice (some ⟨gr, 0, none⟩) R.length cr] 28
  have hba := (Below.refl w3.heap.size w3).alloc (Nat.le_refl _) (.cells #[.slice (some ⟨gr, 0, none⟩) R.length cr] 28)
  have hp4 : PeersAt (w3.alloc (.cells #[.slice (some ⟨gr, 0, none⟩) R.length cr] 28)) (.slice (some ⟨gr, 0, none⟩) R.length cr) R := ⟨T0, (owns_below ho hba).reads⟩
  have HB4 := hide (HB2.out.trans ((hb3.trans (hba.mono hb3.size)).mono HB2.out.size))
  obtain ⟨b4, e4⟩ : ∃ b, b = w3.heap.size := ⟨_, rfl⟩
  rw [← e4] at Y4 ⊢
  clear e4 hba hb3 ho HB2
  generalize w3.alloc (.cells #[.slice (some ⟨gr, 0, none⟩) R.length cr] 28) = w4 at *
  have HP4 := hide hp4
  have c0 := blk_free_cell Y4 0 rfl
  have l0 := Y4.lt
  have CH := hide (implHere_calls w4 _ R hp4 HRD.out.len HRD.out.ring)
  rw [hereUp_eq (by have := HRD.out.nodup; exact this)] at CH
  generalize hereOf R = H at *
  rw [hH4] at CH
  clear hp4
  go_wp2_with fail
  refine CH.out.mono ?_
  rintro e w5 ⟨vh, rfl, hoh, hb5⟩
  obtain ⟨ah, ch, hsh⟩ := own_sh hoh
  subst hsh
  have HI5 : Hid (IntsAt w5 (.slice ah 4 ch) H) := by
    have := IntsAt.of_own (l := H) (v := .slice ah 4 ch) (by rw [hH4]; exact hoh)
    exact this
  have HB5 := hide (HB4.out.trans (hb5.mono HB4.out.size))
  have HP5 := hide (HP4.out.below hb5 (Nat.le_refl _))
  have HY5 := hide (Y4.below hb5 Y4.lt)
  clear CH hoh hb5 c0 l0 Y4 HP4 HB4
  go_wp2_with fail
  go_loopw [6] (fun iv wr => ∃ k : Nat, k ≤ 4 ∧ iv = .int .i64 k ∧ Hid (Below w5.heap.size w5 wr)) (fun iv _ => 4 - (intOf iv).toNat)
  case atStart => exact ⟨0, Nat.zero_le _, rfl, Below.refl _ _⟩
  case round =>
    obtain ⟨k, hk, rfl, HBr⟩ := hrel
    have HPr : Hid (∀ wx, Below wr.heap.size wr wx → PeersAt wx (.slice (some ⟨gr, 0, none⟩) R.length cr) R) := fun wx hb => (HP5.out.below HBr.out (Nat.le_refl _)).below hb (Nat.le_refl _)
    have HIr : Hid (∀ wx, Below wr.heap.size wr wx → IntsAt wx (.slice ah 4 ch) H) := fun wx hb => (HI5.out.below HBr.out (Nat.le_refl _)).below hb (Nat.le_refl _)
    have Yr := HY5.out.below HBr.out HY5.out.lt
    by_cases hlt : k < 4
    · obtain ⟨ax, cx, hax, HA⟩ := HIr.out wr (Below.refl _ _)
      rw [hH4] at hax
      cases hax
      have hk' : k < H.length := by omega
      obtain ⟨gh, oh, rfl, hgh, hck⟩ := HA k hk'
      obtain ⟨hp0, hbf, tl, htl⟩ := HFA.out k hk'
      have n4 : ∀ p : Near wr.heap.size wr, p.w.cell? ⟨b4, 0, none⟩ = some (.slice (some ⟨gr, 0, none⟩) R.length cr) := fun p => blk_free_cell (Yr.below p.h Yr.lt) 0 rfl
      have nk : ∀ p : Near wr.heap.size wr, p.w.cell? ⟨gh, oh + k, none⟩ = some (.int .i64 H[k]) := fun p => (p.h.cell (p := ⟨gh, oh + k, none⟩) hgh).trans hck
      have hnn := Near.some wr.heap.size wr
      have CPA := hide (fun wx (hb : Below wr.heap.size wr wx) => implPeerAt_calls wx _ R H[k] (HPr.out wx hb) HRD.out.len)
      have CNX := hide (fun wx (hb : Below wr.heap.size wr wx) => implNext_calls wx _ R H[k] (HPr.out wx hb) HRD.out.len (fun p hp => (HRD.out.small p hp).b))
      have COR := hide (fun wx (hb : Below wr.heap.size wr wx) => specOrdered_calls wx _ H H[k] (HIr.out wx hb) (by omega))
      rw [htl] at COR
      have hol := ordered_length H[k] H
      rw [htl] at hol
      have hpd : decide (peerAt R H[k] < 0) = false := decide_eq_false (by omega)
      have hnq : (nextOf R H[k] != nextOf R H[k]) = false := by simp
      have HBw := hide (HB5.out.trans (HBr.out.mono HB5.out.size))
      by_cases h0 : k = 0
      · have hg0 : decide (0 < k) = false := decide_eq_false (by omega)
        clear HA hck hbf htl hp0 h0
        generalize peerAt R H[k] = px at *
        generalize nextOf R H[k] = nx at *
        generalize H[k] = x at *
        go_upto_region 9 with fail
        refine wp_region_open (fun wd => ∃ p : Near wr.heap.size wr, wd = p.w) ⟨⟨_, (Below.refl _ _).drew⟩, rfl⟩ (by kernel_rfl) ?_
        rintro wd ⟨pd, rfl⟩
        have hqb := pd.h
        obtain ⟨x0, hq⟩ := pd
        simp only at hqb ⊢
        have HBq := hide hqb
        clear hq hqb
        refine wpAny_of_K (c := 36) (D := fun w' => ∃ p : Near wr.heap.size wr, w' = p.w) _ _ _ _ ?_
        refine wpAnyK_seg_lit4 0 5 12 35 rfl (by decide) (by decide) (by kernel_rfl) (by kernel_rfl) (by kernel_rfl) (by kernel_rfl) (fun _ _ _ _ _ h => h) ⟨⟨x0, HBq.out⟩, rfl⟩ ?_
        simp only [List.take_succ_cons, List.take_zero, List.drop_zero]
        repeat (go_big_quiet_step (fail))
        refine wpQuiet_nil ?_
        refine wpAnyK_callW 5 (by kernel_rfl) rfl rfl 8 _ _ rfl entP0 #[.agg #[.slice (some ⟨gr, 0, none⟩) R.length cr], .int .i64 x] rfl (fun v' w' => v' = .int .i64 px ∧ Below x0.heap.size x0 w') ((CPA.out _ HBq.out).mono fun e w' ⟨h1, h2⟩ => ⟨_, h1, rfl, h2⟩) ?_
        rintro _ x1 ⟨rfl, hb⟩
        have HBq := hide (HBq.out.trans (hb.mono HBq.out.size))
        refine ⟨⟨⟨x1, HBq.out⟩, rfl⟩, ?_⟩
        simp only [Act.put, List.setIfInBounds_toArray, List.set_cons_succ, List.set_cons_zero]
        clear hb
        refine wpAnyK_seg_lit4 6 23 12 11 rfl (by decide) (by decide) (by kernel_rfl) (by kernel_rfl) (by kernel_rfl) (by kernel_rfl) (fun _ _ _ _ _ h => h) ⟨⟨x1, HBq.out⟩, rfl⟩ ?_
        simp only [List.take_succ_cons, List.take_zero, List.drop_succ_cons, List.drop_zero]
        repeat (go_big_quiet_step (fail))
        refine wpQuiet_nil ?_
        refine wpAnyK_seg_lit4 30 5 12 6 rfl (by decide) (by decide) (by kernel_rfl) (by kernel_rfl) (by kernel_rfl) (by kernel_rfl) (fun _ _ _ _ _ h => h) ⟨⟨x1, HBq.out⟩, rfl⟩ ?_
        simp only [List.take_succ_cons, List.take_zero, List.drop_succ_cons, List.drop_zero]
        repeat (go_big_quiet_step (fail))
        refine wpQuiet_nil ?_
        refine wpAnyK_callW 29 (by kernel_rfl) rfl rfl 9 _ _ rfl entP1 #[.agg #[.slice (some ⟨gr, 0, none⟩) R.length cr], .int .i64 x] rfl (fun v' w' => v' = .int .i64 nx ∧ Below x1.heap.size x1 w') ((CNX.out _ HBq.out).mono fun e w' ⟨h1, h2⟩ => ⟨_, h1, rfl, h2⟩) ?_
        rintro _ x2 ⟨rfl, hb⟩
        have HBq := hide (HBq.out.trans (hb.mono HBq.out.size))
        refine ⟨⟨⟨x2, HBq.out⟩, rfl⟩, ?_⟩
        simp only [Act.put, List.setIfInBounds_toArray, List.set_cons_succ, List.set_cons_zero]
        clear hb
        refine wpAnyK_callW 35 (by kernel_rfl) rfl rfl 10 _ _ rfl entP2 #[.slice (some ⟨gh, oh, none⟩) 4 ch, .int .i64 x] rfl (fun v' w' => w'.ownsRow x2.heap.size 3 1 v' (nx :: tl).length (cellsI (nx :: tl)) ∧ Below x2.heap.size x2 w') ((COR.out _ HBq.out).mono fun e w' ⟨v', h1, h2, h3⟩ => ⟨v', h1, h2, h3⟩) ?_
        rintro vO x3 ⟨ho, hb⟩
        have HBq := hide (HBq.out.trans (hb.mono HBq.out.size))
        have HOO := hide ho
        refine ⟨⟨⟨x3, HBq.out⟩, rfl⟩, ?_⟩
        simp only [Act.put, List.setIfInBounds_toArray, List.set_cons_succ, List.set_cons_zero]
        clear hb ho
        obtain ⟨gq, cq, hsh, -, hgq, -, hcell, -⟩ := own_at HOO.out (by simp)
        subst hsh
        have hc0 := hcell 0 (by simp)
        simp only [cellsI, List.map_cons, List.getElem?_cons_zero] at hc0
        refine wpAnyK_last (by kernel_rfl) (by decide) ?_
        refine wpAny_rest 36 rfl (by kernel_rfl) ?_
        simp only [List.drop_succ_cons, List.drop_zero]
        have HBn := hide (HBr.out.trans (HBq.out.mono HBr.out.size))
        clear n4 nk hnn hcell CPA CNX COR HOO HBq HBr HPr HIr HBw
        go_wp2
        go_roundw
        case rel => exact ⟨k + 1, by omega, by go_num, HBn.out⟩
        case measure => simp [intOf]; omega
      · have hg0 : decide (0 < k) = true := decide_eq_true (by omega)
        have hlk := hbf (by omega) (by omega)
        have hck1 : wr.cell? ⟨gh, oh + (k - 1), none⟩ = some (.int .i64 (H[k - 1]'(by omega))) := by
          obtain ⟨g2, o2, e2, -, h2⟩ := HA (k - 1) (by omega)
          cases e2
          exact h2
        have ek : ((k : Int) - 1) = ((k - 1 : Nat) : Int) := by omega
        generalize H[k - 1]'(by omega) = y at *
        have nk1 : ∀ p : Near wr.heap.size wr, p.w.cell? ⟨gh, oh + (k - 1), none⟩ = some (.int .i64 y) := fun p => (p.h.cell (p := ⟨gh, oh + (k - 1), none⟩) hgh).trans hck1
        have hk1 : k - 1 < 4 := by omega
        have hyd : decide (y ≥ H[k]) = false := decide_eq_false (by omega)
        clear HA hck hbf htl hp0 h0 hck1 hlk
        generalize peerAt R H[k] = px at *
        generalize nextOf R H[k] = nx at *
        generalize H[k] = x at *
        go_upto_region 9 with fail
        refine wp_region_open (fun wd => ∃ p : Near wr.heap.size wr, wd = p.w) ⟨⟨_, (Below.refl _ _).drew⟩, rfl⟩ (by kernel_rfl) ?_
        rintro wd ⟨pd, rfl⟩
        have hqb := pd.h
        obtain ⟨x0, hq⟩ := pd
        simp only at hqb ⊢
        have HBq := hide hqb
        clear hq hqb
        refine wpAny_of_K (c := 36) (D := fun w' => ∃ p : Near wr.heap.size wr, w' = p.w) _ _ _ _ ?_
        refine wpAnyK_seg_lit4 0 5 12 35 rfl (by decide) (by decide) (by kernel_rfl) (by kernel_rfl) (by kernel_rfl) (by kernel_rfl) (fun _ _ _ _ _ h => h) ⟨⟨x0, HBq.out⟩, rfl⟩ ?_
        simp only [List.take_succ_cons, List.take_zero, List.drop_zero]
        repeat (go_big_quiet_step (fail))
        refine wpQuiet_nil ?_
        refine wpAnyK_callW 5 (by kernel_rfl) rfl rfl 8 _ _ rfl entP0 #[.agg #[.slice (some ⟨gr, 0, none⟩) R.length cr], .int .i64 x] rfl (fun v' w' => v' = .int .i64 px ∧ Below x0.heap.size x0 w') ((CPA.out _ HBq.out).mono fun e w' ⟨h1, h2⟩ => ⟨_, h1, rfl, h2⟩) ?_
        rintro _ x1 ⟨rfl, hb⟩
        have HBq := hide (HBq.out.trans (hb.mono HBq.out.size))
        refine ⟨⟨⟨x1, HBq.out⟩, rfl⟩, ?_⟩
        simp only [Act.put, List.setIfInBounds_toArray, List.set_cons_succ, List.set_cons_zero]
        clear hb
        refine wpAnyK_seg_lit4 6 8 12 26 rfl (by decide) (by decide) (by kernel_rfl) (by kernel_rfl) (by kernel_rfl) (by kernel_rfl) (fun _ _ _ _ _ h => h) ⟨⟨x1, HBq.out⟩, rfl⟩ ?_
        simp only [List.take_succ_cons, List.take_zero, List.drop_succ_cons, List.drop_zero]
        repeat (go_big_quiet_step (fail))
        refine wpQuiet_nil ?_
        first | rw [ek] | skip
        refine wpAnyK_seg_lit4 14 15 12 11 rfl (by decide) (by decide) (by kernel_rfl) (by kernel_rfl) (by kernel_rfl) (by kernel_rfl) (fun _ _ _ _ _ h => h) ⟨⟨x1, HBq.out⟩, rfl⟩ ?_
        simp only [List.take_succ_cons, List.take_zero, List.drop_succ_cons, List.drop_zero]
        repeat (go_big_quiet_step (fail))
        refine wpQuiet_nil ?_
        refine wpAnyK_seg_lit4 30 5 12 6 rfl (by decide) (by decide) (by kernel_rfl) (by kernel_rfl) (by kernel_rfl) (by kernel_rfl) (fun _ _ _ _ _ h => h) ⟨⟨x1, HBq.out⟩, rfl⟩ ?_
        simp only [List.take_succ_cons, List.take_zero, List.drop_succ_cons, List.drop_zero]
        repeat (go_big_quiet_step (fail))
        refine wpQuiet_nil ?_
        refine wpAnyK_callW 29 (by kernel_rfl) rfl rfl 9 _ _ rfl entP1 #[.agg #[.slice (some ⟨gr, 0, none⟩) R.length cr], .int .i64 x] rfl (fun v' w' => v' = .int .i64 nx ∧ Below x1.heap.size x1 w') ((CNX.out _ HBq.out).mono fun e w' ⟨h1, h2⟩ => ⟨_, h1, rfl, h2⟩) ?_
        rintro _ x2 ⟨rfl, hb⟩
        have HBq := hide (HBq.out.trans (hb.mono HBq.out.size))
        refine ⟨⟨⟨x2, HBq.out⟩, rfl⟩, ?_⟩
        simp only [Act.put, List.setIfInBounds_toArray, List.set_cons_succ, List.set_cons_zero]
        clear hb
        refine wpAnyK_callW 35 (by kernel_rfl) rfl rfl 10 _ _ rfl entP2 #[.slice (some ⟨gh, oh, none⟩) 4 ch, .int .i64 x] rfl (fun v' w' => w'.ownsRow x2.heap.size 3 1 v' (nx :: tl).length (cellsI (nx :: tl)) ∧ Below x2.heap.size x2 w') ((COR.out _ HBq.out).mono fun e w' ⟨v', h1, h2, h3⟩ => ⟨v', h1, h2, h3⟩) ?_
        rintro vO x3 ⟨ho, hb⟩
        have HBq := hide (HBq.out.trans (hb.mono HBq.out.size))
        have HOO := hide ho
        refine ⟨⟨⟨x3, HBq.out⟩, rfl⟩, ?_⟩
        simp only [Act.put, List.setIfInBounds_toArray, List.set_cons_succ, List.set_cons_zero]
        clear hb ho
        obtain ⟨gq, cq, hsh, -, hgq, -, hcell, -⟩ := own_at HOO.out (by simp)
        subst hsh
        have hc0 := hcell 0 (by simp)
        simp only [cellsI, List.map_cons, List.getElem?_cons_zero] at hc0
        refine wpAnyK_last (by kernel_rfl) (by decide) ?_
        refine wpAny_rest 36 rfl (by kernel_rfl) ?_
        simp only [List.drop_succ_cons, List.drop_zero]
        have HBn := hide (HBr.out.trans (HBq.out.mono HBr.out.size))
        clear n4 nk hnn hcell CPA CNX COR HOO HBq HBr HPr HIr HBw
        go_wp2
        go_roundw
        case rel => exact ⟨k + 1, by omega, by go_num, HBn.out⟩
        case measure => simp [intOf]; omega
    · have HBw := hide (HB5.out.trans (HBr.out.mono HB5.out.size))
      have HIw := hide (HIr.out wr (Below.refl _ _))
      have HPw := hide (HPr.out wr (Below.refl _ _))
      have HYw := hide Yr
      have HC6 := hide ((HC.out.below (fun q hq => HBw.out.block q hq)).more HBw.out.size)
      clear HBr HPr HIr Yr
      go_wp2_with fail
      refine (drawPeerAt_calls wr a0 len cap HC6.out).mono ?_
      rintro e w6 ⟨vx, lx, idx, fx, rfl, hox, hfx, hrx, hb6⟩
      obtain ⟨gx, cx, hsh⟩ := peers_shape hox (by have := hrx.least; omega)
      subst hsh
      clear hfx
      go_upto_region 12 with fail
      have Y7 := Blk.new w6 #[.slice (some ⟨gx, 0, none⟩) lx.length cx] 28
      have hba := (Below.refl w6.heap.size w6).alloc (Nat.le_refl _) (.cells #[.slice (some ⟨gx, 0, none⟩) lx.length cx] 28)
      have hb67 := hb6.trans (hba.mono hb6.size)
      have HX7 := hide (show PeersAt _ (.slice (some ⟨gx, 0, none⟩) lx.length cx) lx from ⟨T0, (owns_below hox hba).reads⟩)
      have HRX := hide hrx
      have HB7 := hide (HBw.out.trans (hb67.mono HBw.out.size))
      have HI7 := hide (HIw.out.below hb67 (Nat.le_refl _))
      have HP7 := hide (HPw.out.below hb67 (Nat.le_refl _))
      have HY4 := hide (HYw.out.below hb67 HYw.out.lt)
      obtain ⟨b7, e7⟩ : ∃ b, b = w6.heap.size := ⟨_, rfl⟩
      rw [← e7] at Y7 ⊢
      clear e7 hba hb67 hb6 hox hrx HBw HIw HPw HYw HC6
      generalize w6.alloc (.cells #[.slice (some ⟨gx, 0, none⟩) lx.length cx] 28) = w7 at *
      have HY7 := hide Y7
      have HC7 := hide ((HC.out.below (fun q hq => HB7.out.block q hq)).more HB7.out.size)
      clear Y7
      go_wp2_with fail
      refine (drawRingNew_calls w7 a0 len cap HC7.out).mono ?_
      rintro e w8 ⟨vy, ids2, rfl, hiy, hy20, -, hb8⟩
      obtain ⟨ay, cy, hsh, -⟩ := id hiy
      subst hsh
      have HIY := hide hiy
      have HB8 := hide (HB7.out.trans (hb8.mono HB7.out.size))
      have HI8 := hide (HI7.out.below hb8 (Nat.le_refl _))
      have HP8 := hide (HP7.out.below hb8 (Nat.le_refl _))
      have HX8 := hide (HX7.out.below hb8 (Nat.le_refl _))
      have HY48 := hide (HY4.out.below hb8 HY4.out.lt)
      have HY78 := hide (HY7.out.below hb8 HY7.out.lt)
      have HC8 := hide ((HC.out.below (fun q hq => HB8.out.block q hq)).more HB8.out.size)
      clear hiy hb8 HB7 HI7 HP7 HX7 HY4 HY7 HC7
      go_wp2_with fail
      refine (drawPeerOk_calls w8 a0 len cap HC8.out).mono ?_
      rintro e w9 ⟨gz, iz, lz, cz, fz, hiz, u3, u4, u5, rfl, hoz, hfz, hcz, hrz, hb9⟩
      have hqs := hrz.small lz[iz] (List.getElem_mem hiz)
      have q3 := hcz.behind
      have q4 := hcz.fingers
      have q5 := hcz.shelves
      clear hfz hcz hrz hoz
      generalize lz[iz] = q at *
      obtain ⟨a3, c3, e3, -⟩ := id q3
      obtain ⟨a4, c4, e4, -⟩ := id q4
      obtain ⟨a5, c5, e5, -⟩ := q5.open_
      subst e3 e4 e5
      unfold prV
      go_upto_region 14 with fail
      have Y10 := Blk.new w9 #[.int .i64 q.id, .bool q.here, .int .i64 q.ahead, .slice a3 q.behind.length c3, .slice a4 q.fingers.length c4, .slice a5 q.shelves.length c5] 37
      have hba := (Below.refl w9.heap.size w9).alloc (Nat.le_refl _) (.cells #[.int .i64 q.id, .bool q.here, .int .i64 q.ahead, .slice a3 q.behind.length c3, .slice a4 q.fingers.length c4, .slice a5 q.shelves.length c5] 37)
      have hb910 := hb9.trans (hba.mono hb9.size)
      have HQ3 := hide (q3.below hba (Nat.le_refl _))
      have HQ4 := hide (q4.below hba (Nat.le_refl _))
      have HQ5 := hide (q5.below hba (Nat.le_refl _))
      have HQS := hide hqs
      have HBt := hide (HB8.out.trans (hb910.mono HB8.out.size))
      have HIt := hide (HI8.out.below hb910 (Nat.le_refl _))
      have HPt := hide (HP8.out.below hb910 (Nat.le_refl _))
      have HXt := hide (HX8.out.below hb910 (Nat.le_refl _))
      have HIYt := hide (HIY.out.below hb910 (Nat.le_refl _))
      have Y4t := HY48.out.below hb910 HY48.out.lt
      have Y7t := HY78.out.below hb910 HY78.out.lt
      obtain ⟨b10, e10⟩ : ∃ b, b = w9.heap.size := ⟨_, rfl⟩
      rw [← e10] at Y10 ⊢
      clear e10 hba hb910 hb9 q3 q4 q5 hqs HB8 HI8 HP8 HX8 HIY HY48 HY78 HC8 HC
      generalize w9.alloc (.cells #[.int .i64 q.id, .bool q.here, .int .i64 q.ahead, .slice a3 q.behind.length c3, .slice a4 q.fingers.length c4, .slice a5 q.shelves.length c5] 37) = wt at *
      have HRF := ringNew_fits ids2
      have CA := hide (fun wx (hb : Below wt.heap.size wt wx) => implRingOk_calls wx _ R (HPt.out.below hb (Nat.le_refl _)) HRD.out.len HRD.out.small)
      rw [HOK.out] at CA
      have CB := hide (fun wx (hb : Below wt.heap.size wt wx) => implPeerAt_calls wx _ lx idx (HXt.out.below hb (Nat.le_refl _)) (Nat.le_trans HRX.out.most (by decide)))
      have CB2 := hide (fun wx (hb : Below wt.heap.size wt wx) => specPeerAt_calls wx _ lx idx (HXt.out.below hb (Nat.le_refl _)) (Nat.le_trans HRX.out.most (by decide)))
      have CC := hide (fun wx (hb : Below wt.heap.size wt wx) => implHere_calls wx _ lx (HXt.out.below hb (Nat.le_refl _)) (Nat.le_trans HRX.out.most (by decide)) (on_ids HRX.out.on))
      rw [hereUp_eq (by have := HRX.out.nodup; exact this)] at CC
      have CC2 := hide (fun wx (hb : Below wt.heap.size wt wx) => specHere_calls wx _ lx (HXt.out.below hb (Nat.le_refl _)) (Nat.le_trans HRX.out.most (by decide)))
      have hhl : (hereOf lx).length ≤ 8 := by
        have := hereOf_take lx lx.length
        rw [List.take_length] at this
        exact Nat.le_trans this HRX.out.most
      have CN := hide (fun wx (hb : Below wt.heap.size wt wx) => implNext_calls wx _ lx idx (HXt.out.below hb (Nat.le_refl _)) (Nat.le_trans HRX.out.most (by decide)) (fun p hp => (HRX.out.small p hp).b))
      have CN2 := hide (fun wx (hb : Below wt.heap.size wt wx) => specNext_calls wx _ lx idx (HXt.out.below hb (Nat.le_refl _)) (Nat.le_trans HRX.out.most (by decide)) (fun p hp => (HRX.out.small p hp).b))
      have CF := hide (fun wx (hb : Below wt.heap.size wt wx) => implRingOk_calls wx _ lx (HXt.out.below hb (Nat.le_refl _)) (Nat.le_trans HRX.out.most (by decide)) HRX.out.small)
      have CF2 := hide (fun wx (hb : Below wt.heap.size wt wx) => specRingOk_calls wx _ lx (HXt.out.below hb (Nat.le_refl _)) (Nat.le_trans HRX.out.most (by decide)) HRX.out.small)
      have CG := hide (fun wx (hb : Below wt.heap.size wt wx) => implRingNew_calls wx _ ids2 (HIYt.out.below hb (Nat.le_refl _)) (by omega))
      have CG2 := hide (fun wx (hb : Below wt.heap.size wt wx) => specRingNew_calls wx _ ids2 (HIYt.out.below hb (Nat.le_refl _)) (by omega))
      have CP := hide (fun wx (hb : Below wt.heap.size wt wx) => implPeerOk_calls wx q _ _ _ (HQ3.out.below hb (Nat.le_refl _)) (HQ4.out.below hb (Nat.le_refl _)) (HQ5.out.below hb (Nat.le_refl _)) HQS.out)
      have CP2 := hide (fun wx (hb : Below wt.heap.size wt wx) => specPeerOk_calls wx q _ _ _ (HQ3.out.below hb (Nat.le_refl _)) (HQ4.out.below hb (Nat.le_refl _)) (HQ5.out.below hb (Nat.le_refl _)) HQS.out)
      unfold prV at CP CP2
      have n4 : ∀ p : Near wt.heap.size wt, p.w.cell? ⟨b4, 0, none⟩ = some (.slice (some ⟨gr, 0, none⟩) R.length cr) := fun p => blk_free_cell (Y4t.below p.h Y4t.lt) 0 rfl
      have n7 : ∀ p : Near wt.heap.size wt, p.w.cell? ⟨b7, 0, none⟩ = some (.slice (some ⟨gx, 0, none⟩) lx.length cx) := fun p => blk_free_cell (Y7t.below p.h Y7t.lt) 0 rfl
      have m0 : ∀ p : Near wt.heap.size wt, p.w.cell? ⟨b10, 0, none⟩ = some (.int .i64 q.id) := fun p => blk_free_cell (Y10.below p.h Y10.lt) 0 rfl
      have m1 : ∀ p : Near wt.heap.size wt, p.w.cell? ⟨b10, 1, none⟩ = some (.bool q.here) := fun p => blk_free_cell (Y10.below p.h Y10.lt) 1 rfl
      have m2 : ∀ p : Near wt.heap.size wt, p.w.cell? ⟨b10, 2, none⟩ = some (.int .i64 q.ahead) := fun p => blk_free_cell (Y10.below p.h Y10.lt) 2 rfl
      have m3 : ∀ p : Near wt.heap.size wt, p.w.cell? ⟨b10, 3, none⟩ = some (.slice a3 q.behind.length c3) := fun p => blk_free_cell (Y10.below p.h Y10.lt) 3 rfl
      have m4 : ∀ p : Near wt.heap.size wt, p.w.cell? ⟨b10, 4, none⟩ = some (.slice a4 q.fingers.length c4) := fun p => blk_free_cell (Y10.below p.h Y10.lt) 4 rfl
      have m5 : ∀ p : Near wt.heap.size wt, p.w.cell? ⟨b10, 5, none⟩ = some (.slice a5 q.shelves.length c5) := fun p => blk_free_cell (Y10.below p.h Y10.lt) 5 rfl
      have hnn := Near.some wt.heap.size wt
      generalize peerAt lx idx = px at *
      generalize hereOf lx = hx at *
      generalize nextOf lx idx = nx at *
      generalize ringOk lx = rx at *
      generalize ringNew ids2 = RY at *
      have hpp : (px == px) = true := by simp
      have hnq : (nx == nx) = true := by simp
      have hrr : (rx == rx) = true := by cases rx <;> rfl
      have hqq : (peerOk q == peerOk q) = true := by cases peerOk q <;> rfl
      generalize peerOk q = po at *
      have HIF := hide HRF
      clear HRF HFA HOK HIt HPt HXt HIYt HQ3 HQ4 HQ5 HQS Y4t Y7t Y10 hk hlt hil
      refine wp_region_open (fun wd => ∃ p : Near wt.heap.size wt, wd = p.w) ⟨⟨_, (Below.refl _ _).drew⟩, rfl⟩ (by kernel_rfl) ?_
      rintro wd ⟨pd, rfl⟩
      have hqb := pd.h
      obtain ⟨x0, hq⟩ := pd
      simp only at hqb ⊢
      have HBq := hide hqb
      clear hq hqb
      refine wpAny_of_K (c := 53) (D := fun w' => ∃ p : Near wt.heap.size wt, w' = p.w) _ _ _ _ ?_
      refine wpAnyK_seg_lit4 0 1 12 53 rfl (by decide) (by decide) (by kernel_rfl) (by kernel_rfl) (by kernel_rfl) (by kernel_rfl) (fun _ _ _ _ _ h => h) ⟨⟨x0, HBq.out⟩, rfl⟩ ?_
      simp only [List.take_succ_cons, List.take_zero, List.drop_zero]
      repeat (go_big_quiet_step (fail))
      refine wpQuiet_nil ?_
      refine wpAnyK_callW 1 (by kernel_rfl) rfl rfl 14 _ _ rfl entP3 #[.agg #[.slice (some ⟨gr, 0, none⟩) R.length cr]] rfl (fun v' w' => v' = .bool true ∧ Below x0.heap.size x0 w') ((CA.out _ HBq.out).mono fun e w' ⟨h1, h2⟩ => ⟨_, h1, rfl, h2⟩) ?_
      rintro _ x1 ⟨rfl, hb⟩
      have HBq := hide (HBq.out.trans (hb.mono HBq.out.size))
      refine ⟨⟨⟨x1, HBq.out⟩, rfl⟩, ?_⟩
      simp only [Act.put, List.setIfInBounds_toArray, List.set_cons_succ, List.set_cons_zero]
      clear hb
      refine wpAnyK_seg_lit4 2 8 12 44 rfl (by decide) (by decide) (by kernel_rfl) (by kernel_rfl) (by kernel_rfl) (by kernel_rfl) (fun _ _ _ _ _ h => h) ⟨⟨x1, HBq.out⟩, rfl⟩ ?_
      simp only [List.take_succ_cons, List.take_zero, List.drop_succ_cons, List.drop_zero]
      repeat (go_big_quiet_step (fail))
      refine wpQuiet_nil ?_
      refine wpAnyK_seg_lit4 11 2 12 42 rfl (by decide) (by decide) (by kernel_rfl) (by kernel_rfl) (by kernel_rfl) (by kernel_rfl) (fun _ _ _ _ _ h => h) ⟨⟨x1, HBq.out⟩, rfl⟩ ?_
      simp only [List.take_succ_cons, List.take_zero, List.drop_succ_cons, List.drop_zero]
      repeat (go_big_quiet_step (fail))
      refine wpQuiet_nil ?_
      refine wpAnyK_callW 10 (by kernel_rfl) rfl rfl 8 _ _ rfl entP0 #[.agg #[.slice (some ⟨gx, 0, none⟩) lx.length cx], .int .i64 idx] rfl (fun v' w' => v' = .int .i64 px ∧ Below x1.heap.size x1 w') ((CB.out _ HBq.out).mono fun e w' ⟨h1, h2⟩ => ⟨_, h1, rfl, h2⟩) ?_
      rintro _ x2 ⟨rfl, hb⟩
      have HBq := hide (HBq.out.trans (hb.mono HBq.out.size))
      refine ⟨⟨⟨x2, HBq.out⟩, rfl⟩, ?_⟩
      simp only [Act.put, List.setIfInBounds_toArray, List.set_cons_succ, List.set_cons_zero]
      clear hb
      refine wpAnyK_callW 13 (by kernel_rfl) rfl rfl 15 _ _ rfl entP4 #[.agg #[.slice (some ⟨gx, 0, none⟩) lx.length cx], .int .i64 idx] rfl (fun v' w' => v' = .int .i64 px ∧ Below x2.heap.size x2 w') ((CB2.out _ HBq.out).mono fun e w' ⟨h1, h2⟩ => ⟨_, h1, rfl, h2⟩) ?_
      rintro _ x3 ⟨rfl, hb⟩
      have HBq := hide (HBq.out.trans (hb.mono HBq.out.size))
      refine ⟨⟨⟨x3, HBq.out⟩, rfl⟩, ?_⟩
      simp only [Act.put, List.setIfInBounds_toArray, List.set_cons_succ, List.set_cons_zero]
      clear hb
      refine wpAnyK_seg_lit4 14 4 12 36 rfl (by decide) (by decide) (by kernel_rfl) (by kernel_rfl) (by kernel_rfl) (by kernel_rfl) (fun _ _ _ _ _ h => h) ⟨⟨x3, HBq.out⟩, rfl⟩ ?_
      simp only [List.take_succ_cons, List.take_zero, List.drop_succ_cons, List.drop_zero]
      repeat (go_big_quiet_step (fail))
      refine wpQuiet_nil ?_
      refine wpAnyK_seg_lit4 19 1 12 35 rfl (by decide) (by decide) (by kernel_rfl) (by kernel_rfl) (by kernel_rfl) (by kernel_rfl) (fun _ _ _ _ _ h => h) ⟨⟨x3, HBq.out⟩, rfl⟩ ?_
      simp only [List.take_succ_cons, List.take_zero, List.drop_succ_cons, List.drop_zero]
      repeat (go_big_quiet_step (fail))
      refine wpQuiet_nil ?_
      refine wpAnyK_callW 18 (by kernel_rfl) rfl rfl 7 _ _ rfl entP5 #[.agg #[.slice (some ⟨gx, 0, none⟩) lx.length cx]] rfl (fun v' w' => w'.ownsRow x3.heap.size 3 1 v' hx.length (cellsI hx) ∧ Below x3.heap.size x3 w') ((CC.out _ HBq.out).mono fun e w' ⟨v', h1, h2, h3⟩ => ⟨v', h1, h2, h3⟩) ?_
      rintro vP x4 ⟨ho, hb⟩
      have HBq := hide (HBq.out.trans (hb.mono HBq.out.size))
      have HOP := hide ho
      refine ⟨⟨⟨x4, HBq.out⟩, rfl⟩, ?_⟩
      simp only [Act.put, List.setIfInBounds_toArray, List.set_cons_succ, List.set_cons_zero]
      clear hb ho
      refine wpAnyK_callW 20 (by kernel_rfl) rfl rfl 17 _ _ rfl entP6 #[.agg #[.slice (some ⟨gx, 0, none⟩) lx.length cx]] rfl (fun v' w' => w'.ownsRow x4.heap.size 3 1 v' hx.length (cellsI hx) ∧ Below x4.heap.size x4 w') ((CC2.out _ HBq.out).mono fun e w' ⟨v', h1, h2, h3⟩ => ⟨v', h1, h2, h3⟩) ?_
      rintro vQ x5 ⟨ho, hb⟩
      have HBq := hide (HBq.out.trans (hb.mono HBq.out.size))
      have HOP := hide (own_below HOP.out hb)
      have HOQ := hide ho
      refine ⟨⟨⟨x5, HBq.out⟩, rfl⟩, ?_⟩
      simp only [Act.put, List.setIfInBounds_toArray, List.set_cons_succ, List.set_cons_zero]
      clear hb ho
      refine wpAnyK_callW 21 (by kernel_rfl) rfl rfl 16 _ _ rfl entP7 #[vP, vQ] rfl (fun v' w' => v' = .bool true ∧ Below x5.heap.size x5 w') ((sameInts_calls _ vP vQ hx hx (IntsAt.of_own HOP.out) (IntsAt.of_own HOQ.out) (by omega) (by omega)).mono fun e w' ⟨h1, n, h2⟩ => ⟨_, h1, by simp, by rw [h2]; exact below_drewN (Below.refl _ _) n⟩) ?_
      rintro _ x6 ⟨rfl, hb⟩
      have HBq := hide (HBq.out.trans (hb.mono HBq.out.size))
      refine ⟨⟨⟨x6, HBq.out⟩, rfl⟩, ?_⟩
      simp only [Act.put, List.setIfInBounds_toArray, List.set_cons_succ, List.set_cons_zero]
      clear hb HOP HOQ
      refine wpAnyK_seg_lit4 22 4 12 28 rfl (by decide) (by decide) (by kernel_rfl) (by kernel_rfl) (by kernel_rfl) (by kernel_rfl) (fun _ _ _ _ _ h => h) ⟨⟨x6, HBq.out⟩, rfl⟩ ?_
      simp only [List.take_succ_cons, List.take_zero, List.drop_succ_cons, List.drop_zero]
      repeat (go_big_quiet_step (fail))
      refine wpQuiet_nil ?_
      refine wpAnyK_seg_lit4 27 2 12 26 rfl (by decide) (by decide) (by kernel_rfl) (by kernel_rfl) (by kernel_rfl) (by kernel_rfl) (fun _ _ _ _ _ h => h) ⟨⟨x6, HBq.out⟩, rfl⟩ ?_
      simp only [List.take_succ_cons, List.take_zero, List.drop_succ_cons, List.drop_zero]
      repeat (go_big_quiet_step (fail))
      refine wpQuiet_nil ?_
      refine wpAnyK_callW 26 (by kernel_rfl) rfl rfl 9 _ _ rfl entP1 #[.agg #[.slice (some ⟨gx, 0, none⟩) lx.length cx], .int .i64 idx] rfl (fun v' w' => v' = .int .i64 nx ∧ Below x6.heap.size x6 w') ((CN.out _ HBq.out).mono fun e w' ⟨h1, h2⟩ => ⟨_, h1, rfl, h2⟩) ?_
      rintro _ x7 ⟨rfl, hb⟩
      have HBq := hide (HBq.out.trans (hb.mono HBq.out.size))
      refine ⟨⟨⟨x7, HBq.out⟩, rfl⟩, ?_⟩
      simp only [Act.put, List.setIfInBounds_toArray, List.set_cons_succ, List.set_cons_zero]
      clear hb
      refine wpAnyK_callW 29 (by kernel_rfl) rfl rfl 18 _ _ rfl entP8 #[.agg #[.slice (some ⟨gx, 0, none⟩) lx.length cx], .int .i64 idx] rfl (fun v' w' => v' = .int .i64 nx ∧ Below x7.heap.size x7 w') ((CN2.out _ HBq.out).mono fun e w' ⟨h1, h2⟩ => ⟨_, h1, rfl, h2⟩) ?_
      rintro _ x8 ⟨rfl, hb⟩
      have HBq := hide (HBq.out.trans (hb.mono HBq.out.size))
      refine ⟨⟨⟨x8, HBq.out⟩, rfl⟩, ?_⟩
      simp only [Act.put, List.setIfInBounds_toArray, List.set_cons_succ, List.set_cons_zero]
      clear hb
      refine wpAnyK_seg_lit4 30 4 12 20 rfl (by decide) (by decide) (by kernel_rfl) (by kernel_rfl) (by kernel_rfl) (by kernel_rfl) (fun _ _ _ _ _ h => h) ⟨⟨x8, HBq.out⟩, rfl⟩ ?_
      simp only [List.take_succ_cons, List.take_zero, List.drop_succ_cons, List.drop_zero]
      repeat (go_big_quiet_step (fail))
      refine wpQuiet_nil ?_
      refine wpAnyK_seg_lit4 35 1 12 19 rfl (by decide) (by decide) (by kernel_rfl) (by kernel_rfl) (by kernel_rfl) (by kernel_rfl) (fun _ _ _ _ _ h => h) ⟨⟨x8, HBq.out⟩, rfl⟩ ?_
      simp only [List.take_succ_cons, List.take_zero, List.drop_succ_cons, List.drop_zero]
      repeat (go_big_quiet_step (fail))
      refine wpQuiet_nil ?_
      refine wpAnyK_callW 34 (by kernel_rfl) rfl rfl 14 _ _ rfl entP3 #[.agg #[.slice (some ⟨gx, 0, none⟩) lx.length cx]] rfl (fun v' w' => v' = .bool rx ∧ Below x8.heap.size x8 w') ((CF.out _ HBq.out).mono fun e w' ⟨h1, h2⟩ => ⟨_, h1, rfl, h2⟩) ?_
      rintro _ x9 ⟨rfl, hb⟩
      have HBq := hide (HBq.out.trans (hb.mono HBq.out.size))
      refine ⟨⟨⟨x9, HBq.out⟩, rfl⟩, ?_⟩
      simp only [Act.put, List.setIfInBounds_toArray, List.set_cons_succ, List.set_cons_zero]
      clear hb
      refine wpAnyK_callW 36 (by kernel_rfl) rfl rfl 19 _ _ rfl entP9 #[.agg #[.slice (some ⟨gx, 0, none⟩) lx.length cx]] rfl (fun v' w' => v' = .bool rx ∧ Below x9.heap.size x9 w') ((CF2.out _ HBq.out).mono fun e w' ⟨h1, h2⟩ => ⟨_, h1, rfl, h2⟩) ?_
      rintro _ x10 ⟨rfl, hb⟩
      have HBq := hide (HBq.out.trans (hb.mono HBq.out.size))
      refine ⟨⟨⟨x10, HBq.out⟩, rfl⟩, ?_⟩
      simp only [Act.put, List.setIfInBounds_toArray, List.set_cons_succ, List.set_cons_zero]
      clear hb
      refine wpAnyK_seg_lit4 37 4 12 13 rfl (by decide) (by decide) (by kernel_rfl) (by kernel_rfl) (by kernel_rfl) (by kernel_rfl) (fun _ _ _ _ _ h => h) ⟨⟨x10, HBq.out⟩, rfl⟩ ?_
      simp only [List.take_succ_cons, List.take_zero, List.drop_succ_cons, List.drop_zero]
      repeat (go_big_quiet_step (fail))
      refine wpQuiet_nil ?_
      refine wpAnyK_seg_lit4 42 1 12 12 rfl (by decide) (by decide) (by kernel_rfl) (by kernel_rfl) (by kernel_rfl) (by kernel_rfl) (fun _ _ _ _ _ h => h) ⟨⟨x10, HBq.out⟩, rfl⟩ ?_
      simp only [List.take_succ_cons, List.take_zero, List.drop_succ_cons, List.drop_zero]
      repeat (go_big_quiet_step (fail))
      refine wpQuiet_nil ?_
      refine wpAnyK_callW 41 (by kernel_rfl) rfl rfl 6 _ _ rfl entP10 #[.slice ay ids2.length cy] rfl (fun v' w' => (∃ v fp, v' = .agg #[v] ∧ Owns w' v (peersD T0 RY) fp) ∧ Below x10.heap.size x10 w') ((CG.out _ HBq.out).mono fun e w' ⟨v, fp, h1, h2, h3, h4⟩ => ⟨_, h1, ⟨v, fp, rfl, h2⟩, h4⟩) ?_
      rintro _ x11 ⟨⟨vR, fR, rfl, ho⟩, hb⟩
      have HBq := hide (HBq.out.trans (hb.mono HBq.out.size))
      have HOR := hide ho
      refine ⟨⟨⟨x11, HBq.out⟩, rfl⟩, ?_⟩
      simp only [Act.put, List.setIfInBounds_toArray, List.set_cons_succ, List.set_cons_zero]
      clear hb ho
      refine wpAnyK_callW 43 (by kernel_rfl) rfl rfl 21 _ _ rfl entP11 #[.slice ay ids2.length cy] rfl (fun v' w' => (∃ v fp, v' = .agg #[v] ∧ Owns w' v (peersD T0 RY) fp) ∧ Below x11.heap.size x11 w') ((CG2.out _ HBq.out).mono fun e w' ⟨v, fp, h1, h2, h3, h4⟩ => ⟨_, h1, ⟨v, fp, rfl, h2⟩, h4⟩) ?_
      rintro _ x12 ⟨⟨vS, fS, rfl, ho⟩, hb⟩
      have HBq := hide (HBq.out.trans (hb.mono HBq.out.size))
      have HOR := hide (owns_below HOR.out hb)
      have HOS := hide ho
      refine ⟨⟨⟨x12, HBq.out⟩, rfl⟩, ?_⟩
      simp only [Act.put, List.setIfInBounds_toArray, List.set_cons_succ, List.set_cons_zero]
      clear hb ho
      refine wpAnyK_callW 44 (by kernel_rfl) rfl rfl 20 _ _ rfl entP12 #[.agg #[vR], .agg #[vS]] rfl (fun v' w' => v' = .bool true ∧ Below x12.heap.size x12 w') ((sameRing_calls _ vR vS RY ⟨T0, HOR.out.reads⟩ ⟨T0, HOS.out.reads⟩ (Nat.le_trans HIF.out.1 (by decide)) HIF.out.2).mono fun e w' ⟨h1, h2⟩ => ⟨_, h1, rfl, h2⟩) ?_
      rintro _ x13 ⟨rfl, hb⟩
      have HBq := hide (HBq.out.trans (hb.mono HBq.out.size))
      refine ⟨⟨⟨x13, HBq.out⟩, rfl⟩, ?_⟩
      simp only [Act.put, List.setIfInBounds_toArray, List.set_cons_succ, List.set_cons_zero]
      clear hb HOR HOS
      refine wpAnyK_seg_lit4 45 3 12 6 rfl (by decide) (by decide) (by kernel_rfl) (by kernel_rfl) (by kernel_rfl) (by kernel_rfl) (fun _ _ _ _ _ h => h) ⟨⟨x13, HBq.out⟩, rfl⟩ ?_
      simp only [List.take_succ_cons, List.take_zero, List.drop_succ_cons, List.drop_zero]
      repeat (go_big_quiet_step (fail))
      refine wpQuiet_nil ?_
      refine wpAnyK_seg_lit4 49 1 12 5 rfl (by decide) (by decide) (by kernel_rfl) (by kernel_rfl) (by kernel_rfl) (by kernel_rfl) (fun _ _ _ _ _ h => h) ⟨⟨x13, HBq.out⟩, rfl⟩ ?_
      simp only [List.take_succ_cons, List.take_zero, List.drop_succ_cons, List.drop_zero]
      repeat (go_big_quiet_step (fail))
      refine wpQuiet_nil ?_
      refine wpAnyK_callW 48 (by kernel_rfl) rfl rfl 22 _ _ rfl entP13 #[.agg #[.int .i64 q.id, .bool q.here, .int .i64 q.ahead, .slice a3 q.behind.length c3, .slice a4 q.fingers.length c4, .slice a5 q.shelves.length c5]] rfl (fun v' w' => v' = .bool po ∧ Below x13.heap.size x13 w') ((CP.out _ HBq.out).mono fun e w' ⟨h1, h2⟩ => ⟨_, h1, rfl, h2⟩) ?_
      rintro _ x14 ⟨rfl, hb⟩
      have HBq := hide (HBq.out.trans (hb.mono HBq.out.size))
      refine ⟨⟨⟨x14, HBq.out⟩, rfl⟩, ?_⟩
      simp only [Act.put, List.setIfInBounds_toArray, List.set_cons_succ, List.set_cons_zero]
      clear hb
      refine wpAnyK_callW 50 (by kernel_rfl) rfl rfl 23 _ _ rfl entP14 #[.agg #[.int .i64 q.id, .bool q.here, .int .i64 q.ahead, .slice a3 q.behind.length c3, .slice a4 q.fingers.length c4, .slice a5 q.shelves.length c5]] rfl (fun v' w' => v' = .bool po ∧ Below x14.heap.size x14 w') ((CP2.out _ HBq.out).mono fun e w' ⟨h1, h2⟩ => ⟨_, h1, rfl, h2⟩) ?_
      rintro _ x15 ⟨rfl, hb⟩
      have HBq := hide (HBq.out.trans (hb.mono HBq.out.size))
      refine ⟨⟨⟨x15, HBq.out⟩, rfl⟩, ?_⟩
      simp only [Act.put, List.setIfInBounds_toArray, List.set_cons_succ, List.set_cons_zero]
      clear hb
      refine wpAnyK_seg_lit4 51 2 12 1 rfl (by decide) (by decide) (by kernel_rfl) (by kernel_rfl) (by kernel_rfl) (by kernel_rfl) (fun _ _ _ _ _ h => h) ⟨⟨x15, HBq.out⟩, rfl⟩ ?_
      simp only [List.take_succ_cons, List.take_zero, List.drop_succ_cons, List.drop_zero]
      repeat (go_big_quiet_step (fail))
      refine wpQuiet_nil ?_
      refine wpAnyK_last (by kernel_rfl) (by decide) ?_
      refine wpAny_rest 53 rfl (by kernel_rfl) ?_
      simp only [List.drop_succ_cons, List.drop_zero]
      have HBf := hide (HBt.out.trans (HBq.out.mono HBt.out.size))
      clear n4 n7 m0 m1 m2 m3 m4 m5 hnn CA CB CB2 CC CC2 CN CN2 CF CF2 CG CG2 CP CP2 HBq HBt
      go_wp2_with fail
      go_ret
      exact ⟨rfl, HBf.out⟩
end Go.Proofs.YteladljgnbfcnaaGreat.P9
