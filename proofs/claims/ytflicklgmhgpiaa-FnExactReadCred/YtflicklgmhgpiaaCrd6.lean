/- The contract of the specification's ReadCred; condition: the text is at most 2^20 bytes long. -/
import Derived.Test.YtflicklgmhgpiaaCrdI3
import Derived.Test.YtflicklgmhgpiaaCrd2
import Derived.Test.YtflicklgmhgpiaaLate2
import Derived.Test.YtflicklgmhgpiaaLateC
namespace Go.Proofs.Ytflicklgmhgpiaa.P5
set_option maxRecDepth 8000
open Go.RowKit P1

theorem zero_cred : ∀ w : World, (zeroValue 32).run Try.prog w = .ok (.agg #[.int .i64 0, .int .i64 0, .int .i64 0, .int .i64 0, .int .i64 0, .int .i64 0, .int .i64 0, .int .i64 0, .int .i64 0, .int .i64 0]) w := fun w => by
  kernel_rfl

theorem infoI : (Try.prog.info? 3).map (fun i => (i.zero, i.size, i.bytes)) = some (some (.int .i64 0), 1, 8) := by kernel_rfl

set_option maxHeartbeats 2000000 in
theorem specReadCred_calls (s : ByteArray) (hs : s.size ≤ 1048576) (w : World) :
    Calls Try.prog 16 #[.string s] w fun e w' => e = .returned (rcV (readCred s.data.toList)) ∧ Below w.heap.size w w' := by
  obtain ⟨T, rfl⟩ : ∃ T : List UInt8, s = ⟨T.toArray⟩ := ⟨s.data.toList, by simp⟩
  have HRV := hide (fun (p : Nat) wx => specReadVar_calls ⟨T.toArray⟩ (p : Int) hs wx)
  have HSL : Hid (T.length ≤ 1048576) := hs
  simp only at HRV ⊢
  clear hs
  obtain ⟨i0, hi, hz0, hz1, hz2⟩ := info_parts infoI
  obtain ⟨R, ER⟩ : ∃ R, Hid (R = readCred T) := ⟨_, rfl⟩
  rw [← ER.out]
  go_enter Try.func16, Try.ntmps16
  go_wp2_with fail
  have HB0 : Hid (Below w.heap.size w ((w.alloc (.cells #[.int .i64 0, .int .i64 0, .int .i64 0, .int .i64 0, .int .i64 0, .int .i64 0, .int .i64 0, .int .i64 0, .int .i64 0, .int .i64 0] 32)).alloc (.cells #[] 3))) := Below.two _ _ _
  have g0 := Blk.new w #[.int .i64 0, .int .i64 0, .int .i64 0, .int .i64 0, .int .i64 0, .int .i64 0, .int .i64 0, .int .i64 0, .int .i64 0, .int .i64 0] 32
  have g0 := hide (g0.below ((Below.refl _ _).alloc (Nat.le_refl _) (.cells #[] 3)) g0.lt)
  have hsz1 : (w.alloc (.cells #[.int .i64 0, .int .i64 0, .int .i64 0, .int .i64 0, .int .i64 0, .int .i64 0, .int .i64 0, .int .i64 0, .int .i64 0, .int .i64 0] 32)).heap.size = w.heap.size + 1 := by simp [go_sem]
  have HO0 : Hid (((w.alloc (.cells #[.int .i64 0, .int .i64 0, .int .i64 0, .int .i64 0, .int .i64 0, .int .i64 0, .int .i64 0, .int .i64 0, .int .i64 0, .int .i64 0] 32)).alloc (.cells #[] 3)).ownsRow (w.heap.size + 1) 3 1 (.slice (some ⟨w.heap.size + 1, 0, none⟩) 0 0) 0 (cellsI (intsOf []))) := by
    have := World.ownsRow_lit (base := w.heap.size + 1) (e := 3) (size := 1) (w.alloc (.cells #[.int .i64 0, .int .i64 0, .int .i64 0, .int .i64 0, .int .i64 0, .int .i64 0, .int .i64 0, .int .i64 0, .int .i64 0, .int .i64 0] 32)) #[] 0 (by omega) (by decide) rfl
    rw [hsz1] at this
    exact this
  clear hsz1
  go_loopw [4, 5, 6] (fun v at_ i wr => ∃ k p : Nat, ∃ L : List Nat, k ≤ 10 ∧ p ≤ 1048576 ∧ L.length = k ∧ i = .int .i64 k ∧ at_ = .int .i64 p ∧ Hid (readRow T k = some (L, p)) ∧ Hid (wr.ownsRow (w.heap.size + 1) 3 1 v k (cellsI (intsOf L))) ∧ Hid (Blk wr w.heap.size [.int .i64 0, .int .i64 0, .int .i64 0, .int .i64 0, .int .i64 0, .int .i64 0, .int .i64 0, .int .i64 0, .int .i64 0, .int .i64 0] 32) ∧ Hid (Below w.heap.size w wr) ∧ w.heap.size + 1 ≤ wr.heap.size) (fun _ _ i _ => 10 - (intOf i).toNat)
  case atStart => exact ⟨0, 0, [], by decide, by decide, rfl, rfl, rfl, rfl, HO0.out, g0.out, HB0.out, by simp [go_sem]⟩
  case round =>
    obtain ⟨k, p, L, hk, hp, hL, rfl, rfl, HR, HO, G0, HB, hsz⟩ := hrel
    by_cases hlt : k < 10
    · go_wp2_with fail
      refine (HRV.out p _).mono ?_
      rintro e w2 ⟨rfl, hb2⟩
      have HO := hide (own_below HO.out hb2)
      have G0 := hide (G0.out.below hb2 G0.out.lt)
      have HB := hide (HB.out.trans (hb2.mono HB.out.size))
      have hsz2 : w.heap.size + 1 ≤ w2.heap.size := Nat.le_trans hsz hb2.size
      clear hb2 hsz
      by_cases hr : (readVar T p).2.2 = true
      · have h2 := readVar_true hr
        have HN := hide (readRow_next HR.out hr)
        have h3 := h2.2.1
        have h4 : (readVar T p).2.1 ≤ 1048576 := by have := HSL.out; omega
        clear h2 h3
        generalize readVar T (p : Int) = rv at hr h4 HN ⊢
        obtain ⟨n, q, ok⟩ := rv
        dsimp only at hr h4 HN
        subst hr
        simp only [rvV]
        have HL' : Hid ((L ++ [n]).length = k + 1) := by show _ = _; simp [hL]
        clear HR
        go_wp2_with (at_builtin; refine wpList_append_one (cs := #[.int .i64 (n : Int)]) (Below.refl (w.heap.size + 1) _) hsz2 rfl (.tmp 26) (.tmp 28) 50 rfl 3 i0 (.int .i64 0) 1 8 Try.underlying50 hi hz0 hz1 hz2 rfl (by decide) rfl (by simp [Value.oneCell']) _ _ _ rfl HO.out 1 rfl (by omega) (by omega) ?_)
        intro v' w3 hown3 hbel3
        have HO3 : Hid (w3.ownsRow (w.heap.size + 1) 3 1 v' (k + 1) (cellsI (intsOf (L ++ [n])))) := by
          show World.ownsRow _ _ _ _ _ _ _
          have : cellsI (intsOf (L ++ [n])) = cellsI (intsOf L) ++ #[Value.int .i64 (n : Int)].toList := by simp [cellsI, intsOf]
          rw [this]
          exact hown3
        have G03 := hide (G0.out.below hbel3 (Nat.lt_succ_self _))
        have HB3 := hide (HB.out.trans (hbel3.mono (Nat.le_succ _)))
        have hsz3 : w.heap.size + 1 ≤ w3.heap.size := Nat.le_trans hsz2 hbel3.size
        clear hown3 hbel3 HO G0 HB hsz2
        go_wp2
        go_roundw
        case rel => exact ⟨k + 1, q, L ++ [n], by omega, h4, HL'.out, by go_num, rfl, HN.out, HO3.out, G03.out, HB3.out, hsz3⟩
        case measure => simp [intOf]; omega
      · have hr' : (readVar T p).2.2 = false := by simpa using hr
        have HN := readRow_stop HR.out hr'
        have hR : R = (Cr.zero, false) := by
          rw [ER.out]
          refine readCred_none ?_
          have := readRow_none HN (9 - k)
          rw [show k + 1 + (9 - k) = 10 by omega] at this
          exact this
        have HRR := hide hR
        clear hR HN hr
        generalize readVar T (p : Int) = rv at hr' ⊢
        obtain ⟨n, q, ok⟩ := rv
        dsimp only at hr'
        subst hr'
        simp only [rvV]
        obtain ⟨b0, e0⟩ : ∃ b, b = w.heap.size := ⟨_, rfl⟩
        have hw0 : w.heap.size ≤ b0 := by omega
        rw [← e0] at G0 ⊢
        clear e0
        have l0 := G0.out.lt
        have a0 := G0.out.free
        have c0 : w2.cell? ⟨b0, 0, none⟩ = some (.int .i64 0) := by rw [G0.out.cell 0]; rfl
        have c1 : w2.cell? ⟨b0, 1, none⟩ = some (.int .i64 0) := by rw [G0.out.cell 1]; rfl
        have c2 : w2.cell? ⟨b0, 2, none⟩ = some (.int .i64 0) := by rw [G0.out.cell 2]; rfl
        have c3 : w2.cell? ⟨b0, 3, none⟩ = some (.int .i64 0) := by rw [G0.out.cell 3]; rfl
        have c4 : w2.cell? ⟨b0, 4, none⟩ = some (.int .i64 0) := by rw [G0.out.cell 4]; rfl
        have c5 : w2.cell? ⟨b0, 5, none⟩ = some (.int .i64 0) := by rw [G0.out.cell 5]; rfl
        have c6 : w2.cell? ⟨b0, 6, none⟩ = some (.int .i64 0) := by rw [G0.out.cell 6]; rfl
        have c7 : w2.cell? ⟨b0, 7, none⟩ = some (.int .i64 0) := by rw [G0.out.cell 7]; rfl
        have c8 : w2.cell? ⟨b0, 8, none⟩ = some (.int .i64 0) := by rw [G0.out.cell 8]; rfl
        have c9 : w2.cell? ⟨b0, 9, none⟩ = some (.int .i64 0) := by rw [G0.out.cell 9]; rfl
        go_wp2_with fail
        have HF := hide (((((((((((HB.out.setCell (p := ⟨b0, 0, none⟩) hw0 (.int .i64 0)).setCell (p := ⟨b0, 1, none⟩) hw0 (.int .i64 0)).setCell (p := ⟨b0, 2, none⟩) hw0 (.int .i64 0)).setCell (p := ⟨b0, 3, none⟩) hw0 (.int .i64 0)).setCell (p := ⟨b0, 4, none⟩) hw0 (.int .i64 0)).setCell (p := ⟨b0, 5, none⟩) hw0 (.int .i64 0)).setCell (p := ⟨b0, 6, none⟩) hw0 (.int .i64 0)).setCell (p := ⟨b0, 7, none⟩) hw0 (.int .i64 0)).setCell (p := ⟨b0, 8, none⟩) hw0 (.int .i64 0)).setCell (p := ⟨b0, 9, none⟩) hw0 (.int .i64 0)))
        have GF := hide (((((((((((G0.out.set 0 (.int .i64 0)).set 1 (.int .i64 0)).set 2 (.int .i64 0)).set 3 (.int .i64 0)).set 4 (.int .i64 0)).set 5 (.int .i64 0)).set 6 (.int .i64 0)).set 7 (.int .i64 0)).set 8 (.int .i64 0)).set 9 (.int .i64 0)))
        clear c0 c1 c2 c3 c4 c5 c6 c7 c8 c9 a0 l0 G0 HO HB
        generalize ((((((((((w2.setCell ⟨b0, 0, none⟩ (.int .i64 0)).setCell ⟨b0, 1, none⟩ (.int .i64 0)).setCell ⟨b0, 2, none⟩ (.int .i64 0)).setCell ⟨b0, 3, none⟩ (.int .i64 0)).setCell ⟨b0, 4, none⟩ (.int .i64 0)).setCell ⟨b0, 5, none⟩ (.int .i64 0)).setCell ⟨b0, 6, none⟩ (.int .i64 0)).setCell ⟨b0, 7, none⟩ (.int .i64 0)).setCell ⟨b0, 8, none⟩ (.int .i64 0)).setCell ⟨b0, 9, none⟩ (.int .i64 0)) = wF at *
        have y0 : wF.cell? ⟨b0, 0, none⟩ = some (.int .i64 0) := by rw [GF.out.cell 0]; rfl
        have y1 : wF.cell? ⟨b0, 1, none⟩ = some (.int .i64 0) := by rw [GF.out.cell 1]; rfl
        have y2 : wF.cell? ⟨b0, 2, none⟩ = some (.int .i64 0) := by rw [GF.out.cell 2]; rfl
        have y3 : wF.cell? ⟨b0, 3, none⟩ = some (.int .i64 0) := by rw [GF.out.cell 3]; rfl
        have y4 : wF.cell? ⟨b0, 4, none⟩ = some (.int .i64 0) := by rw [GF.out.cell 4]; rfl
        have y5 : wF.cell? ⟨b0, 5, none⟩ = some (.int .i64 0) := by rw [GF.out.cell 5]; rfl
        have y6 : wF.cell? ⟨b0, 6, none⟩ = some (.int .i64 0) := by rw [GF.out.cell 6]; rfl
        have y7 : wF.cell? ⟨b0, 7, none⟩ = some (.int .i64 0) := by rw [GF.out.cell 7]; rfl
        have y8 : wF.cell? ⟨b0, 8, none⟩ = some (.int .i64 0) := by rw [GF.out.cell 8]; rfl
        have y9 : wF.cell? ⟨b0, 9, none⟩ = some (.int .i64 0) := by rw [GF.out.cell 9]; rfl
        refine bodyPost_ret (v := .tuple #[.agg #[.int .i64 0, .int .i64 0, .int .i64 0, .int .i64 0, .int .i64 0, .int .i64 0, .int .i64 0, .int .i64 0, .int .i64 0, .int .i64 0], .bool false]) (by simp [results, Try.results16, go_sem, y0, y1, y2, y3, y4, y5, y6, y7, y8, y9]) rfl ⟨?_, HF.out⟩
        rw [HRR.out]
        rfl
    · have hk10 : k = 10 := by omega
      subst hk10
      have hRC : R = if credOk (crOf L) ∧ credB (crOf L) = T then (crOf L, true) else (Cr.zero, false) := by
        rw [ER.out, readCred, HR.out]
      clear HR
      obtain ⟨x0, x1, x2, x3, x4, x5, x6, x7, x8, x9, rfl⟩ := ten hL
      have hc10 : crOf [x0, x1, x2, x3, x4, x5, x6, x7, x8, x9] = ⟨x0, x1, x2, x3, x4, x5, x6, x7, x8, x9⟩ := rfl
      rw [hc10] at hRC
      have HRC := hide hRC
      clear hRC hc10 hL
      obtain ⟨g, cap, rfl, hg1, hg2, hcap, hcell, -⟩ := own_at HO.out (by decide)
      have hN : ∀ (j : Nat) (x : Nat), j < 10 → (cellsI (intsOf [x0, x1, x2, x3, x4, x5, x6, x7, x8, x9]))[j]? = some (.int .i64 (x : Int)) → ∀ p : Near wr.heap.size wr, p.w.cell? ⟨g, j, none⟩ = some (.int .i64 (x : Int)) := fun j x hj he p => by
        rw [p.h.cell (p := ⟨g, j, none⟩) hg2, hcell j (by omega), he]
      have n0 := hN 0 x0 (by decide) rfl
      have n1 := hN 1 x1 (by decide) rfl
      have n2 := hN 2 x2 (by decide) rfl
      have n3 := hN 3 x3 (by decide) rfl
      have n4 := hN 4 x4 (by decide) rfl
      have n5 := hN 5 x5 (by decide) rfl
      have n6 := hN 6 x6 (by decide) rfl
      have n7 := hN 7 x7 (by decide) rfl
      have n8 := hN 8 x8 (by decide) rfl
      have n9 := hN 9 x9 (by decide) rfl
      clear hN hcell HO
      have hnn := Near.some wr.heap.size wr
      go_wp2_with fail
      refine wp_region_open (fun wd => ∃ p : Near wr.heap.size wr, wd = p.w) ⟨⟨_, (Below.refl _ _).drew⟩, rfl⟩ (by kernel_rfl) ?_
      rintro wd ⟨pd, rfl⟩
      refine wpAny_of_K (c := 35) (D := fun w' => ∃ p : Near wr.heap.size wr, w' = p.w) _ _ _ _ ?_
      refine wpAnyK_seg_lit 0 34 2 2 rfl (by decide) (by decide) (by kernel_rfl) (by kernel_rfl) (by kernel_rfl) (by kernel_rfl) (fun _ _ _ _ _ h => h) ⟨pd, rfl⟩ ?_
      simp only [List.take_succ_cons, List.take_zero, List.drop_zero]
      repeat (go_big_quiet_step (fail))
      refine wpQuiet_nil ?_
      have hqb := pd.h
      obtain ⟨w3, hq⟩ := pd
      simp only at hqb ⊢
      have HBT := hide hqb
      clear hq hqb n0 n1 n2 n3 n4 n5 n6 n7 n8 n9 hnn
      have hzw := zero_cred w3
      refine wpAnyK_value (i := 34) (v := .pointer (some ⟨w3.heap.size, 0, none⟩)) (w' := w3.alloc (.cells #[.int .i64 0, .int .i64 0, .int .i64 0, .int .i64 0, .int .i64 0, .int .i64 0, .int .i64 0, .int .i64 0, .int .i64 0, .int .i64 0] 32)) (by kernel_rfl) rfl rfl (by simp [execOp, go_sem, hzw, Instr.alloc]) ⟨⟨_, HBT.out.alloc HBT.out.size _⟩, rfl⟩ ?_
      refine wpAnyK_last (by kernel_rfl) (by decide) ?_
      refine wpAny_rest 35 rfl (by kernel_rfl) ?_
      simp only [List.drop_succ_cons, List.drop_zero]
      have HB := hide (HB.out.trans (HBT.out.mono HB.out.size))
      have G0 := hide (G0.out.below HBT.out G0.out.lt)
      have HB3 := hide (HB.out.alloc HB.out.size (.cells #[.int .i64 (x0 : Nat), .int .i64 (x1 : Nat), .int .i64 (x2 : Nat), .int .i64 (x3 : Nat), .int .i64 (x4 : Nat), .int .i64 (x5 : Nat), .int .i64 (x6 : Nat), .int .i64 (x7 : Nat), .int .i64 (x8 : Nat), .int .i64 (x9 : Nat)] 32))
      have G2 := hide (Blk.new w3 #[.int .i64 (x0 : Nat), .int .i64 (x1 : Nat), .int .i64 (x2 : Nat), .int .i64 (x3 : Nat), .int .i64 (x4 : Nat), .int .i64 (x5 : Nat), .int .i64 (x6 : Nat), .int .i64 (x7 : Nat), .int .i64 (x8 : Nat), .int .i64 (x9 : Nat)] 32)
      have l3 := G0.out.lt
      have G0 := hide (G0.out.below ((Below.refl _ w3).alloc (Nat.le_refl _) (.cells #[.int .i64 (x0 : Nat), .int .i64 (x1 : Nat), .int .i64 (x2 : Nat), .int .i64 (x3 : Nat), .int .i64 (x4 : Nat), .int .i64 (x5 : Nat), .int .i64 (x6 : Nat), .int .i64 (x7 : Nat), .int .i64 (x8 : Nat), .int .i64 (x9 : Nat)] 32)) l3)
      clear HB HBT hzw hsz
      go_wp2_with fail
      obtain ⟨b2, e2⟩ : ∃ b, b = w3.heap.size := ⟨_, rfl⟩
      obtain ⟨b0, e0⟩ : ∃ b, b = w.heap.size := ⟨_, rfl⟩
      have hw0 : w.heap.size ≤ b0 := by omega
      rw [← e2] at G2 ⊢
      rw [← e0] at G0 ⊢
      have h02 : b0 ≠ b2 := by omega
      clear e2 e0 l3
      generalize w3.alloc (.cells #[.int .i64 (x0 : Nat), .int .i64 (x1 : Nat), .int .i64 (x2 : Nat), .int .i64 (x3 : Nat), .int .i64 (x4 : Nat), .int .i64 (x5 : Nat), .int .i64 (x6 : Nat), .int .i64 (x7 : Nat), .int .i64 (x8 : Nat), .int .i64 (x9 : Nat)] 32) = w4 at *
      refine (specCredOk_calls ⟨x0, x1, x2, x3, x4, x5, x6, x7, x8, x9⟩ _).mono ?_
      rintro e w5 ⟨rfl, hb5⟩
      have G0 := hide (G0.out.below hb5 G0.out.lt)
      have G2 := hide (G2.out.below hb5 G2.out.lt)
      have HB := hide (HB3.out.trans (hb5.mono HB3.out.size))
      clear hb5 HB3
      have l0 := G0.out.lt
      have l2 := G2.out.lt
      have z0 : w5.cell? ⟨b2, 0, none⟩ = some (.int .i64 (x0 : Nat)) := by rw [G2.out.cell 0]; rfl
      have z1 : w5.cell? ⟨b2, 1, none⟩ = some (.int .i64 (x1 : Nat)) := by rw [G2.out.cell 1]; rfl
      have z2 : w5.cell? ⟨b2, 2, none⟩ = some (.int .i64 (x2 : Nat)) := by rw [G2.out.cell 2]; rfl
      have z3 : w5.cell? ⟨b2, 3, none⟩ = some (.int .i64 (x3 : Nat)) := by rw [G2.out.cell 3]; rfl
      have z4 : w5.cell? ⟨b2, 4, none⟩ = some (.int .i64 (x4 : Nat)) := by rw [G2.out.cell 4]; rfl
      have z5 : w5.cell? ⟨b2, 5, none⟩ = some (.int .i64 (x5 : Nat)) := by rw [G2.out.cell 5]; rfl
      have z6 : w5.cell? ⟨b2, 6, none⟩ = some (.int .i64 (x6 : Nat)) := by rw [G2.out.cell 6]; rfl
      have z7 : w5.cell? ⟨b2, 7, none⟩ = some (.int .i64 (x7 : Nat)) := by rw [G2.out.cell 7]; rfl
      have z8 : w5.cell? ⟨b2, 8, none⟩ = some (.int .i64 (x8 : Nat)) := by rw [G2.out.cell 8]; rfl
      have z9 : w5.cell? ⟨b2, 9, none⟩ = some (.int .i64 (x9 : Nat)) := by rw [G2.out.cell 9]; rfl
      by_cases hok : credOk ⟨x0, x1, x2, x3, x4, x5, x6, x7, x8, x9⟩
      · rw [decide_eq_true hok]
        have hT : credT ⟨x0, x1, x2, x3, x4, x5, x6, x7, x8, x9⟩ = credB ⟨x0, x1, x2, x3, x4, x5, x6, x7, x8, x9⟩ := by rw [credT, if_pos hok]
        go_wp2_with fail
        clear z0 z1 z2 z3 z4 z5 z6 z7 z8 z9 l0 l2
        have HT := hide (fun wx => specCredText_calls ⟨x0, x1, x2, x3, x4, x5, x6, x7, x8, x9⟩ wx)
        rw [hT] at HT
        refine (HT.out _).mono ?_
        rintro e w4 ⟨rfl, hb4⟩
        have G0 := hide (G0.out.below hb4 G0.out.lt)
        have G2 := hide (G2.out.below hb4 G2.out.lt)
        have HB := hide (HB.out.trans (hb4.mono HB.out.size))
        clear hb4 HT hT
        have l0 := G0.out.lt
        have l2 := G2.out.lt
        have a0 := G0.out.free
        have c0 : w4.cell? ⟨b0, 0, none⟩ = some (.int .i64 0) := by rw [G0.out.cell 0]; rfl
        have c1 : w4.cell? ⟨b0, 1, none⟩ = some (.int .i64 0) := by rw [G0.out.cell 1]; rfl
        have c2 : w4.cell? ⟨b0, 2, none⟩ = some (.int .i64 0) := by rw [G0.out.cell 2]; rfl
        have c3 : w4.cell? ⟨b0, 3, none⟩ = some (.int .i64 0) := by rw [G0.out.cell 3]; rfl
        have c4 : w4.cell? ⟨b0, 4, none⟩ = some (.int .i64 0) := by rw [G0.out.cell 4]; rfl
        have c5 : w4.cell? ⟨b0, 5, none⟩ = some (.int .i64 0) := by rw [G0.out.cell 5]; rfl
        have c6 : w4.cell? ⟨b0, 6, none⟩ = some (.int .i64 0) := by rw [G0.out.cell 6]; rfl
        have c7 : w4.cell? ⟨b0, 7, none⟩ = some (.int .i64 0) := by rw [G0.out.cell 7]; rfl
        have c8 : w4.cell? ⟨b0, 8, none⟩ = some (.int .i64 0) := by rw [G0.out.cell 8]; rfl
        have c9 : w4.cell? ⟨b0, 9, none⟩ = some (.int .i64 0) := by rw [G0.out.cell 9]; rfl
        have z0 : w4.cell? ⟨b2, 0, none⟩ = some (.int .i64 (x0 : Nat)) := by rw [G2.out.cell 0]; rfl
        have z1 : w4.cell? ⟨b2, 1, none⟩ = some (.int .i64 (x1 : Nat)) := by rw [G2.out.cell 1]; rfl
        have z2 : w4.cell? ⟨b2, 2, none⟩ = some (.int .i64 (x2 : Nat)) := by rw [G2.out.cell 2]; rfl
        have z3 : w4.cell? ⟨b2, 3, none⟩ = some (.int .i64 (x3 : Nat)) := by rw [G2.out.cell 3]; rfl
        have z4 : w4.cell? ⟨b2, 4, none⟩ = some (.int .i64 (x4 : Nat)) := by rw [G2.out.cell 4]; rfl
        have z5 : w4.cell? ⟨b2, 5, none⟩ = some (.int .i64 (x5 : Nat)) := by rw [G2.out.cell 5]; rfl
        have z6 : w4.cell? ⟨b2, 6, none⟩ = some (.int .i64 (x6 : Nat)) := by rw [G2.out.cell 6]; rfl
        have z7 : w4.cell? ⟨b2, 7, none⟩ = some (.int .i64 (x7 : Nat)) := by rw [G2.out.cell 7]; rfl
        have z8 : w4.cell? ⟨b2, 8, none⟩ = some (.int .i64 (x8 : Nat)) := by rw [G2.out.cell 8]; rfl
        have z9 : w4.cell? ⟨b2, 9, none⟩ = some (.int .i64 (x9 : Nat)) := by rw [G2.out.cell 9]; rfl
        by_cases hq : credB ⟨x0, x1, x2, x3, x4, x5, x6, x7, x8, x9⟩ = T
        · have HRR : Hid (R = (⟨x0, x1, x2, x3, x4, x5, x6, x7, x8, x9⟩, true)) := by
            show R = _
            rw [HRC.out, if_pos ⟨hok, hq⟩]
          rw [hq]
          clear hok HRC hq
          go_wp2_with fail
          have HF := hide (((((((((((HB.out.setCell (p := ⟨b0, 0, none⟩) hw0 (.int .i64 (x0 : Nat))).setCell (p := ⟨b0, 1, none⟩) hw0 (.int .i64 (x1 : Nat))).setCell (p := ⟨b0, 2, none⟩) hw0 (.int .i64 (x2 : Nat))).setCell (p := ⟨b0, 3, none⟩) hw0 (.int .i64 (x3 : Nat))).setCell (p := ⟨b0, 4, none⟩) hw0 (.int .i64 (x4 : Nat))).setCell (p := ⟨b0, 5, none⟩) hw0 (.int .i64 (x5 : Nat))).setCell (p := ⟨b0, 6, none⟩) hw0 (.int .i64 (x6 : Nat))).setCell (p := ⟨b0, 7, none⟩) hw0 (.int .i64 (x7 : Nat))).setCell (p := ⟨b0, 8, none⟩) hw0 (.int .i64 (x8 : Nat))).setCell (p := ⟨b0, 9, none⟩) hw0 (.int .i64 (x9 : Nat))))
          have GF := hide (((((((((((G0.out.set 0 (.int .i64 (x0 : Nat))).set 1 (.int .i64 (x1 : Nat))).set 2 (.int .i64 (x2 : Nat))).set 3 (.int .i64 (x3 : Nat))).set 4 (.int .i64 (x4 : Nat))).set 5 (.int .i64 (x5 : Nat))).set 6 (.int .i64 (x6 : Nat))).set 7 (.int .i64 (x7 : Nat))).set 8 (.int .i64 (x8 : Nat))).set 9 (.int .i64 (x9 : Nat))))
          clear c0 c1 c2 c3 c4 c5 c6 c7 c8 c9 z0 z1 z2 z3 z4 z5 z6 z7 z8 z9 a0 l0 l2 G0 G2 HB
          generalize ((((((((((w4.setCell ⟨b0, 0, none⟩ (.int .i64 (x0 : Nat))).setCell ⟨b0, 1, none⟩ (.int .i64 (x1 : Nat))).setCell ⟨b0, 2, none⟩ (.int .i64 (x2 : Nat))).setCell ⟨b0, 3, none⟩ (.int .i64 (x3 : Nat))).setCell ⟨b0, 4, none⟩ (.int .i64 (x4 : Nat))).setCell ⟨b0, 5, none⟩ (.int .i64 (x5 : Nat))).setCell ⟨b0, 6, none⟩ (.int .i64 (x6 : Nat))).setCell ⟨b0, 7, none⟩ (.int .i64 (x7 : Nat))).setCell ⟨b0, 8, none⟩ (.int .i64 (x8 : Nat))).setCell ⟨b0, 9, none⟩ (.int .i64 (x9 : Nat))) = wF at *
          have y0 : wF.cell? ⟨b0, 0, none⟩ = some (.int .i64 (x0 : Nat)) := by rw [GF.out.cell 0]; rfl
          have y1 : wF.cell? ⟨b0, 1, none⟩ = some (.int .i64 (x1 : Nat)) := by rw [GF.out.cell 1]; rfl
          have y2 : wF.cell? ⟨b0, 2, none⟩ = some (.int .i64 (x2 : Nat)) := by rw [GF.out.cell 2]; rfl
          have y3 : wF.cell? ⟨b0, 3, none⟩ = some (.int .i64 (x3 : Nat)) := by rw [GF.out.cell 3]; rfl
          have y4 : wF.cell? ⟨b0, 4, none⟩ = some (.int .i64 (x4 : Nat)) := by rw [GF.out.cell 4]; rfl
          have y5 : wF.cell? ⟨b0, 5, none⟩ = some (.int .i64 (x5 : Nat)) := by rw [GF.out.cell 5]; rfl
          have y6 : wF.cell? ⟨b0, 6, none⟩ = some (.int .i64 (x6 : Nat)) := by rw [GF.out.cell 6]; rfl
          have y7 : wF.cell? ⟨b0, 7, none⟩ = some (.int .i64 (x7 : Nat)) := by rw [GF.out.cell 7]; rfl
          have y8 : wF.cell? ⟨b0, 8, none⟩ = some (.int .i64 (x8 : Nat)) := by rw [GF.out.cell 8]; rfl
          have y9 : wF.cell? ⟨b0, 9, none⟩ = some (.int .i64 (x9 : Nat)) := by rw [GF.out.cell 9]; rfl
          refine bodyPost_ret (v := .tuple #[.agg #[.int .i64 (x0 : Nat), .int .i64 (x1 : Nat), .int .i64 (x2 : Nat), .int .i64 (x3 : Nat), .int .i64 (x4 : Nat), .int .i64 (x5 : Nat), .int .i64 (x6 : Nat), .int .i64 (x7 : Nat), .int .i64 (x8 : Nat), .int .i64 (x9 : Nat)], .bool true]) (by simp [results, Try.results16, go_sem, y0, y1, y2, y3, y4, y5, y6, y7, y8, y9]) rfl ⟨?_, HF.out⟩
          rw [HRR.out]
        · have HRR : Hid (R = (Cr.zero, false)) := by
            show R = _
            rw [HRC.out, if_neg (fun h => hq h.2)]
          have hne : (!credB ⟨x0, x1, x2, x3, x4, x5, x6, x7, x8, x9⟩ == T) = true := by simpa using hq
          clear hok HRC hq
          generalize credB ⟨x0, x1, x2, x3, x4, x5, x6, x7, x8, x9⟩ = A at *
          go_wp2_with fail
          have HF := hide (((((((((((HB.out.setCell (p := ⟨b0, 0, none⟩) hw0 (.int .i64 0)).setCell (p := ⟨b0, 1, none⟩) hw0 (.int .i64 0)).setCell (p := ⟨b0, 2, none⟩) hw0 (.int .i64 0)).setCell (p := ⟨b0, 3, none⟩) hw0 (.int .i64 0)).setCell (p := ⟨b0, 4, none⟩) hw0 (.int .i64 0)).setCell (p := ⟨b0, 5, none⟩) hw0 (.int .i64 0)).setCell (p := ⟨b0, 6, none⟩) hw0 (.int .i64 0)).setCell (p := ⟨b0, 7, none⟩) hw0 (.int .i64 0)).setCell (p := ⟨b0, 8, none⟩) hw0 (.int .i64 0)).setCell (p := ⟨b0, 9, none⟩) hw0 (.int .i64 0)))
          have GF := hide (((((((((((G0.out.set 0 (.int .i64 0)).set 1 (.int .i64 0)).set 2 (.int .i64 0)).set 3 (.int .i64 0)).set 4 (.int .i64 0)).set 5 (.int .i64 0)).set 6 (.int .i64 0)).set 7 (.int .i64 0)).set 8 (.int .i64 0)).set 9 (.int .i64 0)))
          clear c0 c1 c2 c3 c4 c5 c6 c7 c8 c9 z0 z1 z2 z3 z4 z5 z6 z7 z8 z9 a0 l0 l2 G0 G2 HB
          generalize ((((((((((w4.setCell ⟨b0, 0, none⟩ (.int .i64 0)).setCell ⟨b0, 1, none⟩ (.int .i64 0)).setCell ⟨b0, 2, none⟩ (.int .i64 0)).setCell ⟨b0, 3, none⟩ (.int .i64 0)).setCell ⟨b0, 4, none⟩ (.int .i64 0)).setCell ⟨b0, 5, none⟩ (.int .i64 0)).setCell ⟨b0, 6, none⟩ (.int .i64 0)).setCell ⟨b0, 7, none⟩ (.int .i64 0)).setCell ⟨b0, 8, none⟩ (.int .i64 0)).setCell ⟨b0, 9, none⟩ (.int .i64 0)) = wF at *
          have y0 : wF.cell? ⟨b0, 0, none⟩ = some (.int .i64 0) := by rw [GF.out.cell 0]; rfl
          have y1 : wF.cell? ⟨b0, 1, none⟩ = some (.int .i64 0) := by rw [GF.out.cell 1]; rfl
          have y2 : wF.cell? ⟨b0, 2, none⟩ = some (.int .i64 0) := by rw [GF.out.cell 2]; rfl
          have y3 : wF.cell? ⟨b0, 3, none⟩ = some (.int .i64 0) := by rw [GF.out.cell 3]; rfl
          have y4 : wF.cell? ⟨b0, 4, none⟩ = some (.int .i64 0) := by rw [GF.out.cell 4]; rfl
          have y5 : wF.cell? ⟨b0, 5, none⟩ = some (.int .i64 0) := by rw [GF.out.cell 5]; rfl
          have y6 : wF.cell? ⟨b0, 6, none⟩ = some (.int .i64 0) := by rw [GF.out.cell 6]; rfl
          have y7 : wF.cell? ⟨b0, 7, none⟩ = some (.int .i64 0) := by rw [GF.out.cell 7]; rfl
          have y8 : wF.cell? ⟨b0, 8, none⟩ = some (.int .i64 0) := by rw [GF.out.cell 8]; rfl
          have y9 : wF.cell? ⟨b0, 9, none⟩ = some (.int .i64 0) := by rw [GF.out.cell 9]; rfl
          refine bodyPost_ret (v := .tuple #[.agg #[.int .i64 0, .int .i64 0, .int .i64 0, .int .i64 0, .int .i64 0, .int .i64 0, .int .i64 0, .int .i64 0, .int .i64 0, .int .i64 0], .bool false]) (by simp [results, Try.results16, go_sem, y0, y1, y2, y3, y4, y5, y6, y7, y8, y9]) rfl ⟨?_, HF.out⟩
          rw [HRR.out]
          rfl
      · rw [decide_eq_false hok]
        have HRR : Hid (R = (Cr.zero, false)) := by
          show R = _
          rw [HRC.out, if_neg (fun h => hok h.1)]
        clear hok HRC
        have a0 := G0.out.free
        have c0 : w5.cell? ⟨b0, 0, none⟩ = some (.int .i64 0) := by rw [G0.out.cell 0]; rfl
        have c1 : w5.cell? ⟨b0, 1, none⟩ = some (.int .i64 0) := by rw [G0.out.cell 1]; rfl
        have c2 : w5.cell? ⟨b0, 2, none⟩ = some (.int .i64 0) := by rw [G0.out.cell 2]; rfl
        have c3 : w5.cell? ⟨b0, 3, none⟩ = some (.int .i64 0) := by rw [G0.out.cell 3]; rfl
        have c4 : w5.cell? ⟨b0, 4, none⟩ = some (.int .i64 0) := by rw [G0.out.cell 4]; rfl
        have c5 : w5.cell? ⟨b0, 5, none⟩ = some (.int .i64 0) := by rw [G0.out.cell 5]; rfl
        have c6 : w5.cell? ⟨b0, 6, none⟩ = some (.int .i64 0) := by rw [G0.out.cell 6]; rfl
        have c7 : w5.cell? ⟨b0, 7, none⟩ = some (.int .i64 0) := by rw [G0.out.cell 7]; rfl
        have c8 : w5.cell? ⟨b0, 8, none⟩ = some (.int .i64 0) := by rw [G0.out.cell 8]; rfl
        have c9 : w5.cell? ⟨b0, 9, none⟩ = some (.int .i64 0) := by rw [G0.out.cell 9]; rfl
        go_wp2_with fail
        have HF := hide (((((((((((HB.out.setCell (p := ⟨b0, 0, none⟩) hw0 (.int .i64 0)).setCell (p := ⟨b0, 1, none⟩) hw0 (.int .i64 0)).setCell (p := ⟨b0, 2, none⟩) hw0 (.int .i64 0)).setCell (p := ⟨b0, 3, none⟩) hw0 (.int .i64 0)).setCell (p := ⟨b0, 4, none⟩) hw0 (.int .i64 0)).setCell (p := ⟨b0, 5, none⟩) hw0 (.int .i64 0)).setCell (p := ⟨b0, 6, none⟩) hw0 (.int .i64 0)).setCell (p := ⟨b0, 7, none⟩) hw0 (.int .i64 0)).setCell (p := ⟨b0, 8, none⟩) hw0 (.int .i64 0)).setCell (p := ⟨b0, 9, none⟩) hw0 (.int .i64 0)))
        have GF := hide (((((((((((G0.out.set 0 (.int .i64 0)).set 1 (.int .i64 0)).set 2 (.int .i64 0)).set 3 (.int .i64 0)).set 4 (.int .i64 0)).set 5 (.int .i64 0)).set 6 (.int .i64 0)).set 7 (.int .i64 0)).set 8 (.int .i64 0)).set 9 (.int .i64 0)))
        clear c0 c1 c2 c3 c4 c5 c6 c7 c8 c9 z0 z1 z2 z3 z4 z5 z6 z7 z8 z9 a0 l0 l2 G0 G2 HB
        generalize ((((((((((w5.setCell ⟨b0, 0, none⟩ (.int .i64 0)).setCell ⟨b0, 1, none⟩ (.int .i64 0)).setCell ⟨b0, 2, none⟩ (.int .i64 0)).setCell ⟨b0, 3, none⟩ (.int .i64 0)).setCell ⟨b0, 4, none⟩ (.int .i64 0)).setCell ⟨b0, 5, none⟩ (.int .i64 0)).setCell ⟨b0, 6, none⟩ (.int .i64 0)).setCell ⟨b0, 7, none⟩ (.int .i64 0)).setCell ⟨b0, 8, none⟩ (.int .i64 0)).setCell ⟨b0, 9, none⟩ (.int .i64 0)) = wF at *
        have y0 : wF.cell? ⟨b0, 0, none⟩ = some (.int .i64 0) := by rw [GF.out.cell 0]; rfl
        have y1 : wF.cell? ⟨b0, 1, none⟩ = some (.int .i64 0) := by rw [GF.out.cell 1]; rfl
        have y2 : wF.cell? ⟨b0, 2, none⟩ = some (.int .i64 0) := by rw [GF.out.cell 2]; rfl
        have y3 : wF.cell? ⟨b0, 3, none⟩ = some (.int .i64 0) := by rw [GF.out.cell 3]; rfl
        have y4 : wF.cell? ⟨b0, 4, none⟩ = some (.int .i64 0) := by rw [GF.out.cell 4]; rfl
        have y5 : wF.cell? ⟨b0, 5, none⟩ = some (.int .i64 0) := by rw [GF.out.cell 5]; rfl
        have y6 : wF.cell? ⟨b0, 6, none⟩ = some (.int .i64 0) := by rw [GF.out.cell 6]; rfl
        have y7 : wF.cell? ⟨b0, 7, none⟩ = some (.int .i64 0) := by rw [GF.out.cell 7]; rfl
        have y8 : wF.cell? ⟨b0, 8, none⟩ = some (.int .i64 0) := by rw [GF.out.cell 8]; rfl
        have y9 : wF.cell? ⟨b0, 9, none⟩ = some (.int .i64 0) := by rw [GF.out.cell 9]; rfl
        refine bodyPost_ret (v := .tuple #[.agg #[.int .i64 0, .int .i64 0, .int .i64 0, .int .i64 0, .int .i64 0, .int .i64 0, .int .i64 0, .int .i64 0, .int .i64 0, .int .i64 0], .bool false]) (by simp [results, Try.results16, go_sem, y0, y1, y2, y3, y4, y5, y6, y7, y8, y9]) rfl ⟨?_, HF.out⟩
        rw [HRR.out]
        rfl
end Go.Proofs.Ytflicklgmhgpiaa.P5
