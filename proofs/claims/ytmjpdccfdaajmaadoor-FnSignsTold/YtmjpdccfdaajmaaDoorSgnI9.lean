/- The contract of the program's SignedBy; conditions: texts and lists of at most 2^20, the listed tables hold what their text lays. -/
import Derived.Test.YtmjpdccfdaajmaaDoorSgnI8
namespace Go.Proofs.YtmjpdccfdaajmaaDoor.P4
set_option maxRecDepth 8000
open Go.RowKit P1 P3 Sr

theorem enterF : ∀ args w, (callFunc 49 args).run Tryd.prog w = .ok (.enter 49 args) w := run_enter Tryd.func49 (by kernel_rfl) (by kernel_rfl)
theorem enterL : ∀ args w, (callFunc 61 args).run Tryd.prog w = .ok (.enter 61 args) w := run_enter Tryd.func61 (by kernel_rfl) (by kernel_rfl)

set_option maxHeartbeats 2000000 in
theorem implSigned_calls (k t : List UInt8) (ht : t.length ≤ 1048576) (w : World) (v : Value) (leaf : Int) (E W : List (List UInt8)) (hv : SigAt w v leaf E W) (hG : Glo w) :
    Calls Tryd.prog 19 #[.string ⟨k.toArray⟩, .string ⟨t.toArray⟩, v] w fun e w' => e = .returned (.bool (decide (signedV k t leaf E W))) ∧ Below w.heap.size w w' := by
  obtain ⟨⟨vE, vW, rfl, tE, tW⟩, lE, lW, xE, xW⟩ := hv
  have hbA : Below w.heap.size w (w.alloc (.cells #[.int .i64 leaf, vE, vW] 29)) := (Below.refl _ _).alloc (Nat.le_refl _) _
  have TE := hide (tE.below hbA (Nat.le_refl _))
  have TW := hide (tW.below hbA (Nat.le_refl _))
  have hSB := Blk.new w #[.int .i64 leaf, vE, vW] 29
  have hG1 := hG.below hbA
  obtain ⟨aE, cE, hE⟩ := texts_len tE
  obtain ⟨aW, cW, hW⟩ := texts_len tW
  have XE := hide (fun x hx => Nat.le_trans (xE x hx) (by decide : 1048576 ≤ 1073741824))
  have XW := hide (fun x hx => Nat.le_trans (xW x hx) (by decide : 1048576 ≤ 1073741824))
  subst hE hW
  have HLE := hide (fun (wx : World) (h : TextsAt wx (.slice aE E.length cE) E) => keysOk_calls wx _ E 11 11 rfl h (by omega) XE.out)
  have HLW := hide (fun (wx : World) (h : TextsAt wx (.slice aW W.length cW) W) => keysOk_calls wx _ W 2 2 rfl h (by omega) XW.out)
  have HIN := hide (fun (wx : World) => leafOk_calls leaf wx)
  have HB := hide hbA
  have HSB := hide hSB
  have HG := hide hG1
  clear tE tW hbA xE xW hSB hG1 hG
  have q0 : (w.alloc (.cells #[.int .i64 leaf, .slice aE E.length cE, .slice aW W.length cW] 29)).cell? ⟨w.heap.size, 0, none⟩ = some (.int .i64 leaf) := by rw [HSB.out.cell 0]; rfl
  have q1 : (w.alloc (.cells #[.int .i64 leaf, .slice aE E.length cE, .slice aW W.length cW] 29)).cell? ⟨w.heap.size, 1, none⟩ = some (.slice aE E.length cE) := by rw [HSB.out.cell 1]; rfl
  have q2 : (w.alloc (.cells #[.int .i64 leaf, .slice aE E.length cE, .slice aW W.length cW] 29)).cell? ⟨w.heap.size, 2, none⟩ = some (.slice aW W.length cW) := by rw [HSB.out.cell 2]; rfl
  obtain ⟨r, Er⟩ : ∃ r, Hid (r = decide (signedV k t leaf E W)) := ⟨_, rfl⟩
  rw [← Er.out]
  by_cases h1 : 0 ≤ leaf ∧ leaf ≤ 3
  · simp only [decide_eq_true h1] at HIN
    by_cases h2 : E.length = 11 ∧ allEight E
    · simp only [decide_eq_true h2] at HLE
      by_cases h3 : W.length = 2 ∧ allEight W
      · simp only [decide_eq_true h3] at HLW
        have hf : formOk leaf E W := ⟨h1, h2.1, h3.1, h2.2, h3.2⟩
        obtain ⟨n, rfl⟩ := Int.eq_ofNat_of_zero_le h1.1
        have hn3 : n ≤ 3 := by have := h1.2; omega
        have hr : r = decide (climb (cut8 (sgnText t E 11)) n W 2 = k) := by rw [Er.out]; exact signedV_form k t n E W hf
        have HR := hide hr
        have hE11 := h2.1
        have hW2 := h3.1
        have H8E := hide h2.2
        have H8W := hide h3.2
        clear hr Er hf h1 h2 h3
        simp only [hE11, hW2] at HLE HLW TE TW q0 q1 q2 HSB HB HG ⊢
        have HE11 := hide hE11
        have HW2 := hide hW2
        clear hE11 hW2
        go_enter Tryd.func19, Tryd.ntmps19
        go_wp2_with fail
        refine (HIN.out _).mono ?_
        rintro e w1 ⟨rfl, rfl⟩
        go_wp2_with fail
        refine (HLE.out _ TE.out).mono ?_
        rintro e w1 ⟨rfl, rfl⟩
        go_wp2_with fail
        refine (HLW.out _ TW.out).mono ?_
        rintro e w1 ⟨rfl, rfl⟩
        go_wp2_with fail
        obtain ⟨bS, hbS⟩ : ∃ bS, bS = w.heap.size := ⟨_, rfl⟩
        rw [← hbS] at HSB ⊢
        clear q0 q1 q2 hbS
        generalize w.alloc (.cells #[.int .i64 (n : Int), .slice aE 11 cE, .slice aW 2 cW] 29) = w1 at *
        have HQ := hide (fun wx hg => implQuads_calls t (by omega) wx hg)
        have HQL := hide (fun x hx => quadsN_lt t x hx)
        have hq11 := quadsN_length t
        refine (HQ.out _ HG.out).mono ?_
        rintro e w2 ⟨vq, rfl, hoq, hb2⟩
        obtain ⟨gq, cq, hvq, hgq1, hgq2, hcq, hqc, -⟩ := own_at hoq (by omega)
        subst hvq
        have hqq : ∀ j, j < 11 → w2.cell? ⟨gq, j, none⟩ = some (.int .i64 ((quadsN t).getD j 0 : Nat)) := by
          intro j hj
          rw [hqc j (by omega), show quads t = ints (quadsN t) from rfl]
          simp [cellsI, ints, List.getD_eq_getElem?_getD, show j < (quadsN t).length by omega]
        have HQC := hide hqq
        have HB2 := hide (HB.out.trans (hb2.mono HB.out.size))
        have HS2 := hide (HSB.out.below hb2 HSB.out.lt)
        have TE2 := hide (TE.out.below hb2 (Nat.le_refl _))
        have TW2 := hide (TW.out.below hb2 (Nat.le_refl _))
        have HG2 := hide (HG.out.below hb2)
        clear hb2 hoq hqc hqq HB HSB TE TW HG HQ
        go_wp2_with fail
        have hb3 : Below w2.heap.size w2 (w2.alloc (.cells #[.slice (some ⟨gq, 0, none⟩) 11 cq] 24)) := (Below.refl _ _).alloc (Nat.le_refl _) _
        have HC3 : Hid ((w2.alloc (.cells #[.slice (some ⟨gq, 0, none⟩) 11 cq] 24)).cell? ⟨w2.heap.size, 0, none⟩ = some (.slice (some ⟨gq, 0, none⟩) 11 cq)) := (Blk.new w2 #[.slice (some ⟨gq, 0, none⟩) 11 cq] 24).cell 0
        have hz3 : (w2.alloc (.cells #[.slice (some ⟨gq, 0, none⟩) 11 cq] 24)).heap.size = w2.heap.size + 1 := by simp
        have HQ3 : Hid (∀ j, j < 11 → (w2.alloc (.cells #[.slice (some ⟨gq, 0, none⟩) 11 cq] 24)).cell? ⟨gq, j, none⟩ = some (.int .i64 ((quadsN t).getD j 0 : Nat))) := fun j hj => by
          rw [hb3.cell (p := ⟨gq, j, none⟩) hgq2]
          exact HQC.out j hj
        have HB3 := hide (HB2.out.trans (hb3.mono HB2.out.size))
        have HS3 := hide (HS2.out.below hb3 HS2.out.lt)
        have TE3 := hide (TE2.out.below hb3 (Nat.le_refl _))
        have TW3 := hide (TW2.out.below hb3 (Nat.le_refl _))
        have HG3 := hide (HG2.out.below hb3)
        obtain ⟨bQ, hbQ⟩ : ∃ bQ, bQ = w2.heap.size := ⟨_, rfl⟩
        rw [← hbQ] at HC3 hz3 ⊢
        generalize w2.alloc (.cells #[.slice (some ⟨gq, 0, none⟩) 11 cq] 24) = w3 at *
        have hgq3 : gq < w3.heap.size := by omega
        have hbQ3 : bQ < w3.heap.size := by omega
        have hbS3 := HS3.out.lt
        clear hb3 HQC HB2 HS2 TE2 TW2 HG2 hbQ hz3
        obtain ⟨aE', cE', hvE, hEc⟩ := TE3.out
        obtain ⟨gE, oE, haE, hgE, -⟩ := hEc 0 (by have := HE11.out; omega)
        subst haE
        simp only [Value.slice.injEq] at hvE
        obtain ⟨rfl, -, rfl⟩ := hvE
        have HEC : Hid (∀ j, j < 11 → w3.cell? ⟨gE, oE + j, none⟩ = some (.string ⟨(E.getD j []).toArray⟩)) := fun j hj => by
          obtain ⟨g', o', e1, _, e3⟩ := hEc j (by have := HE11.out; omega)
          cases e1
          rw [e3]
          simp [List.getD_eq_getElem?_getD, show j < E.length by have := HE11.out; omega]
        obtain ⟨aW', cW', hvW, hWc⟩ := TW3.out
        obtain ⟨gW, oW, haW, hgW, -⟩ := hWc 0 (by have := HW2.out; omega)
        subst haW
        simp only [Value.slice.injEq] at hvW
        obtain ⟨rfl, -, rfl⟩ := hvW
        have HWC : Hid (∀ j, j < 2 → w3.cell? ⟨gW, oW + j, none⟩ = some (.string ⟨(W.getD j []).toArray⟩)) := fun j hj => by
          obtain ⟨g', o', e1, _, e3⟩ := hWc j (by have := HW2.out; omega)
          cases e1
          rw [e3]
          simp [List.getD_eq_getElem?_getD, show j < W.length by have := HW2.out; omega]
        clear hEc hWc TE3 TW3
        have hS1 : w3.cell? ⟨bS, 1, none⟩ = some (.slice (some ⟨gE, oE, none⟩) 11 cE) := by rw [HS3.out.cell 1]; rfl
        have HF1 : Hid (FnAt w3 (.func (.func 59) #[] #[.pointer (some ⟨bS, 0, none⟩)]) (fun i => .string ⟨(E.getD i []).toArray⟩)) := by
          refine ⟨_, _, rfl, run_enter Tryd.func59 (by kernel_rfl) (by kernel_rfl), fun wx hwx i hi => ?_⟩
          exact signed1_calls i hi _ bS gE oE cE wx ((hwx.cell (p := ⟨bS, 1, none⟩) hbS3).trans hS1) ((hwx.cell (p := ⟨gE, oE + i, none⟩) hgE).trans (HEC.out i hi))
        have HF2 : Hid (FnAt w3 (.func (.func 60) #[] #[.pointer (some ⟨bQ, 0, none⟩)]) (fun i => .int .i64 (3 - ((quadsN t).getD i 0 : Nat)))) := by
          refine ⟨_, _, rfl, run_enter Tryd.func60 (by kernel_rfl) (by kernel_rfl), fun wx hwx i hi => ?_⟩
          exact signed2_calls i hi _ (HQL.out _ (by rw [List.getD_eq_getElem?_getD, List.getElem?_eq_getElem (by omega)]; exact List.getElem_mem _)) bQ gq cq wx ((hwx.cell (p := ⟨bQ, 0, none⟩) hbQ3).trans HC3.out) ((hwx.cell (p := ⟨gq, i, none⟩) hgq3).trans (HQ3.out i hi))
        have HE8 : Hid (∀ i, i < 11 → (E.getD i []).length = 8) := fun i hi => by
          rw [show E.getD i [] = E[i]'(by have := HE11.out; omega) by simp [List.getD_eq_getElem?_getD, show i < E.length by have := HE11.out; omega]]
          exact H8E.out _ (List.getElem_mem _)
        have HW8 : Hid (∀ i, i < 2 → (W.getD i []).length = 8) := fun i hi => by
          rw [show W.getD i [] = W[i]'(by have := HW2.out; omega) by simp [List.getD_eq_getElem?_getD, show i < W.length by have := HW2.out; omega]]
          exact H8W.out _ (List.getElem_mem _)
        have n0 : ∀ p : Near w3.heap.size w3, p.w.cell? ⟨bS, 0, none⟩ = some (.int .i64 (n : Int)) := fun p => by rw [(HS3.out.below p.h hbS3).cell 0]; rfl
        have hnn := Near.some w3.heap.size w3
        clear hS1 HEC HQ3 HC3 H8E H8W HQL
        go_wp2_with fail
        refine wp_region_open (fun wd => ∃ p : Near w3.heap.size w3, wd = p.w) ⟨⟨_, (Below.refl _ _).drew⟩, rfl⟩ (by kernel_rfl) ?_
        rintro wd ⟨pd, rfl⟩
        refine wpAny_seg_lit 0 2 6 rfl (by decide) (by kernel_rfl) (by kernel_rfl) (fun _ _ _ _ _ h => h) ?_
        simp only [List.take_succ_cons, List.take_zero, List.drop_zero]
        repeat (go_big_quiet_step (fail))
        refine wpQuiet_nil ?_
        refine wpAny_seg_lit 4 1 5 rfl (by decide) (by kernel_rfl) (by kernel_rfl) (fun _ _ _ _ _ h => h) ?_
        simp only [List.take_succ_cons, List.take_zero, List.drop_succ_cons, List.drop_zero]
        repeat (go_big_quiet_step (fail))
        refine wpQuiet_nil ?_
        refine wpAny_of_K (c := 7) (D := fun w' => ∃ p : Near w3.heap.size w3, w' = p.w) _ _ _ _ ?_
        refine wpAnyK_load 5 (by kernel_rfl) (by kernel_rfl) (by kernel_rfl) (by kernel_rfl) (by kernel_rfl) (by kernel_rfl) (by decide) (fun _ _ _ _ _ h => h) ⟨pd, rfl⟩ ?_
        simp only [List.take_succ_cons, List.take_zero, List.drop_succ_cons, List.drop_zero]
        go_big_quiet_step (fail)
        refine wpQuiet_nil ?_
        refine wpAnyK_call 2 (by kernel_rfl) rfl rfl 49 _ _ rfl enterF #[.func (.func 59) #[] #[.pointer (some ⟨bS, 0, none⟩)], .func (.func 60) #[] #[.pointer (some ⟨bQ, 0, none⟩)]] rfl
          (fun u w' => FnAt w' u (fun i : Nat => .string ⟨(chainV (E.getD i []) (3 - ((quadsN t).getD i 0 : Nat))).toArray⟩) ∧ Below w3.heap.size w3 w') ((further_calls (fun i : Nat => E.getD i []) (fun i : Nat => (3 - ((quadsN t).getD i 0 : Nat) : Int)) _ _ pd.w (HF1.out.below pd.h) (HF2.out.below pd.h) (HG3.out.below pd.h) (fun i hi => by have := HE8.out i hi; omega)).mono (fun e w' ⟨u, h1, h2, h3⟩ => ⟨u, h1, h2, pd.h.trans (h3.mono pd.h.size)⟩)) ?_
        rintro u w4 ⟨hF4, hb4⟩
        refine ⟨⟨⟨_, hb4⟩, rfl⟩, ?_⟩
        have hlk := leafKeyOf_calls (fun i : Nat => chainV (E.getD i []) (3 - ((quadsN t).getD i 0 : Nat))) u w4 hF4 (HG3.out.below hb4) (fun i hi => by
          have h8 := HE8.out i hi
          unfold chainV
          rw [chain8 _ _ h8]
          omega)
        rw [sgn_lst] at hlk
        have hcl := cut8_length (sgnText t E 11)
        obtain ⟨C, EC⟩ : ∃ C, Hid (C = cut8 (sgnText t E 11)) := ⟨_, rfl⟩
        rw [← EC.out] at hlk hcl HR
        clear EC
        refine wpAnyK_call 3 (by kernel_rfl) rfl rfl 61 _ _ rfl enterL #[u] rfl (fun u' w' => u' = .string ⟨C.toArray⟩ ∧ Below w3.heap.size w3 w') (hlk.mono (fun e w' ⟨h1, h2⟩ => ⟨_, h1, rfl, hb4.trans (h2.mono hb4.size)⟩)) ?_
        rintro u' w5 ⟨rfl, hb5⟩
        refine ⟨⟨⟨_, hb5⟩, rfl⟩, ?_⟩
        refine wpAnyK_value (i := 6) (v := .string ⟨C.toArray⟩) (w' := w5) (by kernel_rfl) rfl rfl rfl ⟨⟨_, hb5⟩, rfl⟩ ?_
        refine wpAnyK_last (by kernel_rfl) (by decide) ?_
        refine wpAny_rest 7 rfl (by kernel_rfl) ?_
        simp only [List.drop_succ_cons, List.drop_zero]
        have n2 : w5.cell? ⟨bS, 2, none⟩ = some (.slice (some ⟨gW, oW, none⟩) 2 cW) := by rw [(HS3.out.below hb5 hbS3).cell 2]; rfl
        have HB5 := hide hb5
        clear hlk hF4 hb4 hb5 n0 hnn HF1 HF2
        go_wp2_with fail
        clear n2
        go_loopw [10, 11, 43] (fun v a i wr => ∃ j : Nat, j ≤ 2 ∧ i = .int .i64 j ∧ a = .int .i64 ((n / 2 ^ j : Nat) : Int) ∧ v = .string ⟨(climb C n W j).toArray⟩ ∧ Below w3.heap.size w3 wr) (fun _ _ i _ => 2 - (intOf i).toNat)
        case atStart => exact ⟨0, by omega, rfl, by simp, rfl, HB5.out⟩
        case round =>
          clear HB5
          obtain ⟨j, hj, rfl, rfl, rfl, hb⟩ := hrel
          have lc := climb_length C n W hcl j
          by_cases hlt : j < 2
          · have hd : decide ((j : Int) < 2) = true := by simp; omega
            have n4 : wr.cell? ⟨gW, oW + j, none⟩ = some (.string ⟨(W.getD j []).toArray⟩) := (hb.cell (p := ⟨gW, oW + j, none⟩) hgW).trans (HWC.out j hlt)
            have l8 := HW8.out j hlt
            have HGr := hide (HG3.out.below hb)
            have HB := hide hb
            clear hb
            obtain ⟨m, Em⟩ : ∃ m, Hid (m = n / 2 ^ j) := ⟨_, rfl⟩
            have hm3 : m ≤ 3 := by rw [Em.out]; exact Nat.le_trans (Nat.div_le_self _ _) hn3
            rw [← Em.out]
            have HNx : Hid (climb C n W (j + 1) = if (n / 2 ^ j) % 2 = 0 then node (climb C n W j) (W.getD j []) else node (W.getD j []) (climb C n W j)) := rfl
            generalize W.getD j [] = x at *
            obtain ⟨c0, E0⟩ : ∃ c0, Hid (c0 = climb C n W j) := ⟨_, rfl⟩
            rw [← E0.out] at lc HNx ⊢
            by_cases hev : (n / 2 ^ j) % 2 = 0
            · have hb2 : (((m : Nat) : Int) % 2 == 0) = true := by rw [← Em.out] at hev; simp; omega
              rw [if_pos hev] at HNx
              have HCT := hide (fun wx hg => node_calls c0 x (by omega) (by omega) wx hg)
              rw [← HNx.out] at HCT
              obtain ⟨c1, E1⟩ : ∃ c1, Hid (c1 = climb C n W (j + 1)) := ⟨_, rfl⟩
              rw [← E1.out] at HCT
              clear HNx hev
              go_wp2_with fail
              refine (HCT.out _ HGr.out).mono ?_
              rintro e w6 ⟨rfl, hb6⟩
              have HB6 := hide (HB.out.trans (hb6.mono HB.out.size))
              clear hb6 n4
              go_wp2_with fail
              go_roundw
              case rel => exact ⟨j + 1, by omega, by go_num, by rw [Nat.pow_succ, ← Nat.div_div_eq_div_mul, ← Em.out]; go_num, by rw [← E1.out], HB6.out⟩
              case measure => simp [intOf]; omega
            · have hb2 : (((m : Nat) : Int) % 2 == 0) = false := by rw [← Em.out] at hev; simp; omega
              rw [if_neg hev] at HNx
              have HCT := hide (fun wx hg => node_calls x c0 (by omega) (by omega) wx hg)
              rw [← HNx.out] at HCT
              obtain ⟨c1, E1⟩ : ∃ c1, Hid (c1 = climb C n W (j + 1)) := ⟨_, rfl⟩
              rw [← E1.out] at HCT
              clear HNx hev
              go_wp2_with fail
              refine (HCT.out _ HGr.out).mono ?_
              rintro e w6 ⟨rfl, hb6⟩
              have HB6 := hide (HB.out.trans (hb6.mono HB.out.size))
              clear hb6 n4
              go_wp2_with fail
              go_roundw
              case rel => exact ⟨j + 1, by omega, by go_num, by rw [Nat.pow_succ, ← Nat.div_div_eq_div_mul, ← Em.out]; go_num, by rw [← E1.out], HB6.out⟩
              case measure => simp [intOf]; omega
          · have hj2 : j = 2 := by omega
            have hd : decide ((j : Int) < 2) = false := by simp; omega
            have HB := hide hb
            rw [hj2]
            generalize climb C n W 2 = cf at *
            clear hb hj2
            go_wp2_with fail
            go_ret
            refine ⟨congrArg (fun z => Ending.returned (.bool z)) ?_, HB3.out.trans (HB.out.mono HB3.out.size)⟩
            show (cf == k) = r
            rw [HR.out]
            by_cases h : cf = k <;> simp [h]
      · simp only [decide_eq_false h3] at HLW
        have hr : r = false := by rw [Er.out]; exact decide_eq_false (fun h => h3 ⟨h.1.2.2.1, h.1.2.2.2.2⟩)
        subst hr
        clear h1 h2 h3 Er
        go_enter Tryd.func19, Tryd.ntmps19
        go_wp2_with fail
        refine (HIN.out _).mono ?_
        rintro e w1 ⟨rfl, rfl⟩
        go_wp2_with fail
        refine (HLE.out _ TE.out).mono ?_
        rintro e w1 ⟨rfl, rfl⟩
        go_wp2_with fail
        refine (HLW.out _ TW.out).mono ?_
        rintro e w1 ⟨rfl, rfl⟩
        go_wp2_with fail
        go_ret
        exact ⟨rfl, HB.out⟩
    · simp only [decide_eq_false h2] at HLE
      have hr : r = false := by rw [Er.out]; exact decide_eq_false (fun h => h2 ⟨h.1.2.1, h.1.2.2.2.1⟩)
      subst hr
      clear h1 h2 Er
      go_enter Tryd.func19, Tryd.ntmps19
      go_wp2_with fail
      refine (HIN.out _).mono ?_
      rintro e w1 ⟨rfl, rfl⟩
      go_wp2_with fail
      refine (HLE.out _ TE.out).mono ?_
      rintro e w1 ⟨rfl, rfl⟩
      go_wp2_with fail
      go_ret
      exact ⟨rfl, HB.out⟩
  · simp only [decide_eq_false h1] at HIN
    have hr : r = false := by rw [Er.out]; exact decide_eq_false (fun h => h1 h.1.1)
    subst hr
    clear h1 Er
    go_enter Tryd.func19, Tryd.ntmps19
    go_wp2_with fail
    refine (HIN.out _).mono ?_
    rintro e w1 ⟨rfl, rfl⟩
    go_wp2_with fail
    go_ret
    exact ⟨rfl, HB.out⟩
end Go.Proofs.YtmjpdccfdaajmaaDoor.P4
