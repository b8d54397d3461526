/- The walk of FnSigns: it returns true; condition: the listed tables hold what their text lays. -/
import Derived.Test.YtmjpdccfdaajmaaDoorZG
import Derived.Test.YtmjpdccfdaajmaaDoorZH
import Derived.Test.YtmjpdccfdaajmaaDoorZF
import Derived.Test.YtmjpdccfdaajmaaDoorZJ
namespace Go.Proofs.YtmjpdccfdaajmaaDoor.P4
set_option maxRecDepth 8000
open Go.RowKit P1 P3

set_option maxHeartbeats 4000000 in
theorem signsWalk (w : World) (a : Option Addr) (len cap : Nat) (z : List Int) (hr : Frame.IsRow .u8 w a len cap z) (hG : Glo w) :
    Calls Tryd.prog 3 #[.slice a len cap] w fun e w' => e = .returned (.bool true) ∧ Below w.heap.size w w' := by
  have Hr := hide hr
  have HG := hide hG
  clear hr hG
  by_cases hbig : 1048576 < len
  · have hd : decide (1048576 < (len : Int)) = true := by simp; omega
    go_enter Tryd.func3, Tryd.ntmps3
    go_wp2_with fail
    refine (Cu.big_calls _ a len cap).mono ?_
    rintro e w1 ⟨rfl, rfl⟩
    rw [hd]
    go_wp2
    go_ret
    exact ⟨rfl, Below.refl _ _⟩
  · have hd : decide (1048576 < (len : Int)) = false := by simp; omega
    have HC := hide (Cu.code_of_row Hr.out (by omega))
    clear Hr hbig
    go_enter Tryd.func3, Tryd.ntmps3
    go_wp2_with fail
    refine (Cu.big_calls _ a len cap).mono ?_
    rintro e w1 ⟨rfl, rfl⟩
    rw [hd]
    clear hd
    go_wp2_with fail
    refine (Cu.places_calls _ a len cap HC.out).mono ?_
    rintro e w2 ⟨v, l, hl, hall, rfl, hown, hb⟩
    have HB2 := hide hb
    have HC2 := hide (HC.out.below (fun k hk => hb.block k hk))
    obtain ⟨g, cp, hv, hg1, hg2, hcp, hcells, -⟩ := own_at hown (by omega)
    subst hv
    rw [hl] at *
    obtain ⟨l0, l1, lr, rfl⟩ : ∃ l0 l1 lr, l = l0 :: l1 :: lr := by
      match l, hl with
      | l0 :: l1 :: lr, _ => exact ⟨l0, l1, lr, rfl⟩
    have hb0 := hall l0 (by simp)
    have hb1 := hall l1 (by simp)
    obtain ⟨m0, rfl⟩ := Int.eq_ofNat_of_zero_le hb0.1
    obtain ⟨m1, rfl⟩ := Int.eq_ofNat_of_zero_le hb1.1
    have hm0 : m0 < 10000 := by have := hb0.2; omega
    have hm1 : m1 < 10000 := by have := hb1.2; omega
    have q0 : w2.cell? ⟨g, 0, none⟩ = some (.int .i64 (m0 : Int)) := by rw [hcells 0 (by omega)]; rfl
    have q1 : w2.cell? ⟨g, 1, none⟩ = some (.int .i64 (m1 : Int)) := by rw [hcells 1 (by omega)]; rfl
    clear hcells hall hb0 hb1 hown hb HC hl
    go_wp2_with fail
    refine (Cu.textOf_calls _ a len cap (HC2.out.more HB2.out.size)).mono ?_
    rintro e w3 ⟨t, ht, rfl, hb⟩
    have p0 : w3.cell? ⟨g, 0, none⟩ = some (.int .i64 (m0 : Int)) := (hb.cell (p := ⟨g, 0, none⟩) hg2).trans q0
    have p1 : w3.cell? ⟨g, 1, none⟩ = some (.int .i64 (m1 : Int)) := (hb.cell (p := ⟨g, 1, none⟩) hg2).trans q1
    have HB3 := hide (HB2.out.trans (hb.mono HB2.out.size))
    clear hb q0 q1 HC2 HB2
    obtain ⟨n, hn⟩ : ∃ n, n = m1 % 4 := ⟨_, rfl⟩
    have hn3 : n ≤ 3 := by omega
    have hmod : (m1 : Int) % 4 = (n : Int) := by omega
    have HMOD := hide hmod
    have hfew : few (m0 : Int) := ⟨by omega, by omega⟩
    have HFEW := hide hfew
    have H2 := hide (fun wx (hg : Glo wx) => implSign_calls (m0 : Int) (n : Int) t (by omega) wx hg)
    have hok : sOk (m0 : Int) (n : Int) := ⟨⟨by omega, by omega⟩, hfew⟩
    have k2 : sLeaf (m0 : Int) (n : Int) = n := by unfold sLeaf; rw [if_pos hok]
    have k3 : sEnds (m0 : Int) (n : Int) t = endN m0 n t 11 := by unfold sEnds; rw [if_pos hok]
    have k4 : sWay (m0 : Int) (n : Int) = wayN m0 n 2 := by unfold sWay; rw [if_pos hok]; rfl
    simp only [decide_eq_true hok, k2, k3, k4] at H2
    clear hok k2 k3 k4 hfew hmod hn
    go_wp2_with fail
    rw [HMOD.out]
    refine (H2.out _ (HG.out.below HB3.out)).mono ?_
    rintro e w4 ⟨v1, rfl, hv1, hb4⟩
    obtain ⟨vE1, vW1, hv1e, q1, q2, -⟩ := hv1.val
    rw [endN_length] at q1
    rw [wayN_length] at q2
    obtain ⟨gE, cE, hvE, hgE1, hgE2, hcE, hEc, -⟩ := own_at q1 (by omega)
    obtain ⟨gW, cW, hvW, hgW1, hgW2, hcW, hWc, -⟩ := own_at q2 (by omega)
    subst hvE hvW
    have hEC : ∀ j, j < 11 → w4.cell? ⟨gE, j, none⟩ = some (.string ⟨(chain ((quadsN t).getD j 0) (secret m0 n j)).toArray⟩) := by
      intro j hj
      rw [hEc j (by omega)]
      simp [cellsS, endN, hj]
    have hbA : Below w4.heap.size w4 (w4.alloc (.cells #[.int .i64 (n : Int), .slice (some ⟨gE, 0, none⟩) 11 cE, .slice (some ⟨gW, 0, none⟩) 2 cW] 29)) := (Below.refl _ _).alloc (Nat.le_refl _) _
    have HV5 := hide (hv1.below hbA)
    have HA5 := hide (Blk.new w4 #[.int .i64 (n : Int), .slice (some ⟨gE, 0, none⟩) 11 cE, .slice (some ⟨gW, 0, none⟩) 2 cW] 29)
    have hb4' := HB3.out.trans (hb4.mono HB3.out.size)
    have HB5 := hide (hb4'.trans (hbA.mono hb4'.size))
    have HEC5 : Hid (∀ j, j < 11 → (w4.alloc (.cells #[.int .i64 (n : Int), .slice (some ⟨gE, 0, none⟩) 11 cE, .slice (some ⟨gW, 0, none⟩) 2 cW] 29)).cell? ⟨gE, j, none⟩ = some (.string ⟨(chain ((quadsN t).getD j 0) (secret m0 n j)).toArray⟩)) := fun j hj => by
      rw [hbA.cell (p := ⟨gE, j, none⟩) hgE2]
      exact hEC j hj
    have hz45 := hbA.size
    subst hv1e
    clear hv1 q1 q2 hEc hWc hEC hb4 hb4' hbA HB3 p0 p1 H2
    go_wp2_with fail
    obtain ⟨b7, hb7⟩ : ∃ b7, b7 = w4.heap.size := ⟨_, rfl⟩
    rw [← hb7] at HA5 ⊢
    clear hb7
    generalize w4.alloc (.cells #[.int .i64 (n : Int), .slice (some ⟨gE, 0, none⟩) 11 cE, .slice (some ⟨gW, 0, none⟩) 2 cW] 29) = w5 at *
    have hgE5 : gE < w5.heap.size := by omega
    refine (implQuads_calls t (by omega) w5 (HG.out.below HB5.out)).mono ?_
    rintro e w6 ⟨vq, rfl, hoq, hb6⟩
    have hq11 := quadsN_length t
    obtain ⟨gq, cq, hvq, hgq1, hgq2, hcq, hqc, -⟩ := own_at hoq (by omega)
    subst hvq
    have hqq : ∀ j, j < 11 → w6.cell? ⟨gq, j, none⟩ = some (.int .i64 ((quadsN t).getD j 0 : Nat)) := by
      intro j hj
      rw [hqc j (by omega), show quads t = ints (quadsN t) from rfl]
      simp [cellsI, ints, List.getD_eq_getElem?_getD, show j < (quadsN t).length by omega]
    have HQC := hide hqq
    have HEC6 : Hid (∀ j, j < 11 → w6.cell? ⟨gE, j, none⟩ = some (.string ⟨(chain ((quadsN t).getD j 0) (secret m0 n j)).toArray⟩)) := fun j hj => by
      rw [hb6.cell (p := ⟨gE, j, none⟩) hgE5]
      exact HEC5.out j hj
    have hgE6 : gE < w6.heap.size := Nat.lt_of_lt_of_le hgE5 hb6.size
    have HA6 := hide (HA5.out.below hb6 HA5.out.lt)
    have HV6 := hide (HV5.out.below hb6)
    have HB6 := hide (HB5.out.trans (hb6.mono HB5.out.size))
    have HG6 := hide (HG.out.below HB6.out)
    have l7 := HA6.out.lt
    have x1 : w6.cell? ⟨b7, 1, none⟩ = some (.slice (some ⟨gE, 0, none⟩) 11 cE) := by rw [HA6.out.cell 1]; rfl
    have HQL := hide (fun i hi => quad_lt t i hi)
    have HTN := hide (fun k hk => take_next (quadsN t) k hk)
    have HTS := hide (fun k hk => take_sum_le t k hk)
    clear hoq hqc hqq hb6 HA5 HV5 HEC5 HB5 hz45
    go_wp2_with fail
    clear x1
    go_loopw [10, 11] (fun sm i wr => ∃ k : Nat, k ≤ 11 ∧ i = .int .i64 k ∧ sm = .int .i64 (((quadsN t).take (min k 8)).sum : Nat) ∧ Below w6.heap.size w6 wr) (fun _ i _ => 11 - (intOf i).toNat)
    case atStart => exact ⟨0, by omega, rfl, rfl, Below.refl _ _⟩
    case round =>
      obtain ⟨k, hk, rfl, rfl, hb⟩ := hrel
      have HB := hide hb
      by_cases hlt : k < 11
      · have hd : decide ((k : Int) < 11) = true := by simp; omega
        have hq4 := HQL.out k hlt
        have c1 : wr.cell? ⟨gq, k, none⟩ = some (.int .i64 ((quadsN t).getD k 0 : Nat)) := (hb.cell (p := ⟨gq, k, none⟩) hgq2).trans (HQC.out k hlt)
        have n1 : ∀ p : Near wr.heap.size wr, p.w.cell? ⟨b7, 1, none⟩ = some (.slice (some ⟨gE, 0, none⟩) 11 cE) := fun p => by rw [((HA6.out.below hb l7).below p.h (Nat.lt_of_lt_of_le l7 hb.size)).cell 1]; rfl
        have n2 : ∀ p : Near wr.heap.size wr, p.w.cell? ⟨gE, k, none⟩ = some (.string ⟨(chain ((quadsN t).getD k 0) (secret m0 n k)).toArray⟩) := fun p => ((hb.trans (p.h.mono hb.size)).cell (p := ⟨gE, k, none⟩) hgE6).trans (HEC6.out k hlt)
        have n3 : ∀ p : Near wr.heap.size wr, p.w.cell? ⟨gq, k, none⟩ = some (.int .i64 ((quadsN t).getD k 0 : Nat)) := fun p => ((hb.trans (p.h.mono hb.size)).cell (p := ⟨gq, k, none⟩) hgq2).trans (HQC.out k hlt)
        have hnn := Near.some wr.heap.size wr
        have hsec := secret_length (m0 : Int) (n : Int) (k : Int)
        have hcl := chain_le ((quadsN t).getD k 0) (secret m0 n k)
        have HC1 := hide (fun (p : Near wr.heap.size wr) => specChain_calls (chain ((quadsN t).getD k 0) (secret m0 n k)) (by omega) (3 - ((quadsN t).getD k 0 : Nat)) p.w)
        have HC2 := hide (fun (p : Near wr.heap.size wr) => implSecret_calls (m0 : Int) (n : Int) (k : Int) p.w (HG6.out.below (hb.trans (p.h.mono hb.size))))
        have HC3 := hide (fun (p : Near wr.heap.size wr) => specChain_calls (secret m0 n k) (by omega) 3 p.w)
        have e1 : chainV (chain ((quadsN t).getD k 0) (secret m0 n k)) (3 - ((quadsN t).getD k 0 : Nat)) = chain 3 (secret m0 n k) := by
          rw [show (3 : Int) - ((quadsN t).getD k 0 : Nat) = ((3 - (quadsN t).getD k 0 : Nat) : Int) by omega, chainV_nat _ _ (by omega), chain_add]
          congr 1
          omega
        have e3 : chainV (secret m0 n k) 3 = chain 3 (secret m0 n k) := chainV_nat _ 3 (by omega)
        simp only [e1] at HC1
        simp only [e3] at HC3
        have HSN : Hid (k < 8 → ((quadsN t).take (min (k + 1) 8)).sum = ((quadsN t).take (min k 8)).sum + (quadsN t).getD k 0) := fun h8 => by
          rw [show min (k + 1) 8 = k + 1 by omega, show min k 8 = k by omega, HTN.out k (by omega)]
          simp
        have HSE : Hid (¬ k < 8 → ((quadsN t).take (min (k + 1) 8)).sum = ((quadsN t).take (min k 8)).sum) := fun h8 => by
          rw [show min (k + 1) 8 = min k 8 by omega]
        have hS24 := HTS.out (min k 8) (by omega)
        obtain ⟨S1, ES1⟩ : ∃ S1, Hid (S1 = ((quadsN t).take (min (k + 1) 8)).sum) := ⟨_, rfl⟩
        rw [← ES1.out] at HSN HSE
        generalize ((quadsN t).take (min k 8)).sum = S0 at *
        generalize (quadsN t).getD k 0 = q at *
        generalize chain q (secret m0 n k) = ce at *
        generalize chain 3 (secret m0 n k) = c3 at *
        generalize secret m0 n k = sc at *
        have hqn : ¬ ((q : Int) < 0) := by omega
        have hq3 : ¬ ((3 : Int) < (q : Int)) := by omega
        clear e1 e3 hb
        by_cases h8 : k < 8
        · have hd8 : decide ((k : Int) < 8) = true := by simp; omega
          have HSN' := hide (HSN.out h8)
          clear HSN HSE h8
          go_wp2_with fail
          refine wp_region_near wr.heap.size wr (Below.refl _ _) (by kernel_rfl) (by kernel_rfl) ?_
          repeat (go_big_quiet_step (fail))
          go_big_quiet_step (exact calls_near (Nat.le_refl _) (HC1.out _))
          repeat (go_big_quiet_step (fail))
          go_big_quiet_step (exact calls_near (Nat.le_refl _) (HC2.out _))
          repeat (go_big_quiet_step (fail))
          go_big_quiet_step (exact calls_near (Nat.le_refl _) (HC3.out _))
          repeat (go_big_quiet_step (fail))
          refine wpQuiet_nil ?_
          rintro w7 ⟨pq, rfl⟩
          have hqb := pq.h
          obtain ⟨w7, hq⟩ := pq
          simp only at hqb ⊢
          have HB7 := hide (HB.out.trans (hqb.mono HB.out.size))
          clear hq hqb n1 n2 n3 hnn
          go_wp2_with fail
          go_roundw
          case rel => exact ⟨k + 1, by omega, by go_num, by rw [← ES1.out, HSN'.out]; go_num, HB7.out⟩
          case measure => simp [intOf]; omega
        · have hd8 : decide ((k : Int) < 8) = false := by simp; omega
          have HSE' := hide (HSE.out h8)
          clear HSN HSE h8
          go_wp2_with fail
          refine wp_region_near wr.heap.size wr (Below.refl _ _) (by kernel_rfl) (by kernel_rfl) ?_
          repeat (go_big_quiet_step (fail))
          go_big_quiet_step (exact calls_near (Nat.le_refl _) (HC1.out _))
          repeat (go_big_quiet_step (fail))
          go_big_quiet_step (exact calls_near (Nat.le_refl _) (HC2.out _))
          repeat (go_big_quiet_step (fail))
          go_big_quiet_step (exact calls_near (Nat.le_refl _) (HC3.out _))
          repeat (go_big_quiet_step (fail))
          refine wpQuiet_nil ?_
          rintro w7 ⟨pq, rfl⟩
          have hqb := pq.h
          obtain ⟨w7, hq⟩ := pq
          simp only at hqb ⊢
          have HB7 := hide (HB.out.trans (hqb.mono HB.out.size))
          clear hq hqb n1 n2 n3 hnn
          go_wp2_with fail
          go_roundw
          case rel => exact ⟨k + 1, by omega, by go_num, by rw [← ES1.out, HSE'.out], HB7.out⟩
          case measure => simp [intOf]; omega
      · have hk11 : k = 11 := by omega
        have hd : decide ((k : Int) < 11) = false := by simp; omega
        have h24 := quads_24 t
        have hS24 := HTS.out 8 (by omega)
        have h8 := HQL.out 8 (by omega)
        have h9 := HQL.out 9 (by omega)
        have h10 := HQL.out 10 (by omega)
        rw [show min k 8 = 8 by omega]
        have n8 : ∀ p : Near wr.heap.size wr, p.w.cell? ⟨gq, 8, none⟩ = some (.int .i64 ((quadsN t).getD 8 0 : Nat)) := fun p => ((hb.trans (p.h.mono hb.size)).cell (p := ⟨gq, 8, none⟩) hgq2).trans (HQC.out 8 (by omega))
        have n9 : ∀ p : Near wr.heap.size wr, p.w.cell? ⟨gq, 9, none⟩ = some (.int .i64 ((quadsN t).getD 9 0 : Nat)) := fun p => ((hb.trans (p.h.mono hb.size)).cell (p := ⟨gq, 9, none⟩) hgq2).trans (HQC.out 9 (by omega))
        have n10 : ∀ p : Near wr.heap.size wr, p.w.cell? ⟨gq, 10, none⟩ = some (.int .i64 ((quadsN t).getD 10 0 : Nat)) := fun p => ((hb.trans (p.h.mono hb.size)).cell (p := ⟨gq, 10, none⟩) hgq2).trans (HQC.out 10 (by omega))
        generalize ((quadsN t).take 8).sum = S at *
        generalize (quadsN t).getD 8 0 = q8 at *
        generalize (quadsN t).getD 9 0 = q9 at *
        generalize (quadsN t).getD 10 0 = q10 at *
        have e24 : ((S : Int) + 16 * (q8 : Int) + 4 * (q9 : Int) + (q10 : Int) == 24) = true := by simp; omega
        have hAw := HA6.out.below hb l7
        have lw7 := hAw.lt
        have s0 : ∀ p : Near wr.heap.size wr, p.w.cell? ⟨b7, 0, none⟩ = some (.int .i64 (n : Int)) := fun p => by rw [(hAw.below p.h lw7).cell 0]; rfl
        have s1 : ∀ p : Near wr.heap.size wr, p.w.cell? ⟨b7, 1, none⟩ = some (.slice (some ⟨gE, 0, none⟩) 11 cE) := fun p => by rw [(hAw.below p.h lw7).cell 1]; rfl
        have s2 : ∀ p : Near wr.heap.size wr, p.w.cell? ⟨b7, 2, none⟩ = some (.slice (some ⟨gW, 0, none⟩) 2 cW) := fun p => by rw [(hAw.below p.h lw7).cell 2]; rfl
        have HGp : Hid (∀ p : Near wr.heap.size wr, Glo p.w) := fun p => HG6.out.below (hb.trans (p.h.mono hb.size))
        have HK := hide (fun (p : Near wr.heap.size wr) => implKey_calls (m0 : Int) p.w (HGp.out p))
        have HKS := hide (fun (p : Near wr.heap.size wr) => specKey_calls (m0 : Int) p.w)
        have HL := hide (fun (p : Near wr.heap.size wr) => implLeafKey_calls (m0 : Int) (n : Int) p.w (HGp.out p))
        have HLS := hide (fun (p : Near wr.heap.size wr) => specLeafKey_calls (m0 : Int) (n : Int) p.w)
        have HSG := hide (fun (p : Near wr.heap.size wr) => implSigned_calls (key m0) t (by omega) p.w _ n _ _ ((HV6.out.below (hb.trans (p.h.mono hb.size))).at_ (by rw [endN_length]; omega) (by rw [wayN_length]; omega) (fun x hx => by rw [end8 m0 n t HFEW.out hn3 x hx]; omega) (fun x hx => by rw [way8 m0 n hn3 x hx]; omega)) (HGp.out p))
        simp only [decide_eq_true (signed_yes m0 n t HFEW.out hn3)] at HSG
        have hks := key_length m0
        generalize key m0 = ks at *
        generalize leafKey m0 n = lk at *
        have hk8 : ((ks.length : Int) == 8) = true := by simp; omega
        have hnn := Near.some wr.heap.size wr
        clear hb hAw HV6 HA6 HQC HEC6 HTN HTS HQL hk11 h24 HGp
        go_wp2_with fail
        refine wp_region_near wr.heap.size wr (Below.refl _ _) (by kernel_rfl) (by kernel_rfl) ?_
        repeat (go_big_quiet_step (fail))
        go_big_quiet_step (exact calls_near (Nat.le_refl _) (HK.out _))
        repeat (go_big_quiet_step (fail))
        go_big_quiet_step (exact calls_near (Nat.le_refl _) (HSG.out _))
        repeat (go_big_quiet_step (fail))
        go_big_quiet_step (exact calls_near (Nat.le_refl _) (HK.out _))
        repeat (go_big_quiet_step (fail))
        go_big_quiet_step (exact calls_near (Nat.le_refl _) (HKS.out _))
        repeat (go_big_quiet_step (fail))
        go_big_quiet_step (exact calls_near (Nat.le_refl _) (HL.out _))
        repeat (go_big_quiet_step (fail))
        go_big_quiet_step (exact calls_near (Nat.le_refl _) (HLS.out _))
        repeat (go_big_quiet_step (fail))
        go_big_quiet_step (exact calls_near (Nat.le_refl _) (HK.out _))
        repeat (go_big_quiet_step (fail))
        refine wpQuiet_nil ?_
        rintro w7 ⟨pq, rfl⟩
        have hqb := pq.h
        obtain ⟨w7, hq⟩ := pq
        simp only at hqb ⊢
        have HB7 := hide (HB.out.trans (hqb.mono HB.out.size))
        clear hq hqb n8 n9 n10 s0 s1 s2 hnn
        go_wp2_with fail
        go_ret
        exact ⟨rfl, HB6.out.trans (HB7.out.mono HB6.out.size)⟩
end Go.Proofs.YtmjpdccfdaajmaaDoor.P4
