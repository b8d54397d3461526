/- FnExactRingOk walked: for every ring; no condition. -/
import Derived.Test.YteladljgnbfcnaaZSL
import Derived.Test.YteladljgnbfcnaaZRC
import Derived.Test.YteladljgnbfcnaaZA
namespace Go.Proofs.Yteladljgnbfcnaa.P9
set_option maxRecDepth 8000
open Go.RowKit P1 P8 Da

set_option maxHeartbeats 2000000 in
theorem fnExactRingOk_walk (w : World) (v : Value) (l : List Pr) (hv : PeersAt w v l) (hl0 : l.length ≤ 9223372036854775807) (hf : ∀ p ∈ l, FitsP p) :
    Calls Try.prog 3 #[.agg #[v]] w fun e w' => e = .returned (.bool true) ∧ Below w.heap.size w w' := by
  obtain ⟨a, ca, hsh, -⟩ := hv.open_
  subst hsh
  have hb0 := (Below.refl w.heap.size w).alloc (Nat.le_refl _) (.cells #[.slice a l.length ca] 24)
  have HV0 := hide (hv.below hb0 (Nat.le_refl _))
  have G := Blk.new w #[.slice a l.length ca] 24
  have HB0 := hide hb0
  clear hv hb0
  go_enter Try.func3, Try.ntmps3
  go_wp2_with fail
  obtain ⟨b0, e0⟩ : ∃ b, b = w.heap.size := ⟨_, rfl⟩
  rw [← e0] at G ⊢
  clear e0
  generalize w.alloc (.cells #[.slice a l.length ca] 24) = w0 at *
  have HG := hide (fun wx (hb : Below w0.heap.size w0 wx) => (G.below hb G.lt))
  have HC0 : Hid (∀ wx, Below w0.heap.size w0 wx → wx.cell? ⟨b0, 0, none⟩ = some (.slice a l.length ca) ∧ b0 < wx.heap.size) := fun wx hb => ⟨by rw [(HG.out wx hb).cell 0]; rfl, (HG.out wx hb).lt⟩
  have HV := hide (fun wx (hb : Below w0.heap.size w0 wx) => HV0.out.below hb (Nat.le_refl _))
  have HC := hide (szRing_calls w0 l _ 1048576 HV0.out hl0 hf (Nat.le_refl _))
  have HF := hide (fun wx (hb : Below w0.heap.size w0 wx) => HB0.out.trans (hb.mono HB0.out.size))
  clear hl0 hf G HG HV0 HB0
  refine HC.out.mono ?_
  rintro e w1 ⟨rfl, hb1⟩
  have HB1 := hide hb1
  clear hb1 HC
  by_cases hs : szPrL l ≤ 1048576
  · obtain ⟨hl, hsm⟩ := small_of_sz hs
    have HSM := hide hsm
    obtain ⟨r, ER⟩ : ∃ r, r = ringOk l := ⟨_, rfl⟩
    have HS := hide (fun wx vx (hx : PeersAt wx vx l) => specRingOk_calls wx vx l hx hl HSM.out)
    have HP := hide (fun wx vx (hx : PeersAt wx vx l) => implRingOk_calls wx vx l hx hl HSM.out)
    simp only [← ER] at HS HP
    have hrr : (r != r) = false := by simp
    obtain ⟨m, em⟩ : ∃ m : Nat, szRes 1048576 (szPrL l) = (m : Int) := ⟨_, szRes_pos hs⟩
    rw [em]
    have hm0 : ¬ ((m : Int) < 0) := by omega
    clear ER hs em hsm
    obtain ⟨c1, l1⟩ := HC0.out w1 HB1.out
    go_wp2_with fail
    refine (toRing_calls w1 _ l (HV.out w1 HB1.out) hl HSM.out).mono ?_
    rintro e w2 ⟨a2, c2, fp2, rfl, ho2, hn2, hb2⟩
    have HO2 : Hid (PeersAt w2 (.slice a2 l.length c2) l) := ⟨_, ho2.reads⟩
    have HB2 := hide (HB1.out.trans (hb2.mono HB1.out.size))
    clear ho2 hn2 hb2 HB1 c1 l1
    go_wp2_with fail
    refine (HS.out w2 _ HO2.out).mono ?_
    rintro e w3 ⟨rfl, hb3⟩
    have HB3 := hide (HB2.out.trans (hb3.mono HB2.out.size))
    clear hb3 HB2 HO2 HS
    obtain ⟨c3, l3⟩ := HC0.out w3 HB3.out
    go_wp2_with fail
    refine (toRing_calls w3 _ l (HV.out w3 HB3.out) hl HSM.out).mono ?_
    rintro e w4 ⟨a4, c4, fp4, rfl, ho4, hn4, hb4⟩
    have HO4 : Hid (PeersAt w4 (.slice a4 l.length c4) l) := ⟨_, ho4.reads⟩
    have HB4 := hide (HB3.out.trans (hb4.mono HB3.out.size))
    clear ho4 hn4 hb4 HB3 c3 l3
    have hb5 := (Below.refl w4.heap.size w4).alloc (Nat.le_refl _) (.cells #[.slice a4 l.length c4] 29)
    have G5 := Blk.new w4 #[.slice a4 l.length c4] 29
    have HO5 := hide (HO4.out.below hb5 (Nat.le_refl _))
    have HB5 := hide (HB4.out.trans (hb5.mono HB4.out.size))
    clear hb5 HO4 HB4
    go_wp2_with fail
    obtain ⟨b5, e5⟩ : ∃ b, b = w4.heap.size := ⟨_, rfl⟩
    rw [← e5] at G5 ⊢
    clear e5
    generalize w4.alloc (.cells #[.slice a4 l.length c4] 29) = w5 at *
    refine (HP.out w5 _ HO5.out).mono ?_
    rintro e w6 ⟨rfl, hb6⟩
    have HO6 := hide (HO5.out.below hb6 (Nat.le_refl _))
    have HB6 := hide (HB5.out.trans (hb6.mono HB5.out.size))
    have HG6 := hide (G5.below hb6 G5.lt)
    clear hb6 HB5 HO5 HP G5
    have l6 := HG6.out.lt
    have n0 : ∀ p : Near w6.heap.size w6, p.w.cell? ⟨b5, 0, none⟩ = some (.slice a4 l.length c4) := fun p => by rw [(HG6.out.below p.h l6).cell 0]; rfl
    have hnn := Near.some w6.heap.size w6
    go_wp2_with fail
    refine wp_region_open (fun wd => ∃ p : Near w6.heap.size w6, wd = p.w) ⟨⟨_, (Below.refl _ _).drew⟩, rfl⟩ (by kernel_rfl) ?_
    rintro wd ⟨pd, rfl⟩
    refine wpAny_of_K (c := 3) (D := fun w' => ∃ p : Near w6.heap.size w6, w' = p.w) _ _ _ _ ?_
    refine wpAnyK_load 0 (by kernel_rfl) (by kernel_rfl) (by kernel_rfl) (by kernel_rfl) (by kernel_rfl) (by kernel_rfl) (by decide) (fun _ _ _ _ _ h => h) ⟨pd, rfl⟩ ?_
    simp only [List.take_succ_cons, List.take_zero, List.drop_zero]
    go_big_quiet_step (fail)
    refine wpQuiet_nil ?_
    clear n0 hnn
    have hbd := HB6.out.trans (pd.h.mono HB6.out.size)
    obtain ⟨p0, -⟩ := HC0.out pd.w hbd
    refine wpAnyK_value (i := 1) (v := .agg #[.slice a l.length ca]) (w' := pd.w) (by kernel_rfl) rfl rfl (by simp [execOp, go_sem, p0]) ⟨pd, rfl⟩ ?_
    refine wpAnyK_call 2 (by kernel_rfl) rfl rfl 7 _ _ rfl (run_enter Try.func7 (by kernel_rfl) (by kernel_rfl)) #[.agg #[.slice a l.length ca]] rfl (fun u' w' => ∃ a7 c7, u' = .agg #[.slice a7 l.length c7] ∧ PeersAt w' (.slice a7 l.length c7) l ∧ Below pd.w.heap.size pd.w w') ((toRing_calls pd.w _ l (HV.out pd.w hbd) hl HSM.out).mono (fun e w' ⟨a7, c7, _, he, ho, _, hb⟩ => ⟨_, he, a7, c7, rfl, ⟨_, ho.reads⟩, hb⟩)) ?_
    rintro u' w7 ⟨a7, c7, rfl, ho7, hb7⟩
    have hb67 := pd.h.trans (hb7.mono pd.h.size)
    refine ⟨⟨⟨_, hb67⟩, rfl⟩, ?_⟩
    refine wpAnyK_last (by kernel_rfl) (by decide) ?_
    refine wpAny_rest 3 rfl (by kernel_rfl) ?_
    simp only [List.drop_succ_cons, List.drop_zero]
    have HE := hide (eqRing_calls w7 l (.slice a4 l.length c4) (.slice a7 l.length c7) (HO6.out.below hb67 (Nat.le_refl _)) ho7 hl HSM.out)
    have HB7 := hide (HB6.out.trans (hb67.mono HB6.out.size))
    clear ho7 hb7 hb67 HB6 HO6 HG6 l6 p0 hbd
    go_wp2_with fail
    refine HE.out.mono ?_
    rintro e w8 ⟨rfl, hb8⟩
    have HB8 := hide (HB7.out.trans (hb8.mono HB7.out.size))
    clear hb8 HE HB7
    go_wp2_with fail
    go_ret
    exact ⟨rfl, HF.out _ HB8.out⟩
  · rw [szRes_neg hs]
    clear hs
    go_wp2_with fail
    go_ret
    exact ⟨rfl, HF.out _ HB1.out⟩
end Go.Proofs.Yteladljgnbfcnaa.P9
