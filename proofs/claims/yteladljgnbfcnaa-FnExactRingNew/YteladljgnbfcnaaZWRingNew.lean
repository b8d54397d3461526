/- FnExactRingNew walked: for every list of ids; no condition. -/
import Derived.Test.YteladljgnbfcnaaZRD
import Derived.Test.YteladljgnbfcnaaZSC
import Derived.Test.YteladljgnbfcnaaZRC
namespace Go.Proofs.Yteladljgnbfcnaa.P9
set_option maxRecDepth 8000
open Go.RowKit P1 P8 Da

theorem leavesAll_le (K : Nat) : ∀ (l : List Pr) (T : Tys), (∀ p ∈ l, leavesAll (prC T p) ≤ K) → leavesAll (l.flatMap (prC T)) ≤ l.length * K
  | [], _, _ => by simp [leavesAll]
  | p :: l, T, h => by
    rw [List.flatMap_cons, leavesAll_append, List.length_cons, Nat.add_mul, Nat.one_mul]
    have h1 := h p (by simp)
    have h2 := leavesAll_le K l T (fun q hq => h q (by simp [hq]))
    omega

theorem leaves_peer (T : Tys) (p : Pr) : leavesAll (prC T p) = 3 + p.behind.length + p.fingers.length + leaves (shelvesD T p.shelves) := by
  simp only [prC, leavesAll, leaves_ints]
  simp only [intD, boolD, leaves]
  omega

theorem ringNew_small (ids : List Int) : (ringNew ids).length ≤ 8 ∧ ∀ p ∈ ringNew ids, p.behind.length ≤ 3 ∧ p.fingers.length ≤ 8 ∧ p.shelves = [] := by
  have h8 := keep8_length (nub ids)
  change (kept ids).length ≤ 8 at h8
  unfold ringNew
  by_cases h4 : (kept ids).length < 4
  · rw [if_pos h4]
    exact ⟨by simp, by simp⟩
  · rw [if_neg h4]
    refine ⟨by simp; omega, fun p hp => ?_⟩
    rcases List.mem_append.1 hp with h | h
    · obtain ⟨x, _, rfl⟩ := List.mem_map.1 h
      exact ⟨by simp [knows]; omega, by simp [knows, fingers], rfl⟩
    · obtain ⟨x, _, rfl⟩ := List.mem_map.1 h
      exact ⟨by simp [away], by simp [away], rfl⟩

theorem owns_sl {W : World} {v : Value} {T : Tys} {l : List Pr} {fp : List Nat} (h : Owns W v (peersD T l) fp) : ∃ a n c, v = .slice a n c := by
  rcases h.shape (prC_len T l) (by decide) with ⟨rfl, _, _⟩ | ⟨g, cap, rfl⟩
  · exact ⟨_, _, _, rfl⟩
  · exact ⟨_, _, _, rfl⟩

set_option maxHeartbeats 4000000 in
theorem exactRingNew_walk (w : World) (a0 : Option Addr) (len cap : Nat) (z : List Int) (hr : Frame.IsRow .i64 w a0 len cap z) :
    Calls Try.prog 4 #[.slice a0 len cap] w fun e w' => e = .returned (.bool true) ∧ Below w.heap.size w w' := by
  have hcap : len ≤ maxLen := by
    rcases hr with ⟨_, rfl, _⟩ | ⟨_, _, h1, h2, _⟩
    · unfold maxLen; omega
    · omega
  unfold maxLen at hcap
  have hi := IntsAt.of_row hr
  have hlen : (z.take len).length = len := by
    rcases hr with ⟨_, rfl, _, rfl⟩ | ⟨_, _, h1, h2, h3, _⟩
    · rfl
    · rw [List.length_take]; omega
  clear hr
  generalize z.take len = l at *
  subst hlen
  by_cases h : 1048576 < l.length
  · go_enter Try.func4, Try.ntmps4
    go_wp2
    go_ret
    exact ⟨rfl, Below.refl _ _⟩
  have hl : l.length ≤ 1048576 := by omega
  have HI := hide hi
  have HS := hide (fun wx vx (hx : IntsAt wx vx l) => specRingNew_calls wx vx l hx hl)
  have HP := hide (fun wx vx (hx : IntsAt wx vx l) => implRingNew_calls wx vx l hx hl)
  obtain ⟨hRl, hRs⟩ := ringNew_small l
  have HSM : Hid (∀ p ∈ ringNew l, Small p) := fun p hp => by
    obtain ⟨h1, h2, h3⟩ := hRs p hp
    exact ⟨by omega, by omega, by rw [h3]; simp, by rw [h3]; simp⟩
  have HSMM : Hid (∀ p ∈ ringNew l, SmallM p) := fun p hp => by
    obtain ⟨h1, h2, h3⟩ := hRs p hp
    exact ⟨by omega, by omega, by rw [h3]; simp, by rw [h3]; simp⟩
  obtain ⟨LV, eLV⟩ : ∃ LV, LV = leaves (peersD T0 (ringNew l)) := ⟨_, rfl⟩
  have hLV : LV ≤ 1000 := by
    rw [eLV, leaves_peers]
    refine Nat.le_trans (leavesAll_le 14 _ _ (fun p hp => ?_)) (by omega)
    obtain ⟨h1, h2, h3⟩ := hRs p hp
    rw [leaves_peer, h3]
    simp [shelvesD, leaves, leavesAll]
    omega
  have HLV := hide eLV
  clear eLV hRs hi
  generalize ringNew l = RN at *
  have hRl' : RN.length ≤ 1048576 := by omega
  go_enter Try.func4, Try.ntmps4
  go_wp2_with fail
  refine (toInts_calls w _ l HI.out (by omega)).mono ?_
  rintro e w1 ⟨v1, rfl, ho1, hb1⟩
  have HO1 := hide (IntsAt.of_own ho1)
  have HB1 := hide hb1
  clear ho1 hb1
  go_wp2_with fail
  refine (HS.out w1 v1 HO1.out).mono ?_
  rintro e w2 ⟨vw, fpW, rfl, how, hfw, hb2⟩
  obtain ⟨aw, nw, cw, hsh⟩ := owns_sl how
  subst hsh
  have hb2' := (Below.refl w2.heap.size w2).alloc (Nat.le_refl _) (.cells #[.slice aw nw cw] 29)
  have HB3 := hide (HB1.out.trans ((hb2.trans (hb2'.mono hb2.size)).mono HB1.out.size))
  have HW3 := hide (owns_below how hb2')
  have B3 := Blk.new w2 #[.slice aw nw cw] 29
  have HWl := hide how.lt
  clear HO1 HB1 HS hfw hb2 hb2' how
  go_upto_region 4 with fail
  obtain ⟨b3, e3⟩ : ∃ b, b = w2.heap.size := ⟨_, rfl⟩
  rw [← e3] at B3 ⊢
  have HW3l : Hid (∀ q ∈ fpW, q < b3) := fun q hq => by have := HWl.out q hq; omega
  clear e3 HWl
  generalize w2.alloc (.cells #[.slice aw nw cw] 29) = w3 at *
  have hb3l := B3.lt
  -- X
  have HI3 := hide (HI.out.below HB3.out (Nat.le_refl _))
  go_wp2_with fail
  refine (toInts_calls w3 _ l HI3.out (by omega)).mono ?_
  rintro e w4 ⟨vx, rfl, hox, hb4⟩
  have HB4 := hide (HB3.out.trans (hb4.mono HB3.out.size))
  have HW4 := hide (owns_below HW3.out hb4)
  have B4 := B3.below hb4 B3.lt
  have HXb : Hid (∀ g, vx.ownBlock = some g → w3.heap.size ≤ g ∧ g < w4.heap.size) := fun g hg => hox.lt g hg
  have HX4 := hide (own_mono hox HB3.out.size)
  clear hox hb4 HB3 HW3 B3 HI3
  go_wp2_with fail
  refine (HP.out w4 vx (IntsAt.of_own HX4.out)).mono ?_
  rintro e w5 ⟨vg, fpG, rfl, hog, hfg, hb5⟩
  obtain ⟨ag, ng, cg, hsh⟩ := owns_sl hog
  subst hsh
  have hb5' := (Below.refl w5.heap.size w5).alloc (Nat.le_refl _) (.cells #[.slice ag ng cg] 29)
  have hb6 := hb5.trans (hb5'.mono hb5.size)
  have HB6 := hide (HB4.out.trans (hb6.mono HB4.out.size))
  have HW6 := hide (owns_below HW4.out hb6)
  have HX6 := hide (own_below HX4.out hb6)
  have HG6 := hide (owns_below hog hb5')
  have B36 := B4.below hb6 B4.lt
  have B5 := Blk.new w5 #[.slice ag ng cg] 29
  have hGl := hog.lt
  have hl4 := B4.lt
  have hw4 := HB4.out.size
  have hz5 := hb5.size
  clear HB4 HW4 HX4 B4 hb6 hb5 hog
  go_upto_region 6 with fail
  obtain ⟨b5, e5⟩ : ∃ b, b = w5.heap.size := ⟨_, rfl⟩
  rw [← e5] at B5 ⊢
  have hz4 := HB6.out.size
  have HGr : Hid (∀ q ∈ fpG, w4.heap.size ≤ q ∧ q < b5) := fun q hq => by
    have k1 := hfg q hq
    have k2 := hGl q hq
    exact ⟨k1, by omega⟩
  have hb54 : w4.heap.size ≤ b5 := by omega
  clear e5 hfg hGl hb5' hz5
  generalize w5.alloc (.cells #[.slice ag ng cg] 29) = w6 at *
  -- the two are the same
  have c3 := blk_free_cell B36 0 rfl
  have l3 := B36.lt
  have c5 := blk_free_cell B5 0 rfl
  have l5 := B5.lt
  have HE := hide (eqRing_calls w6 RN _ _ ⟨_, HG6.out.reads⟩ ⟨_, HW6.out.reads⟩ hRl' HSM.out)
  go_wp2_with fail
  refine HE.out.mono ?_
  rintro e w7 ⟨rfl, hb7⟩
  have HB7 := hide (HB6.out.trans (hb7.mono HB6.out.size))
  have HW7 := hide (owns_below HW6.out hb7)
  have HX7 := hide (own_below HX6.out hb7)
  have HG7 := hide (owns_below HG6.out hb7)
  have B37 := B36.below hb7 B36.lt
  have B57 := B5.below hb7 B5.lt
  clear HE HB6 HW6 HX6 HG6 B36 B5 c3 l3 c5 l5 hb7
  -- the argument is as it was
  have HI7 := hide (HI.out.below HB7.out (Nat.le_refl _))
  go_wp2_with fail
  refine (toInts_calls w7 _ l HI7.out (by omega)).mono ?_
  rintro e w8 ⟨v8, rfl, ho8, hb8⟩
  have HB8 := hide (HB7.out.trans (hb8.mono HB7.out.size))
  have HW8 := hide (owns_below HW7.out hb8)
  have HX8 := hide (own_below HX7.out hb8)
  have HG8 := hide (owns_below HG7.out hb8)
  have B38 := B37.below hb8 B37.lt
  have B58 := B57.below hb8 B57.lt
  have HE8 := hide (eqInts_calls w8 vx v8 l l (IntsAt.of_own HX8.out) (IntsAt.of_own ho8) (by omega) (by omega))
  rw [decide_eq_true (rfl : l = l)] at HE8
  clear ho8 hb8 HB7 HW7 HX7 HG7 HI7 B37 B57
  go_wp2_with fail
  refine HE8.out.mono ?_
  rintro e w9 ⟨rfl, n9, hw9⟩
  have HB9 : Hid (Below w.heap.size w w9) := by rw [hw9]; exact below_drewN HB8.out n9
  have HW9 : Hid (Owns w9 (.slice aw nw cw) (peersD T0 RN) fpW) := by rw [hw9]; exact HW8.out.stay (fun _ _ => rfl)
  have HX9 : Hid (w9.ownsRow w.heap.size 3 1 vx l.length (cellsI l)) := by rw [hw9]; exact HX8.out
  have HG9 : Hid (Owns w9 (.slice ag ng cg) (peersD T0 RN) fpG) := by rw [hw9]; exact HG8.out.stay (fun _ _ => rfl)
  have B39 : Blk w9 b3 [.slice aw nw cw] 29 := by rw [hw9]; exact B38
  have B59 : Blk w9 b5 [.slice ag ng cg] 29 := by rw [hw9]; exact B58
  clear HE8 HB8 HW8 HX8 HG8 B38 B58 hw9
  -- the argument written over
  have HM := hide (markInts_calls w9 _ vx l 1 HX9.out (by omega) (by omega))
  go_wp2_with fail
  refine HM.out.mono ?_
  rintro e wA ⟨rfl, hoxA, hgA⟩
  have HBA : Hid (Below w.heap.size w wA) := HB9.out.grown hgA HB9.out.size (fun k hk => (hoxA.lt k hk).1)
  have HWA := hide (HW9.out.stay (W' := wA) (fun q hq => hgA.block q (HW9.out.lt q hq) (fun e => by have k1 := HXb.out q e.symm; have k2 := HW3l.out q hq; omega)))
  have HGA := hide (HG9.out.stay (W' := wA) (fun q hq => hgA.block q (HG9.out.lt q hq) (fun e => by have k1 := HXb.out q e.symm; have k2 := HGr.out q hq; omega)))
  have B3A : Blk wA b3 [.slice aw nw cw] 29 := by
    unfold Blk
    rw [hgA.block b3 B39.lt (fun e => by have k1 := HXb.out b3 e.symm; omega)]
    exact B39
  have B5A : Blk wA b5 [.slice ag ng cg] 29 := by
    unfold Blk
    rw [hgA.block b5 B59.lt (fun e => by have k1 := HXb.out b5 e.symm; omega)]
    exact B59
  have HEA := hide (eqRing_calls wA RN _ _ ⟨_, HGA.out.reads⟩ ⟨_, HWA.out.reads⟩ hRl' HSM.out)
  have hk0 : decide (((1 + l.length : Nat) : Int) < 0) = false := decide_eq_false (by omega)
  have c3 := blk_free_cell B3A 0 rfl
  have l3 := B3A.lt
  have c5 := blk_free_cell B5A 0 rfl
  have l5 := B5A.lt
  clear hoxA hgA HM HB9 HW9 HX9 HG9 B39 B59 HXb
  go_wp2_with fail
  refine HEA.out.mono ?_
  rintro e wB ⟨rfl, hbB⟩
  have HBB := hide (HBA.out.trans (hbB.mono HBA.out.size))
  have HWB := hide (owns_below HWA.out hbB)
  have HGB := hide (owns_below HGA.out hbB)
  have B3B := B3A.below hbB B3A.lt
  have B5B := B5A.below hbB B5A.lt
  clear HEA HBA HWA HGA B3A B5A c3 l3 c5 l5 hbB hk0
  -- the answer written over
  have HM := hide (markRing_calls wB T0 RN 1 _ fpG hRl' HSMM.out (by rw [← HLV.out]; omega) HGB.out)
  rw [← HLV.out] at HM
  have c5 := blk_free_cell B5B 0 rfl
  have l5 := B5B.lt
  go_wp2_with fail
  refine HM.out.mono ?_
  rintro e wC ⟨rfl, hogC, hoC⟩
  have HBC := hide (HBB.out.trans (hoC.below (B := w.heap.size) HBB.out.size (fun q hq => by have k1 := (HGr.out q hq).1; omega)))
  have HWC := hide (HWB.out.stay (W' := wC) (fun q hq => hoC.block q (HWB.out.lt q hq) (fun e => by have k1 := HGr.out q e; have k2 := HW3l.out q hq; omega)))
  have B3C := only_blk hoC B3B (fun e => by have k1 := HGr.out b3 e; omega)
  have B5C := only_blk hoC B5B (fun e => by have k1 := HGr.out b5 e; omega)
  have HGC := hide hogC.reads
  have HGo := hide hogC
  have HHC := hide (heldRing_calls wC T0 RN 1 _ hRl' HSMM.out (by rw [← HLV.out]; omega) HGC.out)
  rw [← HLV.out] at HHC
  clear HM HBB HWB HGB B3B B5B c5 l5 hogC hoC
  have c5 := blk_free_cell B5C 0 rfl
  have l5 := B5C.lt
  go_wp2_with fail
  refine HHC.out.mono ?_
  rintro e wD ⟨rfl, hbD⟩
  have HBD := hide (HBC.out.trans (hbD.mono HBC.out.size))
  have HWD := hide (owns_below HWC.out hbD)
  have HGD := hide (owns_below HGo.out hbD)
  have B3D := B3C.below hbD B3C.lt
  have B5D := B5C.below hbD B5C.lt
  have hq0 : decide (((1 + LV : Nat) : Int) < 0) = false := decide_eq_false (by omega)
  have hqm : (((1 + LV : Nat) : Int) != ((1 + LV : Nat) : Int)) = false := by simp
  have HID := hide (HI.out.below HBD.out (Nat.le_refl _))
  clear HHC HBC HWC HGC HGo B3C B5C c5 l5 hbD
  go_wp2_with fail
  refine (toInts_calls wD _ l HID.out (by omega)).mono ?_
  rintro e wE ⟨vE, rfl, hoE, hbE⟩
  have HBE := hide (HBD.out.trans (hbE.mono HBD.out.size))
  have HWE := hide (owns_below HWD.out hbE)
  have HGE := hide (owns_below HGD.out hbE)
  have B3E := B3D.below hbE B3D.lt
  have B5E := B5D.below hbE B5D.lt
  have HCE := hide (HP.out wE vE (IntsAt.of_own hoE))
  clear hoE hbE HBD HWD HGD B3D B5D HID HP
  go_wp2_with fail
  refine HCE.out.mono ?_
  rintro e wF ⟨vh, fpH, rfl, hoh, hfh, hbF⟩
  obtain ⟨ah, nh, ch, hsh⟩ := owns_sl hoh
  subst hsh
  have hbG := (Below.refl wF.heap.size wF).alloc (Nat.le_refl _) (.cells #[.slice ah nh ch] 29)
  have hbFG := hbF.trans (hbG.mono hbF.size)
  have HBG := hide (HBE.out.trans (hbFG.mono HBE.out.size))
  have HWG := hide (owns_below HWE.out hbFG)
  have HGG := hide (owns_below HGE.out hbFG)
  have B3G := B3E.below hbFG B3E.lt
  have B5G := B5E.below hbFG B5E.lt
  have BHG := Blk.new wF #[.slice ah nh ch] 29
  have HHG := hide (owns_below hoh hbG)
  clear HCE HBE HWE HGE B3E B5E hbF hbG hbFG hoh hfh
  go_upto_region 23 with fail
  obtain ⟨bh, eh⟩ : ∃ b, b = wF.heap.size := ⟨_, rfl⟩
  rw [← eh] at BHG ⊢
  clear eh
  generalize wF.alloc (.cells #[.slice ah nh ch] 29) = wG at *
  have HEG := hide (eqRing_calls wG RN _ _ ⟨_, HHG.out.reads⟩ ⟨_, HWG.out.reads⟩ hRl' HSM.out)
  have c3 := blk_free_cell B3G 0 rfl
  have l3 := B3G.lt
  have c9 := blk_free_cell BHG 0 rfl
  have l9 := BHG.lt
  go_wp2_with fail
  refine HEG.out.mono ?_
  rintro e wH ⟨rfl, hbH⟩
  have HBH := hide (HBG.out.trans (hbH.mono HBG.out.size))
  have HGH := hide (owns_below HGG.out hbH)
  have B5H := B5G.below hbH B5G.lt
  have HHH := hide (heldRing_calls wH T0 RN 1 _ hRl' HSMM.out (by rw [← HLV.out]; omega) HGH.out.reads)
  rw [← HLV.out] at HHH
  clear HEG HBG HWG HGG B3G B5G BHG HHG c3 l3 c9 l9 hbH
  have c5 := blk_free_cell B5H 0 rfl
  have l5 := B5H.lt
  go_wp2_with fail
  refine HHH.out.mono ?_
  rintro e wK ⟨rfl, hbK⟩
  have HBK := hide (HBH.out.trans (hbK.mono HBH.out.size))
  clear hbK HBH c5 l5
  go_wp2
  go_ret
  exact ⟨rfl, HBK.out⟩
end Go.Proofs.Yteladljgnbfcnaa.P9
