/- The program's RingOk; condition: at most 2^20 peers, their lists of at most 2^20, texts of at most 2^20 bytes. -/
import Derived.Test.YteladljgnbfcnaaGreatZRG
import Derived.Test.YteladljgnbfcnaaGreatZSK
import Derived.Test.YteladljgnbfcnaaGreatZA
import Derived.Deep.CutRange
namespace Go.Proofs.YteladljgnbfcnaaGreat.P9
set_option maxRecDepth 8000
open Go.RowKit P1 P8 Da Mp

theorem mem_ids (v : Value) (l : List Pr) (x : Int) : x ∈ nub (l.map (·.id)) ↔ (whoV v l x).isSome = true := by
  rw [mem_nub]
  unfold whoV who hereIdx anyIdx
  rw [Option.isSome_map, Option.isSome_or, List.findIdx?_isSome, List.findIdx?_isSome, Bool.or_eq_true, List.any_eq_true, List.any_eq_true, List.mem_map]
  constructor
  · rintro ⟨p, hp, e⟩
    exact .inr ⟨p, hp, by simpa using e⟩
  · rintro (⟨p, hp, e⟩ | ⟨p, hp, e⟩)
    · simp only [Bool.and_eq_true, beq_iff_eq] at e
      exact ⟨p, hp, e.2⟩
    · exact ⟨p, hp, by simpa using e⟩

/-- The first part of the program's round. -/
def stepsJ (l : List Pr) (k : Nat) : Bool := match l[k]? with | none => true | some p => peerOk p && (decide (4 ≤ k) || p.here)

theorem all_both (n : Nat) (f g : Nat → Bool) : (List.range n).all (fun k => f k && g k) = ((List.range n).all f && (List.range n).all g) := by
  rw [Bool.eq_iff_iff, Bool.and_eq_true, List.all_eq_true, List.all_eq_true, List.all_eq_true]
  constructor
  · intro h
    exact ⟨fun x hx => ((Bool.and_eq_true _ _).mp (h x hx)).1, fun x hx => ((Bool.and_eq_true _ _).mp (h x hx)).2⟩
  · rintro ⟨h1, h2⟩ x hx
    rw [Bool.and_eq_true]
    exact ⟨h1 x hx, h2 x hx⟩

theorem steps_both (l : List Pr) : (List.range l.length).all (stepsI l) = ((List.range l.length).all (stepsJ l) && goesOn l) := by
  unfold goesOn
  rw [← all_both]
  congr 1
  funext k
  unfold stepsI stepsJ goesAt stepI
  cases l[k]? <;> rfl

set_option maxRecDepth 100000 in
set_option maxHeartbeats 4000000 in
theorem implRingOk_calls (w : World) (v : Value) (l : List Pr) (hv : PeersAt w v l) (hl : l.length ≤ 1048576) (hsm : ∀ p ∈ l, Small p) :
    Calls Tryz.prog 14 #[.agg #[v]] w fun e w' => e = .returned (.bool (ringOk l)) ∧ Below w.heap.size w w' := by
  rw [← ringOkI_eq]
  have hb1 := (Below.refl w.heap.size w).alloc (Nat.le_refl _) (.cells #[v] 28)
  have HV := hide (hv.below hb1 (Nat.le_refl _))
  obtain ⟨a, cap, rfl, -⟩ := hv.open_
  have G := Blk.new w #[.slice a l.length cap] 28
  have HB := hide hb1
  have HSM := hide hsm
  have HRO : Hid (ringOkI l = ((decide (4 ≤ l.length) && decide (l.length ≤ 8)) && decide ((nub (l.map (·.id))).length = l.length) && (List.range l.length).all (stepsI l))) := rfl
  clear hv hb1 hsm
  go_enter Tryz.func14, Tryz.ntmps14
  go_upto_region 1 with fail
  obtain ⟨b0, e0⟩ : ∃ b, b = w.heap.size := ⟨_, rfl⟩
  rw [← e0] at G ⊢
  clear e0
  generalize w.alloc (.cells #[.slice a l.length cap] 28) = w1 at *
  have HG := hide G
  have c0 : w1.cell? ⟨b0, 0, none⟩ = some (.slice a l.length cap) := by rw [G.cell 0]; rfl
  have l0 := G.lt
  clear G
  by_cases q1 : 4 ≤ l.length
  · have d1 : decide ((l.length : Int) < 4) = false := decide_eq_false (by omega)
    by_cases q2 : l.length ≤ 8
    · have d2 : decide ((8 : Int) < (l.length : Int)) = false := decide_eq_false (by omega)
      have HRO2 : Hid (ringOkI l = (decide ((nub (l.map (·.id))).length = l.length) && (List.range l.length).all (stepsI l))) := by show _ = _; rw [HRO.out, decide_eq_true q1, decide_eq_true q2]; rfl
      clear HRO
      have hnl := nub_length (l.map (·.id))
      rw [List.length_map] at hnl
      have HND := hide (nub_nodup (l.map (·.id)))
      have HMEM := hide (fun vv => mem_ids vv l)
      generalize nub (l.map (·.id)) = ids at *
      have n0 : ∀ p : Near w1.heap.size w1, p.w.cell? ⟨b0, 0, none⟩ = some (.slice a l.length cap) := fun p => by rw [(HG.out.below p.h HG.out.lt).cell 0]; rfl
      have hnn := Near.some w1.heap.size w1
      refine wp_region_open (fun wd => ∃ p : Near w1.heap.size w1, wd = p.w) ⟨⟨_, (Below.refl _ _).drew⟩, rfl⟩ (by kernel_rfl) ?_
      rintro wd ⟨pd, rfl⟩
      refine wpAny_of_K (c := 17) (D := fun w' => ∃ p : Near w1.heap.size w1, w' = p.w) _ _ _ _ ?_
      refine wpAnyK_seg_lit4 0 12 6 7 rfl (by decide) (by decide) (by kernel_rfl) (by kernel_rfl) (by kernel_rfl) (by kernel_rfl) (fun _ _ _ _ _ h => h) ⟨pd, rfl⟩ ?_
      simp only [List.take_succ_cons, List.take_zero, List.drop_zero]
      repeat (go_big_quiet_step (fail))
      refine wpQuiet_nil ?_
      refine wpAnyK_seg_lit4 14 3 6 4 rfl (by decide) (by decide) (by kernel_rfl) (by kernel_rfl) (by kernel_rfl) (by kernel_rfl) (fun _ _ _ _ _ h => h) ⟨pd, rfl⟩ ?_
      simp only [List.take_succ_cons, List.take_zero, List.drop_succ_cons, List.drop_zero]
      repeat (go_big_quiet_step (fail))
      refine wpQuiet_nil ?_
      clear n0 hnn
      refine wpAnyK_callW 12 (by kernel_rfl) rfl (by kernel_rfl) 36 _ _ rfl (run_enter Tryz.func36 (by kernel_rfl) (by kernel_rfl)) #[.agg #[.slice a l.length cap]] rfl (fun u w' => ∃ km, u = .map (some km) ∧ MapR keyI w' km l.length (whoV (.slice a l.length cap) l) ∧ Below pd.w.heap.size pd.w w') ((everyone_calls pd.w _ l (HV.out.below pd.h (Nat.le_refl _)) hl).mono (fun e w' ⟨km, he, _, hm, hb⟩ => ⟨_, he, km, rfl, hm, hb⟩)) ?_
      rintro u w2 ⟨km0, rfl, hm, hb2⟩
      have hb12 := pd.h.trans (hb2.mono pd.h.size)
      have hlen := hm.count (t := 53) Tryz.underlying53 3 ids HND.out (HMEM.out _)
      refine ⟨⟨⟨_, hb12⟩, rfl⟩, ?_⟩
      simp only [Act.put, List.setIfInBounds_toArray, List.set_cons_succ, List.set_cons_zero]
      clear hm hb2 HMEM HND
      refine wpAnyK_one 13 (by kernel_rfl) rfl ?_
      go_wp2_with fail
      refine ⟨⟨⟨_, hb12⟩, rfl⟩, ?_⟩
      refine wpAnyK_last (by kernel_rfl) (by decide) ?_
      refine wpAny_rest 17 rfl (by kernel_rfl) ?_
      simp only [List.drop_succ_cons, List.drop_zero]
      clear hlen
      have HV2 := hide (HV.out.below hb12 (Nat.le_refl _))
      have HB2 := hide (HB.out.trans (hb12.mono HB.out.size))
      have HG2 := hide (HG.out.below hb12 HG.out.lt)
      clear hb12 HV HB HG c0 l0
      by_cases q3 : ids.length = l.length
      · have d3 : decide (ids.length < l.length) = false := decide_eq_false (by omega)
        have HRO3 : Hid (ringOkI l = ((List.range l.length).all (stepsJ l) && goesOn l)) := by show _ = _; rw [HRO2.out, decide_eq_true q3, steps_both]; rfl
        clear HRO2 q3 hnl
        have c2 : w2.cell? ⟨b0, 0, none⟩ = some (.slice a l.length cap) := by rw [HG2.out.cell 0]; rfl
        have l2 := HG2.out.lt
        go_wp2_with fail
        clear c2 l2
        go_loopw [27] (fun i wr => ∃ k : Nat, k ≤ l.length ∧ i = .int .i64 k ∧ Hid (∀ j, j < k → stepsJ l j = true) ∧ Hid (Below w2.heap.size w2 wr)) (fun i _ => l.length - (intOf i).toNat)
        case atStart => exact ⟨0, Nat.zero_le _, rfl, fun j hj => by omega, Below.refl _ _⟩
        case round =>
          obtain ⟨k, hk, rfl, HN, HBr⟩ := hrel
          by_cases hlt : k < l.length
          · have HVr := hide (HV2.out.below HBr.out (Nat.le_refl _))
            obtain ⟨ax, cx, hax, HA⟩ := HVr.out.open_
            cases hax
            obtain ⟨g, off, u3, u4, u5, rfl, hg, hc⟩ := HA k hlt
            have hsk : stepsJ l k = (peerOk l[k] && (decide (4 ≤ k) || l[k].here)) := by unfold stepsJ; rw [List.getElem?_eq_getElem hlt]
            have hsml := HSM.out l[k] (List.getElem_mem hlt)
            have HF : Hid (stepsJ l k = false → ringOkI l = false) := fun h => by rw [HRO3.out, not_all_range hlt h]; rfl
            have HS : Hid (stepsJ l k = true → ∀ j, j < k + 1 → stepsJ l j = true) := fun h j hj => by
              rcases Nat.lt_or_ge j k with h1 | h1
              · exact HN.out j h1
              · obtain rfl : j = k := by omega
                exact h
            clear HA HN
            generalize l[k] = q at *
            have HST := hide hsk
            clear hsk
            have f0 := hc.id
            have f1 := hc.here
            have f2 := hc.ahead
            have f3 := hc.c3
            have f4 := hc.c4
            have f5 := hc.c5
            have H3 := hide hc.behind
            have H4 := hide hc.fingers
            have H5 := hide hc.shelves
            obtain ⟨a3, c3, e3, -⟩ := hc.behind
            obtain ⟨a4, c4, e4, -⟩ := hc.fingers
            obtain ⟨a5, c5, e5, -⟩ := hc.shelves.open_
            subst e3 e4 e5
            have HB3r := hide (HB2.out.trans (HBr.out.mono HB2.out.size))
            clear hc
            go_upto_region 6 with fail
            have hba := (Below.refl wr.heap.size wr).alloc (Nat.le_refl _) (.cells #[.int .i64 q.id, .bool q.here, .int .i64 q.ahead, .slice a3 q.behind.length c3, .slice a4 q.fingers.length c4, .slice a5 q.shelves.length c5] 37)
            have S := Blk.new wr #[.int .i64 q.id, .bool q.here, .int .i64 q.ahead, .slice a3 q.behind.length c3, .slice a4 q.fingers.length c4, .slice a5 q.shelves.length c5] 37
            have K3 := hide (H3.out.below hba (Nat.le_refl _))
            have K4 := hide (H4.out.below hba (Nat.le_refl _))
            have K5 := hide (H5.out.below hba (Nat.le_refl _))
            have HXB := hide (HB3r.out.trans (hba.mono HB3r.out.size))
            have HXW := hide (HBr.out.trans (hba.mono HBr.out.size))
            obtain ⟨bs, ebs⟩ : ∃ b, b = wr.heap.size := ⟨_, rfl⟩
            rw [← ebs] at S ⊢
            clear ebs hba H3 H4 H5 HVr HBr HB3r f0 f1 f2 f3 f4 f5 hg
            generalize wr.alloc (.cells #[.int .i64 q.id, .bool q.here, .int .i64 q.ahead, .slice a3 q.behind.length c3, .slice a4 q.fingers.length c4, .slice a5 q.shelves.length c5] 37) = wx at *
            have HXs := hide S
            have s0 : wx.cell? ⟨bs, 0, none⟩ = some (.int .i64 q.id) := by rw [S.cell 0]; rfl
            have s1 : wx.cell? ⟨bs, 1, none⟩ = some (.bool q.here) := by rw [S.cell 1]; rfl
            have s2 : wx.cell? ⟨bs, 2, none⟩ = some (.int .i64 q.ahead) := by rw [S.cell 2]; rfl
            have s3 : wx.cell? ⟨bs, 3, none⟩ = some (.slice a3 q.behind.length c3) := by rw [S.cell 3]; rfl
            have s4 : wx.cell? ⟨bs, 4, none⟩ = some (.slice a4 q.fingers.length c4) := by rw [S.cell 4]; rfl
            have s5 : wx.cell? ⟨bs, 5, none⟩ = some (.slice a5 q.shelves.length c5) := by rw [S.cell 5]; rfl
            have sl := S.lt
            clear S
            have C2 := hide (implPeerOk_calls wx q _ _ _ K3.out K4.out K5.out hsml)
            unfold prV at C2
            clear K3 K4 K5
            cases hpo : peerOk q with
            | false =>
              have HR := hide (HF.out (by rw [HST.out, hpo]; rfl))
              rw [hpo] at C2
              clear HST HF HS hpo
              go_wp2_with fail
              refine C2.out.mono ?_
              rintro e wy ⟨rfl, hby⟩
              have HYB := hide (HXB.out.trans (hby.mono HXB.out.size))
              clear hby C2 s0 s1 s2 s3 s4 s5 sl HXs HXB HXW hsml
              go_wp2_with fail
              go_ret
              exact ⟨by rw [HR.out]; rfl, HYB.out⟩
            | true =>
              rw [hpo, Bool.true_and] at HST
              rw [hpo] at C2
              clear hpo hsml
              cases hk4 : decide ((k : Int) < 4) with
              | false =>
                have HR := hide (HS.out (by rw [HST.out, decide_eq_true (by have := of_decide_eq_false hk4; omega : 4 ≤ k)]; rfl))
                clear HST HF HS
                go_wp2_with fail
                refine C2.out.mono ?_
                rintro e wy ⟨rfl, hby⟩
                have HYW := hide (HXW.out.trans (hby.mono HXW.out.size))
                clear hby C2 s0 s1 s2 s3 s4 s5 sl HXs HXB HXW
                go_wp2_with fail
                go_roundw
                case rel => exact ⟨k + 1, by omega, by go_num, HR.out, HYW.out⟩
                case measure => simp [intOf]; omega
              | true =>
                have hk4' : ¬ 4 ≤ k := by have := of_decide_eq_true hk4; omega
                cases hh : q.here with
                | false =>
                  have HR := hide (HF.out (by rw [HST.out, hh, decide_eq_false hk4']; rfl))
                  rw [hh] at s1 C2
                  clear HST HF HS
                  go_wp2_with fail
                  refine C2.out.mono ?_
                  rintro e wy ⟨rfl, hby⟩
                  have HYB := hide (HXB.out.trans (hby.mono HXB.out.size))
                  have Y := HXs.out.below hby HXs.out.lt
                  rw [hh] at Y
                  have y1 : wy.cell? ⟨bs, 1, none⟩ = some (.bool false) := by rw [Y.cell 1]; rfl
                  have yl := Y.lt
                  clear hby C2 s0 s1 s2 s3 s4 s5 sl HXs HXB HXW Y
                  go_wp2_with fail
                  go_ret
                  exact ⟨by rw [HR.out]; rfl, HYB.out⟩
                | true =>
                  have HR := hide (HS.out (by rw [HST.out, hh]; simp))
                  rw [hh] at s1 C2
                  clear HST HF HS
                  go_wp2_with fail
                  refine C2.out.mono ?_
                  rintro e wy ⟨rfl, hby⟩
                  have HYW := hide (HXW.out.trans (hby.mono HXW.out.size))
                  have Y := HXs.out.below hby HXs.out.lt
                  rw [hh] at Y
                  have y1 : wy.cell? ⟨bs, 1, none⟩ = some (.bool true) := by rw [Y.cell 1]; rfl
                  have yl := Y.lt
                  clear hby C2 s0 s1 s2 s3 s4 s5 sl HXs HXB HXW Y
                  go_wp2_with fail
                  go_roundw
                  case rel => exact ⟨k + 1, by omega, by go_num, HR.out, HYW.out⟩
                  case measure => simp [intOf]; omega
          · obtain rfl : k = l.length := by omega
            have HR : Hid (ringOkI l = goesOn l) := by
              show _ = _
              rw [HRO3.out, all_range HN.out]
              rfl
            have HBw := hide (HB2.out.trans (HBr.out.mono HB2.out.size))
            have HG4 := HG2.out.below HBr.out HG2.out.lt
            have c4 := blk_free_cell HG4 0 rfl
            have l4 := HG4.lt
            have HCG := hide (goesOn_calls wr _ l (HV2.out.below HBr.out (Nat.le_refl _)) hl (fun p hp => (HSM.out p hp).b))
            clear HN HG4
            go_wp2_with fail
            refine HCG.out.mono ?_
            rintro e wg ⟨rfl, hbg⟩
            have HBg := hide (HBw.out.trans (hbg.mono HBw.out.size))
            clear hbg HCG c4 l4
            go_wp2_with fail
            go_ret
            exact ⟨by rw [HR.out]; rfl, HBg.out⟩
      · have d3 : decide (ids.length < l.length) = true := decide_eq_true (by omega)
        have HR : Hid (ringOkI l = false) := by show _ = _; rw [HRO2.out, decide_eq_false q3]; rfl
        clear HRO2 q3 hnl
        go_wp2_with fail
        go_ret
        exact ⟨by rw [HR.out]; rfl, HB2.out⟩
    · have d2 : decide ((8 : Int) < (l.length : Int)) = true := decide_eq_true (by omega)
      have HR : Hid (ringOkI l = false) := by show _ = _; rw [HRO.out, decide_eq_false q2]; simp
      go_quiet (fail)
      have HBq := hide (below_drewN HB.out nq)
      go_wp2_with fail
      go_ret
      exact ⟨by rw [HR.out]; rfl, HBq.out⟩
  · have d1 : decide ((l.length : Int) < 4) = true := decide_eq_true (by omega)
    have HR : Hid (ringOkI l = false) := by show _ = _; rw [HRO.out, decide_eq_false q1]; rfl
    go_quiet (fail)
    have HBq := hide (below_drewN HB.out nq)
    go_wp2_with fail
    go_ret
    exact ⟨by rw [HR.out]; rfl, HBq.out⟩
end Go.Proofs.YteladljgnbfcnaaGreat.P9
