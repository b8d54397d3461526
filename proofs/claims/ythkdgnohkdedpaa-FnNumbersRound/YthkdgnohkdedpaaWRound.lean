/- FnNumbersRound walked: for every code; no condition. -/
import Derived.Test.YthkdgnohkdedpaaRng3
import Derived.Test.YthkdgnohkdedpaaRng5
import Derived.Test.YthkdgnohkdedpaaRng8
import Derived.Test.YthkdgnohkdedpaaRngA
import Derived.Deep.CutRange
namespace Go.Proofs.Ythkdgnohkdedpaa.P8
set_option maxRecDepth 8000
open Go.RowKit P1 Cu

/-- What is so of each list of ids that a ring is drawn from. -/
def startOk (l : List Int) : Bool :=
  match l with
  | [] => false
  | a :: _ => decide ((ordered a l).length + 1 = l.length) && (List.range ((ordered a l).length - 1)).all fun i => btw a ((ordered a l).getD i 0) ((ordered a l).getD (i + 1) 0)

theorem starts_ok : starts.all startOk = true := by decide +kernel

theorem start_facts {l : List Int} (h : l ∈ starts) : ∃ a m, l = a :: m ∧ (ordered a l).length + 1 = l.length ∧ ∀ i (h1 : i + 1 < (ordered a l).length), btw a (ordered a l)[i] (ordered a l)[i + 1] = true := by
  have h1 := List.all_eq_true.1 starts_ok l h
  cases l with
  | nil => cases h1
  | cons a m =>
    unfold startOk at h1
    simp only [Bool.and_eq_true, decide_eq_true_eq, List.all_eq_true, List.mem_range] at h1
    refine ⟨a, m, rfl, h1.1, fun i hi => ?_⟩
    have h2 := h1.2 i (by omega)
    rw [List.getD_eq_getElem?_getD, List.getD_eq_getElem?_getD, List.getElem?_eq_getElem (by omega), List.getElem?_eq_getElem (by omega)] at h2
    exact h2

theorem starts_le : ∀ l ∈ starts, l.length ≤ 8 := by decide

theorem ahd_round {a b : Int} (ha : 0 ≤ a) (ha1 : a < 256) (hb : 0 ≤ b) (hb1 : b < 256) (h : a ≠ b) : ahd a b + ahd b a = 256 := by
  unfold ahd
  omega

theorem btw_round {a b x : Int} (ha : 0 ≤ a) (ha1 : a < 256) (hb : 0 ≤ b) (hb1 : b < 256) (hx : 0 ≤ x) (hx1 : x < 256) (h : a ≠ b) (h' : x ≠ a) : btw b x a = !btw a x b := by
  have e1 : ¬ a % 256 = b % 256 := by omega
  have e2 : ¬ b % 256 = a % 256 := by omega
  rw [btw_unlike e1, btw_unlike e2]
  by_cases h1 : ahd a x ≤ ahd a b
  · have h2 : 0 < ahd a x := by unfold ahd; omega
    rw [decide_eq_true h1, decide_eq_true h2]
    by_cases h3 : 0 < ahd b x
    · have h4 : ¬ ahd b x ≤ ahd b a := by unfold ahd at h1 h3 ⊢; omega
      rw [decide_eq_false h4]
      simp
    · rw [decide_eq_false h3]
      simp
  · have h2 : 0 < ahd b x := by unfold ahd at h1 ⊢; omega
    have h3 : ahd b x ≤ ahd b a := by unfold ahd at h1 ⊢; omega
    rw [decide_eq_false h1, decide_eq_true h2, decide_eq_true h3]
    simp

theorem tmod_pos {n : Int} (h : 0 ≤ n) : 0 ≤ n.tmod 256 ∧ n.tmod 256 < 256 := by
  rw [tmod_low, if_pos (.inl h)]
  omega

theorem ints_drew {w wr : World} {v : Value} {l : List Int} (h : IntsAt w v l) (hw : ∃ n, wr = w.drewN n) : IntsAt wr v l := by
  obtain ⟨n, rfl⟩ := hw
  exact h

theorem owner_least {key : Int} {l : List Int} {x : Int} (h : x ∈ l) : ahd key (ownerOf key l) ≤ ahd key x := by
  obtain ⟨b, h1, h2⟩ := best_least key l x h
  unfold ownerOf
  rw [h1]
  exact h2

set_option maxHeartbeats 1600000 in
theorem numbersRound_walk (w : World) (a0 : Option Addr) (len cap : Nat) (z : List Int) (hr : Frame.IsRow .u8 w a0 len cap z) :
    Calls Try.prog 3 #[.slice a0 len cap] w fun e w' => e = .returned (.bool true) ∧ Below w.heap.size w w' := by
  have hcap : len ≤ maxLen := by
    rcases hr with ⟨_, rfl, _⟩ | ⟨_, _, h1, h2, _⟩
    · unfold maxLen; omega
    · omega
  unfold maxLen at hcap
  by_cases hbig : 1048576 < len
  · have hd : decide (1048576 < (len : Int)) = true := by simp; omega
    go_enter Try.func3, Try.ntmps3
    go_wp2_with fail
    refine (big_calls _ a0 len cap).mono ?_
    rintro e w1 ⟨rfl, rfl⟩
    rw [hd]
    go_wp2
    go_ret
    exact ⟨rfl, Below.refl _ _⟩
  have hl : len ≤ 1048576 := by omega
  have HC := hide (code_of_row hr hl)
  have hd : decide (1048576 < (len : Int)) = false := by simp; omega
  clear hr
  go_enter Try.func3, Try.ntmps3
  go_wp2_with fail
  refine (big_calls _ a0 len cap).mono ?_
  rintro e w1 ⟨rfl, rfl⟩
  rw [hd]
  clear hd hbig
  go_wp2_with fail
  refine (places_calls w1 a0 len cap HC.out).mono ?_
  rintro e w2 ⟨vp, p, hp12, hpall, rfl, hop, hbp⟩
  obtain ⟨ap, cp, hsh, HA⟩ := IntsAt.of_own hop
  subst hsh
  obtain ⟨g0, o0, e0, l0, c0⟩ := HA 0 (by omega)
  obtain ⟨g1, o1, e1, l1, c1⟩ := HA 1 (by omega)
  obtain ⟨g2, o2, e2, l2, c2⟩ := HA 2 (by omega)
  subst e0
  cases e1
  cases e2
  rw [Nat.add_zero] at c0
  have ta := tmod_pos (hpall p[0] (List.getElem_mem _)).1
  have tb := tmod_pos (hpall p[1] (List.getElem_mem _)).1
  have tx := tmod_pos (hpall p[2] (List.getElem_mem _)).1
  have HB2 := hide hbp
  rw [hp12]
  clear HA hop hbp hpall
  generalize p[0] = p0 at *
  generalize p[1] = p1 at *
  generalize p[2] = p2 at *
  clear hp12
  go_wp2_with fail
  generalize p0.tmod 256 = a at *
  generalize p1.tmod 256 = b at *
  generalize p2.tmod 256 = x at *
  clear c0 c1 c2 l0 l1 l2
  have HC2 := hide ((HC.out.below (fun k hk => HB2.out.block k hk)).more HB2.out.size)
  refine (drawIds_calls w2 a0 len cap HC2.out).mono ?_
  rintro e w3 ⟨vi, ids, hst, rfl, hoi, hbi⟩
  have HB3 := hide (HB2.out.trans (hbi.mono HB2.out.size))
  have HC3 := hide ((HC.out.below (fun k hk => HB3.out.block k hk)).more HB3.out.size)
  have hil := starts_le ids hst
  obtain ⟨d0, m0, hcons, hlen1, hbtw⟩ := start_facts hst
  have HI3 := hide (IntsAt.of_own hoi)
  have HOW := hide (fun wx (hx : IntsAt wx vi ids) => implOwner_calls wx vi ids x hx (by omega))
  obtain ⟨Q, HOR, HBT, HL1⟩ : ∃ Q : List Int, Hid (∀ wx, IntsAt wx vi ids → Calls Try.prog 16 #[vi, .int .i64 d0] wx fun e w' => ∃ v', e = .returned v' ∧ w'.ownsRow wx.heap.size 3 1 v' Q.length (cellsI Q) ∧ Below wx.heap.size wx w') ∧ Hid (∀ i (h1 : i + 1 < Q.length), btw d0 Q[i] Q[i + 1] = true) ∧ Hid (Q.length + 1 = ids.length) :=
    ⟨ordered d0 ids, fun wx hx => implOrdered_calls wx vi ids d0 hx (by omega), hbtw, hlen1⟩
  have HLe := hide (fun y (hy : y ∈ ids) => owner_least (key := x) hy)
  have h0l : 0 < ids.length := by rw [hcons]; simp
  have hd0 : ids[0] = d0 := by simp [hcons]
  clear hst hcons hbi hoi hbtw hlen1 HB2 HC2
  generalize ownerOf x ids = own at *
  obtain ⟨ai, ci, hsh, -⟩ := HI3.out
  subst hsh
  go_wp2_with fail
  refine (HOW.out w3 HI3.out).mono ?_
  rintro e w4 ⟨rfl, hb4⟩
  have HB4 := hide (HB3.out.trans (hb4.mono HB3.out.size))
  have HI4 := hide (HI3.out.below hb4 (Nat.le_refl _))
  clear hb4 HB3 HI3 HOW HC3
  go_wp2_with fail
  obtain ⟨wl, ewl⟩ : ∃ wl, wl = w4 := ⟨_, rfl⟩
  go_loopw [9] (fun i wr => ∃ k : Nat, k ≤ ids.length ∧ i = .int .i64 k ∧ wr = w4) (fun i _ => ids.length - (intOf i).toNat)
  case atStart => exact ⟨0, Nat.zero_le _, rfl, rfl⟩
  case round =>
    obtain ⟨k, hk, rfl, hwr⟩ := hrel
    subst hwr
    clear ewl
    by_cases hlt : k < ids.length
    · obtain ⟨a2, c2, hsh, HA⟩ := HI4.out
      cases hsh
      obtain ⟨ga, oa, rfl, ha2, ha3⟩ := HA k hlt
      clear HA
      have hle := HLe.out ids[k] (List.getElem_mem _)
      have C1 := hide (fun wx => implAhead_calls x ids[k] wx)
      have C2 := hide (fun wx => implAhead_calls x own wx)
      have hqd : decide (((ahd x ids[k] : Nat) : Int) < ((ahd x own : Nat) : Int)) = false := decide_eq_false (by omega)
      generalize ids[k] = y at *
      generalize ahd x y = r1 at *
      generalize ahd x own = r2 at *
      go_wp2_with fail
      refine (C1.out _).mono ?_
      rintro e w5 ⟨rfl, rfl⟩
      go_wp2_with fail
      refine (C2.out _).mono ?_
      rintro e w5 ⟨rfl, rfl⟩
      go_wp2
      go_roundw
      case rel => exact ⟨k + 1, by omega, by go_num, trivial⟩
      case measure => simp [intOf]; omega
    · have hk1 : k = ids.length := by omega
      subst hk1
      have HI5 := HI4
      obtain ⟨a2, c2, hsh, HA⟩ := HI4.out
      cases hsh
      obtain ⟨ga, oa, rfl, ha2, ha3⟩ := HA 0 h0l
      rw [Nat.add_zero, hd0] at ha3
      clear HA HLe HI4
      go_wp2_with fail
      refine (HOR.out _ HI5.out).mono ?_
      rintro e w6 ⟨vq, rfl, hoq, hb6⟩
      have HB6 := hide (HB4.out.trans (hb6.mono HB4.out.size))
      have HI6 := hide (HI5.out.below hb6 (Nat.le_refl _))
      have HQ6 := hide (IntsAt.of_own hoq)
      obtain ⟨aq, cq, hsh, -⟩ := HQ6.out
      subst hsh
      clear hoq hb6 HB4 HI5 HOR ha2 ha3
      have hQ8 : Q.length ≤ 8 := by have := HL1.out; omega
      go_wp2_with fail
      go_loopw [11] (fun i wr => ∃ j : Nat, j ≤ Q.length ∧ i = .int .i64 ((j : Int) + 1) ∧ Hid (∃ n, wr = w6.drewN n)) (fun i _ => Q.length + 1 - (intOf i).toNat)
      case atStart => exact ⟨0, Nat.zero_le _, by simp, 0, rfl⟩
      case round =>
        obtain ⟨j, hj, rfl, HW⟩ := hrel
        have HI7 := hide (ints_drew HI6.out HW.out)
        have HQ7 := hide (ints_drew HQ6.out HW.out)
        by_cases hlt : j + 1 < Q.length
        · obtain ⟨a7, c7, hsh, HA⟩ := HI7.out
          cases hsh
          obtain ⟨gi, oi, hg, hi2, hi3⟩ := HA 0 h0l
          cases hg
          rw [Nat.add_zero, hd0] at hi3
          clear HA
          obtain ⟨a8, c8, hsh, HA⟩ := HQ7.out
          cases hsh
          obtain ⟨gq, oq, rfl, hq2, hq3⟩ := HA j (by omega)
          obtain ⟨gq', oq', hg, hq4, hq5⟩ := HA (j + 1) hlt
          cases hg
          clear HA
          have C1 := hide (fun wx => implBetween_calls d0 Q[j] Q[j + 1] wx)
          have hbt := HBT.out j hlt
          rw [hbt] at C1
          clear hbt
          generalize Q[j] = y0 at *
          generalize Q[j + 1] = y1 at *
          go_wp2_with fail
          go_quiet (exact Calls.quiet_of_same (C1.out _))
          go_wp2
          go_roundw
          case rel => exact ⟨j + 1, by omega, by go_num, drewN_more HW.out _⟩
          case measure => simp [intOf]; omega
        · have HBr : Hid (Below w1.heap.size w1 wr) := by
            obtain ⟨n, e⟩ := HW.out
            show Below _ _ _
            rw [e]
            exact below_drewN HB6.out n
          have HCr := hide ((HC.out.below (fun k hk => HBr.out.block k hk)).more HBr.out.size)
          have hl1 := HL1.out
          clear HI7 HQ7 HW HI6 HQ6 HB6 HBT HL1
          go_wp2_with fail
          refine (drawBetween_calls wr a0 len cap HCr.out).mono ?_
          rintro e w7 ⟨cN, dN, eN, rfl, hb7⟩
          have HB7 := hide (HBr.out.trans (hb7.mono HBr.out.size))
          have HC7 := hide ((HC.out.below (fun k hk => HB7.out.block k hk)).more HB7.out.size)
          clear hb7 HBr HCr
          go_wp2_with fail
          refine (drawOwner_calls w7 a0 len cap HC7.out).mono ?_
          rintro e w8 ⟨vf, lf, kf, hlf, rfl, hof, hb8⟩
          have HB8 := hide (HB7.out.trans (hb8.mono HB7.out.size))
          have HC8 := hide ((HC.out.below (fun k hk => HB8.out.block k hk)).more HB8.out.size)
          have HF8 := hide (IntsAt.of_own hof)
          obtain ⟨af, cf, hsh⟩ := own_sh hof
          subst hsh
          clear hof hb8 HB7 HC7
          go_wp2_with fail
          refine (drawOrdered_calls w8 a0 len cap HC8.out).mono ?_
          rintro e w9 ⟨vg, lg, kg, hlg, rfl, hog, hb9⟩
          have HB9 := hide (HB8.out.trans (hb9.mono HB8.out.size))
          have HF9 := hide (HF8.out.below hb9 (Nat.le_refl _))
          have HG9 := hide (IntsAt.of_own hog)
          obtain ⟨ag, cg, hsh⟩ := own_sh hog
          subst hsh
          clear hog hb9 HB8 HC8 HF8 HC
          have CB1 := hide (fun wx => implBetween_calls cN dN eN wx)
          have CB2 := hide (fun wx => specBetween_calls cN dN eN wx)
          generalize btw cN dN eN = bb at *
          have hbb : (bb == bb) = true := by cases bb <;> rfl
          have COI := hide (fun wx (hx : IntsAt wx _ lf) => implOwner_calls wx (.slice af lf.length cf) lf kf hx (by omega))
          have COS := hide (fun wx (hx : IntsAt wx _ lf) => specOwner_calls wx (.slice af lf.length cf) lf kf hx (by omega))
          generalize ownerOf kf lf = ow at *
          have CRI := hide (fun wx (hx : IntsAt wx _ lg) => implOrdered_calls wx (.slice ag lg.length cg) lg kg hx (by omega))
          have CRS := hide (fun wx (hx : IntsAt wx _ lg) => specOrdered_calls wx (.slice ag lg.length cg) lg kg hx (by omega))
          have hRl := ordered_length kg lg
          generalize ordered kg lg = R at *
          have CA1 := hide (fun wx => implAhead_calls cN dN wx)
          have CA2 := hide (fun wx => specAhead_calls cN dN wx)
          generalize ahd cN dN = rr at *
          clear hd0
          generalize ids.length = ni at *
          generalize Q.length = nq at *
          subst hl1
          by_cases hab : a = b
          · subst hab
            have CX : Hid (∀ wx, Calls Try.prog 15 #[.int .i64 a, .int .i64 a] wx fun e w' => e = .returned (.int .i64 0) ∧ w' = wx) := fun wx => by
              have := implAhead_calls a a wx
              rw [ahd_self] at this
              exact this
            go_wp2_with fail
            refine (CX.out _).mono ?_
            rintro e wz ⟨rfl, rfl⟩
            go_wp2_with fail
            refine (CX.out _).mono ?_
            rintro e wz ⟨rfl, rfl⟩
            go_upto_region 24 with fail
            refine wp_region_lit ?_
            simp only [List.append_eq, List.cons_append, List.nil_append]
            go_wp2_with fail
            refine (CB1.out _).mono ?_
            rintro e wz ⟨rfl, rfl⟩
            go_wp2_with fail
            refine (CB2.out _).mono ?_
            rintro e wz ⟨rfl, rfl⟩
            go_wp2_with fail
            refine (COI.out _ HF9.out).mono ?_
            rintro e wA ⟨rfl, hbA⟩
            have HFA := hide (HF9.out.below hbA (Nat.le_refl _))
            have HGA := hide (HG9.out.below hbA (Nat.le_refl _))
            have HBA := hide (HB9.out.trans (hbA.mono HB9.out.size))
            clear hbA HF9 HG9 HB9 COI
            go_wp2_with fail
            refine (COS.out _ HFA.out).mono ?_
            rintro e wB ⟨rfl, nB, rfl⟩
            have HGB := hide (IntsAt.drewN HGA.out nB)
            have HBB := hide (below_drewN HBA.out nB)
            clear HFA HGA HBA COS
            generalize wA.drewN nB = wB at *
            go_wp2_with fail
            refine (CRI.out _ HGB.out).mono ?_
            rintro e wC ⟨vC, rfl, hoC, hbC⟩
            have HGC := hide (HGB.out.below hbC (Nat.le_refl _))
            have HBC := hide (HBB.out.trans (hbC.mono HBB.out.size))
            have HOC := hide hoC
            clear hoC hbC HGB HBB CRI
            go_wp2_with fail
            refine (CRS.out _ HGC.out).mono ?_
            rintro e wD ⟨vD, rfl, hoD, hbD⟩
            have HBD := hide (HBC.out.trans (hbD.mono HBC.out.size))
            have HS := hide (sameInts_calls wD vC vD R R (IntsAt.of_own (own_below HOC.out hbD)) (IntsAt.of_own hoD) (by omega) (by omega))
            rw [decide_eq_true (rfl : R = R)] at HS
            clear hoD hbD HGC HBC HOC CRS
            go_wp2_with fail
            refine HS.out.mono ?_
            rintro e wE ⟨rfl, nE, rfl⟩
            have HBE := hide (below_drewN HBD.out nE)
            clear HS HBD
            generalize wD.drewN nE = wE at *
            go_wp2_with fail
            refine (CA1.out _).mono ?_
            rintro e wz ⟨rfl, rfl⟩
            go_wp2_with fail
            refine (CA2.out _).mono ?_
            rintro e wz ⟨rfl, rfl⟩
            go_wp2_with fail
            go_ret
            exact ⟨rfl, HBE.out⟩
          · have hsum := ahd_round ta.1 ta.2 tb.1 tb.2 hab
            have CX := hide (fun wx => implAhead_calls a b wx)
            have CY := hide (fun wx => implAhead_calls b a wx)
            generalize ahd a b = r1 at *
            generalize ahd b a = r2 at *
            have hab2 : (a == b) = false := by simpa using hab
            have h256 : ((r1 : Int) + (r2 : Int)) = 256 := by omega
            by_cases hxa : x = a
            · subst hxa
              go_wp2_with fail
              refine (CX.out _).mono ?_
              rintro e wz ⟨rfl, rfl⟩
              go_wp2_with fail
              refine (CY.out _).mono ?_
              rintro e wz ⟨rfl, rfl⟩
              go_upto_region 24 with fail
              refine wp_region_lit ?_
              simp only [List.append_eq, List.cons_append, List.nil_append]
              go_wp2_with fail
              refine (CB1.out _).mono ?_
              rintro e wz ⟨rfl, rfl⟩
              go_wp2_with fail
              refine (CB2.out _).mono ?_
              rintro e wz ⟨rfl, rfl⟩
              go_wp2_with fail
              refine (COI.out _ HF9.out).mono ?_
              rintro e wA ⟨rfl, hbA⟩
              have HFA := hide (HF9.out.below hbA (Nat.le_refl _))
              have HGA := hide (HG9.out.below hbA (Nat.le_refl _))
              have HBA := hide (HB9.out.trans (hbA.mono HB9.out.size))
              clear hbA HF9 HG9 HB9 COI
              go_wp2_with fail
              refine (COS.out _ HFA.out).mono ?_
              rintro e wB ⟨rfl, nB, rfl⟩
              have HGB := hide (IntsAt.drewN HGA.out nB)
              have HBB := hide (below_drewN HBA.out nB)
              clear HFA HGA HBA COS
              generalize wA.drewN nB = wB at *
              go_wp2_with fail
              refine (CRI.out _ HGB.out).mono ?_
              rintro e wC ⟨vC, rfl, hoC, hbC⟩
              have HGC := hide (HGB.out.below hbC (Nat.le_refl _))
              have HBC := hide (HBB.out.trans (hbC.mono HBB.out.size))
              have HOC := hide hoC
              clear hoC hbC HGB HBB CRI
              go_wp2_with fail
              refine (CRS.out _ HGC.out).mono ?_
              rintro e wD ⟨vD, rfl, hoD, hbD⟩
              have HBD := hide (HBC.out.trans (hbD.mono HBC.out.size))
              have HS := hide (sameInts_calls wD vC vD R R (IntsAt.of_own (own_below HOC.out hbD)) (IntsAt.of_own hoD) (by omega) (by omega))
              rw [decide_eq_true (rfl : R = R)] at HS
              clear hoD hbD HGC HBC HOC CRS
              go_wp2_with fail
              refine HS.out.mono ?_
              rintro e wE ⟨rfl, nE, rfl⟩
              have HBE := hide (below_drewN HBD.out nE)
              clear HS HBD
              generalize wD.drewN nE = wE at *
              go_wp2_with fail
              refine (CA1.out _).mono ?_
              rintro e wz ⟨rfl, rfl⟩
              go_wp2_with fail
              refine (CA2.out _).mono ?_
              rintro e wz ⟨rfl, rfl⟩
              go_wp2_with fail
              go_ret
              exact ⟨rfl, HBE.out⟩
            · have hxa2 : (x == a) = false := by simpa using hxa
              have hbr := btw_round ta.1 ta.2 tb.1 tb.2 tx.1 tx.2 hab hxa
              have CU := hide (fun wx => implBetween_calls a x b wx)
              have CV := hide (fun wx => implBetween_calls b x a wx)
              rw [hbr] at CV
              generalize btw a x b = ub at *
              have hne : (ub != !ub) = true := by cases ub <;> rfl
              clear hbr hab hxa
              go_wp2_with fail
              refine (CX.out _).mono ?_
              rintro e wz ⟨rfl, rfl⟩
              go_wp2_with fail
              refine (CY.out _).mono ?_
              rintro e wz ⟨rfl, rfl⟩
              go_upto_region 24 with fail
              refine wp_region_lit ?_
              simp only [List.append_eq, List.cons_append, List.nil_append]
              go_wp2_with fail
              refine (CU.out _).mono ?_
              rintro e wz ⟨rfl, rfl⟩
              go_wp2_with fail
              refine (CV.out _).mono ?_
              rintro e wz ⟨rfl, rfl⟩
              go_wp2_with fail
              refine (CB1.out _).mono ?_
              rintro e wz ⟨rfl, rfl⟩
              go_wp2_with fail
              refine (CB2.out _).mono ?_
              rintro e wz ⟨rfl, rfl⟩
              go_wp2_with fail
              refine (COI.out _ HF9.out).mono ?_
              rintro e wA ⟨rfl, hbA⟩
              have HFA := hide (HF9.out.below hbA (Nat.le_refl _))
              have HGA := hide (HG9.out.below hbA (Nat.le_refl _))
              have HBA := hide (HB9.out.trans (hbA.mono HB9.out.size))
              clear hbA HF9 HG9 HB9 COI
              go_wp2_with fail
              refine (COS.out _ HFA.out).mono ?_
              rintro e wB ⟨rfl, nB, rfl⟩
              have HGB := hide (IntsAt.drewN HGA.out nB)
              have HBB := hide (below_drewN HBA.out nB)
              clear HFA HGA HBA COS
              generalize wA.drewN nB = wB at *
              go_wp2_with fail
              refine (CRI.out _ HGB.out).mono ?_
              rintro e wC ⟨vC, rfl, hoC, hbC⟩
              have HGC := hide (HGB.out.below hbC (Nat.le_refl _))
              have HBC := hide (HBB.out.trans (hbC.mono HBB.out.size))
              have HOC := hide hoC
              clear hoC hbC HGB HBB CRI
              go_wp2_with fail
              refine (CRS.out _ HGC.out).mono ?_
              rintro e wD ⟨vD, rfl, hoD, hbD⟩
              have HBD := hide (HBC.out.trans (hbD.mono HBC.out.size))
              have HS := hide (sameInts_calls wD vC vD R R (IntsAt.of_own (own_below HOC.out hbD)) (IntsAt.of_own hoD) (by omega) (by omega))
              rw [decide_eq_true (rfl : R = R)] at HS
              clear hoD hbD HGC HBC HOC CRS
              go_wp2_with fail
              refine HS.out.mono ?_
              rintro e wE ⟨rfl, nE, rfl⟩
              have HBE := hide (below_drewN HBD.out nE)
              clear HS HBD
              generalize wD.drewN nE = wE at *
              go_wp2_with fail
              refine (CA1.out _).mono ?_
              rintro e wz ⟨rfl, rfl⟩
              go_wp2_with fail
              refine (CA2.out _).mono ?_
              rintro e wz ⟨rfl, rfl⟩
              go_wp2_with fail
              go_ret
              exact ⟨rfl, HBE.out⟩
end Go.Proofs.Ythkdgnohkdedpaa.P8
