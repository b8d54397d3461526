/- The walk of FnMembers: it returns true; no condition. -/
import Derived.Test.YtgnldmheiknbkaaZS
import Derived.Test.YtgnldmheiknbkaaZT
import Derived.Test.YtgnldmheiknbkaaZRecI
namespace Go.Proofs.Ytgnldmheiknbkaa.P6
set_option maxRecDepth 8000
open Go.RowKit P1 P5 Rc

theorem roles24 (L : List Cr) (who : Int) : (rolesOf L who).length ≤ 24 := by
  refine Nat.le_trans (List.length_filter_le _ _) ?_
  simp [allRoles]

theorem members6 (L : List Cr) (a b : Int) : (membersOf L a b).length ≤ 6 := by
  refine Nat.le_trans (List.length_filter_le _ _) ?_
  simp

theorem sums_roles (L : List Cr) : ∃ S : Nat → Nat, S 0 = 0 ∧ (∀ k, S (k + 1) = S k + (rolesOf L (k : Int)).length) ∧ (∀ k, S k ≤ 24 * k) ∧ S 6 = (factsOf L).length := by
  have step : ∀ k, ((below (k + 1)).map fun who => (rolesOf L who).length).sum = ((below k).map fun who => (rolesOf L who).length).sum + (rolesOf L (k : Int)).length := fun k => by
    rw [below_succ, List.map_append, List.sum_append]
    simp
  refine ⟨fun k => ((below k).map fun who => (rolesOf L who).length).sum, rfl, step, fun k => ?_, sum_roles L⟩
  induction k with
  | zero => exact Nat.le_refl _
  | succ k ih =>
    show ((below (k + 1)).map fun who => (rolesOf L who).length).sum ≤ _
    rw [step]
    have := roles24 L (k : Int)
    have ih' : ((below k).map fun who => (rolesOf L who).length).sum ≤ 24 * k := ih
    omega

theorem sums_members (L : List Cr) : ∃ S : Nat → Nat, S 0 = 0 ∧ (∀ k, k < 24 → S (k + 1) = S k + (membersOf L ((k / 4 : Nat) : Int) ((k % 4 : Nat) : Int)).length) ∧ (∀ k, k ≤ 24 → S k ≤ 6 * k) ∧ S 24 = (factsOf L).length := by
  have step : ∀ k, k < 24 → ((allRoles.take (k + 1)).map fun r => (membersOf L r.1 r.2).length).sum = ((allRoles.take k).map fun r => (membersOf L r.1 r.2).length).sum + (membersOf L ((k / 4 : Nat) : Int) ((k % 4 : Nat) : Int)).length := fun k hk => by
    have hl : k < allRoles.length := by simpa [allRoles] using hk
    rw [List.take_succ_eq_append_getElem hl, List.map_append, List.sum_append]
    simp [allRoles]
  refine ⟨fun k => ((allRoles.take k).map fun r => (membersOf L r.1 r.2).length).sum, rfl, step, fun k hk => ?_, ?_⟩
  · induction k with
    | zero => exact Nat.le_refl _
    | succ k ih =>
      show ((allRoles.take (k + 1)).map fun r => (membersOf L r.1 r.2).length).sum ≤ _
      rw [step k (by omega)]
      have := members6 L ((k / 4 : Nat) : Int) ((k % 4 : Nat) : Int)
      have ih' : ((allRoles.take k).map fun r => (membersOf L r.1 r.2).length).sum ≤ 6 * k := ih (by omega)
      omega
  · show ((allRoles.take 24).map fun r => (membersOf L r.1 r.2).length).sum = _
    rw [List.take_of_length_le (by simp [allRoles])]
    exact sum_members L

set_option maxHeartbeats 4000000 in
theorem membersWalk (w : World) (a : Option Addr) (len cap : Nat) (z : List Int) (hr : Frame.IsRow .u8 w a len cap z) :
    Calls Try.prog 3 #[.slice a len cap] w fun e w' => e = .returned (.bool true) ∧ Below w.heap.size w w' := by
  have Hr := hide hr
  clear hr
  by_cases hbig : 1048576 < len
  · have hd : decide (1048576 < (len : Int)) = true := by simp; omega
    go_enter Try.func3, Try.ntmps3
    go_wp2_with fail
    refine (Cu.big_calls _ a len cap).mono ?_
    rintro e w1 ⟨rfl, rfl⟩
    rw [hd]
    go_wp2
    go_ret
    exact ⟨rfl, Below.refl _ _⟩
  have hd : decide (1048576 < (len : Int)) = false := by simp; omega
  have HC := hide (Cu.code_of_row Hr.out (by omega))
  clear Hr hbig
  go_enter Try.func3, Try.ntmps3
  go_wp2_with fail
  refine (Cu.big_calls _ a len cap).mono ?_
  rintro e w0 ⟨rfl, rfl⟩
  rw [hd]
  clear hd
  have HCm : Hid (∀ wx, Below w0.heap.size w0 wx → Cu.Code wx.heap.size wx (.slice a len cap) len) := fun wx hb => (HC.out.below (fun k hk => hb.block k hk)).more hb.size
  clear HC
  go_wp2_with fail
  refine (drawWords_calls w0 a len cap (HCm.out _ (Below.refl _ _))).mono ?_
  rintro e w1 ⟨vL, L, rfl, hL1, hL9, -, hownL, hb1⟩
  obtain ⟨aL, cL, hsh⟩ := own_shape hownL
  have HL1 := hide (RowAt.of_own hownL)
  have HB1 := hide hb1
  clear hownL hb1
  subst hsh
  have HLit := hide (World.ownsRow_lit (base := w1.heap.size) (e := 29) (size := 10) w1 #[] 0 (Nat.le_refl _) (by decide) rfl)
  have hb2 := (Below.refl w1.heap.size w1).alloc (Nat.le_refl _) (.cells #[] 29)
  have HB2 := hide hb2
  have HL2 := hide (HL1.out.below hb2 (Nat.le_refl _))
  have hB2 : w1.heap.size ≤ (w1.alloc (.cells #[] 29)).heap.size := hb2.size
  obtain ⟨i0, hi, hz0, hz1, hz2⟩ := info_parts info_credI
  clear hb2
  go_wp2_with (at_builtin; refine wpList_append_row (R := crR) (B := w1.heap.size) rfl (.tmp 17) (.tmp 18) 24 rfl 29 i0 (.agg #[.int .i64 0, .int .i64 0, .int .i64 0, .int .i64 0, .int .i64 0, .int .i64 0, .int .i64 0, .int .i64 0, .int .i64 0, .int .i64 0]) 80 Try.underlying24 hi hz0 hz1 hz2 rfl _ _ 0 _ L rfl HLit.out rfl HL2.out hB2 (by unfold maxLen; omega) (by omega) ?_)
  intro v3 w3 hown3 hb3
  have HO3 := hide (show w3.ownsRow w1.heap.size 29 10 v3 L.length (cellsI (flat crR L)) by change w3.ownsRow w1.heap.size 29 10 v3 _ _ at hown3; simpa using hown3)
  have HB3 := hide (HB2.out.trans hb3)
  have HB03 := hide (HB1.out.trans (HB3.out.mono HB1.out.size))
  clear hown3 hb3 HLit HB2 HL2 hB2
  go_wp2_with fail
  refine (drawWord_calls w3 a len cap (HCm.out _ HB03.out)).mono ?_
  rintro e w4 ⟨⟨⟨k, ow, on, wh, aw, an, bw, bn, u, n⟩, -, rfl⟩, hb⟩
  have HO4 := hide (own_below HO3.out hb)
  have HB4 := hide (HB3.out.trans (hb.mono HB3.out.size))
  have hB4 : w1.heap.size ≤ w4.heap.size := HB4.out.size
  simp only [credV]
  clear hb HO3 HB3 HB03 HCm
  go_wp2_with (at_builtin; refine wpList_append_one (cs := #[.int .i64 k, .int .i64 ow, .int .i64 on, .int .i64 wh, .int .i64 aw, .int .i64 an, .int .i64 bw, .int .i64 bn, .int .i64 u, .int .i64 n]) (Below.refl w1.heap.size w4) hB4 rfl (.tmp 19) (.tmp 22) 24 rfl 29 i0 (.agg #[.int .i64 0, .int .i64 0, .int .i64 0, .int .i64 0, .int .i64 0, .int .i64 0, .int .i64 0, .int .i64 0, .int .i64 0, .int .i64 0]) 10 80 Try.underlying24 hi hz0 hz1 hz2 rfl (by decide) rfl (by simp [Value.oneCell']) _ _ _ rfl HO4.out 1 rfl (by omega) (by omega) ?_)
  intro v5 w5 hown5 hb5
  have hown5' := own_snocR (R := crR) (x := ⟨k, ow, on, wh, aw, an, bw, bn, u, n⟩) rfl hown5
  obtain ⟨M, EM⟩ : ∃ M, M = L ++ [⟨k, ow, on, wh, aw, an, bw, bn, u, n⟩] := ⟨_, rfl⟩
  rw [← EM] at hown5'
  have hM10 : M.length ≤ 10 := by rw [EM]; simp; omega
  have HLM : Hid (∀ f, f ∈ factsOf L → f ∈ factsOf M) := fun f hf => factsOf_more (fun c hc => by rw [EM]; simp [hc]) hf
  obtain ⟨aM, cM, hshM⟩ := own_shape hown5'
  have HM5 := hide (RowAt.of_own hown5')
  have HB5 := hide (HB4.out.trans hb5)
  have HL5 := hide (HL1.out.below HB5.out (Nat.le_refl _))
  clear hown5 hown5' hb5 EM HO4 HB4 hB4
  subst hshM
  go_wp2_with fail
  refine (implFacts_calls w5 _ L HL5.out (by omega)).mono ?_
  rintro e w6 ⟨vF, rfl, hownF, hb⟩
  have hFl := factsOf_le L
  obtain ⟨aF, cF, hshF⟩ := own_shape hownF
  have HF6 := hide (RowAt.of_own hownF)
  have HL6 := hide (HL5.out.below hb (Nat.le_refl _))
  have HM6 := hide (HM5.out.below hb (Nat.le_refl _))
  have HB6 := hide (HB1.out.trans ((HB5.out.trans (hb.mono HB5.out.size)).mono HB1.out.size))
  have HSF := hide (fun wx vx (h : RowAt crR wx vx L) => specFacts_calls wx vx L h (by omega))
  have HIM := hide (fun wx vx (ra rb who : Int) (h : RowAt crR wx vx L) => implIsMember_calls wx vx L ra rb who h (by omega))
  have HIN := hide (fun wx vx (ra rb who : Int) (h : RowAt crR wx vx M) => implIsMember_calls wx vx M ra rb who h (by omega))
  have HRO := hide (fun wx vx (who : Int) (h : RowAt crR wx vx L) => implRoles_calls wx vx L who h (by omega))
  have HME := hide (fun wx vx (ra rb : Int) (h : RowAt crR wx vx L) => implMembers_calls wx vx L ra rb h (by omega))
  have HFO := hide (fun c (hc : c ∈ L) => factsOf_follows hc)
  obtain ⟨S3, h30, h3s, h3l, h36⟩ := sums_roles L
  obtain ⟨S4, h40, h4s, h4l, h46⟩ := sums_members L
  have H3 := hide (And.intro h30 (And.intro h3s (And.intro h3l h36)))
  have H4 := hide (And.intro h40 (And.intro h4s (And.intro h4l h46)))
  clear hownF hb HL5 HM5 HB5 HB1 h30 h3s h3l h36 h40 h4s h4l h46 HL1
  obtain ⟨F, EF⟩ : ∃ F, F = factsOf L := ⟨_, rfl⟩
  rw [← EF] at hFl HF6 hshF
  simp only [← EF] at HSF HIM HLM HFO H3 H4
  clear EF
  subst hshF
  go_wp2_with fail
  refine (HSF.out w6 _ HL6.out).mono ?_
  rintro e w7 ⟨v7, rfl, hown7, hb⟩
  have HF7 := hide (HF6.out.below hb (Nat.le_refl _))
  have HL7 := hide (HL6.out.below hb (Nat.le_refl _))
  have HM7 := hide (HM6.out.below hb (Nat.le_refl _))
  have HB7 := hide (HB6.out.trans (hb.mono HB6.out.size))
  have HR7 := hide (RowAt.of_own hown7)
  clear hown7 hb HF6 HL6 HM6 HB6 HSF
  go_wp2_with fail
  refine (sameFacts_calls w7 _ v7 F HF7.out HR7.out (by omega)).mono ?_
  rintro e w8 ⟨rfl, hb⟩
  have HF8 := hide (HF7.out.below hb (Nat.le_refl _))
  have HL8 := hide (HL7.out.below hb (Nat.le_refl _))
  have HM8 := hide (HM7.out.below hb (Nat.le_refl _))
  have HB8 := hide (HB7.out.trans (hb.mono HB7.out.size))
  clear hb HF7 HL7 HM7 HB7 HR7
  have HFx : Hid (∀ wx, Below w8.heap.size w8 wx → RowAt faR wx (.slice aF F.length cF) F) := fun wx hb => HF8.out.below hb (Nat.le_refl _)
  have HLx : Hid (∀ wx, Below w8.heap.size w8 wx → RowAt crR wx (.slice aL L.length cL) L) := fun wx hb => HL8.out.below hb (Nat.le_refl _)
  have HMx : Hid (∀ wx, Below w8.heap.size w8 wx → RowAt crR wx (.slice aM M.length cM) M) := fun wx hb => HM8.out.below hb (Nat.le_refl _)
  have HAL : Hid (∀ j (hj : j < L.length), ∃ g off, aL = some ⟨g, off, none⟩ ∧ g < w8.heap.size ∧ ∀ i, i < 10 → w8.cell? ⟨g, off + j * 10 + i, none⟩ = ((crR.ints L[j])[i]?).map (.int .i64 ·)) := fun j hj => by
    obtain ⟨a', ca', h0, h1⟩ := HL8.out.open_
    cases h0
    exact h1 j hj
  have HAF : Hid (∀ j (hj : j < F.length), ∃ g off, aF = some ⟨g, off, none⟩ ∧ g < w8.heap.size ∧ ∀ i, i < 3 → w8.cell? ⟨g, off + j * 3 + i, none⟩ = ((faR.ints F[j])[i]?).map (.int .i64 ·)) := fun j hj => by
    obtain ⟨a', ca', h0, h1⟩ := HF8.out.open_
    cases h0
    exact h1 j hj
  clear HF8 HL8 HM8
  go_wp2_with fail
  go_loopw [6] (fun i wr => ∃ j : Nat, j ≤ L.length ∧ i = .int .i64 j ∧ Hid (Below w8.heap.size w8 wr)) (fun i _ => L.length - (intOf i).toNat)
  case atStart => exact ⟨0, Nat.zero_le _, rfl, Below.refl _ _⟩
  case round =>
    obtain ⟨j, hj, rfl, HB⟩ := hrel
    by_cases hlt : j < L.length
    · obtain ⟨g, off, rfl, hg, hc⟩ := HAL.out j hlt
      have hfo := HFO.out L[j] (List.getElem_mem hlt)
      generalize L[j] = c at *
      have HI := hide (implFollows_calls wr _ F c (HFx.out _ HB.out) (by omega))
      rw [hfo] at HI
      clear hfo
      obtain ⟨k, ow, on, wh, aw, an, bw, bn, u, n⟩ := c
      simp only [credV] at HI
      have f0 : wr.cell? ⟨g, off + j * 10, none⟩ = some (.int .i64 k) := (HB.out.cell (p := ⟨g, off + j * 10, none⟩) hg).trans (hc 0 (by decide))
      have f1 : wr.cell? ⟨g, off + j * 10 + 1, none⟩ = some (.int .i64 ow) := (HB.out.cell (p := ⟨g, off + j * 10 + 1, none⟩) hg).trans (hc 1 (by decide))
      have f2 : wr.cell? ⟨g, off + j * 10 + 2, none⟩ = some (.int .i64 on) := (HB.out.cell (p := ⟨g, off + j * 10 + 2, none⟩) hg).trans (hc 2 (by decide))
      have f3 : wr.cell? ⟨g, off + j * 10 + 3, none⟩ = some (.int .i64 wh) := (HB.out.cell (p := ⟨g, off + j * 10 + 3, none⟩) hg).trans (hc 3 (by decide))
      have f4 : wr.cell? ⟨g, off + j * 10 + 4, none⟩ = some (.int .i64 aw) := (HB.out.cell (p := ⟨g, off + j * 10 + 4, none⟩) hg).trans (hc 4 (by decide))
      have f5 : wr.cell? ⟨g, off + j * 10 + 5, none⟩ = some (.int .i64 an) := (HB.out.cell (p := ⟨g, off + j * 10 + 5, none⟩) hg).trans (hc 5 (by decide))
      have f6 : wr.cell? ⟨g, off + j * 10 + 6, none⟩ = some (.int .i64 bw) := (HB.out.cell (p := ⟨g, off + j * 10 + 6, none⟩) hg).trans (hc 6 (by decide))
      have f7 : wr.cell? ⟨g, off + j * 10 + 7, none⟩ = some (.int .i64 bn) := (HB.out.cell (p := ⟨g, off + j * 10 + 7, none⟩) hg).trans (hc 7 (by decide))
      have f8 : wr.cell? ⟨g, off + j * 10 + 8, none⟩ = some (.int .i64 u) := (HB.out.cell (p := ⟨g, off + j * 10 + 8, none⟩) hg).trans (hc 8 (by decide))
      have f9 : wr.cell? ⟨g, off + j * 10 + 9, none⟩ = some (.int .i64 n) := (HB.out.cell (p := ⟨g, off + j * 10 + 9, none⟩) hg).trans (hc 9 (by decide))
      have hgr : g < wr.heap.size := Nat.lt_of_lt_of_le hg HB.out.size
      clear hc
      go_wp2_with fail
      clear f0 f1 f2 f3 f4 f5 f6 f7 f8 f9
      refine HI.out.mono ?_
      rintro e w10 ⟨v10, rfl, ho, hb⟩
      have HR := hide (RowAt.of_own ho)
      have HB10 := hide (HB.out.trans (hb.mono HB.out.size))
      clear ho hb HI
      go_wp2_with fail
      refine (sameFacts_calls w10 v10 _ F HR.out (HFx.out _ HB10.out) (by omega)).mono ?_
      rintro e w11 ⟨rfl, hb⟩
      have HB11 := hide (HB10.out.trans (hb.mono HB10.out.size))
      clear hb HR HB10 HB
      go_wp2_with fail
      go_roundw
      case rel => exact ⟨j + 1, by omega, by go_num, HB11.out⟩
      case measure => simp [intOf]; omega
    · clear HFO HAL
      go_wp2_with fail
      go_loopw [7] (fun i wx => ∃ j : Nat, j ≤ F.length ∧ i = .int .i64 j ∧ Hid (Below w8.heap.size w8 wx)) (fun i _ => F.length - (intOf i).toNat)
      case atStart => exact ⟨0, Nat.zero_le _, rfl, HB.out⟩
      case round =>
        clear HB hj hlt
        obtain ⟨j, hj, rfl, HB⟩ := hrel
        by_cases hlt : j < F.length
        · obtain ⟨g, off, rfl, hg, hc⟩ := HAF.out j hlt
          have hin : F[j] ∈ F := List.getElem_mem hlt
          have hinM := HLM.out _ hin
          generalize F[j] = f at *
          obtain ⟨fa, fb, fw⟩ := f
          have f0 : wr.cell? ⟨g, off + j * 3, none⟩ = some (.int .i64 fa) := (HB.out.cell (p := ⟨g, off + j * 3, none⟩) hg).trans (hc 0 (by decide))
          have f1 : wr.cell? ⟨g, off + j * 3 + 1, none⟩ = some (.int .i64 fb) := (HB.out.cell (p := ⟨g, off + j * 3 + 1, none⟩) hg).trans (hc 1 (by decide))
          have f2 : wr.cell? ⟨g, off + j * 3 + 2, none⟩ = some (.int .i64 fw) := (HB.out.cell (p := ⟨g, off + j * 3 + 2, none⟩) hg).trans (hc 2 (by decide))
          have hgr : g < wr.heap.size := Nat.lt_of_lt_of_le hg HB.out.size
          have hbA := (Below.refl wr.heap.size wr).alloc (Nat.le_refl _) (.cells #[.int .i64 fa, .int .i64 fb, .int .i64 fw] 36)
          have HBA := hide (HB.out.trans (hbA.mono HB.out.size))
          have HG := hide (Blk.new wr #[.int .i64 fa, .int .i64 fb, .int .i64 fw] 36)
          have HI1 : Hid (∀ wx, RowAt crR wx (.slice aL L.length cL) L → Calls Try.prog 17 #[.slice aL L.length cL, .agg #[.int .i64 fa, .int .i64 fb], .int .i64 fw] wx fun e w' => e = .returned (.bool true) ∧ Below wx.heap.size wx w') := fun wx h => by
            have := HIM.out wx _ fa fb fw h
            rw [decide_eq_true hin] at this
            exact this
          have HI2 : Hid (∀ wx, RowAt crR wx (.slice aM M.length cM) M → Calls Try.prog 17 #[.slice aM M.length cM, .agg #[.int .i64 fa, .int .i64 fb], .int .i64 fw] wx fun e w' => e = .returned (.bool true) ∧ Below wx.heap.size wx w') := fun wx h => by
            have := HIN.out wx _ fa fb fw h
            rw [decide_eq_true hinM] at this
            exact this
          clear hc hin hinM hbA HB
          go_wp2_with fail
          clear f0 f1 f2 hgr
          obtain ⟨b0, e0⟩ : ∃ b, b = wr.heap.size := ⟨_, rfl⟩
          rw [← e0] at HG ⊢
          clear e0
          generalize wr.alloc (.cells #[.int .i64 fa, .int .i64 fb, .int .i64 fw] 36) = w9 at *
          refine (HI1.out w9 (HLx.out _ HBA.out)).mono ?_
          rintro e w10 ⟨rfl, hb⟩
          have HB10 := hide (HBA.out.trans (hb.mono HBA.out.size))
          have G10 := hide (HG.out.below hb HG.out.lt)
          have d0 : w10.cell? ⟨b0, 0, none⟩ = some (.int .i64 fa) := by rw [G10.out.cell 0]; rfl
          have d1 : w10.cell? ⟨b0, 1, none⟩ = some (.int .i64 fb) := by rw [G10.out.cell 1]; rfl
          have d2 : w10.cell? ⟨b0, 2, none⟩ = some (.int .i64 fw) := by rw [G10.out.cell 2]; rfl
          have l0 := G10.out.lt
          clear hb HBA HG HI1
          go_wp2_with fail
          clear d0 d1 d2 l0 G10
          refine (HI2.out w10 (HMx.out _ HB10.out)).mono ?_
          rintro e w11 ⟨rfl, hb⟩
          have HB11 := hide (HB10.out.trans (hb.mono HB10.out.size))
          clear hb HI2 HB10
          go_wp2_with fail
          go_roundw
          case rel => exact ⟨j + 1, by omega, by go_num, HB11.out⟩
          case measure => simp [intOf]; omega
        · clear HAF HIM HIN HLM HMx
          go_wp2_with fail
          go_loopw [9, 10] (fun s i wx => ∃ j : Nat, j ≤ 6 ∧ i = .int .i64 j ∧ s = .int .i64 (S3 j : Nat) ∧ Hid (Below w8.heap.size w8 wx)) (fun _ i _ => 6 - (intOf i).toNat)
          case atStart => exact ⟨0, by decide, rfl, by rw [H3.out.1]; rfl, HB.out⟩
          case round =>
            clear HB hj hlt
            obtain ⟨j, hj, rfl, rfl, HB⟩ := hrel
            by_cases hlt : j < 6
            · have hs := H3.out.2.1 j
              have hle := H3.out.2.2.1 j
              have hle2 := roles24 L (j : Int)
              have HI := hide (HRO.out wr _ (j : Int) (HLx.out _ HB.out))
              generalize rolesOf L (j : Int) = R at *
              have HS := hide hs
              clear hs
              go_wp2_with fail
              refine HI.out.mono ?_
              rintro e w10 ⟨v10, rfl, ho, hb⟩
              obtain ⟨a10, c10, hsh10⟩ := own_shape ho
              have HB10 := hide (HB.out.trans (hb.mono HB.out.size))
              clear ho hb HI HB
              subst hsh10
              generalize R.length = r at *
              generalize hS3 : S3 j = s3 at *
              go_wp2_with fail
              go_roundw
              case rel => exact ⟨j + 1, by omega, by go_num, by rw [HS.out]; go_num, HB10.out⟩
              case measure => simp [intOf]; omega
            · have hj6 : j = 6 := by omega
              have h36 : S3 j = F.length := by rw [hj6]; exact H3.out.2.2.2
              rw [h36]
              clear H3 HRO h36 hj6
              go_wp2_with fail
              go_loopw [11, 12] (fun s i wx => ∃ j : Nat, j ≤ 24 ∧ i = .int .i64 j ∧ s = .int .i64 (S4 j : Nat) ∧ Hid (Below w8.heap.size w8 wx)) (fun _ i _ => 24 - (intOf i).toNat)
              case atStart => exact ⟨0, by decide, rfl, by rw [H4.out.1]; rfl, HB.out⟩
              case round =>
                clear HB hj hlt
                obtain ⟨j, hj, rfl, rfl, HB⟩ := hrel
                by_cases hlt : j < 24
                · have hs := H4.out.2.1 j hlt
                  have hle := H4.out.2.2.1 j hj
                  have hle2 := members6 L ((j / 4 : Nat) : Int) ((j % 4 : Nat) : Int)
                  have HI := hide (HME.out wr _ ((j / 4 : Nat) : Int) ((j % 4 : Nat) : Int) (HLx.out _ HB.out))
                  simp only [roleV] at HI
                  rw [show ((j / 4 : Nat) : Int) = (j : Int) / 4 by omega, show ((j % 4 : Nat) : Int) = (j : Int) % 4 by omega] at hs HI hle2
                  generalize membersOf L ((j : Int) / 4) ((j : Int) % 4) = R at *
                  have HS := hide hs
                  clear hs
                  go_wp2_with fail
                  refine HI.out.mono ?_
                  rintro e w10 ⟨v10, rfl, ho, hb⟩
                  obtain ⟨a10, c10, hsh10⟩ := own_shape ho
                  have HB10 := hide (HB.out.trans (hb.mono HB.out.size))
                  clear ho hb HI HB
                  subst hsh10
                  generalize R.length = r at *
                  generalize hS4 : S4 j = s4 at *
                  go_wp2_with fail
                  go_roundw
                  case rel => exact ⟨j + 1, by omega, by go_num, by rw [HS.out]; go_num, HB10.out⟩
                  case measure => simp [intOf]; omega
                · have hj24 : j = 24 := by omega
                  have h46 : S4 j = F.length := by rw [hj24]; exact H4.out.2.2.2
                  rw [h46]
                  clear H4 HME h46 hj24
                  go_wp2_with fail
                  go_ret
                  exact ⟨rfl, HB8.out.trans (HB.out.mono HB8.out.size)⟩
end Go.Proofs.Ytgnldmheiknbkaa.P6
