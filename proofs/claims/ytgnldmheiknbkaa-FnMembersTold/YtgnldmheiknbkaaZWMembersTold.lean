/- The walk of FnMembersTold: it returns true; no condition. -/
import Derived.Test.YtgnldmheiknbkaaZS
import Derived.Test.YtgnldmheiknbkaaZT
import Derived.Test.YtgnldmheiknbkaaZRecI
import Derived.Test.YtgnldmheiknbkaaZLate4
namespace Go.Proofs.Ytgnldmheiknbkaa.P6
set_option maxRecDepth 8000
open Go.RowKit P1 P5 Rc

theorem entT0 : ∀ args w, (callFunc 16 args).run Try.prog w = .ok (.enter 16 args) w := run_enter Try.func16 (by kernel_rfl) (by kernel_rfl)
theorem entT1 : ∀ args w, (callFunc 25 args).run Try.prog w = .ok (.enter 25 args) w := run_enter Try.func25 (by kernel_rfl) (by kernel_rfl)
theorem entT2 : ∀ args w, (callFunc 14 args).run Try.prog w = .ok (.enter 14 args) w := run_enter Try.func14 (by kernel_rfl) (by kernel_rfl)
theorem entT3 : ∀ args w, (callFunc 13 args).run Try.prog w = .ok (.enter 13 args) w := run_enter Try.func13 (by kernel_rfl) (by kernel_rfl)
theorem entT4 : ∀ args w, (callFunc 15 args).run Try.prog w = .ok (.enter 15 args) w := run_enter Try.func15 (by kernel_rfl) (by kernel_rfl)
theorem entT5 : ∀ args w, (callFunc 17 args).run Try.prog w = .ok (.enter 17 args) w := run_enter Try.func17 (by kernel_rfl) (by kernel_rfl)
theorem entT6 : ∀ args w, (callFunc 26 args).run Try.prog w = .ok (.enter 26 args) w := run_enter Try.func26 (by kernel_rfl) (by kernel_rfl)
theorem entT7 : ∀ args w, (callFunc 19 args).run Try.prog w = .ok (.enter 19 args) w := run_enter Try.func19 (by kernel_rfl) (by kernel_rfl)
theorem entT8 : ∀ args w, (callFunc 28 args).run Try.prog w = .ok (.enter 28 args) w := run_enter Try.func28 (by kernel_rfl) (by kernel_rfl)
theorem entT9 : ∀ args w, (callFunc 27 args).run Try.prog w = .ok (.enter 27 args) w := run_enter Try.func27 (by kernel_rfl) (by kernel_rfl)
theorem entT10 : ∀ args w, (callFunc 30 args).run Try.prog w = .ok (.enter 30 args) w := run_enter Try.func30 (by kernel_rfl) (by kernel_rfl)
theorem entT11 : ∀ args w, (callFunc 31 args).run Try.prog w = .ok (.enter 31 args) w := run_enter Try.func31 (by kernel_rfl) (by kernel_rfl)
theorem entT12 : ∀ args w, (callFunc 29 args).run Try.prog w = .ok (.enter 29 args) w := run_enter Try.func29 (by kernel_rfl) (by kernel_rfl)

set_option maxHeartbeats 8000000 in
theorem membersToldWalk (w : World) (a : Option Addr) (len cap : Nat) (z : List Int) (hr : Frame.IsRow .u8 w a len cap z) :
    Calls Try.prog 4 #[.slice a len cap] w fun e w' => e = .returned (.bool true) ∧ Below w.heap.size w w' := by
  have Hr := hide hr
  clear hr
  by_cases hbig : 1048576 < len
  · have hd : decide (1048576 < (len : Int)) = true := by simp; omega
    go_enter Try.func4, Try.ntmps4
    go_wp2_with fail
    refine (Cu.big_calls _ a len cap).mono ?_
    rintro e w1 ⟨rfl, rfl⟩
    rw [hd]
    go_wp2
    go_ret
    exact ⟨rfl, Below.refl _ _⟩
  have hd : decide (1048576 < (len : Int)) = false := by simp; omega
  have HC := hide (Cu.code_of_row Hr.out (by omega))
  clear Hr hbig
  go_enter Try.func4, Try.ntmps4
  go_wp2_with fail
  refine (Cu.big_calls _ a len cap).mono ?_
  rintro e w0 ⟨rfl, rfl⟩
  rw [hd]
  clear hd
  have HCm : Hid (∀ wx, Below w0.heap.size w0 wx → Cu.Code wx.heap.size wx (.slice a len cap) len) := fun wx hb => (HC.out.below (fun k hk => hb.block k hk)).more hb.size
  clear HC
  go_wp2_with fail
  refine (drawFollows_calls w0 a len cap (HCm.out _ (Below.refl _ _))).mono ?_
  rintro e w1 ⟨vF, F, c, rfl, hF, hownF, hb1⟩
  have HIF := hide (fun wx vx (h : RowAt faR wx vx F) => implFollows_calls wx vx F c h (by omega))
  have HSF := hide (fun wx vx (h : RowAt faR wx vx F) => specFollows_calls wx vx F c h (by omega))
  have hAl := follows_le F c
  obtain ⟨A, EA⟩ : ∃ A, A = follows F c := ⟨_, rfl⟩
  simp only [← EA] at HIF HSF hAl
  clear EA
  obtain ⟨aF, cF, hshF⟩ := own_shape hownF
  have HF1 := hide (RowAt.of_own hownF)
  have HB1 := hide hb1
  obtain ⟨k, ow, on, wh, aw, an, bw, bn, u, n⟩ := c
  simp only [credV] at HIF HSF ⊢
  clear hownF hb1
  subst hshF
  have hb2 := (Below.refl w1.heap.size w1).alloc (Nat.le_refl _) (.cells #[.int .i64 k, .int .i64 ow, .int .i64 on, .int .i64 wh, .int .i64 aw, .int .i64 an, .int .i64 bw, .int .i64 bn, .int .i64 u, .int .i64 n] 29)
  have HB2 := hide (HB1.out.trans (hb2.mono HB1.out.size))
  have HF2 := hide (HF1.out.below hb2 (Nat.le_refl _))
  have G2 := hide (Blk.new w1 #[.int .i64 k, .int .i64 ow, .int .i64 on, .int .i64 wh, .int .i64 aw, .int .i64 an, .int .i64 bw, .int .i64 bn, .int .i64 u, .int .i64 n] 29)
  clear hb2 HB1 HF1
  go_wp2_with fail
  obtain ⟨b4, e4⟩ : ∃ b, b = w1.heap.size := ⟨_, rfl⟩
  rw [← e4] at G2 ⊢
  clear e4
  generalize w1.alloc (.cells #[.int .i64 k, .int .i64 ow, .int .i64 on, .int .i64 wh, .int .i64 aw, .int .i64 an, .int .i64 bw, .int .i64 bn, .int .i64 u, .int .i64 n] 29) = w2 at *
  refine (drawFactsOf_calls w2 a len cap (HCm.out _ HB2.out)).mono ?_
  rintro e w3 ⟨vD, D, rfl, hD, hownD, hb⟩
  obtain ⟨aD, cD, hshD⟩ := own_shape hownD
  have HD3 := hide (RowAt.of_own hownD)
  have HF3 := hide (HF2.out.below hb (Nat.le_refl _))
  have G3 := hide (G2.out.below hb G2.out.lt)
  have HB3 := hide (HB2.out.trans (hb.mono HB2.out.size))
  clear hownD hb HF2 G2 HB2
  subst hshD
  go_wp2_with fail
  refine (drawIsMember_calls w3 a len cap (HCm.out _ HB3.out)).mono ?_
  rintro e w4 ⟨vL, L, ra, rb, who, rfl, hL, hownL, hb⟩
  obtain ⟨aL, cL, hshL⟩ := own_shape hownL
  have HL4 := hide (RowAt.of_own hownL)
  have HD4 := hide (HD3.out.below hb (Nat.le_refl _))
  have HF4 := hide (HF3.out.below hb (Nat.le_refl _))
  have G4 := hide (G3.out.below hb G3.out.lt)
  have HB4 := hide (HB3.out.trans (hb.mono HB3.out.size))
  clear hownL hb HD3 HF3 G3 HB3
  subst hshL
  simp only [roleV]
  have hb5 := (Below.refl w4.heap.size w4).alloc (Nat.le_refl _) (.cells #[.int .i64 ra, .int .i64 rb] 27)
  have HL5 := hide (HL4.out.below hb5 (Nat.le_refl _))
  have HD5 := hide (HD4.out.below hb5 (Nat.le_refl _))
  have HF5 := hide (HF4.out.below hb5 (Nat.le_refl _))
  have G5 := hide (G4.out.below hb5 G4.out.lt)
  have HB5 := hide (HB4.out.trans (hb5.mono HB4.out.size))
  have R5 := hide (Blk.new w4 #[.int .i64 ra, .int .i64 rb] 27)
  clear hb5 HL4 HD4 HF4 G4 HB4
  go_wp2_with fail
  obtain ⟨b7, e7⟩ : ∃ b, b = w4.heap.size := ⟨_, rfl⟩
  rw [← e7] at R5 ⊢
  clear e7
  generalize w4.alloc (.cells #[.int .i64 ra, .int .i64 rb] 27) = w5 at *
  refine (drawAlive_calls w5 a len cap (HCm.out _ HB5.out)).mono ?_
  rintro e w6 ⟨vA, S, now, rfl, hS, hownA, hb⟩
  obtain ⟨aA, cA, hshA⟩ := own_shape hownA
  have HA6 := hide (RowAt.of_own hownA)
  have HL6 := hide (HL5.out.below hb (Nat.le_refl _))
  have HD6 := hide (HD5.out.below hb (Nat.le_refl _))
  have HF6 := hide (HF5.out.below hb (Nat.le_refl _))
  have G6 := hide (G5.out.below hb G5.out.lt)
  have R6 := hide (R5.out.below hb R5.out.lt)
  have HB6 := hide (HB5.out.trans (hb.mono HB5.out.size))
  clear hownA hb HL5 HD5 HF5 G5 R5 HB5 HCm
  subst hshA
  have HIR := hide (fun wx vx (h : RowAt crR wx vx L) => implRoles_calls wx vx L who h (by omega))
  have HSR := hide (fun wx vx (h : RowAt crR wx vx L) => specRoles_calls wx vx L who h (by omega))
  have hrl := rolesOf_le L who
  obtain ⟨Q, EQ⟩ : ∃ Q, Q = rolesOf L who := ⟨_, rfl⟩
  simp only [← EQ] at HIR HSR hrl
  clear EQ
  have HII := hide (fun wx vx (h : RowAt crR wx vx L) => implIsMember_calls wx vx L ra rb who h (by omega))
  have HSI := hide (fun wx vx (h : RowAt crR wx vx L) => specIsMember_calls wx vx L ra rb who h (by omega))
  generalize decide ((⟨ra, rb, who⟩ : Fa) ∈ factsOf L) = bI at HII HSI
  have hbb : (bI == bI) = true := by simp
  have HIM : Hid (∀ wx vx, RowAt crR wx vx L → Calls Try.prog 19 #[vx, roleV ra rb] wx fun e w' => ∃ v', e = .returned v' ∧ w'.ownsRow wx.heap.size 3 1 v' (membersOf L ra rb).length (cellsI (flat inR (membersOf L ra rb))) ∧ Below wx.heap.size wx w') := fun wx vx h => by rw [flat_in]; exact implMembers_calls wx vx L ra rb h (by omega)
  have HSM : Hid (∀ wx vx, RowAt crR wx vx L → Calls Try.prog 28 #[vx, roleV ra rb] wx fun e w' => ∃ v', e = .returned v' ∧ w'.ownsRow wx.heap.size 3 1 v' (membersOf L ra rb).length (cellsI (flat inR (membersOf L ra rb))) ∧ Below wx.heap.size wx w') := fun wx vx h => by rw [flat_in]; exact specMembers_calls wx vx L ra rb h (by omega)
  have hml := membersOf_le L ra rb
  obtain ⟨N, EN⟩ : ∃ N, N = membersOf L ra rb := ⟨_, rfl⟩
  simp only [← EN] at HIM HSM hml
  clear EN
  have HIC := hide (fun wx vx (h : RowAt crR wx vx D) => implFacts_calls wx vx D h (by omega))
  have HSC := hide (fun wx vx (h : RowAt crR wx vx D) => specFacts_calls wx vx D h (by omega))
  have hgl := factsOf_le D
  obtain ⟨E, EE⟩ : ∃ E, E = factsOf D := ⟨_, rfl⟩
  simp only [← EE] at HIC HSC hgl
  clear EE
  have HIA := hide (fun wx vx (h : RowAt crR wx vx S) => implAlive_calls wx vx S now h (by omega))
  have HSA := hide (fun wx vx (h : RowAt crR wx vx S) => specAlive_calls wx vx S now h (by omega))
  have hal : (alive S now).length ≤ 10 := Nat.le_trans (List.length_filter_le _ _) hS
  obtain ⟨V, EV⟩ : ∃ V, V = alive S now := ⟨_, rfl⟩
  simp only [← EV] at HIA HSA hal
  clear EV
  simp only [roleV] at HII HSI HIM HSM
  go_wp2_with fail
  refine (HIR.out w6 _ HL6.out).mono ?_
  rintro e w7 ⟨vX, rfl, hownX, hb⟩
  obtain ⟨aX, cX, hshX⟩ := own_shape hownX
  have HX7 := hide (RowAt.of_own hownX)
  have HA7 := hide (HA6.out.below hb (Nat.le_refl _))
  have HL7 := hide (HL6.out.below hb (Nat.le_refl _))
  have HD7 := hide (HD6.out.below hb (Nat.le_refl _))
  have HF7 := hide (HF6.out.below hb (Nat.le_refl _))
  have G7 := hide (G6.out.below hb G6.out.lt)
  have R7 := hide (R6.out.below hb R6.out.lt)
  have HB7 := hide (HB6.out.trans (hb.mono HB6.out.size))
  clear hownX hb HA6 HL6 HD6 HF6 G6 R6 HB6
  subst hshX
  go_wp2_with fail
  refine (HSR.out w7 _ HL7.out).mono ?_
  rintro e w8 ⟨vY, rfl, hownY, hb⟩
  obtain ⟨aY, cY, hshY⟩ := own_shape hownY
  have HY8 := hide (RowAt.of_own hownY)
  have HX8 := hide (HX7.out.below hb (Nat.le_refl _))
  have HA8 := hide (HA7.out.below hb (Nat.le_refl _))
  have HL8 := hide (HL7.out.below hb (Nat.le_refl _))
  have HD8 := hide (HD7.out.below hb (Nat.le_refl _))
  have HF8 := hide (HF7.out.below hb (Nat.le_refl _))
  have G8 := hide (G7.out.below hb G7.out.lt)
  have R8 := hide (R7.out.below hb R7.out.lt)
  have HB8 := hide (HB7.out.trans (hb.mono HB7.out.size))
  clear hownY hb HX7 HA7 HL7 HD7 HF7 G7 R7 HB7 HIR HSR
  subst hshY
  have HXx : Hid (∀ j (hj : j < Q.length), ∃ g off, aX = some ⟨g, off, none⟩ ∧ g < w8.heap.size ∧ ∀ i, i < 2 → w8.cell? ⟨g, off + j * 2 + i, none⟩ = ((roR.ints Q[j])[i]?).map (.int .i64 ·)) := fun j hj => by
    obtain ⟨a', ca', h0, h1⟩ := HX8.out.open_
    cases h0
    exact h1 j hj
  have HYx : Hid (∀ j (hj : j < Q.length), ∃ g off, aY = some ⟨g, off, none⟩ ∧ g < w8.heap.size ∧ ∀ i, i < 2 → w8.cell? ⟨g, off + j * 2 + i, none⟩ = ((roR.ints Q[j])[i]?).map (.int .i64 ·)) := fun j hj => by
    obtain ⟨a', ca', h0, h1⟩ := HY8.out.open_
    cases h0
    exact h1 j hj
  clear HX8 HY8
  have hqq : (((Q.length : Int)) != ((Q.length : Int))) = false := by simp
  go_wp2_with fail
  go_loopw [13] (fun i wr => ∃ j : Nat, j ≤ Q.length ∧ i = .int .i64 j ∧ Hid (Below w8.heap.size w8 wr)) (fun i _ => Q.length - (intOf i).toNat)
  case atStart => exact ⟨0, Nat.zero_le _, rfl, Below.refl _ _⟩
  case round =>
    obtain ⟨j, hj, rfl, HB⟩ := hrel
    by_cases hlt : j < Q.length
    · obtain ⟨gx, ox, rfl, hgx, hcx⟩ := HXx.out j hlt
      obtain ⟨gy, oy, rfl, hgy, hcy⟩ := HYx.out j hlt
      generalize Q[j] = r at *
      obtain ⟨r0, r1⟩ := r
      have hsz := HB.out.size
      have lx : gx < wr.heap.size := by omega
      have ly : gy < wr.heap.size := by omega
      have nx0 : ∀ p : Near wr.heap.size wr, p.w.cell? ⟨gx, ox + j * 2, none⟩ = some (.int .i64 r0) := fun p => (p.h.cell (p := ⟨gx, ox + j * 2, none⟩) lx).trans ((HB.out.cell (p := ⟨gx, ox + j * 2, none⟩) hgx).trans (hcx 0 (by decide)))
      have nx1 : ∀ p : Near wr.heap.size wr, p.w.cell? ⟨gx, ox + j * 2 + 1, none⟩ = some (.int .i64 r1) := fun p => (p.h.cell (p := ⟨gx, ox + j * 2 + 1, none⟩) lx).trans ((HB.out.cell (p := ⟨gx, ox + j * 2 + 1, none⟩) hgx).trans (hcx 1 (by decide)))
      have ny0 : ∀ p : Near wr.heap.size wr, p.w.cell? ⟨gy, oy + j * 2, none⟩ = some (.int .i64 r0) := fun p => (p.h.cell (p := ⟨gy, oy + j * 2, none⟩) ly).trans ((HB.out.cell (p := ⟨gy, oy + j * 2, none⟩) hgy).trans (hcy 0 (by decide)))
      have ny1 : ∀ p : Near wr.heap.size wr, p.w.cell? ⟨gy, oy + j * 2 + 1, none⟩ = some (.int .i64 r1) := fun p => (p.h.cell (p := ⟨gy, oy + j * 2 + 1, none⟩) ly).trans ((HB.out.cell (p := ⟨gy, oy + j * 2 + 1, none⟩) hgy).trans (hcy 1 (by decide)))
      have hnn := Near.some wr.heap.size wr
      clear hcx hcy
      go_wp2_with fail
      refine wp_region_near wr.heap.size wr (Below.refl _ _) (by kernel_rfl) (by kernel_rfl) ?_
      repeat (go_big_quiet_step (fail))
      refine wpQuiet_nil ?_
      rintro w10 ⟨pq, rfl⟩
      have hqb := pq.h
      obtain ⟨w10, hq⟩ := pq
      simp only at hqb ⊢
      have HB10 := hide (HB.out.trans (hqb.mono hsz))
      clear hq hqb hnn nx0 nx1 ny0 ny1
      go_wp2_with fail
      go_roundw
      case rel => exact ⟨j + 1, by omega, by go_num, HB10.out⟩
      case measure => simp [intOf]; omega
    · clear HXx HYx
      go_wp2_with fail
      have HFx : Hid (∀ wx, Below wr.heap.size wr wx → RowAt faR wx (.slice aF F.length cF) F) := fun wx hb => (HF8.out.below HB.out (Nat.le_refl _)).below hb (Nat.le_refl _)
      have HDx : Hid (∀ wx, Below wr.heap.size wr wx → RowAt crR wx (.slice aD D.length cD) D) := fun wx hb => (HD8.out.below HB.out (Nat.le_refl _)).below hb (Nat.le_refl _)
      have HLx : Hid (∀ wx, Below wr.heap.size wr wx → RowAt crR wx (.slice aL L.length cL) L) := fun wx hb => (HL8.out.below HB.out (Nat.le_refl _)).below hb (Nat.le_refl _)
      have HAx : Hid (∀ wx, Below wr.heap.size wr wx → RowAt crR wx (.slice aA S.length cA) S) := fun wx hb => (HA8.out.below HB.out (Nat.le_refl _)).below hb (Nat.le_refl _)
      have G9 := hide (G8.out.below HB.out G8.out.lt)
      have R9 := hide (R8.out.below HB.out R8.out.lt)
      have HB9 := hide (HB8.out.trans (HB.out.mono HB8.out.size))
      clear HF8 HD8 HL8 HA8 G8 R8 HB8 HB hj hlt
      have g4 := G9.out.lt
      have r7 := R9.out.lt
      have n40 : ∀ p : Near wr.heap.size wr, p.w.cell? ⟨b4, 0, none⟩ = some (.int .i64 k) := fun p => by rw [(G9.out.below p.h g4).cell 0]; rfl
      have n41 : ∀ p : Near wr.heap.size wr, p.w.cell? ⟨b4, 1, none⟩ = some (.int .i64 ow) := fun p => by rw [(G9.out.below p.h g4).cell 1]; rfl
      have n42 : ∀ p : Near wr.heap.size wr, p.w.cell? ⟨b4, 2, none⟩ = some (.int .i64 on) := fun p => by rw [(G9.out.below p.h g4).cell 2]; rfl
      have n43 : ∀ p : Near wr.heap.size wr, p.w.cell? ⟨b4, 3, none⟩ = some (.int .i64 wh) := fun p => by rw [(G9.out.below p.h g4).cell 3]; rfl
      have n44 : ∀ p : Near wr.heap.size wr, p.w.cell? ⟨b4, 4, none⟩ = some (.int .i64 aw) := fun p => by rw [(G9.out.below p.h g4).cell 4]; rfl
      have n45 : ∀ p : Near wr.heap.size wr, p.w.cell? ⟨b4, 5, none⟩ = some (.int .i64 an) := fun p => by rw [(G9.out.below p.h g4).cell 5]; rfl
      have n46 : ∀ p : Near wr.heap.size wr, p.w.cell? ⟨b4, 6, none⟩ = some (.int .i64 bw) := fun p => by rw [(G9.out.below p.h g4).cell 6]; rfl
      have n47 : ∀ p : Near wr.heap.size wr, p.w.cell? ⟨b4, 7, none⟩ = some (.int .i64 bn) := fun p => by rw [(G9.out.below p.h g4).cell 7]; rfl
      have n48 : ∀ p : Near wr.heap.size wr, p.w.cell? ⟨b4, 8, none⟩ = some (.int .i64 u) := fun p => by rw [(G9.out.below p.h g4).cell 8]; rfl
      have n49 : ∀ p : Near wr.heap.size wr, p.w.cell? ⟨b4, 9, none⟩ = some (.int .i64 n) := fun p => by rw [(G9.out.below p.h g4).cell 9]; rfl
      have n70 : ∀ p : Near wr.heap.size wr, p.w.cell? ⟨b7, 0, none⟩ = some (.int .i64 ra) := fun p => by rw [(R9.out.below p.h r7).cell 0]; rfl
      have n71 : ∀ p : Near wr.heap.size wr, p.w.cell? ⟨b7, 1, none⟩ = some (.int .i64 rb) := fun p => by rw [(R9.out.below p.h r7).cell 1]; rfl
      have hnn := Near.some wr.heap.size wr
      refine wp_region_open (fun wd => ∃ p : Near wr.heap.size wr, wd = p.w) ⟨⟨_, (Below.refl _ _).drew⟩, rfl⟩ (by kernel_rfl) ?_
      rintro wd ⟨pd, rfl⟩
      have hqb := pd.h
      obtain ⟨x0, hq⟩ := pd
      simp only at hqb ⊢
      have HB := hide hqb
      clear hq hqb
      refine wpAny_of_K (c := 50) (D := fun w' => ∃ p : Near wr.heap.size wr, w' = p.w) _ _ _ _ ?_
      refine wpAnyK_seg_lit4 0 2 4 49 rfl (by decide) (by decide) (by kernel_rfl) (by kernel_rfl) (by kernel_rfl) (by kernel_rfl) (fun _ _ _ _ _ h => h) ⟨⟨x0, HB.out⟩, rfl⟩ ?_
      simp only [List.take_succ_cons, List.take_zero, List.drop_zero]
      repeat (go_big_quiet_step (fail))
      refine wpQuiet_nil ?_
      refine wpAnyK_seg_lit4 3 2 4 47 rfl (by decide) (by decide) (by kernel_rfl) (by kernel_rfl) (by kernel_rfl) (by kernel_rfl) (fun _ _ _ _ _ h => h) ⟨⟨x0, HB.out⟩, rfl⟩ ?_
      simp only [List.take_succ_cons, List.take_zero, List.drop_succ_cons, List.drop_zero]
      repeat (go_big_quiet_step (fail))
      refine wpQuiet_nil ?_
      refine wpAnyK_callW 2 (by kernel_rfl) rfl rfl 16 _ _ rfl entT0 #[.slice aF F.length cF, .agg #[.int .i64 k, .int .i64 ow, .int .i64 on, .int .i64 wh, .int .i64 aw, .int .i64 an, .int .i64 bw, .int .i64 bn, .int .i64 u, .int .i64 n]] rfl (fun v' w' => w'.ownsRow x0.heap.size 36 3 v' A.length (cellsI (flat faR A)) ∧ Below x0.heap.size x0 w') ((HIF.out _ _ (HFx.out _ HB.out)).mono fun e w' ⟨v', h1, h2, h3⟩ => ⟨v', h1, h2, h3⟩) ?_
      rintro vP x1 ⟨ho, hb⟩
      have HB := hide (HB.out.trans (hb.mono HB.out.size))
      have HOP := hide ho
      refine ⟨⟨⟨x1, HB.out⟩, rfl⟩, ?_⟩
      simp only [Act.put, List.setIfInBounds_toArray, List.set_cons_succ, List.set_cons_zero]
      clear ho hb
      refine wpAnyK_callW 5 (by kernel_rfl) rfl rfl 25 _ _ rfl entT1 #[.slice aF F.length cF, .agg #[.int .i64 k, .int .i64 ow, .int .i64 on, .int .i64 wh, .int .i64 aw, .int .i64 an, .int .i64 bw, .int .i64 bn, .int .i64 u, .int .i64 n]] rfl (fun v' w' => w'.ownsRow x1.heap.size 36 3 v' A.length (cellsI (flat faR A)) ∧ Below x1.heap.size x1 w') ((HSF.out _ _ (HFx.out _ HB.out)).mono fun e w' ⟨v', h1, h2, h3⟩ => ⟨v', h1, h2, h3⟩) ?_
      rintro vR x2 ⟨ho, hb⟩
      have HOP := hide (own_below HOP.out hb)
      have HB := hide (HB.out.trans (hb.mono HB.out.size))
      have HOR := hide ho
      refine ⟨⟨⟨x2, HB.out⟩, rfl⟩, ?_⟩
      simp only [Act.put, List.setIfInBounds_toArray, List.set_cons_succ, List.set_cons_zero]
      clear ho hb
      refine wpAnyK_callW 6 (by kernel_rfl) rfl rfl 14 _ _ rfl entT2 #[vP, vR] rfl (fun v' w' => v' = .bool true ∧ Below x2.heap.size x2 w') ((sameFacts_calls _ vP vR A (RowAt.of_own HOP.out) (RowAt.of_own HOR.out) (by omega)).mono fun e w' ⟨h1, h2⟩ => ⟨_, h1, rfl, h2⟩) ?_
      rintro _ x3 ⟨rfl, hb⟩
      have HB := hide (HB.out.trans (hb.mono HB.out.size))
      refine ⟨⟨⟨x3, HB.out⟩, rfl⟩, ?_⟩
      simp only [Act.put, List.setIfInBounds_toArray, List.set_cons_succ, List.set_cons_zero]
      clear hb HOP HOR HIF HSF
      refine wpAnyK_seg_lit4 7 1 4 43 rfl (by decide) (by decide) (by kernel_rfl) (by kernel_rfl) (by kernel_rfl) (by kernel_rfl) (fun _ _ _ _ _ h => h) ⟨⟨x3, HB.out⟩, rfl⟩ ?_
      simp only [List.take_succ_cons, List.take_zero, List.drop_succ_cons, List.drop_zero]
      repeat (go_big_quiet_step (fail))
      refine wpQuiet_nil ?_
      refine wpAnyK_seg_lit4 8 1 4 42 rfl (by decide) (by decide) (by kernel_rfl) (by kernel_rfl) (by kernel_rfl) (by kernel_rfl) (fun _ _ _ _ _ h => h) ⟨⟨x3, HB.out⟩, rfl⟩ ?_
      simp only [List.take_succ_cons, List.take_zero, List.drop_succ_cons, List.drop_zero]
      repeat (go_big_quiet_step (fail))
      refine wpQuiet_nil ?_
      refine wpAnyK_seg_lit4 10 1 4 41 rfl (by decide) (by decide) (by kernel_rfl) (by kernel_rfl) (by kernel_rfl) (by kernel_rfl) (fun _ _ _ _ _ h => h) ⟨⟨x3, HB.out⟩, rfl⟩ ?_
      simp only [List.take_succ_cons, List.take_zero, List.drop_succ_cons, List.drop_zero]
      repeat (go_big_quiet_step (fail))
      refine wpQuiet_nil ?_
      refine wpAnyK_callW 9 (by kernel_rfl) rfl rfl 13 _ _ rfl entT3 #[.slice aD D.length cD] rfl (fun v' w' => w'.ownsRow x3.heap.size 36 3 v' E.length (cellsI (flat faR E)) ∧ Below x3.heap.size x3 w') ((HIC.out _ _ (HDx.out _ HB.out)).mono fun e w' ⟨v', h1, h2, h3⟩ => ⟨v', h1, h2, h3⟩) ?_
      rintro vP x4 ⟨ho, hb⟩
      have HB := hide (HB.out.trans (hb.mono HB.out.size))
      have HOP := hide ho
      refine ⟨⟨⟨x4, HB.out⟩, rfl⟩, ?_⟩
      simp only [Act.put, List.setIfInBounds_toArray, List.set_cons_succ, List.set_cons_zero]
      clear ho hb
      refine wpAnyK_callW 11 (by kernel_rfl) rfl rfl 15 _ _ rfl entT4 #[.slice aD D.length cD] rfl (fun v' w' => w'.ownsRow x4.heap.size 36 3 v' E.length (cellsI (flat faR E)) ∧ Below x4.heap.size x4 w') ((HSC.out _ _ (HDx.out _ HB.out)).mono fun e w' ⟨v', h1, h2, h3⟩ => ⟨v', h1, h2, h3⟩) ?_
      rintro vR x5 ⟨ho, hb⟩
      have HOP := hide (own_below HOP.out hb)
      have HB := hide (HB.out.trans (hb.mono HB.out.size))
      have HOR := hide ho
      refine ⟨⟨⟨x5, HB.out⟩, rfl⟩, ?_⟩
      simp only [Act.put, List.setIfInBounds_toArray, List.set_cons_succ, List.set_cons_zero]
      clear ho hb
      refine wpAnyK_callW 12 (by kernel_rfl) rfl rfl 14 _ _ rfl entT2 #[vP, vR] rfl (fun v' w' => v' = .bool true ∧ Below x5.heap.size x5 w') ((sameFacts_calls _ vP vR E (RowAt.of_own HOP.out) (RowAt.of_own HOR.out) (by omega)).mono fun e w' ⟨h1, h2⟩ => ⟨_, h1, rfl, h2⟩) ?_
      rintro _ x6 ⟨rfl, hb⟩
      have HB := hide (HB.out.trans (hb.mono HB.out.size))
      refine ⟨⟨⟨x6, HB.out⟩, rfl⟩, ?_⟩
      simp only [Act.put, List.setIfInBounds_toArray, List.set_cons_succ, List.set_cons_zero]
      clear hb HOP HOR HIC HSC
      refine wpAnyK_seg_lit4 13 2 4 36 rfl (by decide) (by decide) (by kernel_rfl) (by kernel_rfl) (by kernel_rfl) (by kernel_rfl) (fun _ _ _ _ _ h => h) ⟨⟨x6, HB.out⟩, rfl⟩ ?_
      simp only [List.take_succ_cons, List.take_zero, List.drop_succ_cons, List.drop_zero]
      repeat (go_big_quiet_step (fail))
      refine wpQuiet_nil ?_
      refine wpAnyK_seg_lit4 15 3 4 33 rfl (by decide) (by decide) (by kernel_rfl) (by kernel_rfl) (by kernel_rfl) (by kernel_rfl) (fun _ _ _ _ _ h => h) ⟨⟨x6, HB.out⟩, rfl⟩ ?_
      simp only [List.take_succ_cons, List.take_zero, List.drop_succ_cons, List.drop_zero]
      repeat (go_big_quiet_step (fail))
      refine wpQuiet_nil ?_
      refine wpAnyK_seg_lit4 19 3 4 30 rfl (by decide) (by decide) (by kernel_rfl) (by kernel_rfl) (by kernel_rfl) (by kernel_rfl) (fun _ _ _ _ _ h => h) ⟨⟨x6, HB.out⟩, rfl⟩ ?_
      simp only [List.take_succ_cons, List.take_zero, List.drop_succ_cons, List.drop_zero]
      repeat (go_big_quiet_step (fail))
      refine wpQuiet_nil ?_
      refine wpAnyK_callW 18 (by kernel_rfl) rfl rfl 17 _ _ rfl entT5 #[.slice aL L.length cL, .agg #[.int .i64 ra, .int .i64 rb], .int .i64 who] rfl (fun v' w' => v' = .bool bI ∧ Below x6.heap.size x6 w') ((HII.out _ _ (HLx.out _ HB.out)).mono fun e w' ⟨h1, h2⟩ => ⟨_, h1, rfl, h2⟩) ?_
      rintro _ x7 ⟨rfl, hb⟩
      have HB := hide (HB.out.trans (hb.mono HB.out.size))
      refine ⟨⟨⟨x7, HB.out⟩, rfl⟩, ?_⟩
      simp only [Act.put, List.setIfInBounds_toArray, List.set_cons_succ, List.set_cons_zero]
      clear hb
      refine wpAnyK_callW 22 (by kernel_rfl) rfl rfl 26 _ _ rfl entT6 #[.slice aL L.length cL, .agg #[.int .i64 ra, .int .i64 rb], .int .i64 who] rfl (fun v' w' => v' = .bool bI ∧ Below x7.heap.size x7 w') ((HSI.out _ _ (HLx.out _ HB.out)).mono fun e w' ⟨h1, h2⟩ => ⟨_, h1, rfl, h2⟩) ?_
      rintro _ x8 ⟨rfl, hb⟩
      have HB := hide (HB.out.trans (hb.mono HB.out.size))
      refine ⟨⟨⟨x8, HB.out⟩, rfl⟩, ?_⟩
      simp only [Act.put, List.setIfInBounds_toArray, List.set_cons_succ, List.set_cons_zero]
      clear hb
      refine wpAnyK_seg_lit4 23 3 4 25 rfl (by decide) (by decide) (by kernel_rfl) (by kernel_rfl) (by kernel_rfl) (by kernel_rfl) (fun _ _ _ _ _ h => h) ⟨⟨x8, HB.out⟩, rfl⟩ ?_
      simp only [List.take_succ_cons, List.take_zero, List.drop_succ_cons, List.drop_zero]
      repeat (go_big_quiet_step (fail))
      refine wpQuiet_nil ?_
      refine wpAnyK_seg_lit4 26 2 4 23 rfl (by decide) (by decide) (by kernel_rfl) (by kernel_rfl) (by kernel_rfl) (by kernel_rfl) (fun _ _ _ _ _ h => h) ⟨⟨x8, HB.out⟩, rfl⟩ ?_
      simp only [List.take_succ_cons, List.take_zero, List.drop_succ_cons, List.drop_zero]
      repeat (go_big_quiet_step (fail))
      refine wpQuiet_nil ?_
      refine wpAnyK_seg_lit4 29 2 4 21 rfl (by decide) (by decide) (by kernel_rfl) (by kernel_rfl) (by kernel_rfl) (by kernel_rfl) (fun _ _ _ _ _ h => h) ⟨⟨x8, HB.out⟩, rfl⟩ ?_
      simp only [List.take_succ_cons, List.take_zero, List.drop_succ_cons, List.drop_zero]
      repeat (go_big_quiet_step (fail))
      refine wpQuiet_nil ?_
      refine wpAnyK_callW 28 (by kernel_rfl) rfl rfl 19 _ _ rfl entT7 #[.slice aL L.length cL, .agg #[.int .i64 ra, .int .i64 rb]] rfl (fun v' w' => w'.ownsRow x8.heap.size 3 1 v' N.length (cellsI (flat inR N)) ∧ Below x8.heap.size x8 w') ((HIM.out _ _ (HLx.out _ HB.out)).mono fun e w' ⟨v', h1, h2, h3⟩ => ⟨v', h1, h2, h3⟩) ?_
      rintro vP x9 ⟨ho, hb⟩
      have HB := hide (HB.out.trans (hb.mono HB.out.size))
      have HOP := hide ho
      refine ⟨⟨⟨x9, HB.out⟩, rfl⟩, ?_⟩
      simp only [Act.put, List.setIfInBounds_toArray, List.set_cons_succ, List.set_cons_zero]
      clear ho hb
      refine wpAnyK_callW 31 (by kernel_rfl) rfl rfl 28 _ _ rfl entT8 #[.slice aL L.length cL, .agg #[.int .i64 ra, .int .i64 rb]] rfl (fun v' w' => w'.ownsRow x9.heap.size 3 1 v' N.length (cellsI (flat inR N)) ∧ Below x9.heap.size x9 w') ((HSM.out _ _ (HLx.out _ HB.out)).mono fun e w' ⟨v', h1, h2, h3⟩ => ⟨v', h1, h2, h3⟩) ?_
      rintro vR x10 ⟨ho, hb⟩
      have HOP := hide (own_below HOP.out hb)
      have HB := hide (HB.out.trans (hb.mono HB.out.size))
      have HOR := hide ho
      refine ⟨⟨⟨x10, HB.out⟩, rfl⟩, ?_⟩
      simp only [Act.put, List.setIfInBounds_toArray, List.set_cons_succ, List.set_cons_zero]
      clear ho hb
      refine wpAnyK_callW 32 (by kernel_rfl) rfl rfl 27 _ _ rfl entT9 #[vP, vR] rfl (fun v' w' => v' = .bool true ∧ Below x10.heap.size x10 w') ((sameIntR_calls _ vP vR N (RowAt.of_own HOP.out) (RowAt.of_own HOR.out) (by omega)).mono fun e w' ⟨h1, h2⟩ => ⟨_, h1, rfl, h2⟩) ?_
      rintro _ x11 ⟨rfl, hb⟩
      have HB := hide (HB.out.trans (hb.mono HB.out.size))
      refine ⟨⟨⟨x11, HB.out⟩, rfl⟩, ?_⟩
      simp only [Act.put, List.setIfInBounds_toArray, List.set_cons_succ, List.set_cons_zero]
      clear hb HOP HOR HIM HSM
      refine wpAnyK_seg_lit4 33 2 4 16 rfl (by decide) (by decide) (by kernel_rfl) (by kernel_rfl) (by kernel_rfl) (by kernel_rfl) (fun _ _ _ _ _ h => h) ⟨⟨x11, HB.out⟩, rfl⟩ ?_
      simp only [List.take_succ_cons, List.take_zero, List.drop_succ_cons, List.drop_zero]
      repeat (go_big_quiet_step (fail))
      refine wpQuiet_nil ?_
      refine wpAnyK_seg_lit4 35 7 4 9 rfl (by decide) (by decide) (by kernel_rfl) (by kernel_rfl) (by kernel_rfl) (by kernel_rfl) (fun _ _ _ _ _ h => h) ⟨⟨x11, HB.out⟩, rfl⟩ ?_
      simp only [List.take_succ_cons, List.take_zero, List.drop_succ_cons, List.drop_zero]
      repeat (go_big_quiet_step (fail))
      refine wpQuiet_nil ?_
      refine wpAnyK_seg_lit4 42 2 4 7 rfl (by decide) (by decide) (by kernel_rfl) (by kernel_rfl) (by kernel_rfl) (by kernel_rfl) (fun _ _ _ _ _ h => h) ⟨⟨x11, HB.out⟩, rfl⟩ ?_
      simp only [List.take_succ_cons, List.take_zero, List.drop_succ_cons, List.drop_zero]
      repeat (go_big_quiet_step (fail))
      refine wpQuiet_nil ?_
      refine wpAnyK_seg_lit4 45 2 4 5 rfl (by decide) (by decide) (by kernel_rfl) (by kernel_rfl) (by kernel_rfl) (by kernel_rfl) (fun _ _ _ _ _ h => h) ⟨⟨x11, HB.out⟩, rfl⟩ ?_
      simp only [List.take_succ_cons, List.take_zero, List.drop_succ_cons, List.drop_zero]
      repeat (go_big_quiet_step (fail))
      refine wpQuiet_nil ?_
      refine wpAnyK_callW 44 (by kernel_rfl) rfl rfl 30 _ _ rfl entT10 #[.slice aA S.length cA, .int .i64 now] rfl (fun v' w' => w'.ownsRow x11.heap.size 29 10 v' V.length (cellsI (flat crR V)) ∧ Below x11.heap.size x11 w') ((HIA.out _ _ (HAx.out _ HB.out)).mono fun e w' ⟨v', h1, h2, h3⟩ => ⟨v', h1, h2, h3⟩) ?_
      rintro vP x12 ⟨ho, hb⟩
      have HB := hide (HB.out.trans (hb.mono HB.out.size))
      have HOP := hide ho
      refine ⟨⟨⟨x12, HB.out⟩, rfl⟩, ?_⟩
      simp only [Act.put, List.setIfInBounds_toArray, List.set_cons_succ, List.set_cons_zero]
      clear ho hb
      refine wpAnyK_callW 47 (by kernel_rfl) rfl rfl 31 _ _ rfl entT11 #[.slice aA S.length cA, .int .i64 now] rfl (fun v' w' => w'.ownsRow x12.heap.size 29 10 v' V.length (cellsI (flat crR V)) ∧ Below x12.heap.size x12 w') ((HSA.out _ _ (HAx.out _ HB.out)).mono fun e w' ⟨v', h1, h2, h3⟩ => ⟨v', h1, h2, h3⟩) ?_
      rintro vR x13 ⟨ho, hb⟩
      have HOP := hide (own_below HOP.out hb)
      have HB := hide (HB.out.trans (hb.mono HB.out.size))
      have HOR := hide ho
      refine ⟨⟨⟨x13, HB.out⟩, rfl⟩, ?_⟩
      simp only [Act.put, List.setIfInBounds_toArray, List.set_cons_succ, List.set_cons_zero]
      clear ho hb
      refine wpAnyK_callW 48 (by kernel_rfl) rfl rfl 29 _ _ rfl entT12 #[vP, vR] rfl (fun v' w' => v' = .bool true ∧ Below x13.heap.size x13 w') ((sameCreds_calls _ vP vR V (RowAt.of_own HOP.out) (RowAt.of_own HOR.out) (by omega)).mono fun e w' ⟨h1, h2⟩ => ⟨_, h1, rfl, h2⟩) ?_
      rintro _ x14 ⟨rfl, hb⟩
      have HB := hide (HB.out.trans (hb.mono HB.out.size))
      refine ⟨⟨⟨x14, HB.out⟩, rfl⟩, ?_⟩
      simp only [Act.put, List.setIfInBounds_toArray, List.set_cons_succ, List.set_cons_zero]
      clear hb HOP HOR HIA HSA
      refine wpAnyK_seg_lit4 49 1 4 1 rfl (by decide) (by decide) (by kernel_rfl) (by kernel_rfl) (by kernel_rfl) (by kernel_rfl) (fun _ _ _ _ _ h => h) ⟨⟨x14, HB.out⟩, rfl⟩ ?_
      simp only [List.take_succ_cons, List.take_zero, List.drop_succ_cons, List.drop_zero]
      repeat (go_big_quiet_step (fail))
      refine wpQuiet_nil ?_
      refine wpAnyK_last (by kernel_rfl) (by decide) ?_
      refine wpAny_rest 50 rfl (by kernel_rfl) ?_
      simp only [List.drop_succ_cons, List.drop_zero]
      clear n40 n41 n42 n43 n44 n45 n46 n47 n48 n49 n70 n71 hnn
      go_wp2_with fail
      go_ret
      exact ⟨rfl, HB9.out.trans (HB.out.mono HB9.out.size)⟩
end Go.Proofs.Ytgnldmheiknbkaa.P6
