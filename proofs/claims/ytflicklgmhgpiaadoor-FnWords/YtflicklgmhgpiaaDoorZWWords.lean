/- The walk of FnWords: it returns true; condition: the listed tables hold what their text lays. -/
import Derived.Test.YtflicklgmhgpiaaDoorZO
import Derived.Test.YtflicklgmhgpiaaDoorZCrd7
import Derived.Test.YtflicklgmhgpiaaDoorZK
namespace Go.Proofs.YtflicklgmhgpiaaDoor.P5
set_option maxRecDepth 8000
open Go.RowKit P1 P3

/-- Of two texts not each is less than the other. -/
theorem less_asym : ∀ a b : List UInt8, Op.bytesLess a b = true → Op.bytesLess b a = false
  | [], [], h => by simp [Op.bytesLess] at h
  | [], _ :: _, _ => by simp [Op.bytesLess]
  | _ :: _, [], h => by simp [Op.bytesLess] at h
  | x :: a, y :: b, h => by
    simp only [Op.bytesLess, Bool.or_eq_true, Bool.and_eq_true, decide_eq_true_eq, beq_iff_eq] at h
    simp only [Op.bytesLess, Bool.or_eq_false_iff, Bool.and_eq_false_iff, decide_eq_false_iff_not]
    rcases h with h | ⟨rfl, h⟩
    · refine ⟨fun h2 => ?_, .inl ?_⟩
      · have h3 : x.toNat < y.toNat := h
        have h4 : y.toNat < x.toNat := h2
        omega
      · have : y ≠ x := fun e => by
          subst e
          have h3 : y.toNat < y.toNat := h
          omega
        simpa using this
    · refine ⟨fun h2 => ?_, .inr (less_asym a b h)⟩
      have h4 : x.toNat < x.toNat := h2
      omega

set_option maxHeartbeats 4000000 in
theorem wordsWalk (w : World) (a : Option Addr) (len cap : Nat) (z : List Int) (hr : Frame.IsRow .u8 w a len cap z) (hG : Glo w) :
    Calls Tryd.prog 3 #[.slice a len cap] w fun e w' => e = .returned (.bool true) ∧ Below w.heap.size w w' := by
  have Hr := hide hr
  have HG := hide hG
  clear hr hG
  by_cases hbig : 1048576 < len
  · have hd : decide (1048576 < (len : Int)) = true := by simp; omega
    go_enter Tryd.func3, Tryd.ntmps3
    go_wp2_with fail
    refine (Cu.big_calls _ a len cap).mono ?_
    rintro e w1 ⟨rfl, rfl⟩
    rw [hd]
    go_wp2
    go_ret
    exact ⟨rfl, Below.refl _ _⟩
  have hd : decide (1048576 < (len : Int)) = false := by simp; omega
  have HC := hide (Cu.code_of_row Hr.out (by omega))
  clear Hr hbig
  go_enter Tryd.func3, Tryd.ntmps3
  go_wp2_with fail
  refine (Cu.big_calls _ a len cap).mono ?_
  rintro e w0 ⟨rfl, rfl⟩
  rw [hd]
  clear hd
  have HCm : Hid (∀ wx, Below w0.heap.size w0 wx → Cu.Code wx.heap.size wx (.slice a len cap) len) := fun wx hb => (HC.out.below (fun k hk => hb.block k hk)).more hb.size
  clear HC
  have HB := hide (Below.refl w0.heap.size w0)
  go_wp2_with fail
  refine (drawWord_calls w0 a len cap (HCm.out _ (Below.refl _ _))).mono ?_
  rintro e w1 ⟨⟨⟨k, ow, on, wh, aw, an, bw, bn, u, n⟩, hok, rfl⟩, hb⟩
  have HB := hide (HB.out.trans (hb.mono HB.out.size))
  simp only [credV]
  clear hb
  have hT : credT ⟨k, ow, on, wh, aw, an, bw, bn, u, n⟩ = credB ⟨k, ow, on, wh, aw, an, bw, bn, u, n⟩ := by rw [credT, if_pos hok]
  have hrc : readCred (credT ⟨k, ow, on, wh, aw, an, bw, bn, u, n⟩) = (⟨k, ow, on, wh, aw, an, bw, bn, u, n⟩, true) := by rw [hT]; exact readCred_credB hok
  have hTl := credT_le ⟨k, ow, on, wh, aw, an, bw, bn, u, n⟩
  have HTC := hide (fun wx => implCredText_calls ⟨k, ow, on, wh, aw, an, bw, bn, u, n⟩ wx)
  have HOK := hide (fun wx => implCredOk_calls ⟨k, ow, on, wh, aw, an, bw, bn, u, n⟩ wx)
  simp only [decide_eq_true hok] at HOK
  have HRC := hide (fun wx => implReadCred_calls ⟨(credT ⟨k, ow, on, wh, aw, an, bw, bn, u, n⟩).toArray⟩ (show (credT ⟨k, ow, on, wh, aw, an, bw, bn, u, n⟩).length ≤ 1048576 by omega) wx)
  simp only [hrc] at HRC
  simp only [credV, rcV] at HTC HOK HRC
  clear hT hrc hok
  generalize credT ⟨k, ow, on, wh, aw, an, bw, bn, u, n⟩ = T at *
  have hbA : Below w1.heap.size w1 (w1.alloc (.cells #[.int .i64 k, .int .i64 ow, .int .i64 on, .int .i64 wh, .int .i64 aw, .int .i64 an, .int .i64 bw, .int .i64 bn, .int .i64 u, .int .i64 n] 27)) := (Below.refl _ _).alloc (Nat.le_refl _) _
  have G3 := hide (Blk.new w1 #[.int .i64 k, .int .i64 ow, .int .i64 on, .int .i64 wh, .int .i64 aw, .int .i64 an, .int .i64 bw, .int .i64 bn, .int .i64 u, .int .i64 n] 27)
  have HB := hide (HB.out.trans (hbA.mono HB.out.size))
  clear hbA
  go_wp2_with fail
  obtain ⟨b3, eb⟩ : ∃ b, b = w1.heap.size := ⟨_, rfl⟩
  rw [← eb] at G3 ⊢
  clear eb
  generalize w1.alloc (.cells #[.int .i64 k, .int .i64 ow, .int .i64 on, .int .i64 wh, .int .i64 aw, .int .i64 an, .int .i64 bw, .int .i64 bn, .int .i64 u, .int .i64 n] 27) = w2 at *
  refine (HTC.out _).mono ?_
  rintro e w3 ⟨rfl, hb⟩
  have G3 := hide (G3.out.below hb G3.out.lt)
  have HB := hide (HB.out.trans (hb.mono HB.out.size))
  clear hb HTC
  go_wp2_with fail
  refine (HRC.out _).mono ?_
  rintro e w4 ⟨rfl, hb⟩
  have G3 := hide (G3.out.below hb G3.out.lt)
  have HB := hide (HB.out.trans (hb.mono HB.out.size))
  clear hb HRC
  have hbA : Below w4.heap.size w4 (w4.alloc (.cells #[.int .i64 k, .int .i64 ow, .int .i64 on, .int .i64 wh, .int .i64 aw, .int .i64 an, .int .i64 bw, .int .i64 bn, .int .i64 u, .int .i64 n] 27)) := (Below.refl _ _).alloc (Nat.le_refl _) _
  have G3 := hide (G3.out.below hbA G3.out.lt)
  have G5 := hide (Blk.new w4 #[.int .i64 k, .int .i64 ow, .int .i64 on, .int .i64 wh, .int .i64 aw, .int .i64 an, .int .i64 bw, .int .i64 bn, .int .i64 u, .int .i64 n] 27)
  have HB := hide (HB.out.trans (hbA.mono HB.out.size))
  clear hbA
  go_wp2_with fail
  obtain ⟨b5, eb⟩ : ∃ b, b = w4.heap.size := ⟨_, rfl⟩
  rw [← eb] at G5 ⊢
  clear eb
  generalize w4.alloc (.cells #[.int .i64 k, .int .i64 ow, .int .i64 on, .int .i64 wh, .int .i64 aw, .int .i64 an, .int .i64 bw, .int .i64 bn, .int .i64 u, .int .i64 n] 27) = w5 at *
  refine (drawReadCred_calls _ a len cap (HCm.out _ HB.out)).mono ?_
  rintro e w6 ⟨⟨U, hU, rfl⟩, hb⟩
  have G3 := hide (G3.out.below hb G3.out.lt)
  have G5 := hide (G5.out.below hb G5.out.lt)
  have HB := hide (HB.out.trans (hb.mono HB.out.size))
  clear hb
  have H1 := hide (fun wx => implReadCred_calls U (by omega) wx)
  have H2 := hide (fun wx => specReadCred_calls U (by omega) wx)
  generalize readCred U.data.toList = rc at H1 H2
  obtain ⟨⟨k1, ow1, on1, wh1, aw1, an1, bw1, bn1, u1, n1⟩, may⟩ := rc
  simp only [credV, rcV] at H1 H2
  go_wp2_with fail
  refine (H1.out _).mono ?_
  rintro e w7 ⟨rfl, hb⟩
  have G3 := hide (G3.out.below hb G3.out.lt)
  have G5 := hide (G5.out.below hb G5.out.lt)
  have HB := hide (HB.out.trans (hb.mono HB.out.size))
  clear hb H1
  have hbA : Below w7.heap.size w7 (w7.alloc (.cells #[.int .i64 k1, .int .i64 ow1, .int .i64 on1, .int .i64 wh1, .int .i64 aw1, .int .i64 an1, .int .i64 bw1, .int .i64 bn1, .int .i64 u1, .int .i64 n1] 27)) := (Below.refl _ _).alloc (Nat.le_refl _) _
  have G3 := hide (G3.out.below hbA G3.out.lt)
  have G5 := hide (G5.out.below hbA G5.out.lt)
  have G8 := hide (Blk.new w7 #[.int .i64 k1, .int .i64 ow1, .int .i64 on1, .int .i64 wh1, .int .i64 aw1, .int .i64 an1, .int .i64 bw1, .int .i64 bn1, .int .i64 u1, .int .i64 n1] 27)
  have HB := hide (HB.out.trans (hbA.mono HB.out.size))
  clear hbA
  go_wp2_with fail
  obtain ⟨b8, eb⟩ : ∃ b, b = w7.heap.size := ⟨_, rfl⟩
  rw [← eb] at G8 ⊢
  clear eb
  generalize w7.alloc (.cells #[.int .i64 k1, .int .i64 ow1, .int .i64 on1, .int .i64 wh1, .int .i64 aw1, .int .i64 an1, .int .i64 bw1, .int .i64 bn1, .int .i64 u1, .int .i64 n1] 27) = w8 at *
  refine (H2.out _).mono ?_
  rintro e w9 ⟨rfl, hb⟩
  have G3 := hide (G3.out.below hb G3.out.lt)
  have G5 := hide (G5.out.below hb G5.out.lt)
  have G8 := hide (G8.out.below hb G8.out.lt)
  have HB := hide (HB.out.trans (hb.mono HB.out.size))
  clear hb H2
  have hbA : Below w9.heap.size w9 (w9.alloc (.cells #[.int .i64 k1, .int .i64 ow1, .int .i64 on1, .int .i64 wh1, .int .i64 aw1, .int .i64 an1, .int .i64 bw1, .int .i64 bn1, .int .i64 u1, .int .i64 n1] 27)) := (Below.refl _ _).alloc (Nat.le_refl _) _
  have G3 := hide (G3.out.below hbA G3.out.lt)
  have G5 := hide (G5.out.below hbA G5.out.lt)
  have G8 := hide (G8.out.below hbA G8.out.lt)
  have G10 := hide (Blk.new w9 #[.int .i64 k1, .int .i64 ow1, .int .i64 on1, .int .i64 wh1, .int .i64 aw1, .int .i64 an1, .int .i64 bw1, .int .i64 bn1, .int .i64 u1, .int .i64 n1] 27)
  have HB := hide (HB.out.trans (hbA.mono HB.out.size))
  clear hbA
  go_wp2_with fail
  obtain ⟨b10, eb⟩ : ∃ b, b = w9.heap.size := ⟨_, rfl⟩
  rw [← eb] at G10 ⊢
  clear eb
  generalize w9.alloc (.cells #[.int .i64 k1, .int .i64 ow1, .int .i64 on1, .int .i64 wh1, .int .i64 aw1, .int .i64 an1, .int .i64 bw1, .int .i64 bn1, .int .i64 u1, .int .i64 n1] 27) = w10 at *
  refine (drawCredOk_calls _ a len cap (HCm.out _ HB.out)).mono ?_
  rintro e w11 ⟨⟨⟨k2, ow2, on2, wh2, aw2, an2, bw2, bn2, u2, n2⟩, rfl⟩, hb⟩
  have G3 := hide (G3.out.below hb G3.out.lt)
  have G5 := hide (G5.out.below hb G5.out.lt)
  have G8 := hide (G8.out.below hb G8.out.lt)
  have G10 := hide (G10.out.below hb G10.out.lt)
  have HB := hide (HB.out.trans (hb.mono HB.out.size))
  simp only [credV]
  clear hb
  have hbA : Below w11.heap.size w11 (w11.alloc (.cells #[.int .i64 k2, .int .i64 ow2, .int .i64 on2, .int .i64 wh2, .int .i64 aw2, .int .i64 an2, .int .i64 bw2, .int .i64 bn2, .int .i64 u2, .int .i64 n2] 27)) := (Below.refl _ _).alloc (Nat.le_refl _) _
  have G3 := hide (G3.out.below hbA G3.out.lt)
  have G5 := hide (G5.out.below hbA G5.out.lt)
  have G8 := hide (G8.out.below hbA G8.out.lt)
  have G10 := hide (G10.out.below hbA G10.out.lt)
  have G12 := hide (Blk.new w11 #[.int .i64 k2, .int .i64 ow2, .int .i64 on2, .int .i64 wh2, .int .i64 aw2, .int .i64 an2, .int .i64 bw2, .int .i64 bn2, .int .i64 u2, .int .i64 n2] 27)
  have HB := hide (HB.out.trans (hbA.mono HB.out.size))
  clear hbA
  go_wp2_with fail
  obtain ⟨b12, eb⟩ : ∃ b, b = w11.heap.size := ⟨_, rfl⟩
  rw [← eb] at G12 ⊢
  clear eb
  generalize w11.alloc (.cells #[.int .i64 k2, .int .i64 ow2, .int .i64 on2, .int .i64 wh2, .int .i64 aw2, .int .i64 an2, .int .i64 bw2, .int .i64 bn2, .int .i64 u2, .int .i64 n2] 27) = w12 at *
  refine (drawCredLess_calls _ a len cap (HCm.out _ HB.out)).mono ?_
  rintro e w13 ⟨⟨⟨k3, ow3, on3, wh3, aw3, an3, bw3, bn3, u3, n3⟩, ⟨k4, ow4, on4, wh4, aw4, an4, bw4, bn4, u4, n4⟩, rfl⟩, hb⟩
  have G3 := hide (G3.out.below hb G3.out.lt)
  have G5 := hide (G5.out.below hb G5.out.lt)
  have G8 := hide (G8.out.below hb G8.out.lt)
  have G10 := hide (G10.out.below hb G10.out.lt)
  have G12 := hide (G12.out.below hb G12.out.lt)
  have HB := hide (HB.out.trans (hb.mono HB.out.size))
  simp only [credV]
  clear hb
  have hbA : Below w13.heap.size w13 (w13.alloc (.cells #[.int .i64 k3, .int .i64 ow3, .int .i64 on3, .int .i64 wh3, .int .i64 aw3, .int .i64 an3, .int .i64 bw3, .int .i64 bn3, .int .i64 u3, .int .i64 n3] 27)) := (Below.refl _ _).alloc (Nat.le_refl _) _
  have hbB : Below w13.heap.size w13 ((w13.alloc (.cells #[.int .i64 k3, .int .i64 ow3, .int .i64 on3, .int .i64 wh3, .int .i64 aw3, .int .i64 an3, .int .i64 bw3, .int .i64 bn3, .int .i64 u3, .int .i64 n3] 27)).alloc (.cells #[.int .i64 k4, .int .i64 ow4, .int .i64 on4, .int .i64 wh4, .int .i64 aw4, .int .i64 an4, .int .i64 bw4, .int .i64 bn4, .int .i64 u4, .int .i64 n4] 27)) := hbA.alloc hbA.size _
  have G3 := hide (G3.out.below hbB G3.out.lt)
  have G5 := hide (G5.out.below hbB G5.out.lt)
  have G8 := hide (G8.out.below hbB G8.out.lt)
  have G10 := hide (G10.out.below hbB G10.out.lt)
  have G12 := hide (G12.out.below hbB G12.out.lt)
  have g13 := Blk.new w13 #[.int .i64 k3, .int .i64 ow3, .int .i64 on3, .int .i64 wh3, .int .i64 aw3, .int .i64 an3, .int .i64 bw3, .int .i64 bn3, .int .i64 u3, .int .i64 n3] 27
  have G13 := hide (g13.below ((Below.refl _ (w13.alloc (.cells #[.int .i64 k3, .int .i64 ow3, .int .i64 on3, .int .i64 wh3, .int .i64 aw3, .int .i64 an3, .int .i64 bw3, .int .i64 bn3, .int .i64 u3, .int .i64 n3] 27))).alloc (Nat.le_refl _) (.cells #[.int .i64 k4, .int .i64 ow4, .int .i64 on4, .int .i64 wh4, .int .i64 aw4, .int .i64 an4, .int .i64 bw4, .int .i64 bn4, .int .i64 u4, .int .i64 n4] 27)) g13.lt)
  have g14 := Blk.new (w13.alloc (.cells #[.int .i64 k3, .int .i64 ow3, .int .i64 on3, .int .i64 wh3, .int .i64 aw3, .int .i64 an3, .int .i64 bw3, .int .i64 bn3, .int .i64 u3, .int .i64 n3] 27)) #[.int .i64 k4, .int .i64 ow4, .int .i64 on4, .int .i64 wh4, .int .i64 aw4, .int .i64 an4, .int .i64 bw4, .int .i64 bn4, .int .i64 u4, .int .i64 n4] 27
  rw [show (w13.alloc (.cells #[.int .i64 k3, .int .i64 ow3, .int .i64 on3, .int .i64 wh3, .int .i64 aw3, .int .i64 an3, .int .i64 bw3, .int .i64 bn3, .int .i64 u3, .int .i64 n3] 27)).heap.size = w13.heap.size + 1 from by simp [go_sem]] at g14
  have G14 := hide g14
  have HB := hide (HB.out.trans (hbB.mono HB.out.size))
  clear hbA hbB g13 g14
  go_wp2_with fail
  obtain ⟨b14, eb⟩ : ∃ b, b = w13.heap.size + 1 := ⟨_, rfl⟩
  rw [← eb] at G14 ⊢
  clear eb
  obtain ⟨b13, eb⟩ : ∃ b, b = w13.heap.size := ⟨_, rfl⟩
  rw [← eb] at G13 ⊢
  clear eb
  generalize (w13.alloc (.cells #[.int .i64 k3, .int .i64 ow3, .int .i64 on3, .int .i64 wh3, .int .i64 aw3, .int .i64 an3, .int .i64 bw3, .int .i64 bn3, .int .i64 u3, .int .i64 n3] 27)).alloc (.cells #[.int .i64 k4, .int .i64 ow4, .int .i64 on4, .int .i64 wh4, .int .i64 aw4, .int .i64 an4, .int .i64 bw4, .int .i64 bn4, .int .i64 u4, .int .i64 n4] 27) = w14 at *
  refine (drawRoleOk_calls _ a len cap (HCm.out _ HB.out)).mono ?_
  rintro e w15 ⟨⟨ra, rb, rfl⟩, hb⟩
  have G3 := hide (G3.out.below hb G3.out.lt)
  have G5 := hide (G5.out.below hb G5.out.lt)
  have G8 := hide (G8.out.below hb G8.out.lt)
  have G10 := hide (G10.out.below hb G10.out.lt)
  have G12 := hide (G12.out.below hb G12.out.lt)
  have G13 := hide (G13.out.below hb G13.out.lt)
  have G14 := hide (G14.out.below hb G14.out.lt)
  have HB := hide (HB.out.trans (hb.mono HB.out.size))
  simp only [roleV]
  clear hb
  have hbA : Below w15.heap.size w15 (w15.alloc (.cells #[.int .i64 ra, .int .i64 rb] 25)) := (Below.refl _ _).alloc (Nat.le_refl _) _
  have G3 := hide (G3.out.below hbA G3.out.lt)
  have G5 := hide (G5.out.below hbA G5.out.lt)
  have G8 := hide (G8.out.below hbA G8.out.lt)
  have G10 := hide (G10.out.below hbA G10.out.lt)
  have G12 := hide (G12.out.below hbA G12.out.lt)
  have G13 := hide (G13.out.below hbA G13.out.lt)
  have G14 := hide (G14.out.below hbA G14.out.lt)
  have G15 := hide (Blk.new w15 #[.int .i64 ra, .int .i64 rb] 25)
  have HB := hide (HB.out.trans (hbA.mono HB.out.size))
  clear hbA
  have q1 : (w15.alloc (.cells #[.int .i64 ra, .int .i64 rb] 25)).cell? ⟨b3, 1, none⟩ = some (.int .i64 ow) := by rw [G3.out.cell 1]; rfl
  have q2 : (w15.alloc (.cells #[.int .i64 ra, .int .i64 rb] 25)).cell? ⟨b3, 2, none⟩ = some (.int .i64 on) := by rw [G3.out.cell 2]; rfl
  go_wp2_with fail
  clear q1 q2
  obtain ⟨b15, eb⟩ : ∃ b, b = w15.heap.size := ⟨_, rfl⟩
  rw [← eb] at G15 ⊢
  clear eb
  generalize w15.alloc (.cells #[.int .i64 ra, .int .i64 rb] 25) = w16 at *
  refine (implPlace_calls ow on _ (HG.out.below HB.out)).mono ?_
  rintro e w17 ⟨rfl, hb⟩
  have G3 := hide (G3.out.below hb G3.out.lt)
  have G5 := hide (G5.out.below hb G5.out.lt)
  have G8 := hide (G8.out.below hb G8.out.lt)
  have G10 := hide (G10.out.below hb G10.out.lt)
  have G12 := hide (G12.out.below hb G12.out.lt)
  have G13 := hide (G13.out.below hb G13.out.lt)
  have G14 := hide (G14.out.below hb G14.out.lt)
  have G15 := hide (G15.out.below hb G15.out.lt)
  have HB := hide (HB.out.trans (hb.mono HB.out.size))
  clear hb
  have hpl := place_lt ow on
  generalize place ow on = pl at *
  have nG3_0 : ∀ p : Near w17.heap.size w17, p.w.cell? ⟨b3, 0, none⟩ = some (.int .i64 k) := fun p => by rw [(G3.out.below p.h G3.out.lt).cell 0]; rfl
  have nG3_1 : ∀ p : Near w17.heap.size w17, p.w.cell? ⟨b3, 1, none⟩ = some (.int .i64 ow) := fun p => by rw [(G3.out.below p.h G3.out.lt).cell 1]; rfl
  have nG3_2 : ∀ p : Near w17.heap.size w17, p.w.cell? ⟨b3, 2, none⟩ = some (.int .i64 on) := fun p => by rw [(G3.out.below p.h G3.out.lt).cell 2]; rfl
  have nG3_3 : ∀ p : Near w17.heap.size w17, p.w.cell? ⟨b3, 3, none⟩ = some (.int .i64 wh) := fun p => by rw [(G3.out.below p.h G3.out.lt).cell 3]; rfl
  have nG3_4 : ∀ p : Near w17.heap.size w17, p.w.cell? ⟨b3, 4, none⟩ = some (.int .i64 aw) := fun p => by rw [(G3.out.below p.h G3.out.lt).cell 4]; rfl
  have nG3_5 : ∀ p : Near w17.heap.size w17, p.w.cell? ⟨b3, 5, none⟩ = some (.int .i64 an) := fun p => by rw [(G3.out.below p.h G3.out.lt).cell 5]; rfl
  have nG3_6 : ∀ p : Near w17.heap.size w17, p.w.cell? ⟨b3, 6, none⟩ = some (.int .i64 bw) := fun p => by rw [(G3.out.below p.h G3.out.lt).cell 6]; rfl
  have nG3_7 : ∀ p : Near w17.heap.size w17, p.w.cell? ⟨b3, 7, none⟩ = some (.int .i64 bn) := fun p => by rw [(G3.out.below p.h G3.out.lt).cell 7]; rfl
  have nG3_8 : ∀ p : Near w17.heap.size w17, p.w.cell? ⟨b3, 8, none⟩ = some (.int .i64 u) := fun p => by rw [(G3.out.below p.h G3.out.lt).cell 8]; rfl
  have nG3_9 : ∀ p : Near w17.heap.size w17, p.w.cell? ⟨b3, 9, none⟩ = some (.int .i64 n) := fun p => by rw [(G3.out.below p.h G3.out.lt).cell 9]; rfl
  have nG5_0 : ∀ p : Near w17.heap.size w17, p.w.cell? ⟨b5, 0, none⟩ = some (.int .i64 k) := fun p => by rw [(G5.out.below p.h G5.out.lt).cell 0]; rfl
  have nG5_1 : ∀ p : Near w17.heap.size w17, p.w.cell? ⟨b5, 1, none⟩ = some (.int .i64 ow) := fun p => by rw [(G5.out.below p.h G5.out.lt).cell 1]; rfl
  have nG5_2 : ∀ p : Near w17.heap.size w17, p.w.cell? ⟨b5, 2, none⟩ = some (.int .i64 on) := fun p => by rw [(G5.out.below p.h G5.out.lt).cell 2]; rfl
  have nG5_3 : ∀ p : Near w17.heap.size w17, p.w.cell? ⟨b5, 3, none⟩ = some (.int .i64 wh) := fun p => by rw [(G5.out.below p.h G5.out.lt).cell 3]; rfl
  have nG5_4 : ∀ p : Near w17.heap.size w17, p.w.cell? ⟨b5, 4, none⟩ = some (.int .i64 aw) := fun p => by rw [(G5.out.below p.h G5.out.lt).cell 4]; rfl
  have nG5_5 : ∀ p : Near w17.heap.size w17, p.w.cell? ⟨b5, 5, none⟩ = some (.int .i64 an) := fun p => by rw [(G5.out.below p.h G5.out.lt).cell 5]; rfl
  have nG5_6 : ∀ p : Near w17.heap.size w17, p.w.cell? ⟨b5, 6, none⟩ = some (.int .i64 bw) := fun p => by rw [(G5.out.below p.h G5.out.lt).cell 6]; rfl
  have nG5_7 : ∀ p : Near w17.heap.size w17, p.w.cell? ⟨b5, 7, none⟩ = some (.int .i64 bn) := fun p => by rw [(G5.out.below p.h G5.out.lt).cell 7]; rfl
  have nG5_8 : ∀ p : Near w17.heap.size w17, p.w.cell? ⟨b5, 8, none⟩ = some (.int .i64 u) := fun p => by rw [(G5.out.below p.h G5.out.lt).cell 8]; rfl
  have nG5_9 : ∀ p : Near w17.heap.size w17, p.w.cell? ⟨b5, 9, none⟩ = some (.int .i64 n) := fun p => by rw [(G5.out.below p.h G5.out.lt).cell 9]; rfl
  have nG8_0 : ∀ p : Near w17.heap.size w17, p.w.cell? ⟨b8, 0, none⟩ = some (.int .i64 k1) := fun p => by rw [(G8.out.below p.h G8.out.lt).cell 0]; rfl
  have nG8_1 : ∀ p : Near w17.heap.size w17, p.w.cell? ⟨b8, 1, none⟩ = some (.int .i64 ow1) := fun p => by rw [(G8.out.below p.h G8.out.lt).cell 1]; rfl
  have nG8_2 : ∀ p : Near w17.heap.size w17, p.w.cell? ⟨b8, 2, none⟩ = some (.int .i64 on1) := fun p => by rw [(G8.out.below p.h G8.out.lt).cell 2]; rfl
  have nG8_3 : ∀ p : Near w17.heap.size w17, p.w.cell? ⟨b8, 3, none⟩ = some (.int .i64 wh1) := fun p => by rw [(G8.out.below p.h G8.out.lt).cell 3]; rfl
  have nG8_4 : ∀ p : Near w17.heap.size w17, p.w.cell? ⟨b8, 4, none⟩ = some (.int .i64 aw1) := fun p => by rw [(G8.out.below p.h G8.out.lt).cell 4]; rfl
  have nG8_5 : ∀ p : Near w17.heap.size w17, p.w.cell? ⟨b8, 5, none⟩ = some (.int .i64 an1) := fun p => by rw [(G8.out.below p.h G8.out.lt).cell 5]; rfl
  have nG8_6 : ∀ p : Near w17.heap.size w17, p.w.cell? ⟨b8, 6, none⟩ = some (.int .i64 bw1) := fun p => by rw [(G8.out.below p.h G8.out.lt).cell 6]; rfl
  have nG8_7 : ∀ p : Near w17.heap.size w17, p.w.cell? ⟨b8, 7, none⟩ = some (.int .i64 bn1) := fun p => by rw [(G8.out.below p.h G8.out.lt).cell 7]; rfl
  have nG8_8 : ∀ p : Near w17.heap.size w17, p.w.cell? ⟨b8, 8, none⟩ = some (.int .i64 u1) := fun p => by rw [(G8.out.below p.h G8.out.lt).cell 8]; rfl
  have nG8_9 : ∀ p : Near w17.heap.size w17, p.w.cell? ⟨b8, 9, none⟩ = some (.int .i64 n1) := fun p => by rw [(G8.out.below p.h G8.out.lt).cell 9]; rfl
  have nG10_0 : ∀ p : Near w17.heap.size w17, p.w.cell? ⟨b10, 0, none⟩ = some (.int .i64 k1) := fun p => by rw [(G10.out.below p.h G10.out.lt).cell 0]; rfl
  have nG10_1 : ∀ p : Near w17.heap.size w17, p.w.cell? ⟨b10, 1, none⟩ = some (.int .i64 ow1) := fun p => by rw [(G10.out.below p.h G10.out.lt).cell 1]; rfl
  have nG10_2 : ∀ p : Near w17.heap.size w17, p.w.cell? ⟨b10, 2, none⟩ = some (.int .i64 on1) := fun p => by rw [(G10.out.below p.h G10.out.lt).cell 2]; rfl
  have nG10_3 : ∀ p : Near w17.heap.size w17, p.w.cell? ⟨b10, 3, none⟩ = some (.int .i64 wh1) := fun p => by rw [(G10.out.below p.h G10.out.lt).cell 3]; rfl
  have nG10_4 : ∀ p : Near w17.heap.size w17, p.w.cell? ⟨b10, 4, none⟩ = some (.int .i64 aw1) := fun p => by rw [(G10.out.below p.h G10.out.lt).cell 4]; rfl
  have nG10_5 : ∀ p : Near w17.heap.size w17, p.w.cell? ⟨b10, 5, none⟩ = some (.int .i64 an1) := fun p => by rw [(G10.out.below p.h G10.out.lt).cell 5]; rfl
  have nG10_6 : ∀ p : Near w17.heap.size w17, p.w.cell? ⟨b10, 6, none⟩ = some (.int .i64 bw1) := fun p => by rw [(G10.out.below p.h G10.out.lt).cell 6]; rfl
  have nG10_7 : ∀ p : Near w17.heap.size w17, p.w.cell? ⟨b10, 7, none⟩ = some (.int .i64 bn1) := fun p => by rw [(G10.out.below p.h G10.out.lt).cell 7]; rfl
  have nG10_8 : ∀ p : Near w17.heap.size w17, p.w.cell? ⟨b10, 8, none⟩ = some (.int .i64 u1) := fun p => by rw [(G10.out.below p.h G10.out.lt).cell 8]; rfl
  have nG10_9 : ∀ p : Near w17.heap.size w17, p.w.cell? ⟨b10, 9, none⟩ = some (.int .i64 n1) := fun p => by rw [(G10.out.below p.h G10.out.lt).cell 9]; rfl
  have nG12_0 : ∀ p : Near w17.heap.size w17, p.w.cell? ⟨b12, 0, none⟩ = some (.int .i64 k2) := fun p => by rw [(G12.out.below p.h G12.out.lt).cell 0]; rfl
  have nG12_1 : ∀ p : Near w17.heap.size w17, p.w.cell? ⟨b12, 1, none⟩ = some (.int .i64 ow2) := fun p => by rw [(G12.out.below p.h G12.out.lt).cell 1]; rfl
  have nG12_2 : ∀ p : Near w17.heap.size w17, p.w.cell? ⟨b12, 2, none⟩ = some (.int .i64 on2) := fun p => by rw [(G12.out.below p.h G12.out.lt).cell 2]; rfl
  have nG12_3 : ∀ p : Near w17.heap.size w17, p.w.cell? ⟨b12, 3, none⟩ = some (.int .i64 wh2) := fun p => by rw [(G12.out.below p.h G12.out.lt).cell 3]; rfl
  have nG12_4 : ∀ p : Near w17.heap.size w17, p.w.cell? ⟨b12, 4, none⟩ = some (.int .i64 aw2) := fun p => by rw [(G12.out.below p.h G12.out.lt).cell 4]; rfl
  have nG12_5 : ∀ p : Near w17.heap.size w17, p.w.cell? ⟨b12, 5, none⟩ = some (.int .i64 an2) := fun p => by rw [(G12.out.below p.h G12.out.lt).cell 5]; rfl
  have nG12_6 : ∀ p : Near w17.heap.size w17, p.w.cell? ⟨b12, 6, none⟩ = some (.int .i64 bw2) := fun p => by rw [(G12.out.below p.h G12.out.lt).cell 6]; rfl
  have nG12_7 : ∀ p : Near w17.heap.size w17, p.w.cell? ⟨b12, 7, none⟩ = some (.int .i64 bn2) := fun p => by rw [(G12.out.below p.h G12.out.lt).cell 7]; rfl
  have nG12_8 : ∀ p : Near w17.heap.size w17, p.w.cell? ⟨b12, 8, none⟩ = some (.int .i64 u2) := fun p => by rw [(G12.out.below p.h G12.out.lt).cell 8]; rfl
  have nG12_9 : ∀ p : Near w17.heap.size w17, p.w.cell? ⟨b12, 9, none⟩ = some (.int .i64 n2) := fun p => by rw [(G12.out.below p.h G12.out.lt).cell 9]; rfl
  have nG13_0 : ∀ p : Near w17.heap.size w17, p.w.cell? ⟨b13, 0, none⟩ = some (.int .i64 k3) := fun p => by rw [(G13.out.below p.h G13.out.lt).cell 0]; rfl
  have nG13_1 : ∀ p : Near w17.heap.size w17, p.w.cell? ⟨b13, 1, none⟩ = some (.int .i64 ow3) := fun p => by rw [(G13.out.below p.h G13.out.lt).cell 1]; rfl
  have nG13_2 : ∀ p : Near w17.heap.size w17, p.w.cell? ⟨b13, 2, none⟩ = some (.int .i64 on3) := fun p => by rw [(G13.out.below p.h G13.out.lt).cell 2]; rfl
  have nG13_3 : ∀ p : Near w17.heap.size w17, p.w.cell? ⟨b13, 3, none⟩ = some (.int .i64 wh3) := fun p => by rw [(G13.out.below p.h G13.out.lt).cell 3]; rfl
  have nG13_4 : ∀ p : Near w17.heap.size w17, p.w.cell? ⟨b13, 4, none⟩ = some (.int .i64 aw3) := fun p => by rw [(G13.out.below p.h G13.out.lt).cell 4]; rfl
  have nG13_5 : ∀ p : Near w17.heap.size w17, p.w.cell? ⟨b13, 5, none⟩ = some (.int .i64 an3) := fun p => by rw [(G13.out.below p.h G13.out.lt).cell 5]; rfl
  have nG13_6 : ∀ p : Near w17.heap.size w17, p.w.cell? ⟨b13, 6, none⟩ = some (.int .i64 bw3) := fun p => by rw [(G13.out.below p.h G13.out.lt).cell 6]; rfl
  have nG13_7 : ∀ p : Near w17.heap.size w17, p.w.cell? ⟨b13, 7, none⟩ = some (.int .i64 bn3) := fun p => by rw [(G13.out.below p.h G13.out.lt).cell 7]; rfl
  have nG13_8 : ∀ p : Near w17.heap.size w17, p.w.cell? ⟨b13, 8, none⟩ = some (.int .i64 u3) := fun p => by rw [(G13.out.below p.h G13.out.lt).cell 8]; rfl
  have nG13_9 : ∀ p : Near w17.heap.size w17, p.w.cell? ⟨b13, 9, none⟩ = some (.int .i64 n3) := fun p => by rw [(G13.out.below p.h G13.out.lt).cell 9]; rfl
  have nG14_0 : ∀ p : Near w17.heap.size w17, p.w.cell? ⟨b14, 0, none⟩ = some (.int .i64 k4) := fun p => by rw [(G14.out.below p.h G14.out.lt).cell 0]; rfl
  have nG14_1 : ∀ p : Near w17.heap.size w17, p.w.cell? ⟨b14, 1, none⟩ = some (.int .i64 ow4) := fun p => by rw [(G14.out.below p.h G14.out.lt).cell 1]; rfl
  have nG14_2 : ∀ p : Near w17.heap.size w17, p.w.cell? ⟨b14, 2, none⟩ = some (.int .i64 on4) := fun p => by rw [(G14.out.below p.h G14.out.lt).cell 2]; rfl
  have nG14_3 : ∀ p : Near w17.heap.size w17, p.w.cell? ⟨b14, 3, none⟩ = some (.int .i64 wh4) := fun p => by rw [(G14.out.below p.h G14.out.lt).cell 3]; rfl
  have nG14_4 : ∀ p : Near w17.heap.size w17, p.w.cell? ⟨b14, 4, none⟩ = some (.int .i64 aw4) := fun p => by rw [(G14.out.below p.h G14.out.lt).cell 4]; rfl
  have nG14_5 : ∀ p : Near w17.heap.size w17, p.w.cell? ⟨b14, 5, none⟩ = some (.int .i64 an4) := fun p => by rw [(G14.out.below p.h G14.out.lt).cell 5]; rfl
  have nG14_6 : ∀ p : Near w17.heap.size w17, p.w.cell? ⟨b14, 6, none⟩ = some (.int .i64 bw4) := fun p => by rw [(G14.out.below p.h G14.out.lt).cell 6]; rfl
  have nG14_7 : ∀ p : Near w17.heap.size w17, p.w.cell? ⟨b14, 7, none⟩ = some (.int .i64 bn4) := fun p => by rw [(G14.out.below p.h G14.out.lt).cell 7]; rfl
  have nG14_8 : ∀ p : Near w17.heap.size w17, p.w.cell? ⟨b14, 8, none⟩ = some (.int .i64 u4) := fun p => by rw [(G14.out.below p.h G14.out.lt).cell 8]; rfl
  have nG14_9 : ∀ p : Near w17.heap.size w17, p.w.cell? ⟨b14, 9, none⟩ = some (.int .i64 n4) := fun p => by rw [(G14.out.below p.h G14.out.lt).cell 9]; rfl
  have nG15_0 : ∀ p : Near w17.heap.size w17, p.w.cell? ⟨b15, 0, none⟩ = some (.int .i64 ra) := fun p => by rw [(G15.out.below p.h G15.out.lt).cell 0]; rfl
  have nG15_1 : ∀ p : Near w17.heap.size w17, p.w.cell? ⟨b15, 1, none⟩ = some (.int .i64 rb) := fun p => by rw [(G15.out.below p.h G15.out.lt).cell 1]; rfl
  have HGn : Hid (∀ p : Near w17.heap.size w17, Glo p.w) := fun p => HG.out.below (HB.out.trans (p.h.mono HB.out.size))
  have I1 := hide (fun wx => implCredOk_calls ⟨k2, ow2, on2, wh2, aw2, an2, bw2, bn2, u2, n2⟩ wx)
  have S1 := hide (fun wx => specCredOk_calls ⟨k2, ow2, on2, wh2, aw2, an2, bw2, bn2, u2, n2⟩ wx)
  have I2 := hide (fun wx => implCredText_calls ⟨k2, ow2, on2, wh2, aw2, an2, bw2, bn2, u2, n2⟩ wx)
  have S2 := hide (fun wx => specCredText_calls ⟨k2, ow2, on2, wh2, aw2, an2, bw2, bn2, u2, n2⟩ wx)
  have I3 := hide (fun wx => implCredLess_calls ⟨k3, ow3, on3, wh3, aw3, an3, bw3, bn3, u3, n3⟩ ⟨k4, ow4, on4, wh4, aw4, an4, bw4, bn4, u4, n4⟩ wx)
  have S3 := hide (fun wx => specCredLess_calls ⟨k3, ow3, on3, wh3, aw3, an3, bw3, bn3, u3, n3⟩ ⟨k4, ow4, on4, wh4, aw4, an4, bw4, bn4, u4, n4⟩ wx)
  have I4 := hide (fun wx => implCredLess_calls ⟨k4, ow4, on4, wh4, aw4, an4, bw4, bn4, u4, n4⟩ ⟨k3, ow3, on3, wh3, aw3, an3, bw3, bn3, u3, n3⟩ wx)
  have hl2 := credT_le ⟨k2, ow2, on2, wh2, aw2, an2, bw2, bn2, u2, n2⟩
  have has := less_asym (credT ⟨k3, ow3, on3, wh3, aw3, an3, bw3, bn3, u3, n3⟩) (credT ⟨k4, ow4, on4, wh4, aw4, an4, bw4, bn4, u4, n4⟩)
  have I5 := hide (fun wx => implRole_calls ra rb wx)
  have S5 := hide (fun wx => specRole_calls ra rb wx)
  have I6 := hide (fun wx (hg : Glo wx) => implPlace_calls ra rb wx hg)
  have S6 := hide (fun wx => specPlace_calls ra rb wx)
  generalize decide (credOk ⟨k2, ow2, on2, wh2, aw2, an2, bw2, bn2, u2, n2⟩) = v1 at I1 S1
  generalize credT ⟨k2, ow2, on2, wh2, aw2, an2, bw2, bn2, u2, n2⟩ = T2 at I2 S2 hl2
  generalize Op.bytesLess (credT ⟨k3, ow3, on3, wh3, aw3, an3, bw3, bn3, u3, n3⟩) (credT ⟨k4, ow4, on4, wh4, aw4, an4, bw4, bn4, u4, n4⟩) = v3 at I3 S3 has
  generalize Op.bytesLess (credT ⟨k4, ow4, on4, wh4, aw4, an4, bw4, bn4, u4, n4⟩) (credT ⟨k3, ow3, on3, wh3, aw3, an3, bw3, bn3, u3, n3⟩) = v4 at I4 has
  generalize decide (roleOk ra rb) = v5 at I5 S5
  generalize place ra rb = v6 at I6 S6
  simp only [credV, roleV] at I1 S1 I2 S2 I3 S3 I4 I5 S5 I6 S6 HOK
  clear G3 G5 G8 G10 G12 G13 G14 G15
  have hnn := Near.some w17.heap.size w17
  cases v3 with
  | true =>
    have hv4 := has rfl
    subst hv4
    clear has
    go_wp2_with fail
    refine wp_region_near w17.heap.size w17 (Below.refl _ _) (by kernel_rfl) (by kernel_rfl) ?_
    simp only [List.append_eq, List.cons_append, List.nil_append]
    repeat (go_big_quiet_step (fail))
    go_big_quiet_step (exact calls_near (Nat.le_refl _) (HOK.out _))
    repeat (go_big_quiet_step (fail))
    go_big_quiet_step (exact calls_near (Nat.le_refl _) (I1.out _))
    repeat (go_big_quiet_step (fail))
    go_big_quiet_step (exact calls_near (Nat.le_refl _) (S1.out _))
    repeat (go_big_quiet_step (fail))
    go_big_quiet_step (exact calls_near (Nat.le_refl _) (I2.out _))
    repeat (go_big_quiet_step (fail))
    go_big_quiet_step (exact calls_near (Nat.le_refl _) (S2.out _))
    repeat (go_big_quiet_step (fail))
    go_big_quiet_step (exact calls_near (Nat.le_refl _) (I3.out _))
    repeat (go_big_quiet_step (fail))
    go_big_quiet_step (exact calls_near (Nat.le_refl _) (S3.out _))
    repeat (go_big_quiet_step (fail))
    go_big_quiet_step (exact calls_near (Nat.le_refl _) (I3.out _))
    repeat (go_big_quiet_step (fail))
    go_big_quiet_step (exact calls_near (Nat.le_refl _) (I4.out _))
    repeat (go_big_quiet_step (fail))
    go_big_quiet_step (exact calls_near (Nat.le_refl _) (I5.out _))
    repeat (go_big_quiet_step (fail))
    go_big_quiet_step (exact calls_near (Nat.le_refl _) (S5.out _))
    repeat (go_big_quiet_step (fail))
    go_big_quiet_step (exact calls_near (Nat.le_refl _) (I6.out _ (HGn.out _)))
    repeat (go_big_quiet_step (fail))
    go_big_quiet_step (exact calls_near (Nat.le_refl _) (S6.out _))
    repeat (go_big_quiet_step (fail))
    refine wpQuiet_nil ?_
    rintro wz ⟨pq, rfl⟩
    have hqb := pq.h
    obtain ⟨wz, hq⟩ := pq
    simp only at hqb ⊢
    have HB := hide (HB.out.trans (hqb.mono HB.out.size))
    clear hq hqb hnn nG3_0 nG3_1 nG3_2 nG3_3 nG3_4 nG3_5 nG3_6 nG3_7 nG3_8 nG3_9 nG5_0 nG5_1 nG5_2 nG5_3 nG5_4 nG5_5 nG5_6 nG5_7 nG5_8 nG5_9 nG8_0 nG8_1 nG8_2 nG8_3 nG8_4 nG8_5 nG8_6 nG8_7 nG8_8 nG8_9 nG10_0 nG10_1 nG10_2 nG10_3 nG10_4 nG10_5 nG10_6 nG10_7 nG10_8 nG10_9 nG12_0 nG12_1 nG12_2 nG12_3 nG12_4 nG12_5 nG12_6 nG12_7 nG12_8 nG12_9 nG13_0 nG13_1 nG13_2 nG13_3 nG13_4 nG13_5 nG13_6 nG13_7 nG13_8 nG13_9 nG14_0 nG14_1 nG14_2 nG14_3 nG14_4 nG14_5 nG14_6 nG14_7 nG14_8 nG14_9 nG15_0 nG15_1 I1 S1 I2 S2 I3 S3 I4 I5 S5 I6 S6 HOK HGn
    go_wp2_with fail
    go_ret
    exact ⟨by rw [show true = decide ((pl : Int) < 256) from (decide_eq_true (by omega)).symm]; rfl, HB.out⟩
  | false =>
    clear has
    go_wp2_with fail
    refine wp_region_near w17.heap.size w17 (Below.refl _ _) (by kernel_rfl) (by kernel_rfl) ?_
    simp only [List.append_eq, List.cons_append, List.nil_append]
    repeat (go_big_quiet_step (fail))
    go_big_quiet_step (exact calls_near (Nat.le_refl _) (HOK.out _))
    repeat (go_big_quiet_step (fail))
    go_big_quiet_step (exact calls_near (Nat.le_refl _) (I1.out _))
    repeat (go_big_quiet_step (fail))
    go_big_quiet_step (exact calls_near (Nat.le_refl _) (S1.out _))
    repeat (go_big_quiet_step (fail))
    go_big_quiet_step (exact calls_near (Nat.le_refl _) (I2.out _))
    repeat (go_big_quiet_step (fail))
    go_big_quiet_step (exact calls_near (Nat.le_refl _) (S2.out _))
    repeat (go_big_quiet_step (fail))
    go_big_quiet_step (exact calls_near (Nat.le_refl _) (I3.out _))
    repeat (go_big_quiet_step (fail))
    go_big_quiet_step (exact calls_near (Nat.le_refl _) (S3.out _))
    repeat (go_big_quiet_step (fail))
    go_big_quiet_step (exact calls_near (Nat.le_refl _) (I3.out _))
    repeat (go_big_quiet_step (fail))
    go_big_quiet_step (exact calls_near (Nat.le_refl _) (I5.out _))
    repeat (go_big_quiet_step (fail))
    go_big_quiet_step (exact calls_near (Nat.le_refl _) (S5.out _))
    repeat (go_big_quiet_step (fail))
    go_big_quiet_step (exact calls_near (Nat.le_refl _) (I6.out _ (HGn.out _)))
    repeat (go_big_quiet_step (fail))
    go_big_quiet_step (exact calls_near (Nat.le_refl _) (S6.out _))
    repeat (go_big_quiet_step (fail))
    refine wpQuiet_nil ?_
    rintro wz ⟨pq, rfl⟩
    have hqb := pq.h
    obtain ⟨wz, hq⟩ := pq
    simp only at hqb ⊢
    have HB := hide (HB.out.trans (hqb.mono HB.out.size))
    clear hq hqb hnn nG3_0 nG3_1 nG3_2 nG3_3 nG3_4 nG3_5 nG3_6 nG3_7 nG3_8 nG3_9 nG5_0 nG5_1 nG5_2 nG5_3 nG5_4 nG5_5 nG5_6 nG5_7 nG5_8 nG5_9 nG8_0 nG8_1 nG8_2 nG8_3 nG8_4 nG8_5 nG8_6 nG8_7 nG8_8 nG8_9 nG10_0 nG10_1 nG10_2 nG10_3 nG10_4 nG10_5 nG10_6 nG10_7 nG10_8 nG10_9 nG12_0 nG12_1 nG12_2 nG12_3 nG12_4 nG12_5 nG12_6 nG12_7 nG12_8 nG12_9 nG13_0 nG13_1 nG13_2 nG13_3 nG13_4 nG13_5 nG13_6 nG13_7 nG13_8 nG13_9 nG14_0 nG14_1 nG14_2 nG14_3 nG14_4 nG14_5 nG14_6 nG14_7 nG14_8 nG14_9 nG15_0 nG15_1 I1 S1 I2 S2 I3 S3 I4 I5 S5 I6 S6 HOK HGn
    go_wp2_with fail
    go_ret
    exact ⟨by rw [show true = decide ((pl : Int) < 256) from (decide_eq_true (by omega)).symm]; rfl, HB.out⟩
end Go.Proofs.YtflicklgmhgpiaaDoor.P5
