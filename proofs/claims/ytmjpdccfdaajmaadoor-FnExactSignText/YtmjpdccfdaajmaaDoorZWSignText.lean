/- The walk of FnExactSignText: it returns true; conditions: numbers are ints, the listed tables hold what their text lays. -/
import Derived.Test.YtmjpdccfdaajmaaDoorZG
import Derived.Test.YtmjpdccfdaajmaaDoorZH
namespace Go.Proofs.YtmjpdccfdaajmaaDoor.P4
set_option maxRecDepth 8000
open Go.RowKit P1 P3

set_option maxHeartbeats 2000000 in
theorem signTextWalk (seed leaf : Int) (s : ByteArray) (hs : s.size ≤ maxLen) (w : World) (hG : Glo w) :
    Calls Tryd.prog 10 #[.int .i64 seed, .int .i64 leaf, .string s] w fun e w' => e = .returned (.bool true) ∧ Below w.heap.size w w' := by
  obtain ⟨t, ht⟩ : ∃ t : List UInt8, s = ⟨t.toArray⟩ := ⟨s.data.toList, by simp⟩
  subst ht
  have hsz : (⟨t.toArray⟩ : ByteArray).size = t.length := rfl
  rw [hsz] at hs
  unfold maxLen at hs
  by_cases h : 1048576 < t.length
  · go_enter Tryd.func10, Tryd.ntmps10
    go_wp2
    go_ret
    exact ⟨rfl, Below.refl _ _⟩
  have H1 := hide (fun wx => specSign_calls seed leaf t (by omega) wx)
  have H2 := hide (fun wx (hg : Glo wx) => implSign_calls seed leaf t (by omega) wx hg)
  have HG := hide hG
  clear hG
  have hlE : (sEnds seed leaf t).length ≤ 100 := by
    unfold sEnds
    split
    · rw [endN_length]; omega
    · simp
  have hlW : (sWay seed leaf).length ≤ 100 := by
    unfold sWay
    split
    · rw [wayN_length]; omega
    · simp
  generalize sLeaf seed leaf = lf at *
  generalize sEnds seed leaf t = E at *
  generalize sWay seed leaf = W at *
  generalize decide (sOk seed leaf) = ok at *
  have hok : (ok != ok) = false := by cases ok <;> rfl
  go_enter Tryd.func10, Tryd.ntmps10
  go_wp2_with fail
  refine (H1.out _).mono ?_
  rintro e w1 ⟨v0, rfl, hv0, hb1⟩
  have HV0 := hide hv0
  obtain ⟨vE0, vW0, hv0e, q1, q2, -⟩ := hv0.val
  obtain ⟨a1, m1, c1, rfl⟩ := own_shape q1
  obtain ⟨a2, m2, c2, rfl⟩ := own_shape q2
  have hbA : Below w1.heap.size w1 (w1.alloc (.cells #[.int .i64 lf, .slice a1 m1 c1, .slice a2 m2 c2] 29)) := (Below.refl _ _).alloc (Nat.le_refl _) _
  have HV2 := hide (hv0.below hbA)
  have HLT := hide (hv0.lt)
  have hA := Blk.new w1 #[.int .i64 lf, .slice a1 m1 c1, .slice a2 m2 c2] 29
  have HA := hide hA
  have HB2 := hide (hb1.trans (hbA.mono hb1.size))
  have hz12 : w1.heap.size < (w1.alloc (.cells #[.int .i64 lf, .slice a1 m1 c1, .slice a2 m2 c2] 29)).heap.size := by simp
  clear hv0 hb1 hbA hA q1 q2 HV0
  subst hv0e
  go_wp2_with fail
  obtain ⟨b7, hb7⟩ : ∃ b7, b7 = w1.heap.size := ⟨_, rfl⟩
  rw [← hb7] at HA HLT hz12 ⊢
  clear hb7
  generalize w1.alloc (.cells #[.int .i64 lf, .slice a1 m1 c1, .slice a2 m2 c2] 29) = w2 at *
  refine (H2.out _ (HG.out.below HB2.out)).mono ?_
  rintro e w3 ⟨v1, rfl, hv1, hb3⟩
  obtain ⟨vE1, vW1, hv1e, q1, q2, -⟩ := hv1.val
  obtain ⟨a3, m3, c3, rfl⟩ := own_shape q1
  obtain ⟨a4, m4, c4, rfl⟩ := own_shape q2
  have hbA : Below w3.heap.size w3 (w3.alloc (.cells #[.int .i64 lf, .slice a3 m3 c3, .slice a4 m4 c4] 29)) := (Below.refl _ _).alloc (Nat.le_refl _) _
  have HV4 := hide ((HV2.out.below hb3).below hbA)
  have HU4 := hide (hv1.below hbA)
  have HULT := hide (hv1.lt)
  have hA7 := HA.out.below hb3 HA.out.lt
  have HA7 := hide (hA7.below hbA hA7.lt)
  have HA9 := hide (Blk.new w3 #[.int .i64 lf, .slice a3 m3 c3, .slice a4 m4 c4] 29)
  have hz23 := hb3.size
  have hb3' := HB2.out.trans (hb3.mono HB2.out.size)
  have HB4 := hide (hb3'.trans (hbA.mono hb3'.size))
  have hz34 : w3.heap.size < (w3.alloc (.cells #[.int .i64 lf, .slice a3 m3 c3, .slice a4 m4 c4] 29)).heap.size := by simp
  clear hv1 hb3 hbA q1 q2 HA hA7 hb3' HV2
  subst hv1e
  have x0 : (w3.alloc (.cells #[.int .i64 lf, .slice a3 m3 c3, .slice a4 m4 c4] 29)).cell? ⟨b7, 0, none⟩ = some (.int .i64 lf) := by rw [HA7.out.cell 0]; rfl
  have x1 : (w3.alloc (.cells #[.int .i64 lf, .slice a3 m3 c3, .slice a4 m4 c4] 29)).cell? ⟨b7, 1, none⟩ = some (.slice a1 m1 c1) := by rw [HA7.out.cell 1]; rfl
  have x2 : (w3.alloc (.cells #[.int .i64 lf, .slice a3 m3 c3, .slice a4 m4 c4] 29)).cell? ⟨b7, 2, none⟩ = some (.slice a2 m2 c2) := by rw [HA7.out.cell 2]; rfl
  go_wp2_with fail
  obtain ⟨b9, hb9⟩ : ∃ b9, b9 = w3.heap.size := ⟨_, rfl⟩
  rw [← hb9] at HA9 HULT hz34 hz23 ⊢
  clear hb9
  generalize w3.alloc (.cells #[.int .i64 lf, .slice a3 m3 c3, .slice a4 m4 c4] 29) = w4 at *
  refine (eqSig_calls w2.heap.size w.heap.size _ _ lf E W w4 (by omega) (by omega) HU4.out HV4.out).mono ?_
  rintro e w5 ⟨rfl, hb5⟩
  have HV5 := hide (HV4.out.below hb5)
  have HU5 := hide (HU4.out.below hb5)
  have HA75 := hide (HA7.out.below hb5 HA7.out.lt)
  have HA95 := hide (HA9.out.below hb5 HA9.out.lt)
  have HB5 := hide (HB4.out.trans (hb5.mono HB4.out.size))
  have hz45 := hb5.size
  have y0 : w5.cell? ⟨b9, 0, none⟩ = some (.int .i64 lf) := by rw [HA95.out.cell 0]; rfl
  have y1 : w5.cell? ⟨b9, 1, none⟩ = some (.slice a3 m3 c3) := by rw [HA95.out.cell 1]; rfl
  have y2 : w5.cell? ⟨b9, 2, none⟩ = some (.slice a4 m4 c4) := by rw [HA95.out.cell 2]; rfl
  clear hb5 HV4 HU4 HA7 HA9 HB4 x0 x1 x2
  go_wp2_with fail
  clear y0 y1 y2
  refine (markSig_calls w2.heap.size _ lf E W w5 (by omega) (by omega) (by omega) HU5.out).mono ?_
  rintro e w6 ⟨rfl, hu6, hb6, hk6⟩
  have HU6 := hide hu6
  have HV6 := hide (HV5.out.belowB hb6 (fun vE vW e => ⟨fun g hg => Nat.lt_trans ((HLT.out vE vW e).1 g hg) hz12, fun g hg => Nat.lt_trans ((HLT.out vE vW e).2 g hg) hz12⟩))
  have hA76 := HA75.out.below hb6 hz12
  have hA96 : Blk w6 b9 [.int .i64 lf, .slice a3 m3 c3, .slice a4 m4 c4] 29 := by
    have := hk6 b9 HA95.out.lt (fun vE vW e => ⟨fun h => Nat.lt_irrefl _ ((HULT.out vE vW e).1 b9 h), fun h => Nat.lt_irrefl _ ((HULT.out vE vW e).2 b9 h)⟩)
    unfold Blk
    rw [this]
    exact HA95.out
  have HA76 := hide hA76
  have HA96 := hide hA96
  have HB6 := hide (HB5.out.trans (hb6.mono HB2.out.size))
  have y0 : w6.cell? ⟨b9, 0, none⟩ = some (.int .i64 lf) := by rw [HA96.out.cell 0]; rfl
  have y1 : w6.cell? ⟨b9, 1, none⟩ = some (.slice a3 m3 c3) := by rw [HA96.out.cell 1]; rfl
  have y2 : w6.cell? ⟨b9, 2, none⟩ = some (.slice a4 m4 c4) := by rw [HA96.out.cell 2]; rfl
  obtain ⟨M, hM⟩ : ∃ M, M = 1 + E.length + W.length := ⟨_, rfl⟩
  have HH := hide (fun wx (hx : SigOwn w2.heap.size wx (.agg #[.int .i64 lf, .slice a3 m3 c3, .slice a4 m4 c4]) lf (mE E) (mW E W)) => heldSig_calls w2.heap.size _ lf E W wx (by omega) (by omega) hx)
  rw [← hM] at HH ⊢
  have hM2 : M ≤ 201 := by omega
  clear hM hu6 hb6 hk6 hA76 hA96 HV5 HU5 HA75 HA95 HB5
  go_wp2_with fail
  clear y0 y1 y2
  refine (HH.out _ HU6.out).mono ?_
  rintro e w7 ⟨rfl, hb7⟩
  have HV7 := hide (HV6.out.below hb7)
  have HU7 := hide (HU6.out.below hb7)
  have HA77 := hide (HA76.out.below hb7 HA76.out.lt)
  have HA97 := hide (HA96.out.below hb7 HA96.out.lt)
  have HB7 := hide (HB6.out.trans (hb7.mono HB6.out.size))
  clear hb7 HV6 HU6 HA76 HA96 HB6
  go_wp2_with fail
  refine (H2.out _ (HG.out.below HB7.out)).mono ?_
  rintro e w8 ⟨v2, rfl, hv2, hb8⟩
  obtain ⟨vE2, vW2, hv2e, q1, q2, -⟩ := hv2.val
  obtain ⟨a5, m5, c5, rfl⟩ := own_shape q1
  obtain ⟨a6, m6, c6, rfl⟩ := own_shape q2
  have hbA : Below w8.heap.size w8 (w8.alloc (.cells #[.int .i64 lf, .slice a5 m5 c5, .slice a6 m6 c6] 29)) := (Below.refl _ _).alloc (Nat.le_refl _) _
  have HV9 := hide ((HV7.out.below hb8).below hbA)
  have HU9 := hide ((HU7.out.below hb8).below hbA)
  have HX9 := hide (hv2.below hbA)
  have hA7 := HA77.out.below hb8 HA77.out.lt
  have HA79 := hide (hA7.below hbA hA7.lt)
  have hA9 := HA97.out.below hb8 HA97.out.lt
  have HA99 := hide (hA9.below hbA hA9.lt)
  have hb8' := HB7.out.trans (hb8.mono HB7.out.size)
  have HB9 := hide (hb8'.trans (hbA.mono hb8'.size))
  clear hv2 hb8 hbA q1 q2 hA7 hA9 hb8' HV7 HU7 HA77 HA97 HB7
  subst hv2e
  have x0 : (w8.alloc (.cells #[.int .i64 lf, .slice a5 m5 c5, .slice a6 m6 c6] 29)).cell? ⟨b7, 0, none⟩ = some (.int .i64 lf) := by rw [HA79.out.cell 0]; rfl
  have x1 : (w8.alloc (.cells #[.int .i64 lf, .slice a5 m5 c5, .slice a6 m6 c6] 29)).cell? ⟨b7, 1, none⟩ = some (.slice a1 m1 c1) := by rw [HA79.out.cell 1]; rfl
  have x2 : (w8.alloc (.cells #[.int .i64 lf, .slice a5 m5 c5, .slice a6 m6 c6] 29)).cell? ⟨b7, 2, none⟩ = some (.slice a2 m2 c2) := by rw [HA79.out.cell 2]; rfl
  go_wp2_with fail
  clear x0 x1 x2
  have HEQ := hide (eqSig_calls w7.heap.size w.heap.size _ _ lf E W _ (by omega) (by omega) HX9.out HV9.out)
  generalize w8.alloc (.cells #[.int .i64 lf, .slice a5 m5 c5, .slice a6 m6 c6] 29) = w9 at *
  refine HEQ.out.mono ?_
  rintro e w10 ⟨rfl, hb10⟩
  have HU10 := hide (HU9.out.below hb10)
  have hA910 := HA99.out.below hb10 HA99.out.lt
  have HB10 := hide (HB9.out.trans (hb10.mono HB9.out.size))
  have y0 : w10.cell? ⟨b9, 0, none⟩ = some (.int .i64 lf) := by rw [hA910.cell 0]; rfl
  have y1 : w10.cell? ⟨b9, 1, none⟩ = some (.slice a3 m3 c3) := by rw [hA910.cell 1]; rfl
  have y2 : w10.cell? ⟨b9, 2, none⟩ = some (.slice a4 m4 c4) := by rw [hA910.cell 2]; rfl
  clear hb10 hA910 HEQ HU9 HA99 HB9
  go_wp2_with fail
  refine (HH.out _ HU10.out).mono ?_
  rintro e w11 ⟨rfl, hb11⟩
  have HB11 := hide (HB10.out.trans (hb11.mono HB10.out.size))
  clear hb11 y0 y1 y2
  go_wp2_with fail
  go_ret
  exact ⟨rfl, HB11.out⟩
end Go.Proofs.YtmjpdccfdaajmaaDoor.P4
