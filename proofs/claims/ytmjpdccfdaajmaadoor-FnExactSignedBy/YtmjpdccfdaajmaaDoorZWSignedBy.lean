/- The walk of FnExactSignedBy: it returns true; conditions: the listed tables hold what their text lays. -/
import Derived.Test.YtmjpdccfdaajmaaDoorZG
import Derived.Test.YtmjpdccfdaajmaaDoorZH
import Derived.Test.YtmjpdccfdaajmaaDoorZD
namespace Go.Proofs.YtmjpdccfdaajmaaDoor.P4
set_option maxRecDepth 8000
open Go.RowKit P1 P3

theorem enterT : ∀ args w, (callFunc 42 args).run Tryd.prog w = .ok (.enter 42 args) w := run_enter Tryd.func42 (by kernel_rfl) (by kernel_rfl)

set_option maxHeartbeats 2000000 in
theorem signedByWalk (sk st : ByteArray) (hk : sk.size ≤ maxLen) (ht : st.size ≤ maxLen) (leaf : Int) (vE vW : Value) (E W : List (List UInt8)) (w : World) (hE : Frame.TextsIn w vE E) (hW : Frame.TextsIn w vW W) (hG : Glo w) :
    Calls Tryd.prog 11 #[.string sk, .string st, .agg #[.int .i64 leaf, vE, vW]] w fun e w' => e = .returned (.bool true) ∧ Below w.heap.size w w' := by
  obtain ⟨k, hke⟩ : ∃ k : List UInt8, sk = ⟨k.toArray⟩ := ⟨sk.data.toList, by simp⟩
  obtain ⟨t, hte⟩ : ∃ t : List UInt8, st = ⟨t.toArray⟩ := ⟨st.data.toList, by simp⟩
  subst hke hte
  have hsk : (⟨k.toArray⟩ : ByteArray).size = k.length := rfl
  have hst : (⟨t.toArray⟩ : ByteArray).size = t.length := rfl
  rw [hsk] at hk
  rw [hst] at ht
  unfold maxLen at hk ht
  clear hsk hst
  obtain ⟨tE, lE, xE⟩ := hE
  obtain ⟨tW, lW, xW⟩ := hW
  unfold maxLen at lE lW xE xW
  have hb1 : Below w.heap.size w (w.alloc (.cells #[.int .i64 leaf, vE, vW] 56)) := (Below.refl _ _).alloc (Nat.le_refl _) _
  have HA := hide (Blk.new w #[.int .i64 leaf, vE, vW] 56)
  obtain ⟨a1, c1, e1⟩ := texts_len tE
  obtain ⟨a2, c2, e2⟩ := texts_len tW
  have TE := hide tE
  have TW := hide tW
  have HSZ := hide (fun (wx : World) (h1 : TextsAt wx vE E) (h2 : TextsAt wx vW W) => szSig_calls wx leaf vE vW E W h1 h2 (by omega) (by omega) (fun x hx => by have := xE x hx; omega) (fun x hx => by have := xW x hx; omega))
  have HTO := hide (fun (wx : World) (h1 : TextsAt wx vE E) (h2 : TextsAt wx vW W) (hs : SmallSig E W) => toSig_calls wx leaf vE vW E W h1 h2 hs.le hs.lw)
  have HB1 := hide hb1
  have HG := hide hG
  clear tE tW xE xW hb1 hG
  obtain ⟨nE, hnE⟩ : ∃ nE, nE = E.length := ⟨_, rfl⟩
  obtain ⟨nW, hnW⟩ : ∃ nW, nW = W.length := ⟨_, rfl⟩
  rw [← hnE] at e1
  rw [← hnW] at e2
  clear hnE hnW lE lW
  subst e1 e2
  by_cases h1 : 1048576 < k.length
  · go_enter Tryd.func11, Tryd.ntmps11
    go_wp2_with fail
    go_ret
    exact ⟨rfl, HB1.out⟩
  by_cases h2 : 1048576 < t.length
  · go_enter Tryd.func11, Tryd.ntmps11
    go_wp2_with fail
    go_ret
    exact ⟨rfl, HB1.out⟩
  have H1 := hide (fun (wx : World) (v : Value) (hv : SigAt wx v leaf E W) => specSigned_calls k t (by omega) wx v leaf E W hv)
  have H2 := hide (fun (wx : World) (v : Value) (hv : SigAt wx v leaf E W) (hg : Glo wx) => implSigned_calls k t (by omega) wx v leaf E W hv hg)
  generalize decide (signedV k t leaf E W) = r at *
  have hrr : (r != r) = false := by cases r <;> rfl
  go_enter Tryd.func11, Tryd.ntmps11
  go_wp2_with fail
  obtain ⟨b5, hb5⟩ : ∃ b5, b5 = w.heap.size := ⟨_, rfl⟩
  rw [← hb5] at HA ⊢
  clear hb5
  generalize w.alloc (.cells #[.int .i64 leaf, .slice a1 nE c1, .slice a2 nW c2] 56) = w1 at *
  have hl1 := HA.out.lt
  refine (HSZ.out _ (TE.out.below HB1.out (Nat.le_refl _)) (TW.out.below HB1.out (Nat.le_refl _))).mono ?_
  rintro e w2 ⟨d, rfl, hd, hb2⟩
  have HB2 := hide (HB1.out.trans (hb2.mono HB1.out.size))
  have HA2 := hide (HA.out.below hb2 hl1)
  clear hb2
  by_cases hneg : d < 0
  · clear hd
    go_wp2_with fail
    go_ret
    exact ⟨rfl, HB2.out⟩
  have HSM := hide (hd (by omega))
  clear hd
  have p0 : w2.cell? ⟨b5, 0, none⟩ = some (.int .i64 leaf) := by rw [HA2.out.cell 0]; rfl
  have p1 : w2.cell? ⟨b5, 1, none⟩ = some (.slice a1 nE c1) := by rw [HA2.out.cell 1]; rfl
  have p2 : w2.cell? ⟨b5, 2, none⟩ = some (.slice a2 nW c2) := by rw [HA2.out.cell 2]; rfl
  go_wp2_with fail
  clear p0 p1 p2
  refine (HTO.out _ (TE.out.below HB2.out (Nat.le_refl _)) (TW.out.below HB2.out (Nat.le_refl _)) HSM.out).mono ?_
  rintro e w3 ⟨u, rfl, hu, hb3⟩
  have HU := hide (hu.at_ HSM.out.le HSM.out.lw HSM.out.te HSM.out.tw)
  have HB3 := hide (HB2.out.trans (hb3.mono HB2.out.size))
  have HA3 := hide (HA2.out.below hb3 HA2.out.lt)
  obtain ⟨vE3, vW3, hue, -, -, -⟩ := hu.val
  subst hue
  clear hu hb3
  go_wp2_with fail
  refine (H1.out _ _ HU.out).mono ?_
  rintro e w4 ⟨rfl, hb4⟩
  have HB4 := hide (HB3.out.trans (hb4.mono HB3.out.size))
  have HA4 := hide (HA3.out.below hb4 HA3.out.lt)
  clear hb4 HU
  have p0 : w4.cell? ⟨b5, 0, none⟩ = some (.int .i64 leaf) := by rw [HA4.out.cell 0]; rfl
  have p1 : w4.cell? ⟨b5, 1, none⟩ = some (.slice a1 nE c1) := by rw [HA4.out.cell 1]; rfl
  have p2 : w4.cell? ⟨b5, 2, none⟩ = some (.slice a2 nW c2) := by rw [HA4.out.cell 2]; rfl
  go_wp2_with fail
  clear p0 p1 p2
  refine (HTO.out _ (TE.out.below HB4.out (Nat.le_refl _)) (TW.out.below HB4.out (Nat.le_refl _)) HSM.out).mono ?_
  rintro e w5 ⟨u, rfl, hu, hb5⟩
  obtain ⟨vE5, vW5, hue, q1, q2, -⟩ := hu.val
  obtain ⟨a3, m3, c3, rfl⟩ := own_shape q1
  obtain ⟨a4, m4, c4, rfl⟩ := own_shape q2
  subst hue
  have hbA : Below w5.heap.size w5 (w5.alloc (.cells #[.int .i64 leaf, .slice a3 m3 c3, .slice a4 m4 c4] 29)) := (Below.refl _ _).alloc (Nat.le_refl _) _
  have HU6 := hide (hu.below hbA)
  have HA9 := hide (Blk.new w5 #[.int .i64 leaf, .slice a3 m3 c3, .slice a4 m4 c4] 29)
  have hb5' := HB4.out.trans (hb5.mono HB4.out.size)
  have hA5 := HA4.out.below hb5 HA4.out.lt
  have HA6 := hide (hA5.below hbA hA5.lt)
  have HB6 := hide (hb5'.trans (hbA.mono hb5'.size))
  clear hu q1 q2 hbA hb5' hA5 hb5
  go_wp2_with fail
  obtain ⟨b9, hb9⟩ : ∃ b9, b9 = w5.heap.size := ⟨_, rfl⟩
  rw [← hb9] at HA9 ⊢
  clear hb9
  generalize w5.alloc (.cells #[.int .i64 leaf, .slice a3 m3 c3, .slice a4 m4 c4] 29) = w6 at *
  refine (H2.out _ _ (HU6.out.at_ HSM.out.le HSM.out.lw HSM.out.te HSM.out.tw) (HG.out.below HB6.out)).mono ?_
  rintro e w7 ⟨rfl, hb7⟩
  have HU7 := hide (HU6.out.below hb7)
  have HA7 := hide (HA6.out.below hb7 HA6.out.lt)
  have HA97 := hide (HA9.out.below hb7 HA9.out.lt)
  have HB7 := hide (HB6.out.trans (hb7.mono HB6.out.size))
  clear hb7 HU6 HA6 HA9 HB6
  have l5 := HA7.out.lt
  have l9 := HA97.out.lt
  have n0 : ∀ p : Near w7.heap.size w7, p.w.cell? ⟨b9, 0, none⟩ = some (.int .i64 leaf) := fun p => by rw [(HA97.out.below p.h l9).cell 0]; rfl
  have n1 : ∀ p : Near w7.heap.size w7, p.w.cell? ⟨b9, 1, none⟩ = some (.slice a3 m3 c3) := fun p => by rw [(HA97.out.below p.h l9).cell 1]; rfl
  have n2 : ∀ p : Near w7.heap.size w7, p.w.cell? ⟨b9, 2, none⟩ = some (.slice a4 m4 c4) := fun p => by rw [(HA97.out.below p.h l9).cell 2]; rfl
  have hnn := Near.some w7.heap.size w7
  go_wp2_with fail
  refine wp_region_open (fun wd => ∃ p : Near w7.heap.size w7, wd = p.w) ⟨⟨_, (Below.refl _ _).drew⟩, rfl⟩ (by kernel_rfl) ?_
  rintro wd ⟨pd, rfl⟩
  refine wpAny_of_K (c := 3) (D := fun w' => ∃ p : Near w7.heap.size w7, w' = p.w) _ _ _ _ ?_
  refine wpAnyK_load 0 (by kernel_rfl) (by kernel_rfl) (by kernel_rfl) (by kernel_rfl) (by kernel_rfl) (by kernel_rfl) (by decide) (fun _ _ _ _ _ h => h) ⟨pd, rfl⟩ ?_
  simp only [List.take_succ_cons, List.take_zero, List.drop_zero]
  go_big_quiet_step (fail)
  refine wpQuiet_nil ?_
  clear n0 n1 n2 hnn
  have p0 : pd.w.cell? ⟨b5, 0, none⟩ = some (.int .i64 leaf) := by rw [(HA7.out.below pd.h l5).cell 0]; rfl
  have p1 : pd.w.cell? ⟨b5, 1, none⟩ = some (.slice a1 nE c1) := by rw [(HA7.out.below pd.h l5).cell 1]; rfl
  have p2 : pd.w.cell? ⟨b5, 2, none⟩ = some (.slice a2 nW c2) := by rw [(HA7.out.below pd.h l5).cell 2]; rfl
  have hbd := HB7.out.trans (pd.h.mono HB7.out.size)
  refine wpAnyK_value (i := 1) (v := .agg #[.int .i64 leaf, .slice a1 nE c1, .slice a2 nW c2]) (w' := pd.w) (by kernel_rfl) rfl rfl (by simp [execOp, go_sem, p0, p1, p2]) ⟨pd, rfl⟩ ?_
  refine wpAnyK_call 2 (by kernel_rfl) rfl rfl 42 _ _ rfl enterT #[.agg #[.int .i64 leaf, .slice a1 nE c1, .slice a2 nW c2]] rfl (fun u' w' => SigOwn pd.w.heap.size w' u' leaf E W ∧ Below pd.w.heap.size pd.w w') (HTO.out pd.w (TE.out.below hbd (Nat.le_refl _)) (TW.out.below hbd (Nat.le_refl _)) HSM.out) ?_
  rintro u' w8 ⟨hu8, hb8⟩
  have hb78 := pd.h.trans (hb8.mono pd.h.size)
  refine ⟨⟨⟨_, hb78⟩, rfl⟩, ?_⟩
  refine wpAnyK_last (by kernel_rfl) (by decide) ?_
  refine wpAny_rest 3 rfl (by kernel_rfl) ?_
  simp only [List.drop_succ_cons, List.drop_zero]
  have HEQ := hide (eqSig_calls _ _ _ _ leaf E W w8 HSM.out.le HSM.out.lw (HU7.out.below hb78) hu8)
  have HB8 := hide (HB7.out.trans (hb78.mono HB7.out.size))
  obtain ⟨vE8, vW8, hue, -, -, -⟩ := hu8.val
  subst hue
  clear hu8 hb8 hb78 p0 p1 p2 hbd
  go_wp2_with fail
  refine HEQ.out.mono ?_
  rintro e w9 ⟨rfl, hb9⟩
  have HB9 := hide (HB8.out.trans (hb9.mono HB8.out.size))
  clear hb9 HEQ
  go_wp2_with fail
  go_ret
  exact ⟨rfl, HB9.out⟩
end Go.Proofs.YtmjpdccfdaajmaaDoor.P4
