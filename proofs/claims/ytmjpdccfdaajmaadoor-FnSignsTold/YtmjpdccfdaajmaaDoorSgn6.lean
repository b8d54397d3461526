/- The contract of spec.SignedBy; conditions: texts and lists of at most 2^20. -/
import Derived.Test.YtmjpdccfdaajmaaDoorSgn2
import Derived.Test.YtmjpdccfdaajmaaDoorSgn5
namespace Go.Proofs.YtmjpdccfdaajmaaDoor.P4
set_option maxRecDepth 8000
open Go.RowKit P1 P3

/-- The text of the leaf's key that a signature comes to, behind so many chains. -/
def sgnText (t : List UInt8) (E : List (List UInt8)) : Nat → List UInt8
  | 0 => [108]
  | k + 1 => sgnText t E k ++ chain (3 - (quadsN t).getD k 0) (E.getD k [])

/-- .. and what it comes to on the way to the top. -/
def climb (T : List UInt8) (leaf : Nat) (W : List (List UInt8)) : Nat → List UInt8
  | 0 => T
  | j + 1 => if (leaf / 2 ^ j) % 2 = 0 then node (climb T leaf W j) (W.getD j []) else node (W.getD j []) (climb T leaf W j)

/-- What SignedBy answers. -/
def signedV (k t : List UInt8) (leaf : Int) (E W : List (List UInt8)) : Prop := formOk leaf E W ∧ climb (cut8 (sgnText t E 11)) leaf.toNat W 2 = k

instance (k t : List UInt8) (leaf : Int) (E W : List (List UInt8)) : Decidable (signedV k t leaf E W) := by unfold signedV; infer_instance

theorem chain8 (n : Nat) (x : List UInt8) (h : x.length = 8) : (chain n x).length = 8 := by
  cases n with
  | zero => exact h
  | succ n => exact chain_length _ _ (by omega)

theorem sgnText_length (t : List UInt8) (E : List (List UInt8)) (hE : E.length = 11) (h8 : allEight E) (k : Nat) (hk : k ≤ 11) : (sgnText t E k).length = 1 + 8 * k := by
  induction k with
  | zero => rfl
  | succ k ih =>
    have hx : (E.getD k []).length = 8 := by
      have : E.getD k [] = E[k] := by simp [List.getD_eq_getElem?_getD, show k < E.length by omega]
      rw [this]
      exact h8 _ (List.getElem_mem _)
    rw [sgnText, List.length_append, ih (by omega), chain8 _ _ hx]
    omega

theorem climb_length (T : List UInt8) (leaf : Nat) (W : List (List UInt8)) (hT : T.length = 8) (j : Nat) : (climb T leaf W j).length = 8 := by
  cases j with
  | zero => exact hT
  | succ j =>
    rw [climb]
    split
    · exact node_length _ _
    · exact node_length _ _

theorem signedV_form (k t : List UInt8) (n : Nat) (E W : List (List UInt8)) (h : formOk (n : Int) E W) : decide (signedV k t (n : Int) E W) = decide (climb (cut8 (sgnText t E 11)) n W 2 = k) := by
  by_cases hc : climb (cut8 (sgnText t E 11)) n W 2 = k
  · rw [decide_eq_true (show signedV k t (n : Int) E W from ⟨h, hc⟩), decide_eq_true hc]
  · rw [decide_eq_false (fun h' : signedV k t (n : Int) E W => hc h'.2), decide_eq_false hc]

theorem SigAt.below {w w' : World} {v : Value} {leaf : Int} {E W : List (List UInt8)} (h : SigAt w v leaf E W) (hb : Below w.heap.size w w') : SigAt w' v leaf E W := by
  obtain ⟨⟨vE, vW, e, t1, t2⟩, h1, h2, h3, h4⟩ := h
  exact ⟨⟨vE, vW, e, t1.below hb (Nat.le_refl _), t2.below hb (Nat.le_refl _)⟩, h1, h2, h3, h4⟩

set_option maxHeartbeats 2000000 in
theorem specSigned_calls (k t : List UInt8) (ht : t.length ≤ 1048576) (w : World) (v : Value) (leaf : Int) (E W : List (List UInt8)) (hv : SigAt w v leaf E W) :
    Calls Tryd.prog 30 #[.string ⟨k.toArray⟩, .string ⟨t.toArray⟩, v] w fun e w' => e = .returned (.bool (decide (signedV k t leaf E W))) ∧ Below w.heap.size w w' := by
  have HSV := hide hv
  obtain ⟨⟨vE, vW, rfl, tE, tW⟩, -, -, -, -⟩ := hv
  have TE := hide tE
  have TW := hide tW
  clear tE tW
  have hbA : Below w.heap.size w (w.alloc (.cells #[.int .i64 leaf, vE, vW] 29)) := (Below.refl _ _).alloc (Nat.le_refl _) _
  have HF := hide (form_calls _ _ leaf E W (HSV.out.below hbA))
  have TE1 := hide (TE.out.below hbA (Nat.le_refl _))
  have TW1 := hide (TW.out.below hbA (Nat.le_refl _))
  have q0 : (w.alloc (.cells #[.int .i64 leaf, vE, vW] 29)).cell? ⟨w.heap.size, 0, none⟩ = some (.int .i64 leaf) := by simp [go_sem]
  have q1 : (w.alloc (.cells #[.int .i64 leaf, vE, vW] 29)).cell? ⟨w.heap.size, 1, none⟩ = some vE := by simp [go_sem]
  have q2 : (w.alloc (.cells #[.int .i64 leaf, vE, vW] 29)).cell? ⟨w.heap.size, 2, none⟩ = some vW := by simp [go_sem]
  have hzA : w.heap.size < (w.alloc (.cells #[.int .i64 leaf, vE, vW] 29)).heap.size := by simp
  have HBA := hide hbA
  obtain ⟨r, Er⟩ : ∃ r, Hid (r = decide (signedV k t leaf E W)) := ⟨_, rfl⟩
  rw [← Er.out]
  clear hbA HSV TE TW
  go_enter Tryd.func30, Tryd.ntmps30
  go_wp2_with fail
  refine HF.out.mono ?_
  rintro e w1 ⟨rfl, hb1⟩
  obtain ⟨bS, hbS⟩ : ∃ bS, bS = w.heap.size := ⟨_, rfl⟩
  rw [← hbS] at q0 q1 q2 hzA ⊢
  generalize w.alloc (.cells #[.int .i64 leaf, vE, vW] 29) = wA at *
  have p0 : w1.cell? ⟨bS, 0, none⟩ = some (.int .i64 leaf) := by rw [hb1.cell (p := ⟨bS, 0, none⟩) hzA]; exact q0
  have p1 : w1.cell? ⟨bS, 1, none⟩ = some vE := by rw [hb1.cell (p := ⟨bS, 1, none⟩) hzA]; exact q1
  have p2 : w1.cell? ⟨bS, 2, none⟩ = some vW := by rw [hb1.cell (p := ⟨bS, 2, none⟩) hzA]; exact q2
  have hz1 : bS < w1.heap.size := Nat.lt_of_lt_of_le hzA hb1.size
  have TE2 := hide (TE1.out.below hb1 (Nat.le_refl _))
  have TW2 := hide (TW1.out.below hb1 (Nat.le_refl _))
  have HB1 := hide (HBA.out.trans (hb1.mono HBA.out.size))
  clear hb1 q0 q1 q2 hzA TE1 TW1 HBA hbS HF
  by_cases hf : formOk leaf E W
  · rw [decide_eq_true hf]
    have HFO := hide hf
    obtain ⟨hl03, hE11, hW2, h8E, h8W⟩ := hf
    obtain ⟨n, rfl⟩ := Int.eq_ofNat_of_zero_le hl03.1
    have hn3 : n ≤ 3 := by have := hl03.2; omega
    have H8E := hide h8E
    have H8W := hide h8W
    have hr : r = decide (climb (cut8 (sgnText t E 11)) n W 2 = k) := by rw [Er.out]; exact signedV_form k t n E W HFO.out
    have HR := hide hr
    clear hr Er h8E h8W hl03 HFO
    have HQ := hide (fun wx => specQuads_calls t (by omega) wx)
    have HQE : Hid (quads t = ints (quadsN t)) := rfl
    have HQL := hide (fun x hx => quadsN_lt t x hx)
    have hq11 := quadsN_length t
    go_wp2_with fail
    refine (HQ.out _).mono ?_
    rintro e w2 ⟨vq, rfl, hoq, hb2⟩
    obtain ⟨gq, cq, hvq, hgq1, hgq2, hcq, hqc, -⟩ := own_at hoq (by omega)
    subst hvq
    have p0' : w2.cell? ⟨bS, 0, none⟩ = some (.int .i64 (n : Int)) := by rw [hb2.cell (p := ⟨bS, 0, none⟩) hz1]; exact p0
    have p1' : w2.cell? ⟨bS, 1, none⟩ = some vE := by rw [hb2.cell (p := ⟨bS, 1, none⟩) hz1]; exact p1
    have p2' : w2.cell? ⟨bS, 2, none⟩ = some vW := by rw [hb2.cell (p := ⟨bS, 2, none⟩) hz1]; exact p2
    have hz2 : bS < w2.heap.size := Nat.lt_of_lt_of_le hz1 hb2.size
    have TE3 := hide (TE2.out.below hb2 (Nat.le_refl _))
    have TW3 := hide (TW2.out.below hb2 (Nat.le_refl _))
    have HB2 := hide (HB1.out.trans (hb2.mono HB1.out.size))
    have hqq : ∀ j, j < 11 → w2.cell? ⟨gq, j, none⟩ = some (.int .i64 ((quadsN t).getD j 0 : Nat)) := by
      intro j hj
      rw [hqc j (by omega), HQE.out]
      simp [cellsI, ints, List.getD_eq_getElem?_getD, show j < (quadsN t).length by omega]
    have HQC := hide hqq
    obtain ⟨aE, cE, hvE, hEc⟩ := TE3.out
    obtain ⟨gE, oE, haE, hgE, -⟩ := hEc 0 (by omega)
    subst haE
    have hEE : ∀ j (hj : j < E.length), w2.cell? ⟨gE, oE + j, none⟩ = some (.string ⟨(E[j]).toArray⟩) := by
      intro j hj
      obtain ⟨g', o', e1, _, e3⟩ := hEc j hj
      cases e1
      exact e3
    obtain ⟨aW, cW, hvW, hWc⟩ := TW3.out
    obtain ⟨gW, oW, haW, hgW, -⟩ := hWc 0 (by omega)
    subst haW
    have hWW : ∀ j (hj : j < W.length), w2.cell? ⟨gW, oW + j, none⟩ = some (.string ⟨(W[j]).toArray⟩) := by
      intro j hj
      obtain ⟨g', o', e1, _, e3⟩ := hWc j hj
      cases e1
      exact e3
    have HEC := hide hEE
    have HWC := hide hWW
    rw [hE11] at hvE
    rw [hW2] at hvW
    subst hvE hvW
    clear hqc hoq hb2 hqq p0 p1 p2 hz1 TE2 TW2 TE3 TW3 HB1 hEc hWc hEE hWW HQE HQ
    go_wp2_with fail
    go_loopw [8, 9] (fun v i wr => ∃ j : Nat, j ≤ 11 ∧ i = .int .i64 j ∧ v = .string ⟨(sgnText t E j).toArray⟩ ∧ Below w2.heap.size w2 wr) (fun _ i _ => 11 - (intOf i).toNat)
    case atStart => exact ⟨0, by omega, rfl, rfl, Below.refl _ _⟩
    case round =>
      obtain ⟨j, hj, rfl, rfl, hb⟩ := hrel
      have HB := hide hb
      clear hb
      by_cases hlt : j < 11
      · have hd : decide ((j : Int) < 11) = true := by simp; omega
        have hEj : E.getD j [] = E[j] := by simp [List.getD_eq_getElem?_getD, show j < E.length by omega]
        have l8 := H8E.out E[j] (List.getElem_mem (by omega))
        have hqj := HQL.out ((quadsN t).getD j 0) (by rw [List.getD_eq_getElem?_getD, List.getElem?_eq_getElem (by omega)]; exact List.getElem_mem _)
        have n1 : ∀ p : Near w2.heap.size w2, p.w.cell? ⟨bS, 1, none⟩ = some (.slice (some ⟨gE, oE, none⟩) 11 cE) := fun p => (p.h.cell (p := ⟨bS, 1, none⟩) hz2).trans p1'
        have n2 : ∀ p : Near w2.heap.size w2, p.w.cell? ⟨gE, oE + j, none⟩ = some (.string ⟨(E[j]).toArray⟩) := fun p => (p.h.cell (p := ⟨gE, oE + j, none⟩) hgE).trans (HEC.out j (by omega))
        have n3 : ∀ p : Near w2.heap.size w2, p.w.cell? ⟨gq, j, none⟩ = some (.int .i64 ((quadsN t).getD j 0 : Nat)) := fun p => (p.h.cell (p := ⟨gq, j, none⟩) hgq2).trans (HQC.out j (by omega))
        have HN : Hid (sgnText t E (j + 1) = sgnText t E j ++ chain (3 - (quadsN t).getD j 0) (E.getD j [])) := rfl
        rw [hEj] at HN
        have hs1 := sgnText_length t E hE11 H8E.out j hj
        generalize (quadsN t).getD j 0 = q at *
        generalize E[j] = x at *
        have HC := hide (fun (p : Near w2.heap.size w2) => specChain_calls x (by omega) (3 - (q : Int)) p.w)
        have hcv : chainV x (3 - (q : Int)) = chain (3 - q) x := by
          unfold chainV
          congr 1
          omega
        simp only [hcv] at HC
        have l9 := chain8 (3 - q) x l8
        generalize chain (3 - q) x = c at *
        obtain ⟨T1, E1⟩ : ∃ T1, Hid (T1 = sgnText t E (j + 1)) := ⟨_, rfl⟩
        obtain ⟨T0, E0⟩ : ∃ T0, Hid (T0 = sgnText t E j) := ⟨_, rfl⟩
        rw [← E1.out, ← E0.out] at HN
        rw [← E0.out] at hs1 ⊢
        have hcat : (⟨T0.toArray⟩ : ByteArray) ++ ⟨c.toArray⟩ = ⟨T1.toArray⟩ := by rw [ByteArray.mk_append_mk, HN.out]
        have hl1 : T1.length = 1 + 8 * j + 8 := by rw [HN.out, List.length_append, hs1, l9]
        have hnn := Near.some w2.heap.size w2
        clear HN E0 hcv hEj
        go_wp2_with fail
        refine wp_region_near w2.heap.size w2 HB.out (by kernel_rfl) (by kernel_rfl) ?_
        repeat (go_big_quiet_step (exact calls_near (Nat.le_refl _) (HC.out _)))
        refine wpQuiet_nil ?_
        rintro w3 ⟨pq, rfl⟩
        have hqb := pq.h
        obtain ⟨w3, hq⟩ := pq
        simp only at hqb ⊢
        have HB3 := hide hqb
        clear hq hqb n1 n2 n3 hnn HC
        go_wp2_with fail
        go_roundw
        case rel => exact ⟨j + 1, by omega, by go_num, by rw [← E1.out], HB3.out⟩
        case measure => simp [intOf]; omega
      · have hj11 : j = 11 := by omega
        have hd : decide ((j : Int) < 11) = false := by simp; omega
        have hs1 := sgnText_length t E hE11 H8E.out 11 (by omega)
        have HCT := hide (fun wx => cut_calls (sgnText t E 11) (by omega) wx)
        rw [hj11]
        generalize sgnText t E 11 = T at *
        have hcl := cut8_length T
        obtain ⟨C, EC⟩ : ∃ C, Hid (C = cut8 T) := ⟨_, rfl⟩
        rw [← EC.out] at hcl HR
        simp only [← EC.out] at HCT
        clear EC hj11
        go_wp2_with fail
        refine (HCT.out _).mono ?_
        rintro e w4 ⟨rfl, hb4⟩
        have hbt := HB.out.trans (hb4.mono HB.out.size)
        have n0 : w4.cell? ⟨bS, 0, none⟩ = some (.int .i64 (n : Int)) := (hbt.cell (p := ⟨bS, 0, none⟩) hz2).trans p0'
        have HB4 := hide hbt
        clear hb4 hbt HB HCT
        go_wp2_with fail
        clear n0 hd hlt hj
        go_loopw [8, 10, 11] (fun v a i wr => ∃ j : Nat, j ≤ 2 ∧ i = .int .i64 j ∧ a = .int .i64 ((n / 2 ^ j : Nat) : Int) ∧ v = .string ⟨(climb C n W j).toArray⟩ ∧ Below w2.heap.size w2 wr) (fun _ _ i _ => 2 - (intOf i).toNat)
        case atStart => exact ⟨0, by omega, rfl, by simp, rfl, HB4.out⟩
        case round =>
          clear HB4
          obtain ⟨j, hj, rfl, rfl, rfl, hb⟩ := hrel
          have n2 : wr.cell? ⟨bS, 2, none⟩ = some (.slice (some ⟨gW, oW, none⟩) 2 cW) := (hb.cell (p := ⟨bS, 2, none⟩) hz2).trans p2'
          have lc := climb_length C n W hcl j
          by_cases hlt : j < 2
          · have hd : decide ((j : Int) < 2) = true := by simp; omega
            have n4 : wr.cell? ⟨gW, oW + j, none⟩ = some (.string ⟨(W[j]).toArray⟩) := (hb.cell (p := ⟨gW, oW + j, none⟩) hgW).trans (HWC.out j (by omega))
            have hWj : W.getD j [] = W[j] := by simp [List.getD_eq_getElem?_getD, show j < W.length by omega]
            have l8 := H8W.out W[j] (List.getElem_mem (by omega))
            have HB := hide hb
            clear hb
            obtain ⟨m, Em⟩ : ∃ m, Hid (m = n / 2 ^ j) := ⟨_, rfl⟩
            have hm3 : m ≤ 3 := by rw [Em.out]; exact Nat.le_trans (Nat.div_le_self _ _) hn3
            rw [← Em.out]
            generalize W[j] = x at *
            obtain ⟨c0, E0⟩ : ∃ c0, Hid (c0 = climb C n W j) := ⟨_, rfl⟩
            rw [← E0.out] at lc ⊢
            by_cases hev : (n / 2 ^ j) % 2 = 0
            · have hb2 : (((m : Nat) : Int) % 2 == 0) = true := by rw [← Em.out] at hev; simp; omega
              have HNx : Hid (climb C n W (j + 1) = node c0 x) := by
                show climb C n W (j + 1) = _
                rw [climb, if_pos hev, hWj, E0.out]
              have HCT := hide (fun wx => cut_calls (110 :: (c0 ++ x)) (by simp; omega) wx)
              have e1 : (⟨#[110]⟩ : ByteArray) ++ ⟨c0.toArray⟩ = ⟨(110 :: c0).toArray⟩ := ByteArray.mk_append_mk [110] _
              have e2 : (⟨(110 :: c0).toArray⟩ : ByteArray) ++ ⟨x.toArray⟩ = ⟨(110 :: (c0 ++ x)).toArray⟩ := by rw [ByteArray.mk_append_mk]; simp
              have s1 : (110 :: c0).length = 9 := by simp [lc]
              have s2 : (110 :: (c0 ++ x)).length = 17 := by simp [l8, lc]
              rw [show cut8 (110 :: (c0 ++ x)) = node c0 x from rfl, ← HNx.out] at HCT
              obtain ⟨c1, E1⟩ : ∃ c1, Hid (c1 = climb C n W (j + 1)) := ⟨_, rfl⟩
              rw [← E1.out] at HCT
              generalize 110 :: (c0 ++ x) = t2 at *
              generalize 110 :: c0 = t1 at *
              clear HNx hev hWj
              go_wp2_with fail
              refine (HCT.out _).mono ?_
              rintro e w5 ⟨rfl, hb5⟩
              have HB5 := hide (HB.out.trans (hb5.mono HB.out.size))
              clear hb5 n2 n4
              go_wp2_with fail
              go_roundw
              case rel => exact ⟨j + 1, by omega, by go_num, by rw [Nat.pow_succ, ← Nat.div_div_eq_div_mul, ← Em.out]; go_num, by rw [← E1.out], HB5.out⟩
              case measure => simp [intOf]; omega
            · have hb2 : (((m : Nat) : Int) % 2 == 0) = false := by rw [← Em.out] at hev; simp; omega
              have HNx : Hid (climb C n W (j + 1) = node x c0) := by
                show climb C n W (j + 1) = _
                rw [climb, if_neg hev, hWj, E0.out]
              have HCT := hide (fun wx => cut_calls (110 :: (x ++ c0)) (by simp; omega) wx)
              have e1 : (⟨#[110]⟩ : ByteArray) ++ ⟨x.toArray⟩ = ⟨(110 :: x).toArray⟩ := ByteArray.mk_append_mk [110] _
              have e2 : (⟨(110 :: x).toArray⟩ : ByteArray) ++ ⟨c0.toArray⟩ = ⟨(110 :: (x ++ c0)).toArray⟩ := by rw [ByteArray.mk_append_mk]; simp
              have s1 : (110 :: x).length = 9 := by simp [l8]
              have s2 : (110 :: (x ++ c0)).length = 17 := by simp [l8, lc]
              rw [show cut8 (110 :: (x ++ c0)) = node x c0 from rfl, ← HNx.out] at HCT
              obtain ⟨c1, E1⟩ : ∃ c1, Hid (c1 = climb C n W (j + 1)) := ⟨_, rfl⟩
              rw [← E1.out] at HCT
              generalize 110 :: (x ++ c0) = t2 at *
              generalize 110 :: x = t1 at *
              clear HNx hev hWj
              go_wp2_with fail
              refine (HCT.out _).mono ?_
              rintro e w5 ⟨rfl, hb5⟩
              have HB5 := hide (HB.out.trans (hb5.mono HB.out.size))
              clear hb5 n2 n4
              go_wp2_with fail
              go_roundw
              case rel => exact ⟨j + 1, by omega, by go_num, by rw [Nat.pow_succ, ← Nat.div_div_eq_div_mul, ← Em.out]; go_num, by rw [← E1.out], HB5.out⟩
              case measure => simp [intOf]; omega
          · have hj2 : j = 2 := by omega
            have hd : decide ((j : Int) < 2) = false := by simp; omega
            have HB := hide hb
            rw [hj2]
            generalize climb C n W 2 = cf at *
            clear hb hj2
            go_wp2_with fail
            go_ret
            refine ⟨congrArg (fun z => Ending.returned (.bool z)) ?_, HB2.out.trans (HB.out.mono HB2.out.size)⟩
            show (cf == k) = r
            rw [HR.out]
            by_cases h : cf = k <;> simp [h]
  · rw [decide_eq_false hf]
    have hr : r = false := by
      rw [Er.out]
      exact decide_eq_false (fun h => hf h.1)
    subst hr
    clear Er hf
    go_wp2_with fail
    go_ret
    exact ⟨rfl, HB1.out⟩
end Go.Proofs.YtmjpdccfdaajmaaDoor.P4
