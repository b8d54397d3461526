/- The contracts of the program's leafOk, wayOf and SignText; conditions: the text is at most 2^20 bytes long, the listed tables hold what their text lays. -/
import Derived.Test.YtmjpdccfdaajmaaDoorSgnI6
import Derived.Test.YtmjpdccfdaajmaaDoorSgnS
namespace Go.Proofs.YtmjpdccfdaajmaaDoor.P4
set_option maxRecDepth 8000
open Go.RowKit P1 P3 Sr

theorem leafOk_calls (leaf : Int) (w : World) : Calls Tryd.prog 47 #[.int .i64 leaf] w fun e w' => e = .returned (.bool (decide (0 ≤ leaf ∧ leaf ≤ 3))) ∧ w' = w := by
  by_cases h1 : 0 ≤ leaf
  · by_cases h2 : leaf ≤ 3
    · have h3 : leaf < 4 := by omega
      rw [decide_eq_true ⟨h1, h2⟩]
      go_enter Tryd.func47, Tryd.ntmps47
      go_wp2_with fail
      go_ret
      exact ⟨rfl, rfl⟩
    · have h3 : ¬ leaf < 4 := by omega
      rw [decide_eq_false (fun h => h2 h.2)]
      go_enter Tryd.func47, Tryd.ntmps47
      go_wp2_with fail
      go_ret
      exact ⟨rfl, rfl⟩
  · rw [decide_eq_false (fun h => h1 h.1)]
    go_enter Tryd.func47, Tryd.ntmps47
    go_wp2_with fail
    go_ret
    exact ⟨rfl, rfl⟩

theorem wayN_get (seed : Int) (n k : Nat) (hk : k < (wayN seed n 2).length) : (wayN seed n 2)[k] = (lev seed k).getD ((n / 2 ^ k) ^^^ 1) [] := by simp [wayN]

set_option maxHeartbeats 1000000 in
theorem way_calls (seed : Int) (n : Nat) (hn3 : n ≤ 3) (w : World) (hG : Glo w) :
    Calls Tryd.prog 52 #[.int .i64 seed, .int .i64 (n : Int)] w fun e w' => ∃ v, e = .returned v ∧ w'.ownsRow w.heap.size 9 1 v 2 (cellsS (wayN seed n 2)) ∧ Below w.heap.size w w' := by
  have HG := hide hG
  clear hG
  obtain ⟨i0, hi, hz0, hz1, hz2⟩ := info_parts info_str
  have hll := wayN_length seed n 2
  have HGET := hide (fun k h => wayN_get seed n k h)
  obtain ⟨l, El⟩ : ∃ l, Hid (l = wayN seed n 2) := ⟨_, rfl⟩
  simp only [← El.out] at hll HGET ⊢
  go_enter Tryd.func52, Tryd.ntmps52
  go_wp2_with fail
  refine (tree_calls seed _ HG.out).mono ?_
  rintro e w1 ⟨vr, rfl, ⟨v0, v1, v2, g, cap, rfl, c0, c1, c2, t0, t1, t2⟩, hb1⟩
  have hg1 : g < w1.heap.size := cell_lt' c0
  have HB1 := hide hb1
  have HT0 := hide t0
  have HT1 := hide t1
  have HC0 := hide c0
  have HC1 := hide c1
  have hwB : w.heap.size ≤ w1.heap.size := hb1.size
  clear hb1 t0 t1 t2 c0 c1 c2
  go_wp2_with (at_make; refine wpList_make_full _ rfl (.const (.int .i64 2)) (.const (.int .i64 2)) 27 rfl w1.heap.size 9 i0 (.string ⟨#[]⟩) 1 Tryd.underlying27 hi hz0 hz1 .i64 .i64 _ _ 2 rfl rfl (by omega) (by omega) (by rw [hz2]; omega) (by unfold maxLen; omega) (Nat.le_refl _) ?_)
  intro w2 hown2 hgr2
  rw [cellsS_zeros] at hown2
  have hb2 : Below w1.heap.size w1 w2 := (Below.refl _ _).grown hgr2 (Nat.le_refl _) (by intro k hk; cases hk)
  have HO2 := hide hown2
  have HB2 := hide hb2
  clear hown2 hgr2 hb2
  obtain ⟨gW, hgW⟩ : ∃ gW, gW = w1.heap.size := ⟨_, rfl⟩
  go_wp2_with fail
  rw [← hgW]
  have hgw : w1.heap.size ≤ gW := by omega
  have HGE := hide hgW
  clear hgW
  go_loopw [7, 15] (fun pl i wr => ∃ k : Nat, k ≤ 2 ∧ i = .int .i64 k ∧ pl = .int .i64 ((n / 2 ^ k : Nat) : Int) ∧ wr.ownsRow w1.heap.size 9 1 (.slice (some ⟨gW, 0, none⟩) 2 2) 2 (cellsS (halfS l k)) ∧ Below w1.heap.size w1 wr) (fun _ i _ => 2 - (intOf i).toNat)
  case atStart => exact ⟨0, Nat.zero_le _, rfl, by simp, by rw [HGE.out]; simpa [halfS, hll] using HO2.out, HB2.out⟩
  case round =>
    clear HO2 HB2
    obtain ⟨k, hk, rfl, rfl, hown, hbel⟩ := hrel
    have HO := hide hown
    have HB := hide hbel
    clear hown hbel
    by_cases hlt : k < 2
    · have hd : decide ((k : Int) < 2) = true := by simp; omega
      obtain ⟨vk, hck, hTk⟩ : ∃ vk, wr.cell? ⟨g, k, none⟩ = some vk ∧ TextsAt wr vk (lev seed k) := by
        have hk' : k = 0 ∨ k = 1 := by omega
        rcases hk' with rfl | rfl
        · exact ⟨v0, (HB.out.cell (p := ⟨g, 0, none⟩) hg1).trans HC0.out, HT0.out.below HB.out (Nat.le_refl _)⟩
        · exact ⟨v1, (HB.out.cell (p := ⟨g, 1, none⟩) hg1).trans HC1.out, HT1.out.below HB.out (Nat.le_refl _)⟩
      have hle := lev_length seed k (by omega)
      have hxl := xor_lt n k hn3 hlt
      have hm3 : n / 2 ^ k ≤ 3 := Nat.le_trans (Nat.div_le_self _ _) hn3
      have hxo := xor1 (n / 2 ^ k) hm3
      have HS := hide (halfS_set l k (by omega))
      rw [HGET.out k (by omega)] at HS
      have HDV : Hid (n / 2 ^ (k + 1) = n / 2 ^ k / 2) := by show _ = _; rw [Nat.pow_succ, Nat.div_div_eq_div_mul]
      obtain ⟨idx, hidx⟩ : ∃ idx, idx = (n / 2 ^ k) ^^^ 1 := ⟨_, rfl⟩
      rw [← hidx] at hxl hxo HS
      have hgd : (lev seed k).getD idx [] = (lev seed k)[idx]'(by omega) := by simp [List.getD_eq_getElem?_getD, show idx < (lev seed k).length by omega]
      rw [hgd] at HS
      obtain ⟨ak, pk, hvk, htk⟩ := hTk
      obtain ⟨gk, ok, hak, hgkl, hkc⟩ := htk idx (by omega)
      subst hak hvk
      rw [hle] at hck
      generalize (lev seed k)[idx] = c at *
      generalize n / 2 ^ k = m at *
      have hll4 : levLen k ≤ 4 := by
        have hk' : k = 0 ∨ k = 1 := by omega
        rcases hk' with rfl | rfl <;> decide
      have hc2 : ∃ x, wr.cell? ⟨gW, k, none⟩ = some x := by rw [HO.out.cellAt k (by omega)]; exact ⟨_, List.getElem?_eq_getElem (by rw [cellsS_length, halfS_length l k (by omega)]; omega)⟩
      obtain ⟨x0, hc2⟩ := hc2
      have hf2 := HO.out.frozenAt k
      clear hgd hidx htk hle
      go_wp2_with fail
      go_roundw
      case rel =>
        refine ⟨k + 1, by omega, by go_num, by rw [HDV.out]; go_num, ?_, HB.out.setCell hgw _⟩
        have h1 := (HO.out.stored k (.string ⟨c.toArray⟩)).1
        rw [cellsS_put, HS.out] at h1
        exact h1
      case measure => simp [intOf]; omega
    · have hd : decide ((k : Int) < 2) = false := by simp; omega
      have HE := hide (halfS_all l k (by omega))
      rw [HE.out] at HO
      go_wp2_with fail
      go_ret
      exact ⟨_, rfl, own_mono HO.out hwB, HB1.out.trans (HB.out.mono hwB)⟩

set_option maxHeartbeats 400000 in
theorem sign1_calls (i : Nat) (hi : i < 11) (q : Nat) (bQ gq cq : Nat) (w : World) (h0 : w.cell? ⟨bQ, 0, none⟩ = some (.slice (some ⟨gq, 0, none⟩) 11 cq)) (h1 : w.cell? ⟨gq, i, none⟩ = some (.int .i64 q)) :
    Calls Tryd.prog 50 #[.int .i64 i, .pointer (some ⟨bQ, 0, none⟩)] w fun e w' => e = .returned (.int .i64 q) ∧ Below w.heap.size w w' := by
  go_enter Tryd.func50, Tryd.ntmps50
  go_wp2_with fail
  go_ret
  exact ⟨rfl, Below.refl _ _⟩

theorem endN_lst (seed leaf : Int) (t : List UInt8) : lst (fun i : Nat => chainV (secret seed leaf i) ((quadsN t).getD i 0 : Nat)) = endN seed leaf t 11 := by
  unfold lst endN
  refine List.map_congr_left (fun i hi => ?_)
  have hi' := List.mem_range.1 hi
  refine chainV_nat _ _ ?_
  have h11 := quadsN_length t
  have := quadsN_lt t ((quadsN t).getD i 0) (by rw [List.getD_eq_getElem?_getD, List.getElem?_eq_getElem (by omega)]; exact List.getElem_mem _)
  omega

set_option maxHeartbeats 2000000 in
theorem implSign_calls (seed leaf : Int) (t : List UInt8) (ht : t.length ≤ 1048576) (w : World) (hG : Glo w) :
    Calls Tryd.prog 15 #[.int .i64 seed, .int .i64 leaf, .string ⟨t.toArray⟩] w fun e w' => ∃ v, e = .returned (.tuple #[v, .bool (decide (sOk seed leaf))]) ∧ SigOwn w.heap.size w' v (sLeaf seed leaf) (sEnds seed leaf t) (sWay seed leaf) ∧ Below w.heap.size w w' := by
  have HG := hide hG
  clear hG
  by_cases h1 : 0 ≤ leaf ∧ leaf ≤ 3
  · have HIN := hide (fun (wx : World) => leafOk_calls leaf wx)
    simp only [decide_eq_true h1] at HIN
    by_cases h2 : few seed
    · have hs0 : ¬ seed < 0 := by have := h2.1; omega
      have hs1 : ¬ 1000000 < seed := by have := h2.2; omega
      obtain ⟨n, rfl⟩ := Int.eq_ofNat_of_zero_le h1.1
      have hn3 : n ≤ 3 := by have := h1.2; omega
      have HOK : Hid (decide (sOk seed n) = true ∧ sLeaf seed n = n ∧ sEnds seed n t = endN seed n t 11 ∧ sWay seed n = wayN seed n 2) := by
        have hok : sOk seed n := ⟨h1, h2⟩
        refine ⟨decide_eq_true hok, ?_, ?_, ?_⟩
        · unfold sLeaf; rw [if_pos hok]
        · unfold sEnds; rw [if_pos hok]
        · unfold sWay; rw [if_pos hok]; rfl
      clear h1 h2
      have HQ := hide (fun wx hg => implQuads_calls t (by omega) wx hg)
      have hq11 := quadsN_length t
      go_enter Tryd.func15, Tryd.ntmps15
      go_wp2_with fail
      refine (HIN.out _).mono ?_
      rintro e w1 ⟨rfl, rfl⟩
      go_wp2_with fail
      have hb1 : Below w.heap.size w (w.alloc (.cells #[.int .i64 0, .slice none 0 0, .slice none 0 0] 29)) := (Below.refl _ _).alloc (Nat.le_refl _) _
      have hR1 := Blk.new w #[.int .i64 0, .slice none 0 0, .slice none 0 0] 29
      have HB1 := hide hb1
      have HR1 := hide hR1
      have HG1 := hide (HG.out.below hb1)
      clear hb1 hR1
      generalize w.alloc (.cells #[.int .i64 0, .slice none 0 0, .slice none 0 0] 29) = w1 at *
      refine (HQ.out _ HG1.out).mono ?_
      rintro e w2 ⟨vq, rfl, hoq, hb2⟩
      obtain ⟨gq, cq, hvq, hgq1, hgq2, hcq, hqc, -⟩ := own_at hoq (by omega)
      subst hvq
      have hqq : ∀ j, j < 11 → w2.cell? ⟨gq, j, none⟩ = some (.int .i64 ((quadsN t).getD j 0 : Nat)) := by
        intro j hj
        rw [hqc j (by omega), show quads t = ints (quadsN t) from rfl]
        simp [cellsI, ints, List.getD_eq_getElem?_getD, show j < (quadsN t).length by omega]
      have HQC := hide hqq
      have HB2 := hide (HB1.out.trans (hb2.mono HB1.out.size))
      have HR2 := hide (HR1.out.below hb2 HR1.out.lt)
      clear hb2 hoq hqc hqq HB1 HR1 HG1 HQ
      go_wp2_with fail
      have hb3 : Below w2.heap.size w2 (w2.alloc (.cells #[.slice (some ⟨gq, 0, none⟩) 11 cq] 24)) := (Below.refl _ _).alloc (Nat.le_refl _) _
      have hc3 := (Blk.new w2 #[.slice (some ⟨gq, 0, none⟩) 11 cq] 24).cell 0
      have HC3 : Hid ((w2.alloc (.cells #[.slice (some ⟨gq, 0, none⟩) 11 cq] 24)).cell? ⟨w2.heap.size, 0, none⟩ = some (.slice (some ⟨gq, 0, none⟩) 11 cq)) := hc3
      have hz3 : (w2.alloc (.cells #[.slice (some ⟨gq, 0, none⟩) 11 cq] 24)).heap.size = w2.heap.size + 1 := by simp
      have HQ3 : Hid (∀ j, j < 11 → (w2.alloc (.cells #[.slice (some ⟨gq, 0, none⟩) 11 cq] 24)).cell? ⟨gq, j, none⟩ = some (.int .i64 ((quadsN t).getD j 0 : Nat))) := fun j hj => by
        rw [hb3.cell (p := ⟨gq, j, none⟩) hgq2]
        exact HQC.out j hj
      have HB3 := hide (HB2.out.trans (hb3.mono HB2.out.size))
      have HR3 := hide (HR2.out.below hb3 HR2.out.lt)
      obtain ⟨bQ, hbQ⟩ : ∃ bQ, bQ = w2.heap.size := ⟨_, rfl⟩
      rw [← hbQ] at HC3 hz3 ⊢
      generalize w2.alloc (.cells #[.slice (some ⟨gq, 0, none⟩) 11 cq] 24) = w3 at *
      have hgq3 : gq < w3.heap.size := by omega
      have hbQ3 : bQ < w3.heap.size := by omega
      clear hb3 hc3 HQC HB2 HR2 hbQ hz3
      have hwR : w.heap.size < w3.heap.size := HR3.out.lt
      refine (secrets_calls seed n _ (HG.out.below HB3.out)).mono ?_
      rintro e w4 ⟨v1, rfl, hF4, hb4⟩
      have HF4 := hide hF4
      obtain ⟨f1, k1, e1, -⟩ := hF4
      subst e1
      have HSP : Hid (FnAt w4 (.func (.func 50) #[] #[.pointer (some ⟨bQ, 0, none⟩)]) (fun i => .int .i64 ((quadsN t).getD i 0 : Nat))) := by
        refine ⟨_, _, rfl, run_enter Tryd.func50 (by kernel_rfl) (by kernel_rfl), fun wx hwx i hi => ?_⟩
        have hbx := hb4.trans (hwx.mono hb4.size)
        exact sign1_calls i hi _ bQ gq cq wx ((hbx.cell (p := ⟨bQ, 0, none⟩) hbQ3).trans HC3.out) ((hbx.cell (p := ⟨gq, i, none⟩) hgq3).trans (HQ3.out i hi))
      have HB4 := hide (HB3.out.trans (hb4.mono HB3.out.size))
      have HR4 := hide (HR3.out.below hb4 HR3.out.lt)
      clear hb4 HB3 HR3 HQ3 HC3
      go_wp2_with fail
      refine (further_calls (fun i : Nat => secret seed n i) (fun i : Nat => ((quadsN t).getD i 0 : Nat)) _ _ _ HF4.out HSP.out (HG.out.below HB4.out) (fun i _ => Nat.le_trans (secret_length seed n i) (by omega))).mono ?_
      rintro e w5 ⟨v2, rfl, hF5, hb5⟩
      have HL5 := hide (list_calls (fun i : Nat => chainV (secret seed n i) ((quadsN t).getD i 0 : Nat)) v2 w5 hF5)
      rw [endN_lst] at HL5
      obtain ⟨f2, k2, e2, -⟩ := hF5
      subst e2
      have HB5 := hide (HB4.out.trans (hb5.mono HB4.out.size))
      have HR5 := hide (HR4.out.below hb5 HR4.out.lt)
      clear hb5 HB4 HR4 HF4 HSP
      go_wp2_with fail
      refine HL5.out.mono ?_
      rintro e w6 ⟨v3, rfl, ho6, hb6⟩
      obtain ⟨gE, cE, hv3, hgE1, hgE2, hcE, -, -⟩ := own_at ho6 (by omega)
      subst hv3
      have HO6 := hide ho6
      have HB6 := hide (HB5.out.trans (hb6.mono HB5.out.size))
      have HR6 := hide (HR5.out.below hb6 HR5.out.lt)
      have hR5l := HR5.out.lt
      have hz56 := hb6.size
      clear ho6 hb6 HB5 HR5 HL5
      go_wp2_with fail
      refine (way_calls seed n hn3 _ (HG.out.below HB6.out)).mono ?_
      rintro e w7 ⟨v4, rfl, ho7, hb7⟩
      obtain ⟨gW, cW, hv4, hgW1, hgW2, hcW, -, -⟩ := own_at ho7 (by omega)
      subst hv4
      have HO7 := hide ho7
      have HE7 := hide (own_below HO6.out hb7)
      have HB7 := hide (HB6.out.trans (hb7.mono HB6.out.size))
      have HR7 := hide (HR6.out.below hb7 HR6.out.lt)
      clear ho7 hb7 HB6 HR6 HO6
      obtain ⟨bR, hbR⟩ : ∃ bR, bR = w.heap.size := ⟨_, rfl⟩
      have hRw : w.heap.size ≤ bR := by omega
      have hRE : bR ≠ gE := by omega
      have hRW : bR ≠ gW := by omega
      have hEW : gE ≠ gW := by omega
      rw [← hbR] at HR7 ⊢
      clear hbR
      have r0 : w7.cell? ⟨bR, 0, none⟩ = some (.int .i64 0) := by rw [HR7.out.cell 0]; rfl
      have r1 : w7.cell? ⟨bR, 1, none⟩ = some (.slice none 0 0) := by rw [HR7.out.cell 1]; rfl
      have r2 : w7.cell? ⟨bR, 2, none⟩ = some (.slice none 0 0) := by rw [HR7.out.cell 2]; rfl
      have f0 := HR7.out.free 0
      have f1 := HR7.out.free 1
      have f2 := HR7.out.free 2
      go_wp2_with fail
      have hRF := ((HR7.out.set 0 (.int .i64 (n : Int))).set 1 (.slice (some ⟨gE, 0, none⟩) 11 cE)).set 2 (.slice (some ⟨gW, 0, none⟩) 2 cW)
      have hOE := ownsRow_setCell_other (ownsRow_setCell_other (ownsRow_setCell_other HE7.out (a := ⟨bR, 0, none⟩) (fun e => hRE (by simpa [Value.ownBlock] using e.symm)) (.int .i64 (n : Int))) (a := ⟨bR, 1, none⟩) (fun e => hRE (by simpa [Value.ownBlock] using e.symm)) (.slice (some ⟨gE, 0, none⟩) 11 cE)) (a := ⟨bR, 2, none⟩) (fun e => hRE (by simpa [Value.ownBlock] using e.symm)) (.slice (some ⟨gW, 0, none⟩) 2 cW)
      have hOW := ownsRow_setCell_other (ownsRow_setCell_other (ownsRow_setCell_other HO7.out (a := ⟨bR, 0, none⟩) (fun e => hRW (by simpa [Value.ownBlock] using e.symm)) (.int .i64 (n : Int))) (a := ⟨bR, 1, none⟩) (fun e => hRW (by simpa [Value.ownBlock] using e.symm)) (.slice (some ⟨gE, 0, none⟩) 11 cE)) (a := ⟨bR, 2, none⟩) (fun e => hRW (by simpa [Value.ownBlock] using e.symm)) (.slice (some ⟨gW, 0, none⟩) 2 cW)
      have hBF := ((HB7.out.setCell (p := ⟨bR, 0, none⟩) hRw (.int .i64 (n : Int))).setCell (p := ⟨bR, 1, none⟩) hRw (.slice (some ⟨gE, 0, none⟩) 11 cE)).setCell (p := ⟨bR, 2, none⟩) hRw (.slice (some ⟨gW, 0, none⟩) 2 cW)
      have hap : (Value.slice (some ⟨gE, 0, none⟩) 11 cE).ownBlock ≠ (Value.slice (some ⟨gW, 0, none⟩) 2 cW).ownBlock := fun e => hEW (by simpa [Value.ownBlock] using e)
      clear r0 r1 r2 f0 f1 f2 HE7 HO7 HB7 HR7
      generalize ((w7.setCell ⟨bR, 0, none⟩ (.int .i64 (n : Int))).setCell ⟨bR, 1, none⟩ (.slice (some ⟨gE, 0, none⟩) 11 cE)).setCell ⟨bR, 2, none⟩ (.slice (some ⟨gW, 0, none⟩) 2 cW) = wF at *
      have x0 : wF.cell? ⟨bR, 0, none⟩ = some (.int .i64 (n : Int)) := by rw [hRF.cell 0]; rfl
      have x1 : wF.cell? ⟨bR, 1, none⟩ = some (.slice (some ⟨gE, 0, none⟩) 11 cE) := by rw [hRF.cell 1]; rfl
      have x2 : wF.cell? ⟨bR, 2, none⟩ = some (.slice (some ⟨gW, 0, none⟩) 2 cW) := by rw [hRF.cell 2]; rfl
      refine bodyPost_ret (v := .tuple #[.agg #[.int .i64 (n : Int), .slice (some ⟨gE, 0, none⟩) 11 cE, .slice (some ⟨gW, 0, none⟩) 2 cW], .bool true]) (by simp [results, Tryd.results15, go_sem, x0, x1, x2]) rfl ?_
      obtain ⟨k1, k2, k3, k4⟩ := HOK.out
      rw [k1, k2, k3, k4]
      exact ⟨_, rfl, ⟨_, _, rfl, by rw [endN_length]; exact own_mono hOE (by omega), by rw [wayN_length]; exact own_mono hOW (by omega), .inr hap⟩, hBF⟩
    · have HOK : Hid (decide (sOk seed leaf) = false ∧ sLeaf seed leaf = 0 ∧ sEnds seed leaf t = [] ∧ sWay seed leaf = []) := by
        have hok : ¬ sOk seed leaf := fun h => h2 h.2
        refine ⟨decide_eq_false hok, ?_, ?_, ?_⟩
        · unfold sLeaf; rw [if_neg hok]
        · unfold sEnds; rw [if_neg hok]
        · unfold sWay; rw [if_neg hok]
      have hor : seed < 0 ∨ 1000000 < seed := by unfold few at h2; omega
      clear h1 h2
      have hRF := Blk.new w #[.int .i64 0, .slice none 0 0, .slice none 0 0] 29
      have hBF : Below w.heap.size w (w.alloc (.cells #[.int .i64 0, .slice none 0 0, .slice none 0 0] 29)) := (Below.refl _ _).alloc (Nat.le_refl _) _
      have HRF := hide hRF
      have HBF := hide hBF
      clear hRF hBF
      have hd : (decide (seed < 0) || decide (1000000 < seed)) = true := by
        rcases hor with h | h
        · simp [h]
        · simp [h]
      rcases hor with h0 | h0
      · go_enter Tryd.func15, Tryd.ntmps15
        go_wp2_with fail
        refine (HIN.out _).mono ?_
        rintro e w1 ⟨rfl, rfl⟩
        go_wp2_with fail
        generalize w.alloc (.cells #[.int .i64 0, .slice none 0 0, .slice none 0 0] 29) = wF at *
        have x0 : wF.cell? ⟨w.heap.size, 0, none⟩ = some (.int .i64 0) := by rw [HRF.out.cell 0]; rfl
        have x1 : wF.cell? ⟨w.heap.size, 1, none⟩ = some (.slice none 0 0) := by rw [HRF.out.cell 1]; rfl
        have x2 : wF.cell? ⟨w.heap.size, 2, none⟩ = some (.slice none 0 0) := by rw [HRF.out.cell 2]; rfl
        refine bodyPost_ret (v := .tuple #[.agg #[.int .i64 0, .slice none 0 0, .slice none 0 0], .bool false]) (by simp [results, Tryd.results15, go_sem, x0, x1, x2]) rfl ?_
        obtain ⟨k1, k2, k3, k4⟩ := HOK.out
        rw [k1, k2, k3, k4]
        exact ⟨_, rfl, ⟨_, _, rfl, World.ownsRow_nil _ _ _ _, World.ownsRow_nil _ _ _ _, .inl rfl⟩, HBF.out⟩
      · have h1 : ¬ seed < 0 := by omega
        go_enter Tryd.func15, Tryd.ntmps15
        go_wp2_with fail
        refine (HIN.out _).mono ?_
        rintro e w1 ⟨rfl, rfl⟩
        go_wp2_with fail
        generalize w.alloc (.cells #[.int .i64 0, .slice none 0 0, .slice none 0 0] 29) = wF at *
        have x0 : wF.cell? ⟨w.heap.size, 0, none⟩ = some (.int .i64 0) := by rw [HRF.out.cell 0]; rfl
        have x1 : wF.cell? ⟨w.heap.size, 1, none⟩ = some (.slice none 0 0) := by rw [HRF.out.cell 1]; rfl
        have x2 : wF.cell? ⟨w.heap.size, 2, none⟩ = some (.slice none 0 0) := by rw [HRF.out.cell 2]; rfl
        refine bodyPost_ret (v := .tuple #[.agg #[.int .i64 0, .slice none 0 0, .slice none 0 0], .bool false]) (by simp [results, Tryd.results15, go_sem, x0, x1, x2]) rfl ?_
        obtain ⟨k1, k2, k3, k4⟩ := HOK.out
        rw [k1, k2, k3, k4]
        exact ⟨_, rfl, ⟨_, _, rfl, World.ownsRow_nil _ _ _ _, World.ownsRow_nil _ _ _ _, .inl rfl⟩, HBF.out⟩
  · have HIN := hide (fun (wx : World) => leafOk_calls leaf wx)
    simp only [decide_eq_false h1] at HIN
    have HOK : Hid (decide (sOk seed leaf) = false ∧ sLeaf seed leaf = 0 ∧ sEnds seed leaf t = [] ∧ sWay seed leaf = []) := by
      have hok : ¬ sOk seed leaf := fun h => h1 h.1
      refine ⟨decide_eq_false hok, ?_, ?_, ?_⟩
      · unfold sLeaf; rw [if_neg hok]
      · unfold sEnds; rw [if_neg hok]
      · unfold sWay; rw [if_neg hok]
    clear h1
    have hRF := Blk.new w #[.int .i64 0, .slice none 0 0, .slice none 0 0] 29
    have hBF : Below w.heap.size w (w.alloc (.cells #[.int .i64 0, .slice none 0 0, .slice none 0 0] 29)) := (Below.refl _ _).alloc (Nat.le_refl _) _
    have HRF := hide hRF
    have HBF := hide hBF
    clear hRF hBF
    go_enter Tryd.func15, Tryd.ntmps15
    go_wp2_with fail
    refine (HIN.out _).mono ?_
    rintro e w1 ⟨rfl, rfl⟩
    go_wp2_with fail
    generalize w.alloc (.cells #[.int .i64 0, .slice none 0 0, .slice none 0 0] 29) = wF at *
    have x0 : wF.cell? ⟨w.heap.size, 0, none⟩ = some (.int .i64 0) := by rw [HRF.out.cell 0]; rfl
    have x1 : wF.cell? ⟨w.heap.size, 1, none⟩ = some (.slice none 0 0) := by rw [HRF.out.cell 1]; rfl
    have x2 : wF.cell? ⟨w.heap.size, 2, none⟩ = some (.slice none 0 0) := by rw [HRF.out.cell 2]; rfl
    refine bodyPost_ret (v := .tuple #[.agg #[.int .i64 0, .slice none 0 0, .slice none 0 0], .bool false]) (by simp [results, Tryd.results15, go_sem, x0, x1, x2]) rfl ?_
    obtain ⟨k1, k2, k3, k4⟩ := HOK.out
    rw [k1, k2, k3, k4]
    exact ⟨_, rfl, ⟨_, _, rfl, World.ownsRow_nil _ _ _ _, World.ownsRow_nil _ _ _ _, .inl rfl⟩, HBF.out⟩
end Go.Proofs.YtmjpdccfdaajmaaDoor.P4
