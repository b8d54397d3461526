/- The contracts of the program's treeRows and KeyOf; conditions: numbers are ints, the listed tables hold what their text lays. -/
import Derived.Test.YtmjpdccfdaajmaaDoorSgnI5
import Derived.Test.YtmjpdccfdaajmaaDoorSgn3
namespace Go.Proofs.YtmjpdccfdaajmaaDoor.P4
set_option maxRecDepth 8000
open Go.RowKit P1 P3 Sr

theorem levLen_next (s : Nat) (hs : s < 2) : (levLen s = 4 ∧ levLen (s + 1) = 2) ∨ (levLen s = 2 ∧ levLen (s + 1) = 1) := by
  have : s = 0 ∨ s = 1 := by omega
  rcases this with rfl | rfl
  · exact .inl ⟨rfl, rfl⟩
  · exact .inr ⟨rfl, rfl⟩

theorem lev_up (seed : Int) (s j : Nat) (hs : s < 2) (hj : j < (lev seed (s + 1)).length) (hj' : 2 * j + 1 < levLen s) :
    (lev seed (s + 1))[j] = node ((lev seed s).getD (2 * j) []) ((lev seed s).getD (2 * j + 1) []) := by
  have hs' : s = 0 ∨ s = 1 := by omega
  rcases hs' with rfl | rfl
  · have hj2 : j = 0 ∨ j = 1 := by simp [levLen] at hj'; omega
    rcases hj2 with rfl | rfl <;> rfl
  · have hj2 : j = 0 := by simp [levLen] at hj'; omega
    subst hj2
    rfl

theorem lev0_get (seed : Int) (k : Nat) (hk : k < (lev0 seed).length) : (lev0 seed)[k] = leafKey seed k := by
  have hk4 : k < 4 := hk
  have hk' : k = 0 ∨ k = 1 ∨ k = 2 ∨ k = 3 := by omega
  rcases hk' with rfl | rfl | rfl | rfl <;> rfl

set_option maxHeartbeats 2000000 in
theorem tree_calls (seed : Int) (w : World) (hG : Glo w) :
    Calls Tryd.prog 63 #[.int .i64 seed] w fun e w' => ∃ v, e = .returned v ∧ RowsAt w' v seed ∧ Below w.heap.size w w' := by
  obtain ⟨i0, hi, hz0, hz1, hz2⟩ := info_parts info_str
  obtain ⟨i1, hi1, hy0, hy1, hy2⟩ := info_parts info_strs
  have HG := hide hG
  clear hG
  go_enter Tryd.func63, Tryd.ntmps63
  go_wp2_with (at_make; refine wpList_make_full _ rfl (.const (.int .i64 4)) (.const (.int .i64 4)) 27 rfl w.heap.size 9 i0 (.string ⟨#[]⟩) 1 Tryd.underlying27 hi hz0 hz1 .i64 .i64 _ _ 4 rfl rfl (by omega) (by omega) (by rw [hz2]; omega) (by unfold maxLen; omega) (Nat.le_refl _) ?_)
  intro w2 hown2 hgr2
  rw [cellsS_zeros] at hown2
  have hb2 : Below w.heap.size w w2 := (Below.refl _ _).grown hgr2 (Nat.le_refl _) (by intro k hk; cases hk)
  have HO2 := hide hown2
  have HB2 := hide hb2
  clear hown2 hgr2 hb2
  obtain ⟨g, hg⟩ : ∃ g, g = w.heap.size := ⟨_, rfl⟩
  go_wp2_with fail
  rw [← hg]
  have hgw : w.heap.size ≤ g := by omega
  have HGE := hide hg
  clear hg
  have hl4 : (lev0 seed).length = 4 := rfl
  go_loopw [11] (fun i wr => ∃ k : Nat, k ≤ 4 ∧ i = .int .i64 k ∧ wr.ownsRow w.heap.size 9 1 (.slice (some ⟨g, 0, none⟩) 4 4) 4 (cellsS (halfS (lev0 seed) k)) ∧ Below w.heap.size w wr) (fun i _ => 4 - (intOf i).toNat)
  case atStart => exact ⟨0, Nat.zero_le _, rfl, by rw [HGE.out]; simpa [halfS, hl4] using HO2.out, HB2.out⟩
  case round =>
    clear HO2 HB2
    obtain ⟨k, hk, rfl, hown, hbel⟩ := hrel
    have HO := hide hown
    have HB := hide hbel
    clear hown hbel
    by_cases hlt : k < 4
    · have HK := hide (implLeafKey_calls seed k wr (HG.out.below HB.out))
      have HS := hide (halfS_set (lev0 seed) k (by omega))
      rw [lev0_get seed k (by omega)] at HS
      generalize leafKey seed k = z at *
      have hd : decide ((k : Int) < 4) = true := by simp; omega
      go_wp2_with fail
      refine HK.out.mono ?_
      rintro e w3 ⟨rfl, hb3⟩
      have HO3 := hide (own_below HO.out hb3)
      have HB3 := hide (HB.out.trans (hb3.mono HB.out.size))
      clear hb3 HO HB HK
      have hc2 : ∃ x, w3.cell? ⟨g, k, none⟩ = some x := by rw [HO3.out.cellAt k (by omega)]; exact ⟨_, List.getElem?_eq_getElem (by rw [cellsS_length, halfS_length (lev0 seed) k (by omega)]; omega)⟩
      obtain ⟨x0, hc2⟩ := hc2
      have hf2 := HO3.out.frozenAt k
      go_wp2_with fail
      go_roundw
      case rel =>
        refine ⟨k + 1, by omega, by go_num, ?_, HB3.out.setCell hgw _⟩
        have h1 := (HO3.out.stored k (.string ⟨z.toArray⟩)).1
        rw [cellsS_put, HS.out] at h1
        exact h1
      case measure => simp [intOf]; omega
    · have hd4 : decide ((k : Int) < 4) = false := by simp; omega
      have HE := hide (halfS_all (lev0 seed) k (by omega))
      rw [HE.out] at HO
      obtain ⟨g1, hg1, htx, hob⟩ := TextsG.of_own (l := lev0 seed) HO.out (by show 0 < 4; omega)
      have HBw := hide HB.out
      have HTX := hide htx
      obtain ⟨cap1, hu3, -, -⟩ := htx
      have hlw : g1 < wr.heap.size := by obtain ⟨_, _, h, _⟩ := HTX.out; exact h
      simp only [Value.slice.injEq, Option.some.injEq, Addr.mk.injEq, and_true] at hu3
      obtain ⟨hu3, -, rfl⟩ := hu3
      subst hu3
      clear HO HB hob HE
      go_wp2_with fail
      have hown0 : (wr.alloc (.cells #[.slice (some ⟨g, 0, none⟩) 4 4] 27)).ownsRow wr.heap.size 27 1 (.slice (some ⟨wr.heap.size, 0, none⟩) 1 1) 1 [.slice (some ⟨g, 0, none⟩) 4 4] := World.ownsRow_lit _ _ 1 (Nat.le_refl _) (by decide) rfl
      have hbA : Below wr.heap.size wr (wr.alloc (.cells #[.slice (some ⟨g, 0, none⟩) 4 4] 27)) := (Below.refl _ _).alloc (Nat.le_refl _) _
      have hrm : RM (wr.alloc (.cells #[.slice (some ⟨g, 0, none⟩) 4 4] 27)) seed 0 wr.heap.size (.slice (some ⟨wr.heap.size, 0, none⟩) 1 1) [.slice (some ⟨g, 0, none⟩) 4 4] [g] := by
        refine ⟨by omega, rfl, rfl, fun i h1 h2 => ?_, hown0⟩
        obtain rfl : i = 0 := by simp at h1; omega
        exact HTX.out.below hbA
      have HRM := hide hrm
      have HBA := hide hbA
      clear hown0 hbA hrm HTX
      obtain ⟨BW, hBW⟩ : ∃ BW, BW = wr.heap.size := ⟨_, rfl⟩
      rw [← hBW] at HRM HBA hlw ⊢
      generalize wr.alloc (.cells #[.slice (some ⟨g, 0, none⟩) 4 4] 27) = w1 at HRM HBA ⊢
      clear hd4 hlt hk
      have HB1 := hide (HBw.out.trans (HBA.out.mono (by have := HBw.out.size; omega)))
      have hBWw : w.heap.size ≤ BW := by have := HBw.out.size; omega
      clear HBA HBw hBW
      go_loopw [3, 5, 23] (fun row out c wx => ∃ (s : Nat) (vs : List Value) (gs : List Nat), c = .int .i64 s ∧ row = vs.getD s undef ∧ RM wx seed s BW out vs gs ∧ Below w.heap.size w wx) (fun _ _ c _ => 2 - (intOf c).toNat)
      case atStart => exact ⟨0, _, _, rfl, rfl, HRM.out, HB1.out⟩
      case round =>
        clear HRM HB1
        obtain ⟨s, vs, gs, rfl, hrow, hm, hb⟩ := hrel
        have hs2 := hm.le
        have hvl := hm.lv
        have hgl := hm.lg
        have hvs : vs.getD s undef = vs[s] := by simp [List.getD_eq_getElem?_getD, show s < vs.length by omega]
        have htx := hm.txt s (by omega) (by omega)
        obtain ⟨cap, hv, hglt, hcells⟩ := htx
        rw [lev_length seed s hs2] at hv
        rw [hvs, hv] at hrow
        subst hrow
        have HM := hide hm
        have HB := hide hb
        have HCL := hide hcells
        have HVL := hide hvl
        have HGL := hide hgl
        generalize gs[s] = gr at *
        clear hm hb hvs hcells hvl hgl hv
        by_cases hlt2 : s < 2
        · have hn := levLen_next s hlt2
          have hd2 : decide ((s : Int) < 2) = true := by simp; omega
          obtain ⟨hg1', hg2'⟩ := HM.out.lt
          have HGS := hide hg1'
          have HOB := hide hg2'
          clear hg1' hg2'
          have hwB : w.heap.size ≤ wr.heap.size := HB.out.size
          go_wp2_with (at_make; refine wpList_make_full _ rfl (.tmp 27) (.tmp 27) 27 rfl wr.heap.size 9 i0 (.string ⟨#[]⟩) 1 Tryd.underlying27 hi hz0 hz1 .i64 .i64 _ _ (levLen (s + 1)) rfl rfl (by omega) (by omega) (by rw [hz2]; omega) (by unfold maxLen; omega) (Nat.le_refl _) ?_)
          intro w3 hown3 hgr3
          rw [cellsS_zeros] at hown3
          have hbA : Below wr.heap.size wr w3 := (Below.refl _ _).grown hgr3 (Nat.le_refl _) (by intro k hk; cases hk)
          have HM3 := hide (HM.out.below hbA)
          have HB3 := hide (HB.out.trans (hbA.mono HB.out.size))
          have hz3 : wr.heap.size ≤ w3.heap.size := hbA.size
          have hcl3 : ∀ j (hj : j < (lev seed s).length), w3.cell? ⟨gr, j, none⟩ = some (.string ⟨((lev seed s)[j]).toArray⟩) := fun j hj => by rw [hbA.cell (p := ⟨gr, j, none⟩) hglt]; exact HCL.out j hj
          have HCL3 := hide hcl3
          obtain ⟨B1, hB1⟩ : ∃ B1, B1 = wr.heap.size := ⟨_, rfl⟩
          rw [← hB1] at hown3 hglt hz3 hwB HGS HOB
          have HO3 := hide hown3
          clear hown3 hbA hcl3 HM HB HCL hgr3
          go_wp2_with fail
          rw [← hB1]
          clear hB1
          have hle1 := lev_length seed (s + 1) (by omega)
          have HLE1 := hide hle1
          clear hle1
          go_loopw [31] (fun i wz => ∃ j : Nat, j ≤ levLen (s + 1) ∧ i = .int .i64 (j : Int) ∧ wz.ownsRow B1 9 1 (.slice (some ⟨B1, 0, none⟩) (levLen (s + 1)) (levLen (s + 1))) (levLen (s + 1)) (cellsS (halfS (lev seed (s + 1)) j)) ∧ RM wz seed s BW u5 vs gs ∧ Below w.heap.size w wz ∧ B1 ≤ wz.heap.size ∧ ∀ j (hj : j < (lev seed s).length), wz.cell? ⟨gr, j, none⟩ = some (.string ⟨((lev seed s)[j]).toArray⟩)) (fun i _ => levLen (s + 1) - (intOf i).toNat)
          case atStart => exact ⟨0, by omega, rfl, by simpa [halfS, HLE1.out] using HO3.out, HM3.out, HB3.out, hz3, HCL3.out⟩
          case round =>
            clear HM3 HB3 HCL3 hz3 HO3
            obtain ⟨j, hj, rfl, hown, hm, hb, hz, hcl⟩ := hrel
            have HO := hide hown
            have HM := hide hm
            have HB := hide hb
            have HCL := hide hcl
            clear hown hm hb hcl
            by_cases hlt3 : j < levLen (s + 1)
            · have hd : decide ((j : Int) < ((levLen (s + 1) : Nat) : Int)) = true := by simp; omega
              have hle := lev_length seed s hs2
              have HS := hide (halfS_set (lev seed (s + 1)) j (by rw [HLE1.out]; omega))
              rw [lev_up seed s j hlt2 (by rw [HLE1.out]; omega) (by omega)] at HS
              have k0 : (lev seed s).getD (2 * j) [] = (lev seed s)[2 * j] := by simp [List.getD_eq_getElem?_getD, show 2 * j < (lev seed s).length by omega]
              have k1 : (lev seed s).getD (2 * j + 1) [] = (lev seed s)[2 * j + 1] := by simp [List.getD_eq_getElem?_getD, show 2 * j + 1 < (lev seed s).length by omega]
              have c0 := HCL.out (2 * j) (by omega)
              have c1 := HCL.out (2 * j + 1) (by omega)
              have l0 := lev_eight seed s hs2 _ (List.getElem_mem (show 2 * j < (lev seed s).length by omega))
              have l1 := lev_eight seed s hs2 _ (List.getElem_mem (show 2 * j + 1 < (lev seed s).length by omega))
              rw [k0, k1] at HS
              generalize (lev seed s)[2 * j] = x0 at *
              generalize (lev seed s)[2 * j + 1] = x1 at *
              have grl : gr < wr.heap.size := by omega
              have n0 : ∀ p : Near wr.heap.size wr, p.w.cell? ⟨gr, 2 * j, none⟩ = some (.string ⟨x0.toArray⟩) := fun p => (p.h.cell (p := ⟨gr, 2 * j, none⟩) grl).trans c0
              have n1 : ∀ p : Near wr.heap.size wr, p.w.cell? ⟨gr, 2 * j + 1, none⟩ = some (.string ⟨x1.toArray⟩) := fun p => (p.h.cell (p := ⟨gr, 2 * j + 1, none⟩) grl).trans c1
              have HN := hide (fun (p : Near wr.heap.size wr) => node_calls x0 x1 (by omega) (by omega) p.w (HG.out.below (HB.out.trans (p.h.mono HB.out.size))))
              generalize node x0 x1 = nd at *
              have hnn := Near.some wr.heap.size wr
              clear k0 k1 c0 c1
              go_wp2_with fail
              refine wp_region_cut_seq 15 6 (fun w' => ∃ p : Near wr.heap.size wr, w' = p.w) ⟨⟨_, (Below.refl _ _).drew⟩, rfl⟩ (by kernel_rfl) (by kernel_rfl) (by kernel_rfl) (by kernel_rfl) ?_
              simp only [List.take_succ_cons, List.take_zero, List.drop_succ_cons, List.drop_zero]
              repeat (go_big_quiet_step (fail))
              go_big_quiet_step (exact calls_near (Nat.le_refl _) (HN.out _))
              repeat (go_big_quiet_step (fail))
              refine wpQuiet_nil ?_
              rintro w5 ⟨pq, rfl⟩
              have hqb := pq.h
              obtain ⟨w5, hq⟩ := pq
              simp only at hqb ⊢
              have HBT := hide hqb
              have hz5 : B1 ≤ w5.heap.size := Nat.le_trans hz hqb.size
              have HO5 := hide (own_below HO.out hqb)
              clear hq hqb n0 n1 hnn HN
              have hc2 : ∃ x, w5.cell? ⟨B1, j, none⟩ = some x := by rw [HO5.out.cellAt j (by omega)]; exact ⟨_, List.getElem?_eq_getElem (by rw [cellsS_length, halfS_length (lev seed (s + 1)) j (by rw [HLE1.out]; omega), HLE1.out]; omega)⟩
              obtain ⟨y0, hc2⟩ := hc2
              have hf2 := HO5.out.frozenAt j
              go_wp2_with fail
              have hb6 : Below B1 w5 (w5.setCell ⟨B1, j, none⟩ (.string ⟨nd.toArray⟩)) := (Below.refl B1 w5).setCell (p := ⟨B1, j, none⟩) (Nat.le_refl _) _
              have hst := (HO5.out.stored j (.string ⟨nd.toArray⟩)).1
              rw [cellsS_put, HS.out] at hst
              have HO6 := hide hst
              have HM6 := hide ((HM.out.below HBT.out).belowB hb6 HGS.out HOB.out)
              have hbw := HB.out.trans (HBT.out.mono HB.out.size)
              have HB6 := hide (hbw.trans (hb6.mono hwB))
              have hz6 : B1 ≤ (w5.setCell ⟨B1, j, none⟩ (.string ⟨nd.toArray⟩)).heap.size := Nat.le_trans hz5 hb6.size
              have hcl6 : ∀ j' (hj : j' < (lev seed s).length), (w5.setCell ⟨B1, j, none⟩ (.string ⟨nd.toArray⟩)).cell? ⟨gr, j', none⟩ = some (.string ⟨((lev seed s)[j']).toArray⟩) := fun j' hj => by rw [hb6.cell (p := ⟨gr, j', none⟩) hglt, HBT.out.cell (p := ⟨gr, j', none⟩) grl]; exact HCL.out j' hj
              have HCL6 := hide hcl6
              clear hst hb6 hbw hcl6 HBT HO5 HM HB HCL HO hc2 hf2
              generalize w5.setCell ⟨B1, j, none⟩ (.string ⟨nd.toArray⟩) = w6 at *
              go_roundw
              case rel => exact ⟨j + 1, by omega, by go_num, HO6.out, HM6.out, HB6.out, hz6, HCL6.out⟩
              case measure => simp [intOf]; omega
            · have hd : decide ((j : Int) < ((levLen (s + 1) : Nat) : Int)) = false := by simp; omega
              have hpos := lev_pos seed (s + 1) (by omega)
              have HE := hide (halfS_all (lev seed (s + 1)) j (by rw [HLE1.out]; omega))
              rw [HE.out] at HO
              obtain ⟨gn, hgn, htn, hobn⟩ := TextsG.of_own (l := lev seed (s + 1)) (by rw [HLE1.out]; exact HO.out) hpos
              have HTN := hide htn
              obtain ⟨cn, hnx, hgnl, -⟩ := htn
              simp only [Value.slice.injEq, Option.some.injEq, Addr.mk.injEq, and_true] at hnx
              obtain ⟨rfl, -, -⟩ := hnx
              clear HO HE hobn
              have hbA : Below wr.heap.size wr (wr.alloc (.cells #[.slice (some ⟨B1, 0, none⟩) (levLen (s + 1)) (levLen (s + 1))] 27)) := (Below.refl _ _).alloc (Nat.le_refl _) _
              have HMA := hide (HM.out.below hbA)
              have HTA := hide (HTN.out.below hbA)
              have HBA := hide (HB.out.trans (hbA.mono HB.out.size))
              have hBWr : BW ≤ wr.heap.size := by
                rcases HM.out.own.2 with ⟨_, h0⟩ | ⟨g, _, _, _, h1, h2, -⟩
                · omega
                · exact Nat.le_trans h1 (Nat.le_of_lt (Array.getElem?_eq_some_iff.1 h2).1)
              have hnw : ∀ j u, [Value.slice (some ⟨B1, 0, none⟩) (levLen (s + 1)) (levLen (s + 1))][j]? = some u → (wr.alloc (.cells #[.slice (some ⟨B1, 0, none⟩) (levLen (s + 1)) (levLen (s + 1))] 27)).cell? ((⟨wr.heap.size, 0, none⟩ : Addr).add j) = some u := by
                intro j u hju
                match j, hju with
                | 0, hju => simp at hju; subst hju; simp [Addr.add]
              have HNW := hide hnw
              have HOA := hide HMA.out.own
              clear hbA hnw HM HB HTN
              go_wp2_with (at_builtin; refine wpList_append_own _ rfl (.tmp 51) (.tmp 53) 79 rfl BW 27 i1 (.slice none 0 0) 1 24 Tryd.underlying79 hi1 hy0 hy1 hy2 rfl (by decide) _ (s + 1) vs rfl HOA.out ⟨wr.heap.size, 0, none⟩ 1 1 [.slice (some ⟨B1, 0, none⟩) (levLen (s + 1)) (levLen (s + 1))] rfl rfl HNW.out (by simp [Value.oneCell']) (by unfold maxLen; omega) (by omega) (by simp; omega) ?_)
              intro v' w6 hown6 hgr6 _
              have hrm : RM w6 seed (s + 1) BW v' (vs ++ [.slice (some ⟨B1, 0, none⟩) (levLen (s + 1)) (levLen (s + 1))]) (gs ++ [B1]) := by
                refine ⟨by omega, by rw [List.length_append, HVL.out]; rfl, by rw [List.length_append, HGL.out]; rfl, fun i h1 h2 => ?_, hown6⟩
                have hvl := HVL.out
                have hgl := HGL.out
                by_cases hi : i < s + 1
                · rw [List.getElem_append_left (by omega), List.getElem_append_left (by omega)]
                  exact (HMA.out.txt i (by omega) (by omega)).grown hgr6 (HMA.out.apart i (by omega))
                · have hi2 : i = s + 1 := by rw [List.length_append, HVL.out] at h1; simp at h1; omega
                  subst hi2
                  rw [List.getElem_append_right (by omega), List.getElem_append_right (by omega)]
                  simp only [hvl, hgl, Nat.sub_self, List.getElem_cons_zero]
                  refine HTA.out.grown hgr6 (fun e => ?_)
                  have := HOB.out B1 e
                  omega
              have HRM := hide hrm
              have HB6 := hide (HBA.out.grown hgr6 HBA.out.size (fun k hk => Nat.le_trans hBWw (HOA.out.lt k hk).1))
              have hslv : (vs ++ [Value.slice (some ⟨B1, 0, none⟩) (levLen (s + 1)) (levLen (s + 1))]).getD (s + 1) undef = .slice (some ⟨B1, 0, none⟩) (levLen (s + 1)) (levLen (s + 1)) := by
                rw [List.getD_eq_getElem?_getD, List.getElem?_append_right (by rw [HVL.out]; omega), HVL.out, Nat.sub_self]
                rfl
              have HSL := hide hslv
              clear hown6 hgr6 hrm hslv HMA HTA HBA HNW HOA
              go_wp2_with fail
              go_roundw
              case rel => exact ⟨s + 1, _, _, by go_num, HSL.out.symm, HRM.out, HB6.out⟩
              case measure => simp [intOf]; omega
        · have hs : s = 2 := by omega
          subst hs
          have hvl := HVL.out
          have hgl := HGL.out
          obtain ⟨go, co, hgo, hgo1, hgo2, hco, hcs, -⟩ := own_at HM.out.own (by omega)
          subst hgo
          have hra : RowsAt wr (.slice (some ⟨go, 0, none⟩) 3 co) seed := by
            refine ⟨vs[0], vs[1], vs[2], go, co, rfl, ?_, ?_, ?_, (HM.out.txt 0 (by omega) (by omega)).at_, (HM.out.txt 1 (by omega) (by omega)).at_, (HM.out.txt 2 (by omega) (by omega)).at_⟩
            · rw [hcs 0 (by omega)]; exact List.getElem?_eq_getElem (by omega)
            · rw [hcs 1 (by omega)]; exact List.getElem?_eq_getElem (by omega)
            · rw [hcs 2 (by omega)]; exact List.getElem?_eq_getElem (by omega)
          have HRA := hide hra
          clear hra hcs HM HCL
          go_wp2_with fail
          go_ret
          exact ⟨_, rfl, HRA.out, HB.out⟩

set_option maxHeartbeats 400000 in
theorem implKey_calls (seed : Int) (w : World) (hG : Glo w) :
    Calls Tryd.prog 20 #[.int .i64 seed] w fun e w' => e = .returned (.string ⟨(key seed).toArray⟩) ∧ Below w.heap.size w w' := by
  obtain ⟨ks, Ek⟩ : ∃ ks, Hid (ks = key seed) := ⟨_, rfl⟩
  rw [← Ek.out]
  have HG := hide hG
  clear hG
  go_enter Tryd.func20, Tryd.ntmps20
  go_wp2_with fail
  refine (tree_calls seed _ HG.out).mono ?_
  rintro e w1 ⟨v, rfl, ⟨v0, v1, v2, g, cap, rfl, c0, c1, c2, t0, t1, t2⟩, hb⟩
  obtain ⟨a2, p2, rfl, h2⟩ := t2
  obtain ⟨g2, o2, rfl, hl2, k2⟩ := h2 0 (by show 0 < 1; omega)
  have hk : (lev seed 2)[0]'(by show 0 < 1; omega) = ks := by rw [Ek.out]; rfl
  rw [hk, Nat.add_zero] at k2
  have hl1 : (lev seed 2).length = 1 := rfl
  rw [hl1] at c2
  clear Ek hk hl1 t0 t1 h2 c0 c1
  go_wp2_with fail
  go_ret
  exact ⟨rfl, hb⟩
end Go.Proofs.YtmjpdccfdaajmaaDoor.P4
