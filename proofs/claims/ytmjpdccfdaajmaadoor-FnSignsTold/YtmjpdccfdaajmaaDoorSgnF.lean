/- The contracts of spec.l04Any and spec.DrawSignedBy: some signature within its bounds; only new memory and the cursor are written. -/
import Derived.Test.YtmjpdccfdaajmaaDoorSgnM
import Derived.Test.YtmjpdccfdaajmaaDoorSgnE
import Derived.Test.YtmjpdccfdaajmaaDoorSgn4
import Derived.Test.YtmjpdccfdaajmaaDoorSigS
namespace Go.Proofs.YtmjpdccfdaajmaaDoor.P4
set_option maxRecDepth 8000
open Go.RowKit P1 P3 Cu

theorem blk_grown {w w' : World} {b g : Nat} {cs : List Value} {t : TypeId} (h : Blk w b cs t) (hg : w.grownBy w' (some g)) (hne : b ≠ g) : Blk w' b cs t := by
  have := hg.block b h.lt (fun e => hne (by simpa using e))
  unfold Blk at *
  rw [this]
  exact h

theorem end_le (seed leaf : Int) (t : List UInt8) : ∀ x ∈ endN seed leaf t 11, x.length ≤ 8 := by
  intro x hx
  simp only [endN, List.mem_map, List.mem_range] at hx
  obtain ⟨i, hi, rfl⟩ := hx
  have h1 := chain_le ((quadsN t).getD i 0) (secret seed leaf i)
  have h2 := secret_length seed leaf i
  omega

/-- The seeds of the signatures that are drawn. -/
def anySeeds : List Int := [0, 7, 1000, 1007]

theorem anySeeds_few (x : Int) (h : x ∈ anySeeds) : few x := by
  simp only [anySeeds, List.mem_cons, List.not_mem_nil, or_false] at h
  rcases h with rfl | rfl | rfl | rfl <;> exact ⟨by decide, by decide⟩

/-- A world with that value in that cell. -/
structure CellIs (b i : Nat) (v : Value) where
  w : World
  h : w.cell? ⟨b, i, none⟩ = some v

theorem enterB : ∀ args w, (callFunc 45 args).run Tryd.prog w = .ok (.enter 45 args) w := run_enter Tryd.func45 (by kernel_rfl) (by kernel_rfl)

theorem cellsS_mem {l : List (List UInt8)} : ∀ u ∈ cellsS l, u.oneCell' = true := by
  intro u hu
  simp only [cellsS, List.mem_map] at hu
  obtain ⟨x, _, rfl⟩ := hu
  rfl

set_option maxHeartbeats 4000000 in
theorem any_calls (B g : Nat) (w : World) (hc : Cur B w g) :
    Calls Tryd.prog 69 #[.pointer (some ⟨g, 0, none⟩)] w fun e w' => ∃ (seed : Int) (t : List UInt8) (v : Value) (leaf : Int) (E W : List (List UInt8)), t.length ≤ 15 ∧ e = .returned (.tuple #[.int .i64 seed, .string ⟨t.toArray⟩, v]) ∧ SigAt w' v leaf E W ∧ Below B w w' := by
  have hgl := hc.2.1
  have hBg := hc.1
  have hbA : Below w.heap.size w (w.alloc (.cells #[.int .i64 0, .slice none 0 0, .slice none 0 0] 29)) := (Below.refl _ _).alloc (Nat.le_refl _) _
  have HC1 := hide (cur_below hc hbA hgl)
  have HR1 := hide (Blk.new w #[.int .i64 0, .slice none 0 0, .slice none 0 0] 29)
  have HB1 := hide (hbA.mono (show B ≤ w.heap.size by omega))
  clear hc hbA
  go_enter Tryd.func69, Tryd.ntmps69
  go_wp2_with fail
  obtain ⟨b4, hb4⟩ : ∃ b, b = w.heap.size := ⟨_, rfl⟩
  have hg4 : b4 ≠ g := by omega
  have hB4 : B ≤ b4 := by omega
  rw [← hb4] at HR1
  have hz1 : (w.alloc (.cells #[.int .i64 0, .slice none 0 0, .slice none 0 0] 29)).heap.size = w.heap.size + 1 := by simp
  rw [← hz1]
  clear hz1
  generalize w.alloc (.cells #[.int .i64 0, .slice none 0 0, .slice none 0 0] 29) = w1 at *
  refine (pick_calls B g w1 HC1.out anySeeds (by decide) (by decide) 4 rfl _ rfl).mono ?_
  rintro e w2 ⟨sd, hsd, rfl, hc2, hg2⟩
  have HSD := hide (anySeeds_few sd hsd)
  have HR2 := hide (blk_grown HR1.out hg2 hg4)
  have HC2 := hide hc2
  have HB2 := hide (HB1.out.trans (below_of_grown hg2 hBg (by have := HC1.out.2.1; omega)))
  clear hsd hc2 hg2 HC1 HR1 HB1
  go_wp2_with fail
  refine (text4_calls B g w2 HC2.out).mono ?_
  rintro e w3 ⟨t, ht, rfl, hc3, hg3⟩
  have ht14 := fourTexts_le t ht
  have HR3 := hide (blk_grown HR2.out hg3 hg4)
  have HC3 := hide hc3
  have HB3 := hide (HB2.out.trans (below_of_grown hg3 hBg (by have := HC2.out.2.1; omega)))
  clear ht hc3 hg3 HC2 HR2 HB2
  go_wp2_with fail
  refine (below_calls B g w3 HC3.out 4 (by decide) (by decide)).mono ?_
  rintro e w4 ⟨n, hn4, rfl, hc4, hg4'⟩
  have HR4 := hide (blk_grown HR3.out hg4' hg4)
  have HC4 := hide hc4
  have HB4 := hide (HB3.out.trans (below_of_grown hg4' hBg (by have := HC3.out.2.1; omega)))
  have hn3 : n ≤ 3 := by omega
  clear hc4 hg4' HC3 HR3 HB3
  have H2 := hide (specSign_calls sd (n : Int) t (by omega) w4)
  have hok : sOk sd (n : Int) := ⟨⟨by omega, by omega⟩, HSD.out⟩
  have k2 : sLeaf sd (n : Int) = n := by unfold sLeaf; rw [if_pos hok]
  have k3 : sEnds sd (n : Int) t = endN sd n t 11 := by unfold sEnds; rw [if_pos hok]
  have k4 : sWay sd (n : Int) = wayN sd n 2 := by unfold sWay; rw [if_pos hok]; rfl
  simp only [decide_eq_true hok, k2, k3, k4] at H2
  clear hok k2 k3 k4
  go_wp2_with fail
  refine H2.out.mono ?_
  rintro e w5 ⟨v1, rfl, hv1, hb5⟩
  obtain ⟨vE1, vW1, hv1e, q1, q2, -⟩ := hv1.val
  rw [endN_length] at q1
  rw [wayN_length] at q2
  obtain ⟨gE, cE, hvE, hgE1, hgE2, hcE, -, -⟩ := own_at q1 (by omega)
  obtain ⟨gW, cW, hvW, hgW1, hgW2, hcW, -, -⟩ := own_at q2 (by omega)
  subst hvE hvW
  have hbA : Below w5.heap.size w5 (w5.alloc (.cells #[.int .i64 (n : Int), .slice (some ⟨gE, 0, none⟩) 11 cE, .slice (some ⟨gW, 0, none⟩) 2 cW] 29)) := (Below.refl _ _).alloc (Nat.le_refl _) _
  have OE := hide (own_below q1 hbA)
  have OW := hide (own_below q2 hbA)
  have HS6 := hide (Blk.new w5 #[.int .i64 (n : Int), .slice (some ⟨gE, 0, none⟩) 11 cE, .slice (some ⟨gW, 0, none⟩) 2 cW] 29)
  have l4 := HR4.out.lt
  have lg4 := HC4.out.2.1
  have hR5 := HR4.out.below hb5 l4
  have HR6 := hide (hR5.below hbA hR5.lt)
  have hc5 := cur_below HC4.out hb5 lg4
  have HC6 := hide (cur_below hc5 hbA hc5.2.1)
  have hB45 : B ≤ w4.heap.size := by omega
  have hb5' := HB4.out.trans (hb5.mono hB45)
  have hz45 := hb5.size
  have HB6 := hide (hb5'.trans (hbA.mono (by omega)))
  subst hv1e
  clear hv1 q1 q2 hb5 hbA hR5 hc5 hb5' HR4 HC4 HB4 H2
  go_wp2_with fail
  obtain ⟨b7, hb7⟩ : ∃ b, b = w5.heap.size := ⟨_, rfl⟩
  have h74 : b4 ≠ b7 := by omega
  have h7g : b7 ≠ g := by omega
  have h7B : B ≤ b7 := by omega
  have hE7 : gE ≠ b7 := by omega
  have hW7 : gW ≠ b7 := by omega
  have hEg : gE ≠ g := by omega
  have hWg : gW ≠ g := by omega
  have hE4 : gE ≠ b4 := by omega
  have hW4 : gW ≠ b4 := by omega
  have hgb7 : g < b7 := by omega
  rw [← hb7] at HS6
  rw [← hb7, ← hb4]
  have HE8 := hide (fun x hx => end_le sd n t x hx)
  have HW8 := hide (way8 sd n hn3)
  have HEL := hide (endN_length sd n t 11)
  have HWL := hide (wayN_length sd n 2)
  generalize endN sd n t 11 = E at *
  generalize wayN sd n 2 = W at *
  clear hb7 hb4
  generalize w5.alloc (.cells #[.int .i64 (n : Int), .slice (some ⟨gE, 0, none⟩) 11 cE, .slice (some ⟨gW, 0, none⟩) 2 cW] 29) = w6 at *
  refine (below_calls B g w6 HC6.out 8 (by decide) (by decide)).mono ?_
  rintro e w7 ⟨x, hx8, rfl, hc7, hg7⟩
  have HR7 := hide (blk_grown HR6.out hg7 hg4)
  have HS7 := hide (blk_grown HS6.out hg7 h7g)
  have HC7 := hide hc7
  have OE7 := hide (OE.out.kept hg7 (.inr (fun e => hEg (by simpa [Value.ownBlock] using e))))
  have OW7 := hide (OW.out.kept hg7 (.inr (fun e => hWg (by simpa [Value.ownBlock] using e))))
  have HB7 := hide (HB6.out.trans (below_of_grown hg7 hBg (by have := HC6.out.2.1; omega)))
  clear hc7 hg7 HC6 HR6 HS6 HB6 OE OW
  have hx : x = 0 ∨ x = 1 ∨ x = 2 ∨ x = 3 ∨ x = 4 ∨ 5 ≤ x := by omega
  have TE7 := hide (TextsAt.of_own (l := E) (by rw [HEL.out]; exact OE7.out))
  have TW7 := hide (TextsAt.of_own (l := W) (by rw [HWL.out]; exact OW7.out))
  have HBD : Hid (E.length ≤ 11 ∧ W.length ≤ 11 ∧ (∀ x ∈ E, x.length ≤ 8) ∧ ∀ x ∈ W, x.length ≤ 8) := ⟨by rw [HEL.out]; omega, by rw [HWL.out]; omega, HE8.out, fun x hx => Nat.le_of_eq (HW8.out x hx)⟩
  rcases hx with rfl | rfl | rfl | rfl | rfl | hx5
  · go_wp2_with fail
    refine (below_calls B g w7 HC7.out 6 (by decide) (by decide)).mono ?_
    rintro e w8 ⟨y, hy6, rfl, hc8, hg8⟩
    have hS8 := blk_grown HS7.out hg8 h7g
    have hR8 := blk_grown HR7.out hg8 hg4
    have oE := OE7.out.kept hg8 (.inr (fun e => hEg (by simpa [Value.ownBlock] using e)))
    have oW := OW7.out.kept hg8 (.inr (fun e => hWg (by simpa [Value.ownBlock] using e)))
    have hB8 := HB7.out.trans (below_of_grown hg8 hBg (by have := HC7.out.2.1; omega))
    have p0 : w8.cell? ⟨b7, 0, none⟩ = some (.int .i64 (n : Int)) := by rw [hS8.cell 0]; rfl
    have pf := hS8.free 0
    have HS9 := hide (hS8.set 0 (.int .i64 ((y : Int) - 1)))
    have HR9 := hide (hR8.other (p := ⟨b7, 0, none⟩) h74 (.int .i64 ((y : Int) - 1)))
    have TE9 := hide (TextsAt.of_own (l := E) (by rw [HEL.out]; exact ownsRow_setCell_other oE (a := ⟨b7, 0, none⟩) (fun e => hE7 (by simpa [Value.ownBlock] using e)) (.int .i64 ((y : Int) - 1))))
    have TW9 := hide (TextsAt.of_own (l := W) (by rw [HWL.out]; exact ownsRow_setCell_other oW (a := ⟨b7, 0, none⟩) (fun e => hW7 (by simpa [Value.ownBlock] using e)) (.int .i64 ((y : Int) - 1))))
    have HB9 := hide (hB8.setCell (p := ⟨b7, 0, none⟩) h7B (.int .i64 ((y : Int) - 1)))
    clear hS8 hR8 oE oW hB8 hc8 hg8
    go_wp2_with fail
    clear p0 pf
    generalize w8.setCell ⟨b7, 0, none⟩ (.int .i64 ((y : Int) - 1)) = w9 at *
    have l7x := HS9.out.lt
    have n0 : ∀ p : Near w9.heap.size w9, p.w.cell? ⟨b7, 0, none⟩ = some (.int .i64 ((y : Int) - 1)) := fun p => by rw [(HS9.out.below p.h l7x).cell 0]; rfl
    have n1 : ∀ p : Near w9.heap.size w9, p.w.cell? ⟨b7, 1, none⟩ = some (.slice (some ⟨gE, 0, none⟩) 11 cE) := fun p => by rw [(HS9.out.below p.h l7x).cell 1]; rfl
    have n2 : ∀ p : Near w9.heap.size w9, p.w.cell? ⟨b7, 2, none⟩ = some (.slice (some ⟨gW, 0, none⟩) 2 cW) := fun p => by rw [(HS9.out.below p.h l7x).cell 2]; rfl
    have hnn := Near.some w9.heap.size w9
    refine wp_region_cut_seq 5 6 (fun w' => ∃ p : Near w9.heap.size w9, w' = p.w) ⟨⟨_, (Below.refl _ _).drew⟩, rfl⟩ (by kernel_rfl) (by kernel_rfl) (by kernel_rfl) (by kernel_rfl) ?_
    simp only [List.take_succ_cons, List.take_zero, List.drop_succ_cons, List.drop_zero]
    repeat (go_big_quiet_step (fail))
    refine wpQuiet_nil ?_
    rintro wz ⟨pq, rfl⟩
    have hqb := pq.h
    obtain ⟨wz, hq⟩ := pq
    simp only at hqb ⊢
    have ZR := hide (HR9.out.below hqb HR9.out.lt)
    have ZE := hide (TE9.out.below hqb (Nat.le_refl _))
    have ZW := hide (TW9.out.below hqb (Nat.le_refl _))
    have ZB := hide (HB9.out.trans (hqb.mono (by have := HR9.out.lt; omega)))
    clear hq hqb n0 n1 n2 hnn
    have z0 : wz.cell? ⟨b4, 0, none⟩ = some (.int .i64 0) := by rw [ZR.out.cell 0]; rfl
    have z1 : wz.cell? ⟨b4, 1, none⟩ = some (.slice none 0 0) := by rw [ZR.out.cell 1]; rfl
    have z2 : wz.cell? ⟨b4, 2, none⟩ = some (.slice none 0 0) := by rw [ZR.out.cell 2]; rfl
    have f0 := ZR.out.free 0
    have f1 := ZR.out.free 1
    have f2 := ZR.out.free 2
    go_wp2_with fail
    have hRF := ((ZR.out.set 0 (.int .i64 ((y : Int) - 1))).set 1 (.slice (some ⟨gE, 0, none⟩) 11 cE)).set 2 (.slice (some ⟨gW, 0, none⟩) 2 cW)
    have hgF := Cu.grown_trans (Cu.grown_trans (Cu.grown_set wz b4 0 (.int .i64 ((y : Int) - 1))) (Cu.grown_set _ b4 1 (.slice (some ⟨gE, 0, none⟩) 11 cE))) (Cu.grown_set _ b4 2 (.slice (some ⟨gW, 0, none⟩) 2 cW))
    have hBF := ((ZB.out.setCell (p := ⟨b4, 0, none⟩) hB4 (.int .i64 ((y : Int) - 1))).setCell (p := ⟨b4, 1, none⟩) hB4 (.slice (some ⟨gE, 0, none⟩) 11 cE)).setCell (p := ⟨b4, 2, none⟩) hB4 (.slice (some ⟨gW, 0, none⟩) 2 cW)
    have hTE := TextsAt.grownB ZE.out hgF (sig_nostring ZR.out)
    have hTW := TextsAt.grownB ZW.out hgF (sig_nostring ZR.out)
    clear z0 z1 z2 f0 f1 f2 hgF ZE ZW ZB ZR
    generalize ((wz.setCell ⟨b4, 0, none⟩ (.int .i64 ((y : Int) - 1))).setCell ⟨b4, 1, none⟩ (.slice (some ⟨gE, 0, none⟩) 11 cE)).setCell ⟨b4, 2, none⟩ (.slice (some ⟨gW, 0, none⟩) 2 cW) = wF at *
    have x0 : wF.cell? ⟨b4, 0, none⟩ = some (.int .i64 ((y : Int) - 1)) := by rw [hRF.cell 0]; rfl
    have x1 : wF.cell? ⟨b4, 1, none⟩ = some (.slice (some ⟨gE, 0, none⟩) 11 cE) := by rw [hRF.cell 1]; rfl
    have x2 : wF.cell? ⟨b4, 2, none⟩ = some (.slice (some ⟨gW, 0, none⟩) 2 cW) := by rw [hRF.cell 2]; rfl
    refine bodyPost_ret (v := .tuple #[.int .i64 sd, .string ⟨(t).toArray⟩, .agg #[.int .i64 ((y : Int) - 1), (.slice (some ⟨gE, 0, none⟩) 11 cE), (.slice (some ⟨gW, 0, none⟩) 2 cW)]]) (by simp [results, Tryd.results69, go_sem, x0, x1, x2]) rfl ?_
    obtain ⟨d1, d2, d3, d4⟩ := HBD.out
    exact ⟨sd, t, _, ((y : Int) - 1), E, W, by omega, rfl, ⟨⟨_, _, rfl, hTE, hTW⟩, by omega, by omega, fun x hx => Nat.le_trans (d3 x hx) (by omega), fun x hx => Nat.le_trans (d4 x hx) (by omega)⟩, hBF⟩
  · obtain ⟨i0, hi, hz0, hz1, hz2⟩ := info_parts info_str
    have hbA : Below w7.heap.size w7 (w7.alloc (.cells #[] 9)) := (Below.refl _ _).alloc (Nat.le_refl _) _
    have hSA := HS7.out.below hbA HS7.out.lt
    have hRA := HR7.out.below hbA HR7.out.lt
    have oE := own_below OE7.out hbA
    have oW := own_below OW7.out hbA
    have hBA := HB7.out.trans (hbA.mono (by have := HR7.out.lt; omega))
    have hCA := cur_below HC7.out hbA HC7.out.2.1
    have hzA := hbA.size
    have p0 : (w7.alloc (.cells #[] 9)).cell? ⟨b7, 1, none⟩ = some (.slice (some ⟨gE, 0, none⟩) 11 cE) := by rw [hSA.cell 1]; rfl
    have hOL : (w7.alloc (.cells #[] 9)).ownsRow w7.heap.size 9 1 (.slice (some ⟨w7.heap.size, 0, none⟩) 0 0) 0 [] := World.ownsRow_lit _ _ 0 (Nat.le_refl _) (by decide) rfl
    have hEl := HEL.out
    have hcs : ∀ j u, (cellsS E)[j]? = some u → (w7.alloc (.cells #[] 9)).cell? ((⟨gE, 0, none⟩ : Addr).add j) = some u := by
      intro j u hj
      have hj11 : j < 11 := by
        have := (List.getElem?_eq_some_iff.1 hj).1
        rw [cellsS_length, hEl] at this
        omega
      rw [Go.WideShapes.add_plain, Nat.zero_add, oE.cellAt j (by omega)]
      exact hj
    have hl11 : (cellsS E).length = 11 := by rw [cellsS_length, hEl]
    have HSA := hide hSA
    have HRA := hide hRA
    have HOW := hide oW
    have HBA := hide hBA
    have HCA := hide hCA
    have HOL := hide hOL
    have HCS := hide hcs
    have HL11 := hide hl11
    have hb7l := HS7.out.lt
    have hb4l := HR7.out.lt
    have hgl7 := HC7.out.2.1
    have hWl7 := (OW7.out.lt gW rfl).2
    clear hSA hRA oE oW hBA hCA hbA hOL hcs hl11 hEl
    go_wp2_with (at_builtin; refine wpList_append_own _ rfl (.tmp 32) (.tmp 34) 27 rfl w7.heap.size 9 i0 (.string ⟨#[]⟩) 1 16 Tryd.underlying27 hi hz0 hz1 hz2 rfl (by decide) _ 0 [] rfl HOL.out ⟨gE, 0, none⟩ 11 cE (cellsS E) rfl HL11.out HCS.out cellsS_mem (by unfold maxLen; omega) (by omega) (by simp) ?_)
    intro v' w8 hown8 hgr8 _
    clear p0
    obtain ⟨g8, c8, hv8, hg81, hg82, hc8, -, -⟩ := own_at hown8 (by omega)
    subst hv8
    generalize w7.alloc (.cells #[] 9) = wA at *
    have hn7 : ∀ b, b < w7.heap.size → some b ≠ (Value.slice (some ⟨w7.heap.size, 0, none⟩) 0 0).ownBlock := fun b hb e => by simp [Value.ownBlock] at e; omega
    have hS8 : Blk w8 b7 [.int .i64 (n : Int), .slice (some ⟨gE, 0, none⟩) 11 cE, .slice (some ⟨gW, 0, none⟩) 2 cW] 29 := by
      have := hgr8.block b7 HSA.out.lt (hn7 b7 hb7l)
      unfold Blk
      rw [this]
      exact HSA.out
    have hR8 : Blk w8 b4 [.int .i64 0, .slice none 0 0, .slice none 0 0] 29 := by
      have := hgr8.block b4 HRA.out.lt (hn7 b4 hb4l)
      unfold Blk
      rw [this]
      exact HRA.out
    have oW8 := HOW.out.kept hgr8 (.inr (fun e => hn7 gW hWl7 (by simpa [Value.ownBlock] using e)))
    have hb78 : Below w7.heap.size wA w8 := (Below.refl _ wA).grown hgr8 (by omega) (fun k hk => by simp [Value.ownBlock] at hk; omega)
    have hB8 := HBA.out.trans (hb78.mono (by omega))
    have hC8 := cur_below HCA.out hb78 hgl7
    have p1 : w8.cell? ⟨b7, 1, none⟩ = some (.slice (some ⟨gE, 0, none⟩) 11 cE) := by rw [hS8.cell 1]; rfl
    have pf := hS8.free 1
    have h87 : g8 ≠ b7 := by omega
    have h8g : g8 ≠ g := by omega
    have h84 : g8 ≠ b4 := by omega
    have hbs : Below b7 w8 (w8.setCell ⟨b7, 1, none⟩ (.slice (some ⟨g8, 0, none⟩) 11 c8)) := (Below.refl b7 w8).setCell (p := ⟨b7, 1, none⟩) (Nat.le_refl _) _
    have HS9 := hide (hS8.set 1 (.slice (some ⟨g8, 0, none⟩) 11 c8))
    have HR9 := hide (hR8.other (p := ⟨b7, 1, none⟩) h74 (.slice (some ⟨g8, 0, none⟩) 11 c8))
    have O8 := hide (ownsRow_setCell_other hown8 (a := ⟨b7, 1, none⟩) (fun e => h87 (by simpa [Value.ownBlock] using e)) (.slice (some ⟨g8, 0, none⟩) 11 c8))
    have OW9 := hide (ownsRow_setCell_other oW8 (a := ⟨b7, 1, none⟩) (fun e => hW7 (by simpa [Value.ownBlock] using e)) (.slice (some ⟨g8, 0, none⟩) 11 c8))
    have HB9 := hide (hB8.setCell (p := ⟨b7, 1, none⟩) h7B (.slice (some ⟨g8, 0, none⟩) 11 c8))
    have HC9 := hide (cur_below hC8 hbs hgb7)
    clear hown8 hgr8 hS8 hR8 oW8 hb78 hB8 hC8 hbs hn7 HSA HRA HOW HBA HCA HOL HCS HL11
    go_wp2_with fail
    clear p1 pf
    generalize w8.setCell ⟨b7, 1, none⟩ (.slice (some ⟨g8, 0, none⟩) 11 c8) = w9 at *
    refine wp_region_open (fun wd => ∃ p : Near w9.heap.size w9, wd = p.w) ⟨⟨_, (Below.refl _ _).drew⟩, rfl⟩ (by kernel_rfl) ?_
    rintro wd ⟨pd, rfl⟩
    have hS := HS9.out.below pd.h HS9.out.lt
    have hR := HR9.out.below pd.h HR9.out.lt
    have o8 := own_below O8.out pd.h
    have oW := own_below OW9.out pd.h
    have hB := HB9.out.trans (pd.h.mono (by have := HR9.out.lt; omega))
    have hC := cur_below HC9.out pd.h HC9.out.2.1
    have p1 : pd.w.cell? ⟨b7, 1, none⟩ = some (.slice (some ⟨g8, 0, none⟩) 11 c8) := by rw [hS.cell 1]; rfl
    have HS := hide hS
    have HR := hide hR
    have H8 := hide o8
    have HOW := hide oW
    have HB := hide hB
    have HC := hide hC
    clear hS hR o8 oW hB hC HS9 HR9 O8 OW9 HB9 HC9
    generalize pd.w = w10 at *
    clear pd
    have n1 : ∀ p : CellIs b7 1 (.slice (some ⟨g8, 0, none⟩) 11 c8), p.w.cell? ⟨b7, 1, none⟩ = some (.slice (some ⟨g8, 0, none⟩) 11 c8) := fun p => p.h
    have hnn : Nonempty (CellIs b7 1 (.slice (some ⟨g8, 0, none⟩) 11 c8)) := ⟨⟨w10, p1⟩⟩
    refine wpAny_seg_lit 0 1 8 rfl (by decide) (by kernel_rfl) (by kernel_rfl) (fun _ _ _ _ _ h => h) ?_
    simp only [List.take_succ_cons, List.take_zero, List.drop_zero]
    repeat (go_big_quiet_step (fail))
    refine wpQuiet_nil ?_
    refine wpAny_of_K (c := 7) (D := fun w' => ∃ p : CellIs b7 1 (.slice (some ⟨g8, 0, none⟩) 11 c8), w' = p.w) _ _ _ _ ?_
    refine wpAnyK_load 1 (by kernel_rfl) (by kernel_rfl) (by kernel_rfl) (by kernel_rfl) (by kernel_rfl) (by kernel_rfl) (by decide) (fun _ _ _ _ _ h => h) ⟨⟨w10, p1⟩, rfl⟩ ?_
    simp only [List.take_succ_cons, List.take_zero, List.drop_succ_cons, List.drop_zero]
    go_big_quiet_step (fail)
    refine wpQuiet_nil ?_
    clear n1 hnn
    refine wpAnyK_cut 2 6 8 (fun w' => w' = w10) rfl 7 _ (fun w' h => ⟨⟨w10, p1⟩, h⟩) (by decide) rfl rfl (by kernel_rfl) (by kernel_rfl) (by kernel_rfl) ?_
    simp only [List.take_succ_cons, List.take_zero, List.drop_succ_cons, List.drop_zero]
    repeat (go_big_quiet_step (fail))
    refine wpQuiet_nil ?_
    rintro wd rfl
    refine wpAnyK_call 6 (by kernel_rfl) rfl rfl 45 _ _ rfl enterB #[.pointer (some ⟨g, 0, none⟩), .int .i64 11] rfl (fun u w' => ∃ y : Nat, y < 11 ∧ u = .int .i64 y ∧ wd.grownBy w' (some g)) ((below_calls B g wd HC.out 11 (by decide) (by decide)).mono (fun e w' ⟨y, h1, h2, _, h4⟩ => ⟨_, h2, y, h1, rfl, h4⟩)) ?_
    rintro u w11 ⟨y, hy, rfl, hg11⟩
    refine ⟨⟨⟨w11, hg11.cell p1 (fun e => h7g (by simpa using e))⟩, rfl⟩, ?_⟩
    refine wpAnyK_last (by kernel_rfl) (by decide) ?_
    refine wpAny_rest 7 rfl (by kernel_rfl) ?_
    simp only [List.drop_succ_cons, List.drop_zero]
    have hS := blk_grown HS.out hg11 h7g
    have hR := blk_grown HR.out hg11 hg4
    have o8 := H8.out.kept hg11 (.inr (fun e => h8g (by simpa [Value.ownBlock] using e)))
    have oW := HOW.out.kept hg11 (.inr (fun e => hWg (by simpa [Value.ownBlock] using e)))
    have hB := HB.out.trans (below_of_grown hg11 hBg (by have := HC.out.2.1; omega))
    have hEl := HEL.out
    have hxc : ∃ xx, w11.cell? ⟨g8, y, none⟩ = some xx := by
      rw [o8.cellAt y (by omega)]
      exact ⟨_, List.getElem?_eq_getElem (by rw [cellsS_length, hEl]; omega)⟩
    obtain ⟨xx, hxc⟩ := hxc
    have hfx := o8.frozenAt y
    have hst := (o8.stored y (.string ⟨#[49, 50, 51, 52, 53, 54, 55, 56]⟩)).1
    have hW8 : gW ≠ g8 := by omega
    have HS12 := hide (hS.other (p := ⟨g8, y, none⟩) (Ne.symm h87) (.string ⟨#[49, 50, 51, 52, 53, 54, 55, 56]⟩))
    have HR12 := hide (hR.other (p := ⟨g8, y, none⟩) (Ne.symm h84) (.string ⟨#[49, 50, 51, 52, 53, 54, 55, 56]⟩))
    have TE12 : Hid (TextsAt (w11.setCell ⟨g8, y, none⟩ (.string ⟨#[49, 50, 51, 52, 53, 54, 55, 56]⟩)) (.slice (some ⟨g8, 0, none⟩) 11 c8) (E.set y [49, 50, 51, 52, 53, 54, 55, 56])) := by
      refine TextsAt.of_own (B := w7.heap.size) (e := 9) ?_
      rw [List.length_set, hEl]
      have e : cellsS (E.set y [49, 50, 51, 52, 53, 54, 55, 56]) = (cellsS E).set y (.string ⟨#[49, 50, 51, 52, 53, 54, 55, 56]⟩) := by simp [cellsS]
      rw [e]
      exact hst
    have TW12 := hide (TextsAt.of_own (l := W) (by rw [HWL.out]; exact ownsRow_setCell_other oW (a := ⟨g8, y, none⟩) (fun e => hW8 (by simpa [Value.ownBlock] using e)) (.string ⟨#[49, 50, 51, 52, 53, 54, 55, 56]⟩)))
    have HB12 := hide (hB.setCell (p := ⟨g8, y, none⟩) (by show B ≤ g8; omega) (.string ⟨#[49, 50, 51, 52, 53, 54, 55, 56]⟩))
    have HBD2 : Hid ((E.set y [49, 50, 51, 52, 53, 54, 55, 56]).length ≤ 11 ∧ W.length ≤ 11 ∧ (∀ x ∈ E.set y [49, 50, 51, 52, 53, 54, 55, 56], x.length ≤ 8) ∧ ∀ x ∈ W, x.length ≤ 8) := ⟨by rw [List.length_set, hEl]; omega, HBD.out.2.1, fun x hx => by
      rcases List.mem_or_eq_of_mem_set hx with h | rfl
      · exact HBD.out.2.2.1 x h
      · decide, HBD.out.2.2.2⟩
    clear hS hR o8 oW hB hst hg11 HS HR H8 HOW HB HC hEl
    go_wp2_with fail
    clear hxc hfx p1
    generalize w11.setCell ⟨g8, y, none⟩ (.string ⟨#[49, 50, 51, 52, 53, 54, 55, 56]⟩) = w12 at *
    have l7x := HS12.out.lt
    have n0 : ∀ p : Near w12.heap.size w12, p.w.cell? ⟨b7, 0, none⟩ = some (.int .i64 (n : Int)) := fun p => by rw [(HS12.out.below p.h l7x).cell 0]; rfl
    have n1 : ∀ p : Near w12.heap.size w12, p.w.cell? ⟨b7, 1, none⟩ = some (.slice (some ⟨g8, 0, none⟩) 11 c8) := fun p => by rw [(HS12.out.below p.h l7x).cell 1]; rfl
    have n2 : ∀ p : Near w12.heap.size w12, p.w.cell? ⟨b7, 2, none⟩ = some (.slice (some ⟨gW, 0, none⟩) 2 cW) := fun p => by rw [(HS12.out.below p.h l7x).cell 2]; rfl
    have hnn := Near.some w12.heap.size w12
    refine wp_region_cut_seq 5 6 (fun w' => ∃ p : Near w12.heap.size w12, w' = p.w) ⟨⟨_, (Below.refl _ _).drew⟩, rfl⟩ (by kernel_rfl) (by kernel_rfl) (by kernel_rfl) (by kernel_rfl) ?_
    simp only [List.take_succ_cons, List.take_zero, List.drop_succ_cons, List.drop_zero]
    repeat (go_big_quiet_step (fail))
    refine wpQuiet_nil ?_
    rintro wz ⟨pq, rfl⟩
    have hqb := pq.h
    obtain ⟨wz, hq⟩ := pq
    simp only at hqb ⊢
    have ZR := hide (HR12.out.below hqb HR12.out.lt)
    have ZE := hide (TE12.out.below hqb (Nat.le_refl _))
    have ZW := hide (TW12.out.below hqb (Nat.le_refl _))
    have ZB := hide (HB12.out.trans (hqb.mono (by have := HR12.out.lt; omega)))
    clear hq hqb n0 n1 n2 hnn
    have z0 : wz.cell? ⟨b4, 0, none⟩ = some (.int .i64 0) := by rw [ZR.out.cell 0]; rfl
    have z1 : wz.cell? ⟨b4, 1, none⟩ = some (.slice none 0 0) := by rw [ZR.out.cell 1]; rfl
    have z2 : wz.cell? ⟨b4, 2, none⟩ = some (.slice none 0 0) := by rw [ZR.out.cell 2]; rfl
    have f0 := ZR.out.free 0
    have f1 := ZR.out.free 1
    have f2 := ZR.out.free 2
    go_wp2_with fail
    have hRF := ((ZR.out.set 0 (.int .i64 (n : Int))).set 1 (.slice (some ⟨g8, 0, none⟩) 11 c8)).set 2 (.slice (some ⟨gW, 0, none⟩) 2 cW)
    have hgF := Cu.grown_trans (Cu.grown_trans (Cu.grown_set wz b4 0 (.int .i64 (n : Int))) (Cu.grown_set _ b4 1 (.slice (some ⟨g8, 0, none⟩) 11 c8))) (Cu.grown_set _ b4 2 (.slice (some ⟨gW, 0, none⟩) 2 cW))
    have hBF := ((ZB.out.setCell (p := ⟨b4, 0, none⟩) hB4 (.int .i64 (n : Int))).setCell (p := ⟨b4, 1, none⟩) hB4 (.slice (some ⟨g8, 0, none⟩) 11 c8)).setCell (p := ⟨b4, 2, none⟩) hB4 (.slice (some ⟨gW, 0, none⟩) 2 cW)
    have hTE := TextsAt.grownB ZE.out hgF (sig_nostring ZR.out)
    have hTW := TextsAt.grownB ZW.out hgF (sig_nostring ZR.out)
    clear z0 z1 z2 f0 f1 f2 hgF ZE ZW ZB ZR
    generalize ((wz.setCell ⟨b4, 0, none⟩ (.int .i64 (n : Int))).setCell ⟨b4, 1, none⟩ (.slice (some ⟨g8, 0, none⟩) 11 c8)).setCell ⟨b4, 2, none⟩ (.slice (some ⟨gW, 0, none⟩) 2 cW) = wF at *
    have x0 : wF.cell? ⟨b4, 0, none⟩ = some (.int .i64 (n : Int)) := by rw [hRF.cell 0]; rfl
    have x1 : wF.cell? ⟨b4, 1, none⟩ = some (.slice (some ⟨g8, 0, none⟩) 11 c8) := by rw [hRF.cell 1]; rfl
    have x2 : wF.cell? ⟨b4, 2, none⟩ = some (.slice (some ⟨gW, 0, none⟩) 2 cW) := by rw [hRF.cell 2]; rfl
    refine bodyPost_ret (v := .tuple #[.int .i64 sd, .string ⟨(t).toArray⟩, .agg #[.int .i64 (n : Int), (.slice (some ⟨g8, 0, none⟩) 11 c8), (.slice (some ⟨gW, 0, none⟩) 2 cW)]]) (by simp [results, Tryd.results69, go_sem, x0, x1, x2]) rfl ?_
    obtain ⟨d1, d2, d3, d4⟩ := HBD2.out
    exact ⟨sd, t, _, (n : Int), (E.set y [49, 50, 51, 52, 53, 54, 55, 56]), W, by omega, rfl, ⟨⟨_, _, rfl, hTE, hTW⟩, by omega, by omega, fun x hx => Nat.le_trans (d3 x hx) (by omega), fun x hx => Nat.le_trans (d4 x hx) (by omega)⟩, hBF⟩
  · have p0 : w7.cell? ⟨b7, 2, none⟩ = some (.slice (some ⟨gW, 0, none⟩) 2 cW) := by rw [HS7.out.cell 2]; rfl
    have pf := HS7.out.free 2
    have HS9 := hide (HS7.out.set 2 (.slice (some ⟨gW, 1, none⟩) 1 (cW - 1)))
    have HR9 := hide (HR7.out.other (p := ⟨b7, 2, none⟩) h74 (.slice (some ⟨gW, 1, none⟩) 1 (cW - 1)))
    have TE9 := hide (TextsAt.of_own (l := E) (by rw [HEL.out]; exact ownsRow_setCell_other OE7.out (a := ⟨b7, 2, none⟩) (fun e => hE7 (by simpa [Value.ownBlock] using e)) (.slice (some ⟨gW, 1, none⟩) 1 (cW - 1))))
    have oW := ownsRow_setCell_other OW7.out (a := ⟨b7, 2, none⟩) (fun e => hW7 (by simpa [Value.ownBlock] using e)) (.slice (some ⟨gW, 1, none⟩) 1 (cW - 1))
    have hWl := HWL.out
    have TW9 : Hid (TextsAt (w7.setCell ⟨b7, 2, none⟩ (.slice (some ⟨gW, 1, none⟩) 1 (cW - 1))) (.slice (some ⟨gW, 1, none⟩) 1 (cW - 1)) (W.drop 1)) := by
      refine ⟨some ⟨gW, 1, none⟩, cW - 1, by rw [List.length_drop, hWl], fun j hj => ?_⟩
      have hj1 : j = 0 := by rw [List.length_drop, hWl] at hj; omega
      subst hj1
      refine ⟨gW, 1, rfl, (oW.lt gW rfl).2, ?_⟩
      have := oW.cellAt 1 (by omega)
      rw [Nat.add_zero, this]
      simp [cellsS, show 1 < W.length by omega]
    have HB9 := hide (HB7.out.setCell (p := ⟨b7, 2, none⟩) h7B (.slice (some ⟨gW, 1, none⟩) 1 (cW - 1)))
    have HBD2 : Hid (E.length ≤ 11 ∧ (W.drop 1).length ≤ 11 ∧ (∀ x ∈ E, x.length ≤ 8) ∧ ∀ x ∈ W.drop 1, x.length ≤ 8) := ⟨HBD.out.1, by rw [List.length_drop, hWl]; omega, HBD.out.2.2.1, fun x hx => HBD.out.2.2.2 x (List.mem_of_mem_drop hx)⟩
    clear oW hWl
    go_wp2_with fail
    clear p0 pf
    generalize w7.setCell ⟨b7, 2, none⟩ (.slice (some ⟨gW, 1, none⟩) 1 (cW - 1)) = w9 at *
    have l7x := HS9.out.lt
    have n0 : ∀ p : Near w9.heap.size w9, p.w.cell? ⟨b7, 0, none⟩ = some (.int .i64 (n : Int)) := fun p => by rw [(HS9.out.below p.h l7x).cell 0]; rfl
    have n1 : ∀ p : Near w9.heap.size w9, p.w.cell? ⟨b7, 1, none⟩ = some (.slice (some ⟨gE, 0, none⟩) 11 cE) := fun p => by rw [(HS9.out.below p.h l7x).cell 1]; rfl
    have n2 : ∀ p : Near w9.heap.size w9, p.w.cell? ⟨b7, 2, none⟩ = some (.slice (some ⟨gW, 1, none⟩) 1 (cW - 1)) := fun p => by rw [(HS9.out.below p.h l7x).cell 2]; rfl
    have hnn := Near.some w9.heap.size w9
    refine wp_region_cut_seq 5 6 (fun w' => ∃ p : Near w9.heap.size w9, w' = p.w) ⟨⟨_, (Below.refl _ _).drew⟩, rfl⟩ (by kernel_rfl) (by kernel_rfl) (by kernel_rfl) (by kernel_rfl) ?_
    simp only [List.take_succ_cons, List.take_zero, List.drop_succ_cons, List.drop_zero]
    repeat (go_big_quiet_step (fail))
    refine wpQuiet_nil ?_
    rintro wz ⟨pq, rfl⟩
    have hqb := pq.h
    obtain ⟨wz, hq⟩ := pq
    simp only at hqb ⊢
    have ZR := hide (HR9.out.below hqb HR9.out.lt)
    have ZE := hide (TE9.out.below hqb (Nat.le_refl _))
    have ZW := hide (TW9.out.below hqb (Nat.le_refl _))
    have ZB := hide (HB9.out.trans (hqb.mono (by have := HR9.out.lt; omega)))
    clear hq hqb n0 n1 n2 hnn
    have z0 : wz.cell? ⟨b4, 0, none⟩ = some (.int .i64 0) := by rw [ZR.out.cell 0]; rfl
    have z1 : wz.cell? ⟨b4, 1, none⟩ = some (.slice none 0 0) := by rw [ZR.out.cell 1]; rfl
    have z2 : wz.cell? ⟨b4, 2, none⟩ = some (.slice none 0 0) := by rw [ZR.out.cell 2]; rfl
    have f0 := ZR.out.free 0
    have f1 := ZR.out.free 1
    have f2 := ZR.out.free 2
    go_wp2_with fail
    have hRF := ((ZR.out.set 0 (.int .i64 (n : Int))).set 1 (.slice (some ⟨gE, 0, none⟩) 11 cE)).set 2 (.slice (some ⟨gW, 1, none⟩) 1 (cW - 1))
    have hgF := Cu.grown_trans (Cu.grown_trans (Cu.grown_set wz b4 0 (.int .i64 (n : Int))) (Cu.grown_set _ b4 1 (.slice (some ⟨gE, 0, none⟩) 11 cE))) (Cu.grown_set _ b4 2 (.slice (some ⟨gW, 1, none⟩) 1 (cW - 1)))
    have hBF := ((ZB.out.setCell (p := ⟨b4, 0, none⟩) hB4 (.int .i64 (n : Int))).setCell (p := ⟨b4, 1, none⟩) hB4 (.slice (some ⟨gE, 0, none⟩) 11 cE)).setCell (p := ⟨b4, 2, none⟩) hB4 (.slice (some ⟨gW, 1, none⟩) 1 (cW - 1))
    have hTE := TextsAt.grownB ZE.out hgF (sig_nostring ZR.out)
    have hTW := TextsAt.grownB ZW.out hgF (sig_nostring ZR.out)
    clear z0 z1 z2 f0 f1 f2 hgF ZE ZW ZB ZR
    generalize ((wz.setCell ⟨b4, 0, none⟩ (.int .i64 (n : Int))).setCell ⟨b4, 1, none⟩ (.slice (some ⟨gE, 0, none⟩) 11 cE)).setCell ⟨b4, 2, none⟩ (.slice (some ⟨gW, 1, none⟩) 1 (cW - 1)) = wF at *
    have x0 : wF.cell? ⟨b4, 0, none⟩ = some (.int .i64 (n : Int)) := by rw [hRF.cell 0]; rfl
    have x1 : wF.cell? ⟨b4, 1, none⟩ = some (.slice (some ⟨gE, 0, none⟩) 11 cE) := by rw [hRF.cell 1]; rfl
    have x2 : wF.cell? ⟨b4, 2, none⟩ = some (.slice (some ⟨gW, 1, none⟩) 1 (cW - 1)) := by rw [hRF.cell 2]; rfl
    refine bodyPost_ret (v := .tuple #[.int .i64 sd, .string ⟨(t).toArray⟩, .agg #[.int .i64 (n : Int), (.slice (some ⟨gE, 0, none⟩) 11 cE), (.slice (some ⟨gW, 1, none⟩) 1 (cW - 1))]]) (by simp [results, Tryd.results69, go_sem, x0, x1, x2]) rfl ?_
    obtain ⟨d1, d2, d3, d4⟩ := HBD2.out
    exact ⟨sd, t, _, (n : Int), E, (W.drop 1), by omega, rfl, ⟨⟨_, _, rfl, hTE, hTW⟩, by omega, by omega, fun x hx => Nat.le_trans (d3 x hx) (by omega), fun x hx => Nat.le_trans (d4 x hx) (by omega)⟩, hBF⟩
  · have hcat : (⟨t.toArray⟩ : ByteArray) ++ ⟨#[120]⟩ = ⟨(t ++ [120]).toArray⟩ := ByteArray.mk_append_mk t [120]
    have hcl : (t ++ [120]).length = t.length + 1 := by simp
    obtain ⟨t2, Et2⟩ : ∃ t2, t2 = t ++ [120] := ⟨_, rfl⟩
    rw [← Et2] at hcat hcl
    clear Et2
    go_wp2_with fail
    have l7x := HS7.out.lt
    have n0 : ∀ p : Near w7.heap.size w7, p.w.cell? ⟨b7, 0, none⟩ = some (.int .i64 (n : Int)) := fun p => by rw [(HS7.out.below p.h l7x).cell 0]; rfl
    have n1 : ∀ p : Near w7.heap.size w7, p.w.cell? ⟨b7, 1, none⟩ = some (.slice (some ⟨gE, 0, none⟩) 11 cE) := fun p => by rw [(HS7.out.below p.h l7x).cell 1]; rfl
    have n2 : ∀ p : Near w7.heap.size w7, p.w.cell? ⟨b7, 2, none⟩ = some (.slice (some ⟨gW, 0, none⟩) 2 cW) := fun p => by rw [(HS7.out.below p.h l7x).cell 2]; rfl
    have hnn := Near.some w7.heap.size w7
    refine wp_region_cut_seq 5 6 (fun w' => ∃ p : Near w7.heap.size w7, w' = p.w) ⟨⟨_, (Below.refl _ _).drew⟩, rfl⟩ (by kernel_rfl) (by kernel_rfl) (by kernel_rfl) (by kernel_rfl) ?_
    simp only [List.take_succ_cons, List.take_zero, List.drop_succ_cons, List.drop_zero]
    repeat (go_big_quiet_step (fail))
    refine wpQuiet_nil ?_
    rintro wz ⟨pq, rfl⟩
    have hqb := pq.h
    obtain ⟨wz, hq⟩ := pq
    simp only at hqb ⊢
    have ZR := hide (HR7.out.below hqb HR7.out.lt)
    have ZE := hide (TE7.out.below hqb (Nat.le_refl _))
    have ZW := hide (TW7.out.below hqb (Nat.le_refl _))
    have ZB := hide (HB7.out.trans (hqb.mono (by have := HR7.out.lt; omega)))
    clear hq hqb n0 n1 n2 hnn
    have z0 : wz.cell? ⟨b4, 0, none⟩ = some (.int .i64 0) := by rw [ZR.out.cell 0]; rfl
    have z1 : wz.cell? ⟨b4, 1, none⟩ = some (.slice none 0 0) := by rw [ZR.out.cell 1]; rfl
    have z2 : wz.cell? ⟨b4, 2, none⟩ = some (.slice none 0 0) := by rw [ZR.out.cell 2]; rfl
    have f0 := ZR.out.free 0
    have f1 := ZR.out.free 1
    have f2 := ZR.out.free 2
    go_wp2_with fail
    have hRF := ((ZR.out.set 0 (.int .i64 (n : Int))).set 1 (.slice (some ⟨gE, 0, none⟩) 11 cE)).set 2 (.slice (some ⟨gW, 0, none⟩) 2 cW)
    have hgF := Cu.grown_trans (Cu.grown_trans (Cu.grown_set wz b4 0 (.int .i64 (n : Int))) (Cu.grown_set _ b4 1 (.slice (some ⟨gE, 0, none⟩) 11 cE))) (Cu.grown_set _ b4 2 (.slice (some ⟨gW, 0, none⟩) 2 cW))
    have hBF := ((ZB.out.setCell (p := ⟨b4, 0, none⟩) hB4 (.int .i64 (n : Int))).setCell (p := ⟨b4, 1, none⟩) hB4 (.slice (some ⟨gE, 0, none⟩) 11 cE)).setCell (p := ⟨b4, 2, none⟩) hB4 (.slice (some ⟨gW, 0, none⟩) 2 cW)
    have hTE := TextsAt.grownB ZE.out hgF (sig_nostring ZR.out)
    have hTW := TextsAt.grownB ZW.out hgF (sig_nostring ZR.out)
    clear z0 z1 z2 f0 f1 f2 hgF ZE ZW ZB ZR
    generalize ((wz.setCell ⟨b4, 0, none⟩ (.int .i64 (n : Int))).setCell ⟨b4, 1, none⟩ (.slice (some ⟨gE, 0, none⟩) 11 cE)).setCell ⟨b4, 2, none⟩ (.slice (some ⟨gW, 0, none⟩) 2 cW) = wF at *
    have x0 : wF.cell? ⟨b4, 0, none⟩ = some (.int .i64 (n : Int)) := by rw [hRF.cell 0]; rfl
    have x1 : wF.cell? ⟨b4, 1, none⟩ = some (.slice (some ⟨gE, 0, none⟩) 11 cE) := by rw [hRF.cell 1]; rfl
    have x2 : wF.cell? ⟨b4, 2, none⟩ = some (.slice (some ⟨gW, 0, none⟩) 2 cW) := by rw [hRF.cell 2]; rfl
    refine bodyPost_ret (v := .tuple #[.int .i64 sd, .string ⟨(t2).toArray⟩, .agg #[.int .i64 (n : Int), (.slice (some ⟨gE, 0, none⟩) 11 cE), (.slice (some ⟨gW, 0, none⟩) 2 cW)]]) (by simp [results, Tryd.results69, go_sem, x0, x1, x2]) rfl ?_
    obtain ⟨d1, d2, d3, d4⟩ := HBD.out
    exact ⟨sd, t2, _, (n : Int), E, W, by omega, rfl, ⟨⟨_, _, rfl, hTE, hTW⟩, by omega, by omega, fun x hx => Nat.le_trans (d3 x hx) (by omega), fun x hx => Nat.le_trans (d4 x hx) (by omega)⟩, hBF⟩
  · obtain ⟨i0, hi, hz0, hz1, hz2⟩ := info_parts info_str
    have hbA : Below w7.heap.size w7 (w7.alloc (.cells #[.string ⟨#[49]⟩] 9)) := (Below.refl _ _).alloc (Nat.le_refl _) _
    have hSA := HS7.out.below hbA HS7.out.lt
    have hRA := HR7.out.below hbA HR7.out.lt
    have oE := own_below OE7.out hbA
    have oW := own_below OW7.out hbA
    have hBA := HB7.out.trans (hbA.mono (by have := HR7.out.lt; omega))
    have p0 : (w7.alloc (.cells #[.string ⟨#[49]⟩] 9)).cell? ⟨b7, 1, none⟩ = some (.slice (some ⟨gE, 0, none⟩) 11 cE) := by rw [hSA.cell 1]; rfl
    have hOL : (w7.alloc (.cells #[.string ⟨#[49]⟩] 9)).ownsRow w7.heap.size 9 1 (.slice (some ⟨w7.heap.size, 0, none⟩) 1 1) 1 [.string ⟨#[49]⟩] := World.ownsRow_lit _ _ 1 (Nat.le_refl _) (by decide) rfl
    have hEl := HEL.out
    have hcs : ∀ j u, (cellsS (E.drop 1))[j]? = some u → (w7.alloc (.cells #[.string ⟨#[49]⟩] 9)).cell? ((⟨gE, 1, none⟩ : Addr).add j) = some u := by
      intro j u hj
      have hj10 : j < 10 := by
        have := (List.getElem?_eq_some_iff.1 hj).1
        rw [cellsS_length, List.length_drop, hEl] at this
        omega
      rw [Go.WideShapes.add_plain, oE.cellAt (1 + j) (by omega)]
      simpa [cellsS, List.getElem?_drop, Nat.add_comm] using hj
    have hl10 : (cellsS (E.drop 1)).length = 10 := by rw [cellsS_length, List.length_drop, hEl]
    have HSA := hide hSA
    have HRA := hide hRA
    have HOW := hide oW
    have HBA := hide hBA
    have HOL := hide hOL
    have HCS := hide hcs
    have HL10 := hide hl10
    have hb7l := HS7.out.lt
    have hb4l := HR7.out.lt
    have hWl7 := (OW7.out.lt gW rfl).2
    clear hSA hRA oE oW hBA hbA hOL hcs hl10 hEl
    go_wp2_with (at_builtin; refine wpList_append_own _ rfl (.tmp 57) (.tmp 60) 27 rfl w7.heap.size 9 i0 (.string ⟨#[]⟩) 1 16 Tryd.underlying27 hi hz0 hz1 hz2 rfl (by decide) _ 1 [.string ⟨#[49]⟩] rfl HOL.out ⟨gE, 1, none⟩ 10 (cE - 1) (cellsS (E.drop 1)) rfl HL10.out HCS.out cellsS_mem (by unfold maxLen; omega) (by omega) (by simp) ?_)
    intro v' w8 hown8 hgr8 _
    clear p0
    obtain ⟨g8, c8, hv8, hg81, hg82, -⟩ := own_at hown8 (by omega)
    subst hv8
    generalize w7.alloc (.cells #[.string ⟨#[49]⟩] 9) = wA at *
    have hn7 : ∀ b, b < w7.heap.size → some b ≠ (Value.slice (some ⟨w7.heap.size, 0, none⟩) 1 1).ownBlock := fun b hb e => by simp [Value.ownBlock] at e; omega
    have hS8 : Blk w8 b7 [.int .i64 (n : Int), .slice (some ⟨gE, 0, none⟩) 11 cE, .slice (some ⟨gW, 0, none⟩) 2 cW] 29 := by
      have := hgr8.block b7 HSA.out.lt (hn7 b7 hb7l)
      unfold Blk
      rw [this]
      exact HSA.out
    have hR8 : Blk w8 b4 [.int .i64 0, .slice none 0 0, .slice none 0 0] 29 := by
      have := hgr8.block b4 HRA.out.lt (hn7 b4 hb4l)
      unfold Blk
      rw [this]
      exact HRA.out
    have oW8 := HOW.out.kept hgr8 (.inr (fun e => hn7 gW hWl7 (by simpa [Value.ownBlock] using e)))
    have hB8 := HBA.out.trans ((Below.refl B wA).grown hgr8 (by have := HRA.out.lt; omega) (fun k hk => by simp [Value.ownBlock] at hk; omega))
    have p1 : w8.cell? ⟨b7, 1, none⟩ = some (.slice (some ⟨gE, 0, none⟩) 11 cE) := by rw [hS8.cell 1]; rfl
    have pf := hS8.free 1
    have HS9 := hide (hS8.set 1 (.slice (some ⟨g8, 0, none⟩) 11 c8))
    have HR9 := hide (hR8.other (p := ⟨b7, 1, none⟩) h74 (.slice (some ⟨g8, 0, none⟩) 11 c8))
    have h87 : g8 ≠ b7 := by omega
    have TE9 : Hid (TextsAt (w8.setCell ⟨b7, 1, none⟩ (.slice (some ⟨g8, 0, none⟩) 11 c8)) (.slice (some ⟨g8, 0, none⟩) 11 c8) ([49] :: E.drop 1)) := by
      have hEl := HEL.out
      have hl11 : ([49] :: E.drop 1).length = 11 := by rw [List.length_cons, List.length_drop, hEl]
      refine TextsAt.of_own (B := w7.heap.size) (e := 9) ?_
      have e : cellsS ([49] :: E.drop 1) = .string ⟨#[49]⟩ :: cellsS E.tail := by simp [cellsS]
      rw [hl11, e]
      exact ownsRow_setCell_other hown8 (a := ⟨b7, 1, none⟩) (fun e => h87 (by simpa [Value.ownBlock] using e)) _
    have TW9 := hide (TextsAt.of_own (l := W) (by rw [HWL.out]; exact ownsRow_setCell_other oW8 (a := ⟨b7, 1, none⟩) (fun e => hW7 (by simpa [Value.ownBlock] using e)) (.slice (some ⟨g8, 0, none⟩) 11 c8)))
    have HB9 := hide (hB8.setCell (p := ⟨b7, 1, none⟩) h7B (.slice (some ⟨g8, 0, none⟩) 11 c8))
    have HBD2 : Hid (([49] :: E.drop 1).length ≤ 11 ∧ W.length ≤ 11 ∧ (∀ x ∈ [49] :: E.drop 1, x.length ≤ 8) ∧ ∀ x ∈ W, x.length ≤ 8) := ⟨by rw [List.length_cons, List.length_drop, HEL.out]; omega, HBD.out.2.1, fun x hx => by
      rcases List.mem_cons.1 hx with rfl | h
      · decide
      · exact HBD.out.2.2.1 x (List.mem_of_mem_drop h), HBD.out.2.2.2⟩
    clear hown8 hgr8 hS8 hR8 oW8 hB8 hn7 HSA HRA HOW HBA HOL HCS HL10
    go_wp2_with fail
    clear p1 pf
    generalize w8.setCell ⟨b7, 1, none⟩ (.slice (some ⟨g8, 0, none⟩) 11 c8) = w9 at *
    have l7x := HS9.out.lt
    have n0 : ∀ p : Near w9.heap.size w9, p.w.cell? ⟨b7, 0, none⟩ = some (.int .i64 (n : Int)) := fun p => by rw [(HS9.out.below p.h l7x).cell 0]; rfl
    have n1 : ∀ p : Near w9.heap.size w9, p.w.cell? ⟨b7, 1, none⟩ = some (.slice (some ⟨g8, 0, none⟩) 11 c8) := fun p => by rw [(HS9.out.below p.h l7x).cell 1]; rfl
    have n2 : ∀ p : Near w9.heap.size w9, p.w.cell? ⟨b7, 2, none⟩ = some (.slice (some ⟨gW, 0, none⟩) 2 cW) := fun p => by rw [(HS9.out.below p.h l7x).cell 2]; rfl
    have hnn := Near.some w9.heap.size w9
    refine wp_region_cut_seq 5 6 (fun w' => ∃ p : Near w9.heap.size w9, w' = p.w) ⟨⟨_, (Below.refl _ _).drew⟩, rfl⟩ (by kernel_rfl) (by kernel_rfl) (by kernel_rfl) (by kernel_rfl) ?_
    simp only [List.take_succ_cons, List.take_zero, List.drop_succ_cons, List.drop_zero]
    repeat (go_big_quiet_step (fail))
    refine wpQuiet_nil ?_
    rintro wz ⟨pq, rfl⟩
    have hqb := pq.h
    obtain ⟨wz, hq⟩ := pq
    simp only at hqb ⊢
    have ZR := hide (HR9.out.below hqb HR9.out.lt)
    have ZE := hide (TE9.out.below hqb (Nat.le_refl _))
    have ZW := hide (TW9.out.below hqb (Nat.le_refl _))
    have ZB := hide (HB9.out.trans (hqb.mono (by have := HR9.out.lt; omega)))
    clear hq hqb n0 n1 n2 hnn
    have z0 : wz.cell? ⟨b4, 0, none⟩ = some (.int .i64 0) := by rw [ZR.out.cell 0]; rfl
    have z1 : wz.cell? ⟨b4, 1, none⟩ = some (.slice none 0 0) := by rw [ZR.out.cell 1]; rfl
    have z2 : wz.cell? ⟨b4, 2, none⟩ = some (.slice none 0 0) := by rw [ZR.out.cell 2]; rfl
    have f0 := ZR.out.free 0
    have f1 := ZR.out.free 1
    have f2 := ZR.out.free 2
    go_wp2_with fail
    have hRF := ((ZR.out.set 0 (.int .i64 (n : Int))).set 1 (.slice (some ⟨g8, 0, none⟩) 11 c8)).set 2 (.slice (some ⟨gW, 0, none⟩) 2 cW)
    have hgF := Cu.grown_trans (Cu.grown_trans (Cu.grown_set wz b4 0 (.int .i64 (n : Int))) (Cu.grown_set _ b4 1 (.slice (some ⟨g8, 0, none⟩) 11 c8))) (Cu.grown_set _ b4 2 (.slice (some ⟨gW, 0, none⟩) 2 cW))
    have hBF := ((ZB.out.setCell (p := ⟨b4, 0, none⟩) hB4 (.int .i64 (n : Int))).setCell (p := ⟨b4, 1, none⟩) hB4 (.slice (some ⟨g8, 0, none⟩) 11 c8)).setCell (p := ⟨b4, 2, none⟩) hB4 (.slice (some ⟨gW, 0, none⟩) 2 cW)
    have hTE := TextsAt.grownB ZE.out hgF (sig_nostring ZR.out)
    have hTW := TextsAt.grownB ZW.out hgF (sig_nostring ZR.out)
    clear z0 z1 z2 f0 f1 f2 hgF ZE ZW ZB ZR
    generalize ((wz.setCell ⟨b4, 0, none⟩ (.int .i64 (n : Int))).setCell ⟨b4, 1, none⟩ (.slice (some ⟨g8, 0, none⟩) 11 c8)).setCell ⟨b4, 2, none⟩ (.slice (some ⟨gW, 0, none⟩) 2 cW) = wF at *
    have x0 : wF.cell? ⟨b4, 0, none⟩ = some (.int .i64 (n : Int)) := by rw [hRF.cell 0]; rfl
    have x1 : wF.cell? ⟨b4, 1, none⟩ = some (.slice (some ⟨g8, 0, none⟩) 11 c8) := by rw [hRF.cell 1]; rfl
    have x2 : wF.cell? ⟨b4, 2, none⟩ = some (.slice (some ⟨gW, 0, none⟩) 2 cW) := by rw [hRF.cell 2]; rfl
    refine bodyPost_ret (v := .tuple #[.int .i64 sd, .string ⟨(t).toArray⟩, .agg #[.int .i64 (n : Int), (.slice (some ⟨g8, 0, none⟩) 11 c8), (.slice (some ⟨gW, 0, none⟩) 2 cW)]]) (by simp [results, Tryd.results69, go_sem, x0, x1, x2]) rfl ?_
    obtain ⟨d1, d2, d3, d4⟩ := HBD2.out
    exact ⟨sd, t, _, (n : Int), ([49] :: E.drop 1), W, by omega, rfl, ⟨⟨_, _, rfl, hTE, hTW⟩, by omega, by omega, fun x hx => Nat.le_trans (d3 x hx) (by omega), fun x hx => Nat.le_trans (d4 x hx) (by omega)⟩, hBF⟩
  · have x0 : ((x : Int) == 0) = false := by simp; omega
    have x1 : ((x : Int) == 1) = false := by simp; omega
    have x2 : ((x : Int) == 2) = false := by simp; omega
    have x3 : ((x : Int) == 3) = false := by simp; omega
    have x4 : ((x : Int) == 4) = false := by simp; omega
    go_wp2_with fail
    clear x0 x1 x2 x3 x4
    have l7x := HS7.out.lt
    have n0 : ∀ p : Near w7.heap.size w7, p.w.cell? ⟨b7, 0, none⟩ = some (.int .i64 (n : Int)) := fun p => by rw [(HS7.out.below p.h l7x).cell 0]; rfl
    have n1 : ∀ p : Near w7.heap.size w7, p.w.cell? ⟨b7, 1, none⟩ = some (.slice (some ⟨gE, 0, none⟩) 11 cE) := fun p => by rw [(HS7.out.below p.h l7x).cell 1]; rfl
    have n2 : ∀ p : Near w7.heap.size w7, p.w.cell? ⟨b7, 2, none⟩ = some (.slice (some ⟨gW, 0, none⟩) 2 cW) := fun p => by rw [(HS7.out.below p.h l7x).cell 2]; rfl
    have hnn := Near.some w7.heap.size w7
    refine wp_region_cut_seq 5 6 (fun w' => ∃ p : Near w7.heap.size w7, w' = p.w) ⟨⟨_, (Below.refl _ _).drew⟩, rfl⟩ (by kernel_rfl) (by kernel_rfl) (by kernel_rfl) (by kernel_rfl) ?_
    simp only [List.take_succ_cons, List.take_zero, List.drop_succ_cons, List.drop_zero]
    repeat (go_big_quiet_step (fail))
    refine wpQuiet_nil ?_
    rintro wz ⟨pq, rfl⟩
    have hqb := pq.h
    obtain ⟨wz, hq⟩ := pq
    simp only at hqb ⊢
    have ZR := hide (HR7.out.below hqb HR7.out.lt)
    have ZE := hide (TE7.out.below hqb (Nat.le_refl _))
    have ZW := hide (TW7.out.below hqb (Nat.le_refl _))
    have ZB := hide (HB7.out.trans (hqb.mono (by have := HR7.out.lt; omega)))
    clear hq hqb n0 n1 n2 hnn
    have z0 : wz.cell? ⟨b4, 0, none⟩ = some (.int .i64 0) := by rw [ZR.out.cell 0]; rfl
    have z1 : wz.cell? ⟨b4, 1, none⟩ = some (.slice none 0 0) := by rw [ZR.out.cell 1]; rfl
    have z2 : wz.cell? ⟨b4, 2, none⟩ = some (.slice none 0 0) := by rw [ZR.out.cell 2]; rfl
    have f0 := ZR.out.free 0
    have f1 := ZR.out.free 1
    have f2 := ZR.out.free 2
    go_wp2_with fail
    have hRF := ((ZR.out.set 0 (.int .i64 (n : Int))).set 1 (.slice (some ⟨gE, 0, none⟩) 11 cE)).set 2 (.slice (some ⟨gW, 0, none⟩) 2 cW)
    have hgF := Cu.grown_trans (Cu.grown_trans (Cu.grown_set wz b4 0 (.int .i64 (n : Int))) (Cu.grown_set _ b4 1 (.slice (some ⟨gE, 0, none⟩) 11 cE))) (Cu.grown_set _ b4 2 (.slice (some ⟨gW, 0, none⟩) 2 cW))
    have hBF := ((ZB.out.setCell (p := ⟨b4, 0, none⟩) hB4 (.int .i64 (n : Int))).setCell (p := ⟨b4, 1, none⟩) hB4 (.slice (some ⟨gE, 0, none⟩) 11 cE)).setCell (p := ⟨b4, 2, none⟩) hB4 (.slice (some ⟨gW, 0, none⟩) 2 cW)
    have hTE := TextsAt.grownB ZE.out hgF (sig_nostring ZR.out)
    have hTW := TextsAt.grownB ZW.out hgF (sig_nostring ZR.out)
    clear z0 z1 z2 f0 f1 f2 hgF ZE ZW ZB ZR
    generalize ((wz.setCell ⟨b4, 0, none⟩ (.int .i64 (n : Int))).setCell ⟨b4, 1, none⟩ (.slice (some ⟨gE, 0, none⟩) 11 cE)).setCell ⟨b4, 2, none⟩ (.slice (some ⟨gW, 0, none⟩) 2 cW) = wF at *
    have x0 : wF.cell? ⟨b4, 0, none⟩ = some (.int .i64 (n : Int)) := by rw [hRF.cell 0]; rfl
    have x1 : wF.cell? ⟨b4, 1, none⟩ = some (.slice (some ⟨gE, 0, none⟩) 11 cE) := by rw [hRF.cell 1]; rfl
    have x2 : wF.cell? ⟨b4, 2, none⟩ = some (.slice (some ⟨gW, 0, none⟩) 2 cW) := by rw [hRF.cell 2]; rfl
    refine bodyPost_ret (v := .tuple #[.int .i64 sd, .string ⟨(t).toArray⟩, .agg #[.int .i64 (n : Int), (.slice (some ⟨gE, 0, none⟩) 11 cE), (.slice (some ⟨gW, 0, none⟩) 2 cW)]]) (by simp [results, Tryd.results69, go_sem, x0, x1, x2]) rfl ?_
    obtain ⟨d1, d2, d3, d4⟩ := HBD.out
    exact ⟨sd, t, _, (n : Int), E, W, by omega, rfl, ⟨⟨_, _, rfl, hTE, hTW⟩, by omega, by omega, fun x hx => Nat.le_trans (d3 x hx) (by omega), fun x hx => Nat.le_trans (d4 x hx) (by omega)⟩, hBF⟩
end Go.Proofs.YtmjpdccfdaajmaaDoor.P4
