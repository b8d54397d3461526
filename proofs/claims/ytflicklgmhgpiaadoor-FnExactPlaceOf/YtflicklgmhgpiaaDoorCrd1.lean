/- The contract of the specification's CredOk; condition: numbers are ints. -/
import Derived.Test.YtflicklgmhgpiaaDoorCrdR
import Derived.Test.YtflicklgmhgpiaaDoorBlk
namespace Go.Proofs.YtflicklgmhgpiaaDoor.P5
set_option maxRecDepth 8000
open Go.RowKit P1

set_option maxHeartbeats 1000000 in
theorem specCredOk_calls (c : Cr) (w : World) :
    Calls Tryd.prog 16 #[credV c] w fun e w' => e = .returned (.bool (decide (credOk c))) ∧ Below w.heap.size w w' := by
  obtain ⟨k, ow, on, wh, aw, an, bw, bn, u, n⟩ := c
  simp only [credV]
  have HB : Hid (Below w.heap.size w (w.alloc (.cells #[.int .i64 k, .int .i64 ow, .int .i64 on, .int .i64 wh, .int .i64 aw, .int .i64 an, .int .i64 bw, .int .i64 bn, .int .i64 u, .int .i64 n] 27))) := (Below.refl _ _).alloc (Nat.le_refl _) _
  have HA := hide (Blk.new w #[.int .i64 k, .int .i64 ow, .int .i64 on, .int .i64 wh, .int .i64 aw, .int .i64 an, .int .i64 bw, .int .i64 bn, .int .i64 u, .int .i64 n] 27)
  obtain ⟨r, Er⟩ : ∃ r, Hid (r = decide (credOk ⟨k, ow, on, wh, aw, an, bw, bn, u, n⟩)) := ⟨_, rfl⟩
  rw [← Er.out]
  have HRO := hide (fun wx => specRole_calls ow on wx)
  by_cases h1 : roleOk ow on
  · simp only [decide_eq_true h1] at HRO
    by_cases h2 : 1 ≤ u ∧ u ≤ 9999
    · have d2 := decide_eq_true h2
      by_cases h3 : 0 ≤ n ∧ n ≤ 99
      · have d3 := decide_eq_true h3
        have hr : r = decide (kindOk ⟨k, ow, on, wh, aw, an, bw, bn, u, n⟩) := by
          rw [Er.out]
          by_cases hk : kindOk ⟨k, ow, on, wh, aw, an, bw, bn, u, n⟩
          · rw [decide_eq_true hk, decide_eq_true (show credOk _ from ⟨⟨h1, h2, h3⟩, hk⟩)]
          · rw [decide_eq_false hk, decide_eq_false (fun h => hk h.2)]
        have HR := hide hr
        clear hr Er h1 h2 h3
        go_enter Tryd.func16, Tryd.ntmps16
        go_wp2_with fail
        obtain ⟨b1, hb1⟩ : ∃ b, b = w.heap.size := ⟨_, rfl⟩
        rw [← hb1] at HA ⊢
        clear hb1
        generalize w.alloc (.cells #[.int .i64 k, .int .i64 ow, .int .i64 on, .int .i64 wh, .int .i64 aw, .int .i64 an, .int .i64 bw, .int .i64 bn, .int .i64 u, .int .i64 n] 27) = w1 at *
        refine (HRO.out _).mono ?_
        rintro e w2 ⟨rfl, hb2⟩
        have hA2 := HA.out.below hb2 HA.out.lt
        have HB2 := hide (HB.out.trans (hb2.mono HB.out.size))
        have HA2 := hide hA2
        have c0 : w2.cell? ⟨b1, 0, none⟩ = some (.int .i64 k) := by rw [hA2.cell 0]; rfl
        have c3 : w2.cell? ⟨b1, 3, none⟩ = some (.int .i64 wh) := by rw [hA2.cell 3]; rfl
        have c4 : w2.cell? ⟨b1, 4, none⟩ = some (.int .i64 aw) := by rw [hA2.cell 4]; rfl
        have c5 : w2.cell? ⟨b1, 5, none⟩ = some (.int .i64 an) := by rw [hA2.cell 5]; rfl
        have c6 : w2.cell? ⟨b1, 6, none⟩ = some (.int .i64 bw) := by rw [hA2.cell 6]; rfl
        have c7 : w2.cell? ⟨b1, 7, none⟩ = some (.int .i64 bn) := by rw [hA2.cell 7]; rfl
        have c8 : w2.cell? ⟨b1, 8, none⟩ = some (.int .i64 u) := by rw [hA2.cell 8]; rfl
        have c9 : w2.cell? ⟨b1, 9, none⟩ = some (.int .i64 n) := by rw [hA2.cell 9]; rfl
        have hl1 := hA2.lt
        clear hb2 hA2 HA HB HRO
        go_wp2_with fail
        refine (l01In_calls _ _ _ _).mono ?_
        rintro e w3 ⟨rfl, rfl⟩
        rw [d2]
        go_wp2_with fail
        refine (l01In_calls _ _ _ _).mono ?_
        rintro e w3 ⟨rfl, rfl⟩
        rw [d3]
        clear d2 d3
        have HB4 := hide (HB2.out.alloc HB2.out.size (.cells #[.int .i64 0, .int .i64 0] 25))
        have HA4 := hide (HA2.out.below ((Below.refl w3.heap.size w3).alloc (Nat.le_refl _) (.cells #[.int .i64 0, .int .i64 0] 25)) HA2.out.lt)
        have HN4 := hide (Blk.new w3 #[.int .i64 0, .int .i64 0] 25)
        by_cases k1 : k = 1
        · subst k1
          go_wp2_with fail
          refine (l01In_calls _ _ _ _).mono ?_
          rintro e w4 ⟨rfl, rfl⟩
          by_cases h4 : 0 ≤ wh ∧ wh ≤ 5
          · rw [decide_eq_true h4]
            go_wp2_with fail
            all_goals go_ret
            all_goals first
              | exact ⟨by rw [show r = false from by rw [HR.out]; exact decide_eq_false (by unfold kindOk roleOk; dsimp only; omega)]; rfl, HB4.out⟩
              | exact ⟨by rw [show r = true from by rw [HR.out]; exact decide_eq_true (by unfold kindOk roleOk; dsimp only; omega)]; rfl, HB4.out⟩
          · rw [decide_eq_false h4]
            go_wp2_with fail
            all_goals go_ret
            all_goals first
              | exact ⟨by rw [show r = false from by rw [HR.out]; exact decide_eq_false (by unfold kindOk roleOk; dsimp only; omega)]; rfl, HB4.out⟩
              | exact ⟨by rw [show r = true from by rw [HR.out]; exact decide_eq_true (by unfold kindOk roleOk; dsimp only; omega)]; rfl, HB4.out⟩
        · by_cases k2 : k = 2
          · subst k2
            by_cases h4 : wh = 0
            · subst h4
              go_wp2_with fail
              obtain ⟨b2, hb2⟩ : ∃ b, b = w3.heap.size := ⟨_, rfl⟩
              rw [← hb2] at HN4 ⊢
              clear hb2
              generalize w3.alloc (.cells #[.int .i64 0, .int .i64 0] 25) = w4 at *
              clear c0 c3 c4 c5 c6 c7 c8 c9 hl1
              refine (specRole_calls aw an _).mono ?_
              rintro e w5 ⟨rfl, hb5⟩
              have HB5 := hide (HB4.out.trans (hb5.mono HB4.out.size))
              have HA5 := hide (HA4.out.below hb5 HA4.out.lt)
              have HN5 := hide (HN4.out.below hb5 HN4.out.lt)
              have c6 : w5.cell? ⟨b1, 6, none⟩ = some (.int .i64 bw) := by rw [HA5.out.cell 6]; rfl
              have c7 : w5.cell? ⟨b1, 7, none⟩ = some (.int .i64 bn) := by rw [HA5.out.cell 7]; rfl
              have e0 : w5.cell? ⟨b2, 0, none⟩ = some (.int .i64 0) := by rw [HN5.out.cell 0]; rfl
              have e1 : w5.cell? ⟨b2, 1, none⟩ = some (.int .i64 0) := by rw [HN5.out.cell 1]; rfl
              have hl5 := HA5.out.lt
              have hm5 := HN5.out.lt
              clear hb5
              by_cases h5 : roleOk aw an
              · rw [decide_eq_true h5]
                unfold roleOk at h5
                go_wp2_with fail
                all_goals go_ret
                all_goals first
                  | exact ⟨by rw [show r = false from by rw [HR.out]; exact decide_eq_false (by unfold kindOk roleOk; dsimp only; omega)]; rfl, HB5.out⟩
                  | exact ⟨by rw [show r = true from by rw [HR.out]; exact decide_eq_true (by unfold kindOk roleOk; dsimp only; omega)]; rfl, HB5.out⟩
              · rw [decide_eq_false h5]
                unfold roleOk at h5
                go_wp2_with fail
                all_goals go_ret
                all_goals first
                  | exact ⟨by rw [show r = false from by rw [HR.out]; exact decide_eq_false (by unfold kindOk roleOk; dsimp only; omega)]; rfl, HB5.out⟩
                  | exact ⟨by rw [show r = true from by rw [HR.out]; exact decide_eq_true (by unfold kindOk roleOk; dsimp only; omega)]; rfl, HB5.out⟩
            · go_wp2_with fail
              all_goals go_ret
              all_goals first
                | exact ⟨by rw [show r = false from by rw [HR.out]; exact decide_eq_false (by unfold kindOk roleOk; dsimp only; omega)]; rfl, HB4.out⟩
                | exact ⟨by rw [show r = true from by rw [HR.out]; exact decide_eq_true (by unfold kindOk roleOk; dsimp only; omega)]; rfl, HB4.out⟩
          · by_cases k3 : k = 3
            · subst k3
              by_cases h4 : wh = 0
              · subst h4
                go_wp2_with fail
                obtain ⟨b2, hb2⟩ : ∃ b, b = w3.heap.size := ⟨_, rfl⟩
                rw [← hb2] at HN4 ⊢
                clear hb2
                generalize w3.alloc (.cells #[.int .i64 0, .int .i64 0] 25) = w4 at *
                clear c0 c3 c4 c5 c6 c7 c8 c9 hl1
                refine (specRole_calls aw an _).mono ?_
                rintro e w5 ⟨rfl, hb5⟩
                have HB5 := hide (HB4.out.trans (hb5.mono HB4.out.size))
                have HA5 := hide (HA4.out.below hb5 HA4.out.lt)
                have HN5 := hide (HN4.out.below hb5 HN4.out.lt)
                have c6 : w5.cell? ⟨b1, 6, none⟩ = some (.int .i64 bw) := by rw [HA5.out.cell 6]; rfl
                have c7 : w5.cell? ⟨b1, 7, none⟩ = some (.int .i64 bn) := by rw [HA5.out.cell 7]; rfl
                have e0 : w5.cell? ⟨b2, 0, none⟩ = some (.int .i64 0) := by rw [HN5.out.cell 0]; rfl
                have e1 : w5.cell? ⟨b2, 1, none⟩ = some (.int .i64 0) := by rw [HN5.out.cell 1]; rfl
                have hl5 := HA5.out.lt
                have hm5 := HN5.out.lt
                clear hb5
                by_cases h5 : roleOk aw an
                · rw [decide_eq_true h5]
                  unfold roleOk at h5
                  go_wp2_with fail
                  clear c6 c7 e0 e1 hl5 hm5
                  refine (specRole_calls bw bn _).mono ?_
                  rintro e w6 ⟨rfl, hb6⟩
                  have HB6 := hide (HB5.out.trans (hb6.mono HB5.out.size))
                  have HA6 := hide (HA5.out.below hb6 HA5.out.lt)
                  have HN6 := hide (HN5.out.below hb6 HN5.out.lt)
                  have c6 : w6.cell? ⟨b1, 6, none⟩ = some (.int .i64 bw) := by rw [HA6.out.cell 6]; rfl
                  have c7 : w6.cell? ⟨b1, 7, none⟩ = some (.int .i64 bn) := by rw [HA6.out.cell 7]; rfl
                  have e0 : w6.cell? ⟨b2, 0, none⟩ = some (.int .i64 0) := by rw [HN6.out.cell 0]; rfl
                  have e1 : w6.cell? ⟨b2, 1, none⟩ = some (.int .i64 0) := by rw [HN6.out.cell 1]; rfl
                  have hl6 := HA6.out.lt
                  have hm6 := HN6.out.lt
                  clear hb6
                  by_cases h6 : roleOk bw bn
                  · rw [decide_eq_true h6]
                    unfold roleOk at h6
                    go_wp2_with fail
                    all_goals go_ret
                    all_goals first
                      | exact ⟨by rw [show r = false from by rw [HR.out]; exact decide_eq_false (by unfold kindOk roleOk; dsimp only; omega)]; rfl, HB6.out⟩
                      | exact ⟨by rw [show r = true from by rw [HR.out]; exact decide_eq_true (by unfold kindOk roleOk; dsimp only; omega)]; rfl, HB6.out⟩
                      | exact ⟨by rw [show r = (bw == 0) from by
                rw [HR.out]
                by_cases h7 : bw = 0
                · rw [decide_eq_true (by unfold kindOk roleOk; dsimp only; omega), h7]; rfl
                · rw [decide_eq_false (by unfold kindOk roleOk; dsimp only; omega), beq_false_of_ne h7]]; rfl, HB6.out⟩
                  · rw [decide_eq_false h6]
                    unfold roleOk at h6
                    go_wp2_with fail
                    all_goals go_ret
                    all_goals first
                      | exact ⟨by rw [show r = false from by rw [HR.out]; exact decide_eq_false (by unfold kindOk roleOk; dsimp only; omega)]; rfl, HB6.out⟩
                      | exact ⟨by rw [show r = true from by rw [HR.out]; exact decide_eq_true (by unfold kindOk roleOk; dsimp only; omega)]; rfl, HB6.out⟩
                · rw [decide_eq_false h5]
                  unfold roleOk at h5
                  go_wp2_with fail
                  all_goals go_ret
                  all_goals first
                    | exact ⟨by rw [show r = false from by rw [HR.out]; exact decide_eq_false (by unfold kindOk roleOk; dsimp only; omega)]; rfl, HB5.out⟩
                    | exact ⟨by rw [show r = true from by rw [HR.out]; exact decide_eq_true (by unfold kindOk roleOk; dsimp only; omega)]; rfl, HB5.out⟩
              · go_wp2_with fail
                all_goals go_ret
                all_goals first
                  | exact ⟨by rw [show r = false from by rw [HR.out]; exact decide_eq_false (by unfold kindOk roleOk; dsimp only; omega)]; rfl, HB4.out⟩
                  | exact ⟨by rw [show r = true from by rw [HR.out]; exact decide_eq_true (by unfold kindOk roleOk; dsimp only; omega)]; rfl, HB4.out⟩
            · by_cases k4 : k = 4
              · subst k4
                by_cases h4 : wh = 0
                · subst h4
                  go_wp2_with fail
                  obtain ⟨b2, hb2⟩ : ∃ b, b = w3.heap.size := ⟨_, rfl⟩
                  rw [← hb2] at HN4 ⊢
                  clear hb2
                  generalize w3.alloc (.cells #[.int .i64 0, .int .i64 0] 25) = w4 at *
                  clear c0 c3 c4 c5 c6 c7 c8 c9 hl1
                  refine (specRole_calls aw an _).mono ?_
                  rintro e w5 ⟨rfl, hb5⟩
                  have HB5 := hide (HB4.out.trans (hb5.mono HB4.out.size))
                  have HA5 := hide (HA4.out.below hb5 HA4.out.lt)
                  have HN5 := hide (HN4.out.below hb5 HN4.out.lt)
                  have c6 : w5.cell? ⟨b1, 6, none⟩ = some (.int .i64 bw) := by rw [HA5.out.cell 6]; rfl
                  have c7 : w5.cell? ⟨b1, 7, none⟩ = some (.int .i64 bn) := by rw [HA5.out.cell 7]; rfl
                  have e0 : w5.cell? ⟨b2, 0, none⟩ = some (.int .i64 0) := by rw [HN5.out.cell 0]; rfl
                  have e1 : w5.cell? ⟨b2, 1, none⟩ = some (.int .i64 0) := by rw [HN5.out.cell 1]; rfl
                  have hl5 := HA5.out.lt
                  have hm5 := HN5.out.lt
                  clear hb5
                  by_cases h5 : roleOk aw an
                  · rw [decide_eq_true h5]
                    unfold roleOk at h5
                    go_wp2_with fail
                    clear c6 c7 e0 e1 hl5 hm5
                    refine (specRole_calls bw bn _).mono ?_
                    rintro e w6 ⟨rfl, hb6⟩
                    have HB6 := hide (HB5.out.trans (hb6.mono HB5.out.size))
                    have HA6 := hide (HA5.out.below hb6 HA5.out.lt)
                    have HN6 := hide (HN5.out.below hb6 HN5.out.lt)
                    have c6 : w6.cell? ⟨b1, 6, none⟩ = some (.int .i64 bw) := by rw [HA6.out.cell 6]; rfl
                    have c7 : w6.cell? ⟨b1, 7, none⟩ = some (.int .i64 bn) := by rw [HA6.out.cell 7]; rfl
                    have e0 : w6.cell? ⟨b2, 0, none⟩ = some (.int .i64 0) := by rw [HN6.out.cell 0]; rfl
                    have e1 : w6.cell? ⟨b2, 1, none⟩ = some (.int .i64 0) := by rw [HN6.out.cell 1]; rfl
                    have hl6 := HA6.out.lt
                    have hm6 := HN6.out.lt
                    clear hb6
                    by_cases h6 : roleOk bw bn
                    · rw [decide_eq_true h6]
                      unfold roleOk at h6
                      go_wp2_with fail
                      all_goals go_ret
                      all_goals first
                        | exact ⟨by rw [show r = false from by rw [HR.out]; exact decide_eq_false (by unfold kindOk roleOk; dsimp only; omega)]; rfl, HB6.out⟩
                        | exact ⟨by rw [show r = true from by rw [HR.out]; exact decide_eq_true (by unfold kindOk roleOk; dsimp only; omega)]; rfl, HB6.out⟩
                    · rw [decide_eq_false h6]
                      unfold roleOk at h6
                      go_wp2_with fail
                      all_goals go_ret
                      all_goals first
                        | exact ⟨by rw [show r = false from by rw [HR.out]; exact decide_eq_false (by unfold kindOk roleOk; dsimp only; omega)]; rfl, HB6.out⟩
                        | exact ⟨by rw [show r = true from by rw [HR.out]; exact decide_eq_true (by unfold kindOk roleOk; dsimp only; omega)]; rfl, HB6.out⟩
                  · rw [decide_eq_false h5]
                    unfold roleOk at h5
                    go_wp2_with fail
                    all_goals go_ret
                    all_goals first
                      | exact ⟨by rw [show r = false from by rw [HR.out]; exact decide_eq_false (by unfold kindOk roleOk; dsimp only; omega)]; rfl, HB5.out⟩
                      | exact ⟨by rw [show r = true from by rw [HR.out]; exact decide_eq_true (by unfold kindOk roleOk; dsimp only; omega)]; rfl, HB5.out⟩
                · go_wp2_with fail
                  all_goals go_ret
                  all_goals first
                    | exact ⟨by rw [show r = false from by rw [HR.out]; exact decide_eq_false (by unfold kindOk roleOk; dsimp only; omega)]; rfl, HB4.out⟩
                    | exact ⟨by rw [show r = true from by rw [HR.out]; exact decide_eq_true (by unfold kindOk roleOk; dsimp only; omega)]; rfl, HB4.out⟩
              · go_wp2_with fail
                all_goals go_ret
                all_goals first
                  | exact ⟨by rw [show r = false from by rw [HR.out]; exact decide_eq_false (by unfold kindOk roleOk; dsimp only; omega)]; rfl, HB4.out⟩
                  | exact ⟨by rw [show r = true from by rw [HR.out]; exact decide_eq_true (by unfold kindOk roleOk; dsimp only; omega)]; rfl, HB4.out⟩
      · have d3 := decide_eq_false h3
        have HR : Hid (r = false) := by
          show r = false
          rw [Er.out]
          exact decide_eq_false (fun h => h3 h.1.2.2)
        clear Er h1 h2 h3
        go_enter Tryd.func16, Tryd.ntmps16
        go_wp2_with fail
        obtain ⟨b1, hb1⟩ : ∃ b, b = w.heap.size := ⟨_, rfl⟩
        rw [← hb1] at HA ⊢
        clear hb1
        generalize w.alloc (.cells #[.int .i64 k, .int .i64 ow, .int .i64 on, .int .i64 wh, .int .i64 aw, .int .i64 an, .int .i64 bw, .int .i64 bn, .int .i64 u, .int .i64 n] 27) = w1 at *
        refine (HRO.out _).mono ?_
        rintro e w2 ⟨rfl, hb2⟩
        have hA2 := HA.out.below hb2 HA.out.lt
        have HB2 := hide (HB.out.trans (hb2.mono HB.out.size))
        have HA2 := hide hA2
        have c0 : w2.cell? ⟨b1, 0, none⟩ = some (.int .i64 k) := by rw [hA2.cell 0]; rfl
        have c3 : w2.cell? ⟨b1, 3, none⟩ = some (.int .i64 wh) := by rw [hA2.cell 3]; rfl
        have c4 : w2.cell? ⟨b1, 4, none⟩ = some (.int .i64 aw) := by rw [hA2.cell 4]; rfl
        have c5 : w2.cell? ⟨b1, 5, none⟩ = some (.int .i64 an) := by rw [hA2.cell 5]; rfl
        have c6 : w2.cell? ⟨b1, 6, none⟩ = some (.int .i64 bw) := by rw [hA2.cell 6]; rfl
        have c7 : w2.cell? ⟨b1, 7, none⟩ = some (.int .i64 bn) := by rw [hA2.cell 7]; rfl
        have c8 : w2.cell? ⟨b1, 8, none⟩ = some (.int .i64 u) := by rw [hA2.cell 8]; rfl
        have c9 : w2.cell? ⟨b1, 9, none⟩ = some (.int .i64 n) := by rw [hA2.cell 9]; rfl
        have hl1 := hA2.lt
        clear hb2 hA2 HA HB HRO
        go_wp2_with fail
        refine (l01In_calls _ _ _ _).mono ?_
        rintro e w3 ⟨rfl, rfl⟩
        rw [d2]
        go_wp2_with fail
        refine (l01In_calls _ _ _ _).mono ?_
        rintro e w3 ⟨rfl, rfl⟩
        rw [d3]
        clear d2 d3
        go_wp2_with fail
        go_ret
        exact ⟨by rw [HR.out]; rfl, HB2.out⟩
    · have d2 := decide_eq_false h2
      have HR : Hid (r = false) := by
        show r = false
        rw [Er.out]
        exact decide_eq_false (fun h => h2 h.1.2.1)
      clear Er h1 h2
      go_enter Tryd.func16, Tryd.ntmps16
      go_wp2_with fail
      obtain ⟨b1, hb1⟩ : ∃ b, b = w.heap.size := ⟨_, rfl⟩
      rw [← hb1] at HA ⊢
      clear hb1
      generalize w.alloc (.cells #[.int .i64 k, .int .i64 ow, .int .i64 on, .int .i64 wh, .int .i64 aw, .int .i64 an, .int .i64 bw, .int .i64 bn, .int .i64 u, .int .i64 n] 27) = w1 at *
      refine (HRO.out _).mono ?_
      rintro e w2 ⟨rfl, hb2⟩
      have hA2 := HA.out.below hb2 HA.out.lt
      have HB2 := hide (HB.out.trans (hb2.mono HB.out.size))
      have HA2 := hide hA2
      have c0 : w2.cell? ⟨b1, 0, none⟩ = some (.int .i64 k) := by rw [hA2.cell 0]; rfl
      have c3 : w2.cell? ⟨b1, 3, none⟩ = some (.int .i64 wh) := by rw [hA2.cell 3]; rfl
      have c4 : w2.cell? ⟨b1, 4, none⟩ = some (.int .i64 aw) := by rw [hA2.cell 4]; rfl
      have c5 : w2.cell? ⟨b1, 5, none⟩ = some (.int .i64 an) := by rw [hA2.cell 5]; rfl
      have c6 : w2.cell? ⟨b1, 6, none⟩ = some (.int .i64 bw) := by rw [hA2.cell 6]; rfl
      have c7 : w2.cell? ⟨b1, 7, none⟩ = some (.int .i64 bn) := by rw [hA2.cell 7]; rfl
      have c8 : w2.cell? ⟨b1, 8, none⟩ = some (.int .i64 u) := by rw [hA2.cell 8]; rfl
      have c9 : w2.cell? ⟨b1, 9, none⟩ = some (.int .i64 n) := by rw [hA2.cell 9]; rfl
      have hl1 := hA2.lt
      clear hb2 hA2 HA HB HRO
      go_wp2_with fail
      refine (l01In_calls _ _ _ _).mono ?_
      rintro e w3 ⟨rfl, rfl⟩
      rw [d2]
      clear d2
      go_wp2_with fail
      go_ret
      exact ⟨by rw [HR.out]; rfl, HB2.out⟩
  · simp only [decide_eq_false h1] at HRO
    have HR : Hid (r = false) := by
      show r = false
      rw [Er.out]
      exact decide_eq_false (fun h => h1 h.1.1)
    clear Er h1
    go_enter Tryd.func16, Tryd.ntmps16
    go_wp2_with fail
    obtain ⟨b1, hb1⟩ : ∃ b, b = w.heap.size := ⟨_, rfl⟩
    rw [← hb1] at HA ⊢
    clear hb1
    generalize w.alloc (.cells #[.int .i64 k, .int .i64 ow, .int .i64 on, .int .i64 wh, .int .i64 aw, .int .i64 an, .int .i64 bw, .int .i64 bn, .int .i64 u, .int .i64 n] 27) = w1 at *
    refine (HRO.out _).mono ?_
    rintro e w2 ⟨rfl, hb2⟩
    have hA2 := HA.out.below hb2 HA.out.lt
    have HB2 := hide (HB.out.trans (hb2.mono HB.out.size))
    have HA2 := hide hA2
    have c0 : w2.cell? ⟨b1, 0, none⟩ = some (.int .i64 k) := by rw [hA2.cell 0]; rfl
    have c3 : w2.cell? ⟨b1, 3, none⟩ = some (.int .i64 wh) := by rw [hA2.cell 3]; rfl
    have c4 : w2.cell? ⟨b1, 4, none⟩ = some (.int .i64 aw) := by rw [hA2.cell 4]; rfl
    have c5 : w2.cell? ⟨b1, 5, none⟩ = some (.int .i64 an) := by rw [hA2.cell 5]; rfl
    have c6 : w2.cell? ⟨b1, 6, none⟩ = some (.int .i64 bw) := by rw [hA2.cell 6]; rfl
    have c7 : w2.cell? ⟨b1, 7, none⟩ = some (.int .i64 bn) := by rw [hA2.cell 7]; rfl
    have c8 : w2.cell? ⟨b1, 8, none⟩ = some (.int .i64 u) := by rw [hA2.cell 8]; rfl
    have c9 : w2.cell? ⟨b1, 9, none⟩ = some (.int .i64 n) := by rw [hA2.cell 9]; rfl
    have hl1 := hA2.lt
    clear hb2 hA2 HA HB HRO
    go_wp2_with fail
    go_ret
    exact ⟨by rw [HR.out]; rfl, HB2.out⟩
end Go.Proofs.YtflicklgmhgpiaaDoor.P5
