/- The contract of the specification's RoleOk; roles and words as values; condition: numbers are ints.
The contract of the specification's CredOk; condition: numbers are ints.
The contract of the specification's CredText; condition: numbers are ints.
The contracts of the specification's CredLess and of the laws' eqRole and toRole; no condition.
The contract of the laws' toCred; no condition.
The contract of the laws' eqCred; no condition.
The contracts of the program's personOk, RoleOk, partsOk and CredOk; no condition. -/
import Derived.Test.YthafpkpmnhgmaaaZP
import Derived.Test.YthafpkpmnhgmaaaZC
import Derived.Test.YthafpkpmnhgmaaaZA
namespace Go.Proofs.Ythafpkpmnhgmaaa.P5
set_option maxRecDepth 8000
open Go.RowKit P1

/-- A role as a value. -/
abbrev roleV (a b : Int) : Value := .agg #[.int .i64 a, .int .i64 b]

/-- A word as a value. -/
abbrev credV (c : Cr) : Value := .agg #[.int .i64 c.k, .int .i64 c.ow, .int .i64 c.on, .int .i64 c.wh, .int .i64 c.aw, .int .i64 c.an, .int .i64 c.bw, .int .i64 c.bn, .int .i64 c.u, .int .i64 c.n]

/-- Two new blocks. -/
theorem Below.two (w : World) (x y : Obj) : Below w.heap.size w ((w.alloc x).alloc y) := by
  have h1 := (Below.refl w.heap.size w).alloc (Nat.le_refl _) x
  exact h1.alloc h1.size y

set_option maxHeartbeats 400000 in
theorem specRole_calls (a b : Int) (w : World) :
    Calls Try.prog 110 #[roleV a b] w fun e w' => e = .returned (.bool (decide (roleOk a b))) ∧ Below w.heap.size w w' := by
  have HB : Hid (Below w.heap.size w (w.alloc (.cells #[.int .i64 a, .int .i64 b] 34))) := (Below.refl _ _).alloc (Nat.le_refl _) _
  by_cases h1 : 0 ≤ a ∧ a ≤ 5
  · have d1 := decide_eq_true h1
    have HR : Hid (decide (roleOk a b) = decide (0 ≤ b ∧ b ≤ 3)) := by
      show _ = _
      by_cases h2 : 0 ≤ b ∧ b ≤ 3
      · rw [decide_eq_true h2, decide_eq_true (show roleOk a b from ⟨h1, h2⟩)]
      · rw [decide_eq_false h2, decide_eq_false (fun h : roleOk a b => h2 h.2)]
    clear h1
    go_enter Try.func110, Try.ntmps110
    go_wp2_with fail
    refine (l01In_calls _ _ _ _).mono ?_
    rintro e w1 ⟨rfl, rfl⟩
    rw [d1]
    clear d1
    go_wp2_with fail
    refine (l01In_calls _ _ _ _).mono ?_
    rintro e w1 ⟨rfl, rfl⟩
    generalize decide (0 ≤ b ∧ b ≤ 3) = r at *
    go_wp2_with fail
    go_ret
    exact ⟨by rw [HR.out]; rfl, HB.out⟩
  · have d1 := decide_eq_false h1
    have HR : Hid (decide (roleOk a b) = false) := decide_eq_false (fun h => h1 h.1)
    clear h1
    go_enter Try.func110, Try.ntmps110
    go_wp2_with fail
    refine (l01In_calls _ _ _ _).mono ?_
    rintro e w1 ⟨rfl, rfl⟩
    rw [d1]
    clear d1
    go_wp2_with fail
    go_ret
    exact ⟨by rw [HR.out]; rfl, HB.out⟩

end Go.Proofs.Ythafpkpmnhgmaaa.P5
namespace Go.Proofs.Ythafpkpmnhgmaaa.P5
set_option maxRecDepth 8000
open Go.RowKit P1

set_option maxHeartbeats 1000000 in
theorem specCredOk_calls (c : Cr) (w : World) :
    Calls Try.prog 87 #[credV c] w fun e w' => e = .returned (.bool (decide (credOk c))) ∧ Below w.heap.size w w' := by
  obtain ⟨k, ow, on, wh, aw, an, bw, bn, u, n⟩ := c
  simp only [credV]
  have HB : Hid (Below w.heap.size w (w.alloc (.cells #[.int .i64 k, .int .i64 ow, .int .i64 on, .int .i64 wh, .int .i64 aw, .int .i64 an, .int .i64 bw, .int .i64 bn, .int .i64 u, .int .i64 n] 39))) := (Below.refl _ _).alloc (Nat.le_refl _) _
  have HA := hide (Blk.new w #[.int .i64 k, .int .i64 ow, .int .i64 on, .int .i64 wh, .int .i64 aw, .int .i64 an, .int .i64 bw, .int .i64 bn, .int .i64 u, .int .i64 n] 39)
  obtain ⟨r, Er⟩ : ∃ r, Hid (r = decide (credOk ⟨k, ow, on, wh, aw, an, bw, bn, u, n⟩)) := ⟨_, rfl⟩
  rw [← Er.out]
  have HRO := hide (fun wx => specRole_calls ow on wx)
  by_cases h1 : roleOk ow on
  · simp only [decide_eq_true h1] at HRO
    by_cases h2 : 1 ≤ u ∧ u ≤ 9999
    · have d2 := decide_eq_true h2
      by_cases h3 : 0 ≤ n ∧ n ≤ 99
      · have d3 := decide_eq_true h3
        have hr : r = decide (kindOk ⟨k, ow, on, wh, aw, an, bw, bn, u, n⟩) := by
          rw [Er.out]
          by_cases hk : kindOk ⟨k, ow, on, wh, aw, an, bw, bn, u, n⟩
          · rw [decide_eq_true hk, decide_eq_true (show credOk _ from ⟨⟨h1, h2, h3⟩, hk⟩)]
          · rw [decide_eq_false hk, decide_eq_false (fun h => hk h.2)]
        have HR := hide hr
        clear hr Er h1 h2 h3
        go_enter Try.func87, Try.ntmps87
        go_wp2_with fail
        obtain ⟨b1, hb1⟩ : ∃ b, b = w.heap.size := ⟨_, rfl⟩
        rw [← hb1] at HA ⊢
        clear hb1
        generalize w.alloc (.cells #[.int .i64 k, .int .i64 ow, .int .i64 on, .int .i64 wh, .int .i64 aw, .int .i64 an, .int .i64 bw, .int .i64 bn, .int .i64 u, .int .i64 n] 39) = w1 at *
        refine (HRO.out _).mono ?_
        rintro e w2 ⟨rfl, hb2⟩
        have hA2 := HA.out.below hb2 HA.out.lt
        have HB2 := hide (HB.out.trans (hb2.mono HB.out.size))
        have HA2 := hide hA2
        have c0 : w2.cell? ⟨b1, 0, none⟩ = some (.int .i64 k) := by rw [hA2.cell 0]; rfl
        have c3 : w2.cell? ⟨b1, 3, none⟩ = some (.int .i64 wh) := by rw [hA2.cell 3]; rfl
        have c4 : w2.cell? ⟨b1, 4, none⟩ = some (.int .i64 aw) := by rw [hA2.cell 4]; rfl
        have c5 : w2.cell? ⟨b1, 5, none⟩ = some (.int .i64 an) := by rw [hA2.cell 5]; rfl
        have c6 : w2.cell? ⟨b1, 6, none⟩ = some (.int .i64 bw) := by rw [hA2.cell 6]; rfl
        have c7 : w2.cell? ⟨b1, 7, none⟩ = some (.int .i64 bn) := by rw [hA2.cell 7]; rfl
        have c8 : w2.cell? ⟨b1, 8, none⟩ = some (.int .i64 u) := by rw [hA2.cell 8]; rfl
        have c9 : w2.cell? ⟨b1, 9, none⟩ = some (.int .i64 n) := by rw [hA2.cell 9]; rfl
        have hl1 := hA2.lt
        clear hb2 hA2 HA HB HRO
        go_wp2_with fail
        refine (l01In_calls _ _ _ _).mono ?_
        rintro e w3 ⟨rfl, rfl⟩
        rw [d2]
        go_wp2_with fail
        refine (l01In_calls _ _ _ _).mono ?_
        rintro e w3 ⟨rfl, rfl⟩
        rw [d3]
        clear d2 d3
        have HB4 := hide (HB2.out.alloc HB2.out.size (.cells #[.int .i64 0, .int .i64 0] 34))
        have HA4 := hide (HA2.out.below ((Below.refl w3.heap.size w3).alloc (Nat.le_refl _) (.cells #[.int .i64 0, .int .i64 0] 34)) HA2.out.lt)
        have HN4 := hide (Blk.new w3 #[.int .i64 0, .int .i64 0] 34)
        by_cases k1 : k = 1
        · subst k1
          go_wp2_with fail
          refine (l01In_calls _ _ _ _).mono ?_
          rintro e w4 ⟨rfl, rfl⟩
          by_cases h4 : 0 ≤ wh ∧ wh ≤ 5
          · rw [decide_eq_true h4]
            go_wp2_with fail
            all_goals go_ret
            all_goals first
              | exact ⟨by rw [show r = false from by rw [HR.out]; exact decide_eq_false (by unfold kindOk roleOk; dsimp only; omega)]; rfl, HB4.out⟩
              | exact ⟨by rw [show r = true from by rw [HR.out]; exact decide_eq_true (by unfold kindOk roleOk; dsimp only; omega)]; rfl, HB4.out⟩
          · rw [decide_eq_false h4]
            go_wp2_with fail
            all_goals go_ret
            all_goals first
              | exact ⟨by rw [show r = false from by rw [HR.out]; exact decide_eq_false (by unfold kindOk roleOk; dsimp only; omega)]; rfl, HB4.out⟩
              | exact ⟨by rw [show r = true from by rw [HR.out]; exact decide_eq_true (by unfold kindOk roleOk; dsimp only; omega)]; rfl, HB4.out⟩
        · by_cases k2 : k = 2
          · subst k2
            by_cases h4 : wh = 0
            · subst h4
              go_wp2_with fail
              obtain ⟨b2, hb2⟩ : ∃ b, b = w3.heap.size := ⟨_, rfl⟩
              rw [← hb2] at HN4 ⊢
              clear hb2
              generalize w3.alloc (.cells #[.int .i64 0, .int .i64 0] 34) = w4 at *
              clear c0 c3 c4 c5 c6 c7 c8 c9 hl1
              refine (specRole_calls aw an _).mono ?_
              rintro e w5 ⟨rfl, hb5⟩
              have HB5 := hide (HB4.out.trans (hb5.mono HB4.out.size))
              have HA5 := hide (HA4.out.below hb5 HA4.out.lt)
              have HN5 := hide (HN4.out.below hb5 HN4.out.lt)
              have c6 : w5.cell? ⟨b1, 6, none⟩ = some (.int .i64 bw) := by rw [HA5.out.cell 6]; rfl
              have c7 : w5.cell? ⟨b1, 7, none⟩ = some (.int .i64 bn) := by rw [HA5.out.cell 7]; rfl
              have e0 : w5.cell? ⟨b2, 0, none⟩ = some (.int .i64 0) := by rw [HN5.out.cell 0]; rfl
              have e1 : w5.cell? ⟨b2, 1, none⟩ = some (.int .i64 0) := by rw [HN5.out.cell 1]; rfl
              have hl5 := HA5.out.lt
              have hm5 := HN5.out.lt
              clear hb5
              by_cases h5 : roleOk aw an
              · rw [decide_eq_true h5]
                unfold roleOk at h5
                go_wp2_with fail
                all_goals go_ret
                all_goals first
                  | exact ⟨by rw [show r = false from by rw [HR.out]; exact decide_eq_false (by unfold kindOk roleOk; dsimp only; omega)]; rfl, HB5.out⟩
                  | exact ⟨by rw [show r = true from by rw [HR.out]; exact decide_eq_true (by unfold kindOk roleOk; dsimp only; omega)]; rfl, HB5.out⟩
              · rw [decide_eq_false h5]
                unfold roleOk at h5
                go_wp2_with fail
                all_goals go_ret
                all_goals first
                  | exact ⟨by rw [show r = false from by rw [HR.out]; exact decide_eq_false (by unfold kindOk roleOk; dsimp only; omega)]; rfl, HB5.out⟩
                  | exact ⟨by rw [show r = true from by rw [HR.out]; exact decide_eq_true (by unfold kindOk roleOk; dsimp only; omega)]; rfl, HB5.out⟩
            · go_wp2_with fail
              all_goals go_ret
              all_goals first
                | exact ⟨by rw [show r = false from by rw [HR.out]; exact decide_eq_false (by unfold kindOk roleOk; dsimp only; omega)]; rfl, HB4.out⟩
                | exact ⟨by rw [show r = true from by rw [HR.out]; exact decide_eq_true (by unfold kindOk roleOk; dsimp only; omega)]; rfl, HB4.out⟩
          · by_cases k3 : k = 3
            · subst k3
              by_cases h4 : wh = 0
              · subst h4
                go_wp2_with fail
                obtain ⟨b2, hb2⟩ : ∃ b, b = w3.heap.size := ⟨_, rfl⟩
                rw [← hb2] at HN4 ⊢
                clear hb2
                generalize w3.alloc (.cells #[.int .i64 0, .int .i64 0] 34) = w4 at *
                clear c0 c3 c4 c5 c6 c7 c8 c9 hl1
                refine (specRole_calls aw an _).mono ?_
                rintro e w5 ⟨rfl, hb5⟩
                have HB5 := hide (HB4.out.trans (hb5.mono HB4.out.size))
                have HA5 := hide (HA4.out.below hb5 HA4.out.lt)
                have HN5 := hide (HN4.out.below hb5 HN4.out.lt)
                have c6 : w5.cell? ⟨b1, 6, none⟩ = some (.int .i64 bw) := by rw [HA5.out.cell 6]; rfl
                have c7 : w5.cell? ⟨b1, 7, none⟩ = some (.int .i64 bn) := by rw [HA5.out.cell 7]; rfl
                have e0 : w5.cell? ⟨b2, 0, none⟩ = some (.int .i64 0) := by rw [HN5.out.cell 0]; rfl
                have e1 : w5.cell? ⟨b2, 1, none⟩ = some (.int .i64 0) := by rw [HN5.out.cell 1]; rfl
                have hl5 := HA5.out.lt
                have hm5 := HN5.out.lt
                clear hb5
                by_cases h5 : roleOk aw an
                · rw [decide_eq_true h5]
                  unfold roleOk at h5
                  go_wp2_with fail
                  clear c6 c7 e0 e1 hl5 hm5
                  refine (specRole_calls bw bn _).mono ?_
                  rintro e w6 ⟨rfl, hb6⟩
                  have HB6 := hide (HB5.out.trans (hb6.mono HB5.out.size))
                  have HA6 := hide (HA5.out.below hb6 HA5.out.lt)
                  have HN6 := hide (HN5.out.below hb6 HN5.out.lt)
                  have c6 : w6.cell? ⟨b1, 6, none⟩ = some (.int .i64 bw) := by rw [HA6.out.cell 6]; rfl
                  have c7 : w6.cell? ⟨b1, 7, none⟩ = some (.int .i64 bn) := by rw [HA6.out.cell 7]; rfl
                  have e0 : w6.cell? ⟨b2, 0, none⟩ = some (.int .i64 0) := by rw [HN6.out.cell 0]; rfl
                  have e1 : w6.cell? ⟨b2, 1, none⟩ = some (.int .i64 0) := by rw [HN6.out.cell 1]; rfl
                  have hl6 := HA6.out.lt
                  have hm6 := HN6.out.lt
                  clear hb6
                  by_cases h6 : roleOk bw bn
                  · rw [decide_eq_true h6]
                    unfold roleOk at h6
                    go_wp2_with fail
                    all_goals go_ret
                    all_goals first
                      | exact ⟨by rw [show r = false from by rw [HR.out]; exact decide_eq_false (by unfold kindOk roleOk; dsimp only; omega)]; rfl, HB6.out⟩
                      | exact ⟨by rw [show r = true from by rw [HR.out]; exact decide_eq_true (by unfold kindOk roleOk; dsimp only; omega)]; rfl, HB6.out⟩
                      | exact ⟨by rw [show r = (bw == 0) from by
                rw [HR.out]
                by_cases h7 : bw = 0
                · rw [decide_eq_true (by unfold kindOk roleOk; dsimp only; omega), h7]; rfl
                · rw [decide_eq_false (by unfold kindOk roleOk; dsimp only; omega), beq_false_of_ne h7]]; rfl, HB6.out⟩
                  · rw [decide_eq_false h6]
                    unfold roleOk at h6
                    go_wp2_with fail
                    all_goals go_ret
                    all_goals first
                      | exact ⟨by rw [show r = false from by rw [HR.out]; exact decide_eq_false (by unfold kindOk roleOk; dsimp only; omega)]; rfl, HB6.out⟩
                      | exact ⟨by rw [show r = true from by rw [HR.out]; exact decide_eq_true (by unfold kindOk roleOk; dsimp only; omega)]; rfl, HB6.out⟩
                · rw [decide_eq_false h5]
                  unfold roleOk at h5
                  go_wp2_with fail
                  all_goals go_ret
                  all_goals first
                    | exact ⟨by rw [show r = false from by rw [HR.out]; exact decide_eq_false (by unfold kindOk roleOk; dsimp only; omega)]; rfl, HB5.out⟩
                    | exact ⟨by rw [show r = true from by rw [HR.out]; exact decide_eq_true (by unfold kindOk roleOk; dsimp only; omega)]; rfl, HB5.out⟩
              · go_wp2_with fail
                all_goals go_ret
                all_goals first
                  | exact ⟨by rw [show r = false from by rw [HR.out]; exact decide_eq_false (by unfold kindOk roleOk; dsimp only; omega)]; rfl, HB4.out⟩
                  | exact ⟨by rw [show r = true from by rw [HR.out]; exact decide_eq_true (by unfold kindOk roleOk; dsimp only; omega)]; rfl, HB4.out⟩
            · by_cases k4 : k = 4
              · subst k4
                by_cases h4 : wh = 0
                · subst h4
                  go_wp2_with fail
                  obtain ⟨b2, hb2⟩ : ∃ b, b = w3.heap.size := ⟨_, rfl⟩
                  rw [← hb2] at HN4 ⊢
                  clear hb2
                  generalize w3.alloc (.cells #[.int .i64 0, .int .i64 0] 34) = w4 at *
                  clear c0 c3 c4 c5 c6 c7 c8 c9 hl1
                  refine (specRole_calls aw an _).mono ?_
                  rintro e w5 ⟨rfl, hb5⟩
                  have HB5 := hide (HB4.out.trans (hb5.mono HB4.out.size))
                  have HA5 := hide (HA4.out.below hb5 HA4.out.lt)
                  have HN5 := hide (HN4.out.below hb5 HN4.out.lt)
                  have c6 : w5.cell? ⟨b1, 6, none⟩ = some (.int .i64 bw) := by rw [HA5.out.cell 6]; rfl
                  have c7 : w5.cell? ⟨b1, 7, none⟩ = some (.int .i64 bn) := by rw [HA5.out.cell 7]; rfl
                  have e0 : w5.cell? ⟨b2, 0, none⟩ = some (.int .i64 0) := by rw [HN5.out.cell 0]; rfl
                  have e1 : w5.cell? ⟨b2, 1, none⟩ = some (.int .i64 0) := by rw [HN5.out.cell 1]; rfl
                  have hl5 := HA5.out.lt
                  have hm5 := HN5.out.lt
                  clear hb5
                  by_cases h5 : roleOk aw an
                  · rw [decide_eq_true h5]
                    unfold roleOk at h5
                    go_wp2_with fail
                    clear c6 c7 e0 e1 hl5 hm5
                    refine (specRole_calls bw bn _).mono ?_
                    rintro e w6 ⟨rfl, hb6⟩
                    have HB6 := hide (HB5.out.trans (hb6.mono HB5.out.size))
                    have HA6 := hide (HA5.out.below hb6 HA5.out.lt)
                    have HN6 := hide (HN5.out.below hb6 HN5.out.lt)
                    have c6 : w6.cell? ⟨b1, 6, none⟩ = some (.int .i64 bw) := by rw [HA6.out.cell 6]; rfl
                    have c7 : w6.cell? ⟨b1, 7, none⟩ = some (.int .i64 bn) := by rw [HA6.out.cell 7]; rfl
                    have e0 : w6.cell? ⟨b2, 0, none⟩ = some (.int .i64 0) := by rw [HN6.out.cell 0]; rfl
                    have e1 : w6.cell? ⟨b2, 1, none⟩ = some (.int .i64 0) := by rw [HN6.out.cell 1]; rfl
                    have hl6 := HA6.out.lt
                    have hm6 := HN6.out.lt
                    clear hb6
                    by_cases h6 : roleOk bw bn
                    · rw [decide_eq_true h6]
                      unfold roleOk at h6
                      go_wp2_with fail
                      all_goals go_ret
                      all_goals first
                        | exact ⟨by rw [show r = false from by rw [HR.out]; exact decide_eq_false (by unfold kindOk roleOk; dsimp only; omega)]; rfl, HB6.out⟩
                        | exact ⟨by rw [show r = true from by rw [HR.out]; exact decide_eq_true (by unfold kindOk roleOk; dsimp only; omega)]; rfl, HB6.out⟩
                    · rw [decide_eq_false h6]
                      unfold roleOk at h6
                      go_wp2_with fail
                      all_goals go_ret
                      all_goals first
                        | exact ⟨by rw [show r = false from by rw [HR.out]; exact decide_eq_false (by unfold kindOk roleOk; dsimp only; omega)]; rfl, HB6.out⟩
                        | exact ⟨by rw [show r = true from by rw [HR.out]; exact decide_eq_true (by unfold kindOk roleOk; dsimp only; omega)]; rfl, HB6.out⟩
                  · rw [decide_eq_false h5]
                    unfold roleOk at h5
                    go_wp2_with fail
                    all_goals go_ret
                    all_goals first
                      | exact ⟨by rw [show r = false from by rw [HR.out]; exact decide_eq_false (by unfold kindOk roleOk; dsimp only; omega)]; rfl, HB5.out⟩
                      | exact ⟨by rw [show r = true from by rw [HR.out]; exact decide_eq_true (by unfold kindOk roleOk; dsimp only; omega)]; rfl, HB5.out⟩
                · go_wp2_with fail
                  all_goals go_ret
                  all_goals first
                    | exact ⟨by rw [show r = false from by rw [HR.out]; exact decide_eq_false (by unfold kindOk roleOk; dsimp only; omega)]; rfl, HB4.out⟩
                    | exact ⟨by rw [show r = true from by rw [HR.out]; exact decide_eq_true (by unfold kindOk roleOk; dsimp only; omega)]; rfl, HB4.out⟩
              · go_wp2_with fail
                all_goals go_ret
                all_goals first
                  | exact ⟨by rw [show r = false from by rw [HR.out]; exact decide_eq_false (by unfold kindOk roleOk; dsimp only; omega)]; rfl, HB4.out⟩
                  | exact ⟨by rw [show r = true from by rw [HR.out]; exact decide_eq_true (by unfold kindOk roleOk; dsimp only; omega)]; rfl, HB4.out⟩
      · have d3 := decide_eq_false h3
        have HR : Hid (r = false) := by
          show r = false
          rw [Er.out]
          exact decide_eq_false (fun h => h3 h.1.2.2)
        clear Er h1 h2 h3
        go_enter Try.func87, Try.ntmps87
        go_wp2_with fail
        obtain ⟨b1, hb1⟩ : ∃ b, b = w.heap.size := ⟨_, rfl⟩
        rw [← hb1] at HA ⊢
        clear hb1
        generalize w.alloc (.cells #[.int .i64 k, .int .i64 ow, .int .i64 on, .int .i64 wh, .int .i64 aw, .int .i64 an, .int .i64 bw, .int .i64 bn, .int .i64 u, .int .i64 n] 39) = w1 at *
        refine (HRO.out _).mono ?_
        rintro e w2 ⟨rfl, hb2⟩
        have hA2 := HA.out.below hb2 HA.out.lt
        have HB2 := hide (HB.out.trans (hb2.mono HB.out.size))
        have HA2 := hide hA2
        have c0 : w2.cell? ⟨b1, 0, none⟩ = some (.int .i64 k) := by rw [hA2.cell 0]; rfl
        have c3 : w2.cell? ⟨b1, 3, none⟩ = some (.int .i64 wh) := by rw [hA2.cell 3]; rfl
        have c4 : w2.cell? ⟨b1, 4, none⟩ = some (.int .i64 aw) := by rw [hA2.cell 4]; rfl
        have c5 : w2.cell? ⟨b1, 5, none⟩ = some (.int .i64 an) := by rw [hA2.cell 5]; rfl
        have c6 : w2.cell? ⟨b1, 6, none⟩ = some (.int .i64 bw) := by rw [hA2.cell 6]; rfl
        have c7 : w2.cell? ⟨b1, 7, none⟩ = some (.int .i64 bn) := by rw [hA2.cell 7]; rfl
        have c8 : w2.cell? ⟨b1, 8, none⟩ = some (.int .i64 u) := by rw [hA2.cell 8]; rfl
        have c9 : w2.cell? ⟨b1, 9, none⟩ = some (.int .i64 n) := by rw [hA2.cell 9]; rfl
        have hl1 := hA2.lt
        clear hb2 hA2 HA HB HRO
        go_wp2_with fail
        refine (l01In_calls _ _ _ _).mono ?_
        rintro e w3 ⟨rfl, rfl⟩
        rw [d2]
        go_wp2_with fail
        refine (l01In_calls _ _ _ _).mono ?_
        rintro e w3 ⟨rfl, rfl⟩
        rw [d3]
        clear d2 d3
        go_wp2_with fail
        go_ret
        exact ⟨by rw [HR.out]; rfl, HB2.out⟩
    · have d2 := decide_eq_false h2
      have HR : Hid (r = false) := by
        show r = false
        rw [Er.out]
        exact decide_eq_false (fun h => h2 h.1.2.1)
      clear Er h1 h2
      go_enter Try.func87, Try.ntmps87
      go_wp2_with fail
      obtain ⟨b1, hb1⟩ : ∃ b, b = w.heap.size := ⟨_, rfl⟩
      rw [← hb1] at HA ⊢
      clear hb1
      generalize w.alloc (.cells #[.int .i64 k, .int .i64 ow, .int .i64 on, .int .i64 wh, .int .i64 aw, .int .i64 an, .int .i64 bw, .int .i64 bn, .int .i64 u, .int .i64 n] 39) = w1 at *
      refine (HRO.out _).mono ?_
      rintro e w2 ⟨rfl, hb2⟩
      have hA2 := HA.out.below hb2 HA.out.lt
      have HB2 := hide (HB.out.trans (hb2.mono HB.out.size))
      have HA2 := hide hA2
      have c0 : w2.cell? ⟨b1, 0, none⟩ = some (.int .i64 k) := by rw [hA2.cell 0]; rfl
      have c3 : w2.cell? ⟨b1, 3, none⟩ = some (.int .i64 wh) := by rw [hA2.cell 3]; rfl
      have c4 : w2.cell? ⟨b1, 4, none⟩ = some (.int .i64 aw) := by rw [hA2.cell 4]; rfl
      have c5 : w2.cell? ⟨b1, 5, none⟩ = some (.int .i64 an) := by rw [hA2.cell 5]; rfl
      have c6 : w2.cell? ⟨b1, 6, none⟩ = some (.int .i64 bw) := by rw [hA2.cell 6]; rfl
      have c7 : w2.cell? ⟨b1, 7, none⟩ = some (.int .i64 bn) := by rw [hA2.cell 7]; rfl
      have c8 : w2.cell? ⟨b1, 8, none⟩ = some (.int .i64 u) := by rw [hA2.cell 8]; rfl
      have c9 : w2.cell? ⟨b1, 9, none⟩ = some (.int .i64 n) := by rw [hA2.cell 9]; rfl
      have hl1 := hA2.lt
      clear hb2 hA2 HA HB HRO
      go_wp2_with fail
      refine (l01In_calls _ _ _ _).mono ?_
      rintro e w3 ⟨rfl, rfl⟩
      rw [d2]
      clear d2
      go_wp2_with fail
      go_ret
      exact ⟨by rw [HR.out]; rfl, HB2.out⟩
  · simp only [decide_eq_false h1] at HRO
    have HR : Hid (r = false) := by
      show r = false
      rw [Er.out]
      exact decide_eq_false (fun h => h1 h.1.1)
    clear Er h1
    go_enter Try.func87, Try.ntmps87
    go_wp2_with fail
    obtain ⟨b1, hb1⟩ : ∃ b, b = w.heap.size := ⟨_, rfl⟩
    rw [← hb1] at HA ⊢
    clear hb1
    generalize w.alloc (.cells #[.int .i64 k, .int .i64 ow, .int .i64 on, .int .i64 wh, .int .i64 aw, .int .i64 an, .int .i64 bw, .int .i64 bn, .int .i64 u, .int .i64 n] 39) = w1 at *
    refine (HRO.out _).mono ?_
    rintro e w2 ⟨rfl, hb2⟩
    have hA2 := HA.out.below hb2 HA.out.lt
    have HB2 := hide (HB.out.trans (hb2.mono HB.out.size))
    have HA2 := hide hA2
    have c0 : w2.cell? ⟨b1, 0, none⟩ = some (.int .i64 k) := by rw [hA2.cell 0]; rfl
    have c3 : w2.cell? ⟨b1, 3, none⟩ = some (.int .i64 wh) := by rw [hA2.cell 3]; rfl
    have c4 : w2.cell? ⟨b1, 4, none⟩ = some (.int .i64 aw) := by rw [hA2.cell 4]; rfl
    have c5 : w2.cell? ⟨b1, 5, none⟩ = some (.int .i64 an) := by rw [hA2.cell 5]; rfl
    have c6 : w2.cell? ⟨b1, 6, none⟩ = some (.int .i64 bw) := by rw [hA2.cell 6]; rfl
    have c7 : w2.cell? ⟨b1, 7, none⟩ = some (.int .i64 bn) := by rw [hA2.cell 7]; rfl
    have c8 : w2.cell? ⟨b1, 8, none⟩ = some (.int .i64 u) := by rw [hA2.cell 8]; rfl
    have c9 : w2.cell? ⟨b1, 9, none⟩ = some (.int .i64 n) := by rw [hA2.cell 9]; rfl
    have hl1 := hA2.lt
    clear hb2 hA2 HA HB HRO
    go_wp2_with fail
    go_ret
    exact ⟨by rw [HR.out]; rfl, HB2.out⟩
end Go.Proofs.Ythafpkpmnhgmaaa.P5
namespace Go.Proofs.Ythafpkpmnhgmaaa.P5
open Go.RowKit P1

/-- Ten texts one after the other. -/
theorem cat10 (a b c d e f g h i j : List UInt8) : ((((((((((⟨a.toArray⟩ : ByteArray) ++ ⟨b.toArray⟩) ++ ⟨c.toArray⟩) ++ ⟨d.toArray⟩) ++ ⟨e.toArray⟩) ++ ⟨f.toArray⟩) ++ ⟨g.toArray⟩) ++ ⟨h.toArray⟩) ++ ⟨i.toArray⟩) ++ ⟨j.toArray⟩) = ⟨(a ++ b ++ c ++ d ++ e ++ f ++ g ++ h ++ i ++ j).toArray⟩ := by
  simp only [ByteArray.mk_append_mk]
end Go.Proofs.Ythafpkpmnhgmaaa.P5
namespace Go.Proofs.Ythafpkpmnhgmaaa.P5
set_option maxRecDepth 8000
open Go.RowKit P1

set_option maxHeartbeats 400000 in
theorem eqRole_calls (a b c d : Int) (w : World) :
    Calls Try.prog 100 #[roleV a b, roleV c d] w fun e w' => e = .returned (.bool (decide (a = c ∧ b = d))) ∧ Below w.heap.size w w' := by
  have HB : Hid (∀ x y, Below w.heap.size w ((w.alloc x).alloc y)) := fun x y => ((Below.refl _ _).alloc (Nat.le_refl _) x).alloc ((Below.refl w.heap.size w).alloc (Nat.le_refl _) x).size y
  obtain ⟨r, Er⟩ : ∃ r, Hid (r = decide (a = c ∧ b = d)) := ⟨_, rfl⟩
  rw [← Er.out]
  go_enter Try.func100, Try.ntmps100
  by_cases h1 : a = c
  · subst h1
    by_cases h2 : b = d
    · subst h2
      go_wp2_with fail
      go_ret
      exact ⟨by rw [show r = true from Er.out.trans (by simp)]; rfl, HB.out _ _⟩
    · go_wp2_with fail
      go_ret
      exact ⟨by rw [Er.out, decide_eq_false (fun h => h2 h.2)]; rfl, HB.out _ _⟩
  · go_wp2_with fail
    go_ret
    exact ⟨by rw [Er.out, decide_eq_false (fun h => h1 h.1)]; rfl, HB.out _ _⟩

/-- Three new blocks. -/
theorem Below.three (w : World) (x y z : Obj) : Below w.heap.size w (((w.alloc x).alloc y).alloc z) := by
  have h1 := (Below.refl w.heap.size w).alloc (Nat.le_refl _) x
  have h2 := h1.alloc h1.size y
  exact h2.alloc h2.size z

set_option maxHeartbeats 400000 in
theorem toRole_calls (a b : Int) (w : World) :
    Calls Try.prog 37 #[roleV a b] w fun e w' => e = .returned (roleV a b) ∧ Below w.heap.size w w' := by
  go_enter Try.func37, Try.ntmps37
  go_wp2_with fail
  refine bodyPost_ret (v := roleV a b) (by simp [results, Try.results37, go_sem]) rfl ⟨rfl, Below.three _ _ _ _⟩
end Go.Proofs.Ythafpkpmnhgmaaa.P5
namespace Go.Proofs.Ythafpkpmnhgmaaa.P5
set_option maxRecDepth 8000
open Go.RowKit P1

set_option maxHeartbeats 1000000 in
theorem toCred_calls (c : Cr) (w : World) :
    Calls Try.prog 48 #[credV c] w fun e w' => e = .returned (credV c) ∧ Below w.heap.size w w' := by
  obtain ⟨k, ow, on, wh, aw, an, bw, bn, u, n⟩ := c
  simp only [credV]
  go_enter Try.func48, Try.ntmps48
  go_wp2_with fail
  have HB := hide (Below.three w (.cells #[.int .i64 k, .int .i64 ow, .int .i64 on, .int .i64 wh, .int .i64 aw, .int .i64 an, .int .i64 bw, .int .i64 bn, .int .i64 u, .int .i64 n] 68) (.cells #[.int .i64 0, .int .i64 0, .int .i64 0, .int .i64 0, .int .i64 0, .int .i64 0, .int .i64 0, .int .i64 0, .int .i64 0, .int .i64 0] 39) (.cells #[.int .i64 k, .int .i64 0, .int .i64 0, .int .i64 0, .int .i64 0, .int .i64 0, .int .i64 0, .int .i64 0, .int .i64 0, .int .i64 0] 39))
  have g0 := Blk.new w #[.int .i64 k, .int .i64 ow, .int .i64 on, .int .i64 wh, .int .i64 aw, .int .i64 an, .int .i64 bw, .int .i64 bn, .int .i64 u, .int .i64 n] 68
  have g0 := g0.below ((Below.refl _ _).alloc (Nat.le_refl _) (.cells #[.int .i64 0, .int .i64 0, .int .i64 0, .int .i64 0, .int .i64 0, .int .i64 0, .int .i64 0, .int .i64 0, .int .i64 0, .int .i64 0] 39)) g0.lt
  have g0 := g0.below ((Below.refl _ _).alloc (Nat.le_refl _) (.cells #[.int .i64 k, .int .i64 0, .int .i64 0, .int .i64 0, .int .i64 0, .int .i64 0, .int .i64 0, .int .i64 0, .int .i64 0, .int .i64 0] 39)) g0.lt
  have g1 := Blk.new (w.alloc (.cells #[.int .i64 k, .int .i64 ow, .int .i64 on, .int .i64 wh, .int .i64 aw, .int .i64 an, .int .i64 bw, .int .i64 bn, .int .i64 u, .int .i64 n] 68)) #[.int .i64 0, .int .i64 0, .int .i64 0, .int .i64 0, .int .i64 0, .int .i64 0, .int .i64 0, .int .i64 0, .int .i64 0, .int .i64 0] 39
  have g1 := g1.below ((Below.refl _ _).alloc (Nat.le_refl _) (.cells #[.int .i64 k, .int .i64 0, .int .i64 0, .int .i64 0, .int .i64 0, .int .i64 0, .int .i64 0, .int .i64 0, .int .i64 0, .int .i64 0] 39)) g1.lt
  have g2 := Blk.new ((w.alloc (.cells #[.int .i64 k, .int .i64 ow, .int .i64 on, .int .i64 wh, .int .i64 aw, .int .i64 an, .int .i64 bw, .int .i64 bn, .int .i64 u, .int .i64 n] 68)).alloc (.cells #[.int .i64 0, .int .i64 0, .int .i64 0, .int .i64 0, .int .i64 0, .int .i64 0, .int .i64 0, .int .i64 0, .int .i64 0, .int .i64 0] 39)) #[.int .i64 k, .int .i64 0, .int .i64 0, .int .i64 0, .int .i64 0, .int .i64 0, .int .i64 0, .int .i64 0, .int .i64 0, .int .i64 0] 39
  rw [show (w.alloc (.cells #[.int .i64 k, .int .i64 ow, .int .i64 on, .int .i64 wh, .int .i64 aw, .int .i64 an, .int .i64 bw, .int .i64 bn, .int .i64 u, .int .i64 n] 68)).heap.size = w.heap.size + 1 from by simp [go_sem]] at g1
  rw [show ((w.alloc (.cells #[.int .i64 k, .int .i64 ow, .int .i64 on, .int .i64 wh, .int .i64 aw, .int .i64 an, .int .i64 bw, .int .i64 bn, .int .i64 u, .int .i64 n] 68)).alloc (.cells #[.int .i64 0, .int .i64 0, .int .i64 0, .int .i64 0, .int .i64 0, .int .i64 0, .int .i64 0, .int .i64 0, .int .i64 0, .int .i64 0] 39)).heap.size = w.heap.size + 1 + 1 from by simp [go_sem]] at g2
  obtain ⟨b2, e2⟩ : ∃ b, b = w.heap.size + 1 + 1 := ⟨_, rfl⟩
  obtain ⟨b1, e1⟩ : ∃ b, b = w.heap.size + 1 := ⟨_, rfl⟩
  obtain ⟨b0, e0⟩ : ∃ b, b = w.heap.size := ⟨_, rfl⟩
  rw [← e2] at g2 ⊢
  rw [← e1] at g1 ⊢
  rw [← e0] at g0 ⊢
  have h02 : b0 ≠ b2 := by omega
  have h12 : b1 ≠ b2 := by omega
  have h20 : b2 ≠ b0 := by omega
  have h21 : b2 ≠ b1 := by omega
  have h01 : b0 ≠ b1 := by omega
  have hw2 : w.heap.size ≤ b2 := by omega
  have hw1 : w.heap.size ≤ b1 := by omega
  clear e0 e1 e2
  generalize ((w.alloc (.cells #[.int .i64 k, .int .i64 ow, .int .i64 on, .int .i64 wh, .int .i64 aw, .int .i64 an, .int .i64 bw, .int .i64 bn, .int .i64 u, .int .i64 n] 68)).alloc (.cells #[.int .i64 0, .int .i64 0, .int .i64 0, .int .i64 0, .int .i64 0, .int .i64 0, .int .i64 0, .int .i64 0, .int .i64 0, .int .i64 0] 39)).alloc (.cells #[.int .i64 k, .int .i64 0, .int .i64 0, .int .i64 0, .int .i64 0, .int .i64 0, .int .i64 0, .int .i64 0, .int .i64 0, .int .i64 0] 39) = w1 at *
  have G0 := hide g0
  have G1 := hide g1
  have G2 := hide g2
  clear g0 g1 g2
  refine (toRole_calls ow on _).mono ?_
  rintro e wa1 ⟨rfl, hb⟩
  have HB := hide (HB.out.trans (hb.mono HB.out.size))
  have g0 := G0.out.below hb G0.out.lt
  have g1 := G1.out.below hb G1.out.lt
  have g2 := G2.out.below hb G2.out.lt
  clear hb G0 G1 G2
  have a3 : wa1.cell? ⟨b0, 3, none⟩ = some (.int .i64 wh) := by rw [g0.cell 3]; rfl
  have a4 : wa1.cell? ⟨b0, 4, none⟩ = some (.int .i64 aw) := by rw [g0.cell 4]; rfl
  have a5 : wa1.cell? ⟨b0, 5, none⟩ = some (.int .i64 an) := by rw [g0.cell 5]; rfl
  have d1 : wa1.cell? ⟨b2, 1, none⟩ = some (.int .i64 0) := by rw [g2.cell 1]; rfl
  have f1 := g2.free 1
  have d2 : wa1.cell? ⟨b2, 2, none⟩ = some (.int .i64 0) := by rw [g2.cell 2]; rfl
  have f2 := g2.free 2
  have d3 : wa1.cell? ⟨b2, 3, none⟩ = some (.int .i64 0) := by rw [g2.cell 3]; rfl
  have f3 := g2.free 3
  have G2 := hide (((g2.set 1 (.int .i64 ow)).set 2 (.int .i64 on)).set 3 (.int .i64 wh))
  have G0 := hide (((g0.other (p := ⟨b2, 1, none⟩) h02 (.int .i64 ow)).other (p := ⟨b2, 2, none⟩) h02 (.int .i64 on)).other (p := ⟨b2, 3, none⟩) h02 (.int .i64 wh))
  have G1 := hide (((g1.other (p := ⟨b2, 1, none⟩) h12 (.int .i64 ow)).other (p := ⟨b2, 2, none⟩) h12 (.int .i64 on)).other (p := ⟨b2, 3, none⟩) h12 (.int .i64 wh))
  have HB := hide (((HB.out.setCell (p := ⟨b2, 1, none⟩) hw2 (.int .i64 ow)).setCell (p := ⟨b2, 2, none⟩) hw2 (.int .i64 on)).setCell (p := ⟨b2, 3, none⟩) hw2 (.int .i64 wh))
  clear g0 g1 g2
  go_wp2_with fail
  clear a3 a4 a5 d1 f1 d2 f2 d3 f3
  generalize (((wa1.setCell ⟨b2, 1, none⟩ (.int .i64 ow)).setCell ⟨b2, 2, none⟩ (.int .i64 on)).setCell ⟨b2, 3, none⟩ (.int .i64 wh)) = w2 at *
  refine (toRole_calls aw an _).mono ?_
  rintro e wa2 ⟨rfl, hb⟩
  have HB := hide (HB.out.trans (hb.mono HB.out.size))
  have g0 := G0.out.below hb G0.out.lt
  have g1 := G1.out.below hb G1.out.lt
  have g2 := G2.out.below hb G2.out.lt
  clear hb G0 G1 G2
  have a6 : wa2.cell? ⟨b0, 6, none⟩ = some (.int .i64 bw) := by rw [g0.cell 6]; rfl
  have a7 : wa2.cell? ⟨b0, 7, none⟩ = some (.int .i64 bn) := by rw [g0.cell 7]; rfl
  have d4 : wa2.cell? ⟨b2, 4, none⟩ = some (.int .i64 0) := by rw [g2.cell 4]; rfl
  have f4 := g2.free 4
  have d5 : wa2.cell? ⟨b2, 5, none⟩ = some (.int .i64 0) := by rw [g2.cell 5]; rfl
  have f5 := g2.free 5
  have G2 := hide ((g2.set 4 (.int .i64 aw)).set 5 (.int .i64 an))
  have G0 := hide ((g0.other (p := ⟨b2, 4, none⟩) h02 (.int .i64 aw)).other (p := ⟨b2, 5, none⟩) h02 (.int .i64 an))
  have G1 := hide ((g1.other (p := ⟨b2, 4, none⟩) h12 (.int .i64 aw)).other (p := ⟨b2, 5, none⟩) h12 (.int .i64 an))
  have HB := hide ((HB.out.setCell (p := ⟨b2, 4, none⟩) hw2 (.int .i64 aw)).setCell (p := ⟨b2, 5, none⟩) hw2 (.int .i64 an))
  clear g0 g1 g2
  go_wp2_with fail
  clear a6 a7 d4 f4 d5 f5
  generalize ((wa2.setCell ⟨b2, 4, none⟩ (.int .i64 aw)).setCell ⟨b2, 5, none⟩ (.int .i64 an)) = w3 at *
  refine (toRole_calls bw bn _).mono ?_
  rintro e wa3 ⟨rfl, hb⟩
  have HB := hide (HB.out.trans (hb.mono HB.out.size))
  have g0 := G0.out.below hb G0.out.lt
  have g1 := G1.out.below hb G1.out.lt
  have g2 := G2.out.below hb G2.out.lt
  clear hb G0 G1 G2
  have a8 : wa3.cell? ⟨b0, 8, none⟩ = some (.int .i64 u) := by rw [g0.cell 8]; rfl
  have a9 : wa3.cell? ⟨b0, 9, none⟩ = some (.int .i64 n) := by rw [g0.cell 9]; rfl
  have d6 : wa3.cell? ⟨b2, 6, none⟩ = some (.int .i64 0) := by rw [g2.cell 6]; rfl
  have f6 := g2.free 6
  have d7 : wa3.cell? ⟨b2, 7, none⟩ = some (.int .i64 0) := by rw [g2.cell 7]; rfl
  have f7 := g2.free 7
  have d8 : wa3.cell? ⟨b2, 8, none⟩ = some (.int .i64 0) := by rw [g2.cell 8]; rfl
  have f8 := g2.free 8
  have d9 : wa3.cell? ⟨b2, 9, none⟩ = some (.int .i64 0) := by rw [g2.cell 9]; rfl
  have f9 := g2.free 9
  have G2 := hide ((((g2.set 6 (.int .i64 bw)).set 7 (.int .i64 bn)).set 8 (.int .i64 u)).set 9 (.int .i64 n))
  have G0 := hide ((((g0.other (p := ⟨b2, 6, none⟩) h02 (.int .i64 bw)).other (p := ⟨b2, 7, none⟩) h02 (.int .i64 bn)).other (p := ⟨b2, 8, none⟩) h02 (.int .i64 u)).other (p := ⟨b2, 9, none⟩) h02 (.int .i64 n))
  have G1 := hide ((((g1.other (p := ⟨b2, 6, none⟩) h12 (.int .i64 bw)).other (p := ⟨b2, 7, none⟩) h12 (.int .i64 bn)).other (p := ⟨b2, 8, none⟩) h12 (.int .i64 u)).other (p := ⟨b2, 9, none⟩) h12 (.int .i64 n))
  have HB := hide ((((HB.out.setCell (p := ⟨b2, 6, none⟩) hw2 (.int .i64 bw)).setCell (p := ⟨b2, 7, none⟩) hw2 (.int .i64 bn)).setCell (p := ⟨b2, 8, none⟩) hw2 (.int .i64 u)).setCell (p := ⟨b2, 9, none⟩) hw2 (.int .i64 n))
  have r0 : wa3.cell? ⟨b1, 0, none⟩ = some (.int .i64 0) := by rw [g1.cell 0]; rfl
  have fr0 := g1.free 0
  have r1 : wa3.cell? ⟨b1, 1, none⟩ = some (.int .i64 0) := by rw [g1.cell 1]; rfl
  have fr1 := g1.free 1
  have r2 : wa3.cell? ⟨b1, 2, none⟩ = some (.int .i64 0) := by rw [g1.cell 2]; rfl
  have fr2 := g1.free 2
  have r3 : wa3.cell? ⟨b1, 3, none⟩ = some (.int .i64 0) := by rw [g1.cell 3]; rfl
  have fr3 := g1.free 3
  have r4 : wa3.cell? ⟨b1, 4, none⟩ = some (.int .i64 0) := by rw [g1.cell 4]; rfl
  have fr4 := g1.free 4
  have r5 : wa3.cell? ⟨b1, 5, none⟩ = some (.int .i64 0) := by rw [g1.cell 5]; rfl
  have fr5 := g1.free 5
  have r6 : wa3.cell? ⟨b1, 6, none⟩ = some (.int .i64 0) := by rw [g1.cell 6]; rfl
  have fr6 := g1.free 6
  have r7 : wa3.cell? ⟨b1, 7, none⟩ = some (.int .i64 0) := by rw [g1.cell 7]; rfl
  have fr7 := g1.free 7
  have r8 : wa3.cell? ⟨b1, 8, none⟩ = some (.int .i64 0) := by rw [g1.cell 8]; rfl
  have fr8 := g1.free 8
  have r9 : wa3.cell? ⟨b1, 9, none⟩ = some (.int .i64 0) := by rw [g1.cell 9]; rfl
  have fr9 := g1.free 9
  have d0 : wa3.cell? ⟨b2, 0, none⟩ = some (.int .i64 k) := by rw [g2.cell 0]; rfl
  have d1 : wa3.cell? ⟨b2, 1, none⟩ = some (.int .i64 ow) := by rw [g2.cell 1]; rfl
  have d2 : wa3.cell? ⟨b2, 2, none⟩ = some (.int .i64 on) := by rw [g2.cell 2]; rfl
  have d3 : wa3.cell? ⟨b2, 3, none⟩ = some (.int .i64 wh) := by rw [g2.cell 3]; rfl
  have d4 : wa3.cell? ⟨b2, 4, none⟩ = some (.int .i64 aw) := by rw [g2.cell 4]; rfl
  have d5 : wa3.cell? ⟨b2, 5, none⟩ = some (.int .i64 an) := by rw [g2.cell 5]; rfl
  clear g0 g1 g2
  go_wp2_with fail
  have hF := ((((((((((G1.out.set 0 (.int .i64 k)).set 1 (.int .i64 ow)).set 2 (.int .i64 on)).set 3 (.int .i64 wh)).set 4 (.int .i64 aw)).set 5 (.int .i64 an)).set 6 (.int .i64 bw)).set 7 (.int .i64 bn)).set 8 (.int .i64 u)).set 9 (.int .i64 n))
  have hbF := ((((((((((HB.out.setCell (p := ⟨b1, 0, none⟩) hw1 (.int .i64 k)).setCell (p := ⟨b1, 1, none⟩) hw1 (.int .i64 ow)).setCell (p := ⟨b1, 2, none⟩) hw1 (.int .i64 on)).setCell (p := ⟨b1, 3, none⟩) hw1 (.int .i64 wh)).setCell (p := ⟨b1, 4, none⟩) hw1 (.int .i64 aw)).setCell (p := ⟨b1, 5, none⟩) hw1 (.int .i64 an)).setCell (p := ⟨b1, 6, none⟩) hw1 (.int .i64 bw)).setCell (p := ⟨b1, 7, none⟩) hw1 (.int .i64 bn)).setCell (p := ⟨b1, 8, none⟩) hw1 (.int .i64 u)).setCell (p := ⟨b1, 9, none⟩) hw1 (.int .i64 n))
  clear r0 fr0 r1 fr1 r2 fr2 r3 fr3 r4 fr4 r5 fr5 r6 fr6 r7 fr7 r8 fr8 r9 fr9 d0 d1 d2 d3 d4 d5 d6 d7 d8 d9 f6 f7 f8 f9 a8 a9 G0 G1 G2 HB
  generalize ((((((((((((((wa3.setCell ⟨b2, 6, none⟩ (.int .i64 bw)).setCell ⟨b2, 7, none⟩ (.int .i64 bn)).setCell ⟨b2, 8, none⟩ (.int .i64 u)).setCell ⟨b2, 9, none⟩ (.int .i64 n)).setCell ⟨b1, 0, none⟩ (.int .i64 k)).setCell ⟨b1, 1, none⟩ (.int .i64 ow)).setCell ⟨b1, 2, none⟩ (.int .i64 on)).setCell ⟨b1, 3, none⟩ (.int .i64 wh)).setCell ⟨b1, 4, none⟩ (.int .i64 aw)).setCell ⟨b1, 5, none⟩ (.int .i64 an)).setCell ⟨b1, 6, none⟩ (.int .i64 bw)).setCell ⟨b1, 7, none⟩ (.int .i64 bn)).setCell ⟨b1, 8, none⟩ (.int .i64 u)).setCell ⟨b1, 9, none⟩ (.int .i64 n)) = wF at *
  have x0 : wF.cell? ⟨b1, 0, none⟩ = some (.int .i64 k) := by rw [hF.cell 0]; rfl
  have x1 : wF.cell? ⟨b1, 1, none⟩ = some (.int .i64 ow) := by rw [hF.cell 1]; rfl
  have x2 : wF.cell? ⟨b1, 2, none⟩ = some (.int .i64 on) := by rw [hF.cell 2]; rfl
  have x3 : wF.cell? ⟨b1, 3, none⟩ = some (.int .i64 wh) := by rw [hF.cell 3]; rfl
  have x4 : wF.cell? ⟨b1, 4, none⟩ = some (.int .i64 aw) := by rw [hF.cell 4]; rfl
  have x5 : wF.cell? ⟨b1, 5, none⟩ = some (.int .i64 an) := by rw [hF.cell 5]; rfl
  have x6 : wF.cell? ⟨b1, 6, none⟩ = some (.int .i64 bw) := by rw [hF.cell 6]; rfl
  have x7 : wF.cell? ⟨b1, 7, none⟩ = some (.int .i64 bn) := by rw [hF.cell 7]; rfl
  have x8 : wF.cell? ⟨b1, 8, none⟩ = some (.int .i64 u) := by rw [hF.cell 8]; rfl
  have x9 : wF.cell? ⟨b1, 9, none⟩ = some (.int .i64 n) := by rw [hF.cell 9]; rfl
  refine bodyPost_ret (v := .agg #[.int .i64 k, .int .i64 ow, .int .i64 on, .int .i64 wh, .int .i64 aw, .int .i64 an, .int .i64 bw, .int .i64 bn, .int .i64 u, .int .i64 n]) (by simp [results, Try.results48, go_sem, x0, x1, x2, x3, x4, x5, x6, x7, x8, x9]) rfl ⟨rfl, hbF⟩
end Go.Proofs.Ythafpkpmnhgmaaa.P5
namespace Go.Proofs.Ythafpkpmnhgmaaa.P5
set_option maxRecDepth 8000
open Go.RowKit P1

set_option maxHeartbeats 2000000 in
theorem eqCred_calls (c d : Cr) (w : World) :
    Calls Try.prog 92 #[credV c, credV d] w fun e w' => e = .returned (.bool (decide (c = d))) ∧ Below w.heap.size w w' := by
  obtain ⟨k, ow, on, wh, aw, an, bw, bn, u, n⟩ := c
  obtain ⟨k', ow', on', wh', aw', an', bw', bn', u', n'⟩ := d
  simp only [credV]
  obtain ⟨r, Er⟩ : ∃ r, Hid (r = decide ((⟨k, ow, on, wh, aw, an, bw, bn, u, n⟩ : Cr) = ⟨k', ow', on', wh', aw', an', bw', bn', u', n'⟩)) := ⟨_, rfl⟩
  rw [← Er.out]
  have hb1 := (Below.refl w.heap.size w).alloc (Nat.le_refl _) (.cells #[.int .i64 k, .int .i64 ow, .int .i64 on, .int .i64 wh, .int .i64 aw, .int .i64 an, .int .i64 bw, .int .i64 bn, .int .i64 u, .int .i64 n] 39)
  have HA := Blk.new w #[.int .i64 k, .int .i64 ow, .int .i64 on, .int .i64 wh, .int .i64 aw, .int .i64 an, .int .i64 bw, .int .i64 bn, .int .i64 u, .int .i64 n] 39
  have HB := hide (hb1.alloc hb1.size (.cells #[.int .i64 k', .int .i64 ow', .int .i64 on', .int .i64 wh', .int .i64 aw', .int .i64 an', .int .i64 bw', .int .i64 bn', .int .i64 u', .int .i64 n'] 39))
  have HD := Blk.new (w.alloc (.cells #[.int .i64 k, .int .i64 ow, .int .i64 on, .int .i64 wh, .int .i64 aw, .int .i64 an, .int .i64 bw, .int .i64 bn, .int .i64 u, .int .i64 n] 39)) #[.int .i64 k', .int .i64 ow', .int .i64 on', .int .i64 wh', .int .i64 aw', .int .i64 an', .int .i64 bw', .int .i64 bn', .int .i64 u', .int .i64 n'] 39
  replace HA := hide (HA.below ((Below.refl _ (w.alloc (.cells #[.int .i64 k, .int .i64 ow, .int .i64 on, .int .i64 wh, .int .i64 aw, .int .i64 an, .int .i64 bw, .int .i64 bn, .int .i64 u, .int .i64 n] 39))).alloc (Nat.le_refl _) (.cells #[.int .i64 k', .int .i64 ow', .int .i64 on', .int .i64 wh', .int .i64 aw', .int .i64 an', .int .i64 bw', .int .i64 bn', .int .i64 u', .int .i64 n'] 39)) HA.lt)
  rw [show (w.alloc (.cells #[.int .i64 k, .int .i64 ow, .int .i64 on, .int .i64 wh, .int .i64 aw, .int .i64 an, .int .i64 bw, .int .i64 bn, .int .i64 u, .int .i64 n] 39)).heap.size = w.heap.size + 1 from by simp [go_sem]] at HD
  replace HD := hide HD
  clear hb1
  go_enter Try.func92, Try.ntmps92
  by_cases q0 : k = k'
  · subst q0
    go_wp2_with fail
    obtain ⟨b1, e1⟩ : ∃ b, b = w.heap.size + 1 := ⟨_, rfl⟩
    obtain ⟨b0, e0⟩ : ∃ b, b = w.heap.size := ⟨_, rfl⟩
    rw [← e1] at HD ⊢
    rw [← e0] at HA ⊢
    clear e0 e1
    generalize (w.alloc (.cells #[.int .i64 k, .int .i64 ow, .int .i64 on, .int .i64 wh, .int .i64 aw, .int .i64 an, .int .i64 bw, .int .i64 bn, .int .i64 u, .int .i64 n] 39)).alloc (.cells #[.int .i64 k, .int .i64 ow', .int .i64 on', .int .i64 wh', .int .i64 aw', .int .i64 an', .int .i64 bw', .int .i64 bn', .int .i64 u', .int .i64 n'] 39) = w1 at *
    refine (eqRole_calls ow on ow' on' _).mono ?_
    rintro e wa1 ⟨rfl, hb⟩
    have HB := hide (HB.out.trans (hb.mono HB.out.size))
    have HA := hide (HA.out.below hb HA.out.lt)
    have HD := hide (HD.out.below hb HD.out.lt)
    clear hb
    by_cases q1 : ow = ow' ∧ on = on'
    · rw [decide_eq_true q1]
      obtain ⟨rfl, rfl⟩ := q1
      have c3 : wa1.cell? ⟨b0, 3, none⟩ = some (.int .i64 wh) := by rw [HA.out.cell 3]; rfl
      have d3 : wa1.cell? ⟨b1, 3, none⟩ = some (.int .i64 wh') := by rw [HD.out.cell 3]; rfl
      have c4 : wa1.cell? ⟨b0, 4, none⟩ = some (.int .i64 aw) := by rw [HA.out.cell 4]; rfl
      have d4 : wa1.cell? ⟨b1, 4, none⟩ = some (.int .i64 aw') := by rw [HD.out.cell 4]; rfl
      have c5 : wa1.cell? ⟨b0, 5, none⟩ = some (.int .i64 an) := by rw [HA.out.cell 5]; rfl
      have d5 : wa1.cell? ⟨b1, 5, none⟩ = some (.int .i64 an') := by rw [HD.out.cell 5]; rfl
      by_cases q3 : wh = wh'
      · subst q3
        go_wp2_with fail
        clear c3 c4 c5 d3 d4 d5
        refine (eqRole_calls aw an aw' an' _).mono ?_
        rintro e wa2 ⟨rfl, hb⟩
        have HB := hide (HB.out.trans (hb.mono HB.out.size))
        have HA := hide (HA.out.below hb HA.out.lt)
        have HD := hide (HD.out.below hb HD.out.lt)
        clear hb
        by_cases q4 : aw = aw' ∧ an = an'
        · rw [decide_eq_true q4]
          obtain ⟨rfl, rfl⟩ := q4
          have c6 : wa2.cell? ⟨b0, 6, none⟩ = some (.int .i64 bw) := by rw [HA.out.cell 6]; rfl
          have d6 : wa2.cell? ⟨b1, 6, none⟩ = some (.int .i64 bw') := by rw [HD.out.cell 6]; rfl
          have c7 : wa2.cell? ⟨b0, 7, none⟩ = some (.int .i64 bn) := by rw [HA.out.cell 7]; rfl
          have d7 : wa2.cell? ⟨b1, 7, none⟩ = some (.int .i64 bn') := by rw [HD.out.cell 7]; rfl
          go_wp2_with fail
          clear c6 c7 d6 d7
          refine (eqRole_calls bw bn bw' bn' _).mono ?_
          rintro e wa3 ⟨rfl, hb⟩
          have HB := hide (HB.out.trans (hb.mono HB.out.size))
          have HA := hide (HA.out.below hb HA.out.lt)
          have HD := hide (HD.out.below hb HD.out.lt)
          clear hb
          by_cases q6 : bw = bw' ∧ bn = bn'
          · rw [decide_eq_true q6]
            obtain ⟨rfl, rfl⟩ := q6
            have c8 : wa3.cell? ⟨b0, 8, none⟩ = some (.int .i64 u) := by rw [HA.out.cell 8]; rfl
            have d8 : wa3.cell? ⟨b1, 8, none⟩ = some (.int .i64 u') := by rw [HD.out.cell 8]; rfl
            have c9 : wa3.cell? ⟨b0, 9, none⟩ = some (.int .i64 n) := by rw [HA.out.cell 9]; rfl
            have d9 : wa3.cell? ⟨b1, 9, none⟩ = some (.int .i64 n') := by rw [HD.out.cell 9]; rfl
            by_cases q8 : u = u'
            · subst q8
              by_cases q9 : n = n'
              · subst q9
                go_wp2_with fail
                go_ret
                exact ⟨by rw [show r = true from Er.out.trans (by simp)]; rfl, HB.out⟩
              · go_wp2_with fail
                go_ret
                exact ⟨by rw [show r = false from Er.out.trans (decide_eq_false (fun h => q9 (by simp only [Cr.mk.injEq] at h; omega)))]; rfl, HB.out⟩
            · go_wp2_with fail
              go_ret
              exact ⟨by rw [show r = false from Er.out.trans (decide_eq_false (fun h => q8 (by simp only [Cr.mk.injEq] at h; omega)))]; rfl, HB.out⟩
          · rw [decide_eq_false q6]
            go_wp2_with fail
            go_ret
            exact ⟨by rw [show r = false from Er.out.trans (decide_eq_false (fun h => q6 (by simp only [Cr.mk.injEq] at h; omega)))]; rfl, HB.out⟩
        · rw [decide_eq_false q4]
          go_wp2_with fail
          go_ret
          exact ⟨by rw [show r = false from Er.out.trans (decide_eq_false (fun h => q4 (by simp only [Cr.mk.injEq] at h; omega)))]; rfl, HB.out⟩
      · go_wp2_with fail
        go_ret
        exact ⟨by rw [show r = false from Er.out.trans (decide_eq_false (fun h => q3 (by simp only [Cr.mk.injEq] at h; omega)))]; rfl, HB.out⟩
    · rw [decide_eq_false q1]
      go_wp2_with fail
      go_ret
      exact ⟨by rw [show r = false from Er.out.trans (decide_eq_false (fun h => q1 (by simp only [Cr.mk.injEq] at h; omega)))]; rfl, HB.out⟩
  · go_wp2_with fail
    go_ret
    exact ⟨by rw [show r = false from Er.out.trans (decide_eq_false (fun h => q0 (by simp only [Cr.mk.injEq] at h; omega)))]; rfl, HB.out⟩
end Go.Proofs.Ythafpkpmnhgmaaa.P5
namespace Go.Proofs.Ythafpkpmnhgmaaa.P5
set_option maxRecDepth 8000
open Go.RowKit P1

theorem person_calls (a : Int) (w : World) : Calls Try.prog 130 #[.int .i64 a] w fun e w' => e = .returned (.bool (decide (0 ≤ a ∧ a ≤ 5))) ∧ w' = w := by
  by_cases h1 : 0 ≤ a
  · by_cases h2 : a ≤ 5
    · have h3 : a < 6 := by omega
      rw [decide_eq_true ⟨h1, h2⟩]
      go_enter Try.func130, Try.ntmps130
      go_wp2_with fail
      go_ret
      exact ⟨rfl, rfl⟩
    · have h3 : ¬ a < 6 := by omega
      rw [decide_eq_false (fun h => h2 h.2)]
      go_enter Try.func130, Try.ntmps130
      go_wp2_with fail
      go_ret
      exact ⟨rfl, rfl⟩
  · rw [decide_eq_false (fun h => h1 h.1)]
    go_enter Try.func130, Try.ntmps130
    go_wp2_with fail
    go_ret
    exact ⟨rfl, rfl⟩

set_option maxHeartbeats 400000 in
theorem implRole_calls (a b : Int) (w : World) :
    Calls Try.prog 123 #[roleV a b] w fun e w' => e = .returned (.bool (decide (roleOk a b))) ∧ Below w.heap.size w w' := by
  have HB : Hid (Below w.heap.size w (w.alloc (.cells #[.int .i64 a, .int .i64 b] 34))) := (Below.refl _ _).alloc (Nat.le_refl _) _
  obtain ⟨r, Er⟩ : ∃ r, Hid (r = decide (roleOk a b)) := ⟨_, rfl⟩
  rw [← Er.out]
  by_cases h1 : 0 ≤ a ∧ a ≤ 5
  · have d1 := decide_eq_true h1
    by_cases h2 : 0 ≤ b
    · by_cases h3 : b < 4
      · have HR : Hid (r = true) := Er.out.trans (decide_eq_true (by unfold roleOk; omega))
        clear h1 Er
        go_enter Try.func123, Try.ntmps123
        go_wp2_with fail
        refine (person_calls _ _).mono ?_
        rintro e w1 ⟨rfl, rfl⟩
        rw [d1]
        clear d1
        go_wp2_with fail
        go_ret
        exact ⟨by rw [HR.out]; rfl, HB.out⟩
      · have HR : Hid (r = decide (b < 4)) := Er.out.trans ((decide_eq_false (by unfold roleOk; omega)).trans (decide_eq_false h3).symm)
        clear h1 Er
        go_enter Try.func123, Try.ntmps123
        go_wp2_with fail
        refine (person_calls _ _).mono ?_
        rintro e w1 ⟨rfl, rfl⟩
        rw [d1]
        clear d1
        go_wp2_with fail
        go_ret
        exact ⟨by rw [HR.out]; rfl, HB.out⟩
    · have HR : Hid (r = false) := Er.out.trans (decide_eq_false (by unfold roleOk; omega))
      clear h1 Er
      go_enter Try.func123, Try.ntmps123
      go_wp2_with fail
      refine (person_calls _ _).mono ?_
      rintro e w1 ⟨rfl, rfl⟩
      rw [d1]
      clear d1
      go_wp2_with fail
      go_ret
      exact ⟨by rw [HR.out]; rfl, HB.out⟩
  · have d1 := decide_eq_false h1
    have HR : Hid (r = false) := Er.out.trans (decide_eq_false (by unfold roleOk; omega))
    clear h1 Er
    go_enter Try.func123, Try.ntmps123
    go_wp2_with fail
    refine (person_calls _ _).mono ?_
    rintro e w1 ⟨rfl, rfl⟩
    rw [d1]
    clear d1
    go_wp2_with fail
    go_ret
    exact ⟨by rw [HR.out]; rfl, HB.out⟩

/-- What a word of its kind has, of these numbers. -/
def partsOk (k wh aw an bw bn : Int) : Prop := kindOk ⟨k, 0, 0, wh, aw, an, bw, bn, 0, 0⟩

instance (k wh aw an bw bn : Int) : Decidable (partsOk k wh aw an bw bn) := by unfold partsOk; infer_instance

set_option maxHeartbeats 1000000 in
theorem parts_calls (k wh aw an bw bn : Int) (w : World) :
    Calls Try.prog 124 #[.int .i64 k, .int .i64 wh, roleV aw an, roleV bw bn] w fun e w' => e = .returned (.bool (decide (partsOk k wh aw an bw bn))) ∧ Below w.heap.size w w' := by
  obtain ⟨r, HR⟩ : ∃ r, Hid (r = decide (partsOk k wh aw an bw bn)) := ⟨_, rfl⟩
  rw [← HR.out]
  have hb0 := (Below.refl w.heap.size w).alloc (Nat.le_refl _) (.cells #[.int .i64 aw, .int .i64 an] 34)
  have hb1 := hb0.alloc hb0.size (.cells #[.int .i64 bw, .int .i64 bn] 34)
  have HB := hide (hb1.alloc hb1.size (.cells #[.int .i64 0, .int .i64 0] 34))
  have g0 := Blk.new w #[.int .i64 aw, .int .i64 an] 34
  have g0 := g0.below ((Below.refl _ _).alloc (Nat.le_refl _) (.cells #[.int .i64 bw, .int .i64 bn] 34)) g0.lt
  have g0 := g0.below ((Below.refl _ _).alloc (Nat.le_refl _) (.cells #[.int .i64 0, .int .i64 0] 34)) g0.lt
  have g1 := Blk.new (w.alloc (.cells #[.int .i64 aw, .int .i64 an] 34)) #[.int .i64 bw, .int .i64 bn] 34
  have g1 := g1.below ((Below.refl _ _).alloc (Nat.le_refl _) (.cells #[.int .i64 0, .int .i64 0] 34)) g1.lt
  have g2 := Blk.new ((w.alloc (.cells #[.int .i64 aw, .int .i64 an] 34)).alloc (.cells #[.int .i64 bw, .int .i64 bn] 34)) #[.int .i64 0, .int .i64 0] 34
  rw [show (w.alloc (.cells #[.int .i64 aw, .int .i64 an] 34)).heap.size = w.heap.size + 1 from by simp [go_sem]] at g1
  rw [show ((w.alloc (.cells #[.int .i64 aw, .int .i64 an] 34)).alloc (.cells #[.int .i64 bw, .int .i64 bn] 34)).heap.size = w.heap.size + 1 + 1 from by simp [go_sem]] at g2
  clear hb0 hb1
  have G0 := hide g0
  have G1 := hide g1
  have G2 := hide g2
  clear g0 g1 g2
  by_cases k1 : k = 1
  · subst k1
    go_enter Try.func124, Try.ntmps124
    go_wp2_with fail
    obtain ⟨b2, e2⟩ : ∃ b, b = w.heap.size + 1 + 1 := ⟨_, rfl⟩
    obtain ⟨b1, e1⟩ : ∃ b, b = w.heap.size + 1 := ⟨_, rfl⟩
    obtain ⟨b0, e0⟩ : ∃ b, b = w.heap.size := ⟨_, rfl⟩
    rw [← e2] at G2 ⊢
    rw [← e1] at G1 ⊢
    rw [← e0] at G0 ⊢
    clear e0 e1 e2
    generalize ((w.alloc (.cells #[.int .i64 aw, .int .i64 an] 34)).alloc (.cells #[.int .i64 bw, .int .i64 bn] 34)).alloc (.cells #[.int .i64 0, .int .i64 0] 34) = w1 at *
    refine (person_calls _ _).mono ?_
    rintro e w4 ⟨rfl, rfl⟩
    have c00 : w4.cell? ⟨b0, 0, none⟩ = some (.int .i64 aw) := by rw [G0.out.cell 0]; rfl
    have c01 : w4.cell? ⟨b0, 1, none⟩ = some (.int .i64 an) := by rw [G0.out.cell 1]; rfl
    have c10 : w4.cell? ⟨b1, 0, none⟩ = some (.int .i64 bw) := by rw [G1.out.cell 0]; rfl
    have c11 : w4.cell? ⟨b1, 1, none⟩ = some (.int .i64 bn) := by rw [G1.out.cell 1]; rfl
    have c20 : w4.cell? ⟨b2, 0, none⟩ = some (.int .i64 0) := by rw [G2.out.cell 0]; rfl
    have c21 : w4.cell? ⟨b2, 1, none⟩ = some (.int .i64 0) := by rw [G2.out.cell 1]; rfl
    have l0 := G0.out.lt
    have l1 := G1.out.lt
    have l2 := G2.out.lt
    by_cases h4 : 0 ≤ wh ∧ wh ≤ 5
    · rw [decide_eq_true h4]
      go_wp2_with fail
      all_goals go_ret
      all_goals first
        | exact ⟨by rw [show r = false from by rw [HR.out]; exact decide_eq_false (by unfold partsOk kindOk roleOk; dsimp only; omega)]; rfl, HB.out⟩
        | exact ⟨by rw [show r = true from by rw [HR.out]; exact decide_eq_true (by unfold partsOk kindOk roleOk; dsimp only; omega)]; rfl, HB.out⟩
        | exact ⟨by rw [show r = (bw == 0) from by
            rw [HR.out]
            by_cases h7 : bw = 0
            · rw [decide_eq_true (by unfold partsOk kindOk roleOk; dsimp only; omega), h7]; rfl
            · rw [decide_eq_false (by unfold partsOk kindOk roleOk; dsimp only; omega), beq_false_of_ne h7]]; rfl, HB.out⟩
        | exact ⟨by rw [show r = (bn == 0) from by
            rw [HR.out]
            by_cases h7 : bn = 0
            · rw [decide_eq_true (by unfold partsOk kindOk roleOk; dsimp only; omega), h7]; rfl
            · rw [decide_eq_false (by unfold partsOk kindOk roleOk; dsimp only; omega), beq_false_of_ne h7]]; rfl, HB.out⟩
    · rw [decide_eq_false h4]
      go_wp2_with fail
      all_goals go_ret
      all_goals first
        | exact ⟨by rw [show r = false from by rw [HR.out]; exact decide_eq_false (by unfold partsOk kindOk roleOk; dsimp only; omega)]; rfl, HB.out⟩
        | exact ⟨by rw [show r = true from by rw [HR.out]; exact decide_eq_true (by unfold partsOk kindOk roleOk; dsimp only; omega)]; rfl, HB.out⟩
        | exact ⟨by rw [show r = (bw == 0) from by
            rw [HR.out]
            by_cases h7 : bw = 0
            · rw [decide_eq_true (by unfold partsOk kindOk roleOk; dsimp only; omega), h7]; rfl
            · rw [decide_eq_false (by unfold partsOk kindOk roleOk; dsimp only; omega), beq_false_of_ne h7]]; rfl, HB.out⟩
        | exact ⟨by rw [show r = (bn == 0) from by
            rw [HR.out]
            by_cases h7 : bn = 0
            · rw [decide_eq_true (by unfold partsOk kindOk roleOk; dsimp only; omega), h7]; rfl
            · rw [decide_eq_false (by unfold partsOk kindOk roleOk; dsimp only; omega), beq_false_of_ne h7]]; rfl, HB.out⟩
  by_cases k2 : k = 2
  · subst k2
    by_cases h4 : wh = 0
    · subst h4
      go_enter Try.func124, Try.ntmps124
      go_wp2_with fail
      obtain ⟨b2, e2⟩ : ∃ b, b = w.heap.size + 1 + 1 := ⟨_, rfl⟩
      obtain ⟨b1, e1⟩ : ∃ b, b = w.heap.size + 1 := ⟨_, rfl⟩
      obtain ⟨b0, e0⟩ : ∃ b, b = w.heap.size := ⟨_, rfl⟩
      rw [← e2] at G2 ⊢
      rw [← e1] at G1 ⊢
      rw [← e0] at G0 ⊢
      clear e0 e1 e2
      generalize ((w.alloc (.cells #[.int .i64 aw, .int .i64 an] 34)).alloc (.cells #[.int .i64 bw, .int .i64 bn] 34)).alloc (.cells #[.int .i64 0, .int .i64 0] 34) = w1 at *
      refine (implRole_calls aw an _).mono ?_
      rintro e w5 ⟨rfl, hb⟩
      have HB := hide (HB.out.trans (hb.mono HB.out.size))
      have G0 := hide (G0.out.below hb G0.out.lt)
      have G1 := hide (G1.out.below hb G1.out.lt)
      have G2 := hide (G2.out.below hb G2.out.lt)
      clear hb
      have c10 : w5.cell? ⟨b1, 0, none⟩ = some (.int .i64 bw) := by rw [G1.out.cell 0]; rfl
      have c11 : w5.cell? ⟨b1, 1, none⟩ = some (.int .i64 bn) := by rw [G1.out.cell 1]; rfl
      have c20 : w5.cell? ⟨b2, 0, none⟩ = some (.int .i64 0) := by rw [G2.out.cell 0]; rfl
      have c21 : w5.cell? ⟨b2, 1, none⟩ = some (.int .i64 0) := by rw [G2.out.cell 1]; rfl
      have l1 := G1.out.lt
      have l2 := G2.out.lt
      by_cases h5 : roleOk aw an
      · rw [decide_eq_true h5]
        unfold roleOk at h5
        go_wp2_with fail
        all_goals go_ret
        all_goals first
          | exact ⟨by rw [show r = false from by rw [HR.out]; exact decide_eq_false (by unfold partsOk kindOk roleOk; dsimp only; omega)]; rfl, HB.out⟩
          | exact ⟨by rw [show r = true from by rw [HR.out]; exact decide_eq_true (by unfold partsOk kindOk roleOk; dsimp only; omega)]; rfl, HB.out⟩
          | exact ⟨by rw [show r = (bw == 0) from by
              rw [HR.out]
              by_cases h7 : bw = 0
              · rw [decide_eq_true (by unfold partsOk kindOk roleOk; dsimp only; omega), h7]; rfl
              · rw [decide_eq_false (by unfold partsOk kindOk roleOk; dsimp only; omega), beq_false_of_ne h7]]; rfl, HB.out⟩
          | exact ⟨by rw [show r = (bn == 0) from by
              rw [HR.out]
              by_cases h7 : bn = 0
              · rw [decide_eq_true (by unfold partsOk kindOk roleOk; dsimp only; omega), h7]; rfl
              · rw [decide_eq_false (by unfold partsOk kindOk roleOk; dsimp only; omega), beq_false_of_ne h7]]; rfl, HB.out⟩
      · rw [decide_eq_false h5]
        unfold roleOk at h5
        go_wp2_with fail
        all_goals go_ret
        all_goals first
          | exact ⟨by rw [show r = false from by rw [HR.out]; exact decide_eq_false (by unfold partsOk kindOk roleOk; dsimp only; omega)]; rfl, HB.out⟩
          | exact ⟨by rw [show r = true from by rw [HR.out]; exact decide_eq_true (by unfold partsOk kindOk roleOk; dsimp only; omega)]; rfl, HB.out⟩
          | exact ⟨by rw [show r = (bw == 0) from by
              rw [HR.out]
              by_cases h7 : bw = 0
              · rw [decide_eq_true (by unfold partsOk kindOk roleOk; dsimp only; omega), h7]; rfl
              · rw [decide_eq_false (by unfold partsOk kindOk roleOk; dsimp only; omega), beq_false_of_ne h7]]; rfl, HB.out⟩
          | exact ⟨by rw [show r = (bn == 0) from by
              rw [HR.out]
              by_cases h7 : bn = 0
              · rw [decide_eq_true (by unfold partsOk kindOk roleOk; dsimp only; omega), h7]; rfl
              · rw [decide_eq_false (by unfold partsOk kindOk roleOk; dsimp only; omega), beq_false_of_ne h7]]; rfl, HB.out⟩
    · skip
      go_enter Try.func124, Try.ntmps124
      go_wp2_with fail
      all_goals go_ret
      all_goals first
        | exact ⟨by rw [show r = false from by rw [HR.out]; exact decide_eq_false (by unfold partsOk kindOk roleOk; dsimp only; omega)]; rfl, HB.out⟩
        | exact ⟨by rw [show r = true from by rw [HR.out]; exact decide_eq_true (by unfold partsOk kindOk roleOk; dsimp only; omega)]; rfl, HB.out⟩
        | exact ⟨by rw [show r = (bw == 0) from by
            rw [HR.out]
            by_cases h7 : bw = 0
            · rw [decide_eq_true (by unfold partsOk kindOk roleOk; dsimp only; omega), h7]; rfl
            · rw [decide_eq_false (by unfold partsOk kindOk roleOk; dsimp only; omega), beq_false_of_ne h7]]; rfl, HB.out⟩
        | exact ⟨by rw [show r = (bn == 0) from by
            rw [HR.out]
            by_cases h7 : bn = 0
            · rw [decide_eq_true (by unfold partsOk kindOk roleOk; dsimp only; omega), h7]; rfl
            · rw [decide_eq_false (by unfold partsOk kindOk roleOk; dsimp only; omega), beq_false_of_ne h7]]; rfl, HB.out⟩
  by_cases k3 : k = 3
  · subst k3
    by_cases h4 : wh = 0
    · subst h4
      go_enter Try.func124, Try.ntmps124
      go_wp2_with fail
      obtain ⟨b2, e2⟩ : ∃ b, b = w.heap.size + 1 + 1 := ⟨_, rfl⟩
      obtain ⟨b1, e1⟩ : ∃ b, b = w.heap.size + 1 := ⟨_, rfl⟩
      obtain ⟨b0, e0⟩ : ∃ b, b = w.heap.size := ⟨_, rfl⟩
      rw [← e2] at G2 ⊢
      rw [← e1] at G1 ⊢
      rw [← e0] at G0 ⊢
      clear e0 e1 e2
      generalize ((w.alloc (.cells #[.int .i64 aw, .int .i64 an] 34)).alloc (.cells #[.int .i64 bw, .int .i64 bn] 34)).alloc (.cells #[.int .i64 0, .int .i64 0] 34) = w1 at *
      refine (implRole_calls aw an _).mono ?_
      rintro e w5 ⟨rfl, hb⟩
      have HB := hide (HB.out.trans (hb.mono HB.out.size))
      have G0 := hide (G0.out.below hb G0.out.lt)
      have G1 := hide (G1.out.below hb G1.out.lt)
      have G2 := hide (G2.out.below hb G2.out.lt)
      clear hb
      have c10 : w5.cell? ⟨b1, 0, none⟩ = some (.int .i64 bw) := by rw [G1.out.cell 0]; rfl
      have c11 : w5.cell? ⟨b1, 1, none⟩ = some (.int .i64 bn) := by rw [G1.out.cell 1]; rfl
      have l1 := G1.out.lt
      by_cases h5 : roleOk aw an
      · rw [decide_eq_true h5]
        unfold roleOk at h5
        go_wp2_with fail
        clear c10 c11 l1
        refine (implRole_calls bw bn _).mono ?_
        rintro e w6 ⟨rfl, hb⟩
        have HB := hide (HB.out.trans (hb.mono HB.out.size))
        have G0 := hide (G0.out.below hb G0.out.lt)
        have G1 := hide (G1.out.below hb G1.out.lt)
        have G2 := hide (G2.out.below hb G2.out.lt)
        clear hb
        have c10 : w6.cell? ⟨b1, 0, none⟩ = some (.int .i64 bw) := by rw [G1.out.cell 0]; rfl
        have c11 : w6.cell? ⟨b1, 1, none⟩ = some (.int .i64 bn) := by rw [G1.out.cell 1]; rfl
        have l1 := G1.out.lt
        by_cases h6 : roleOk bw bn
        · rw [decide_eq_true h6]
          unfold roleOk at h6
          go_wp2_with fail
          all_goals go_ret
          all_goals first
            | exact ⟨by rw [show r = false from by rw [HR.out]; exact decide_eq_false (by unfold partsOk kindOk roleOk; dsimp only; omega)]; rfl, HB.out⟩
            | exact ⟨by rw [show r = true from by rw [HR.out]; exact decide_eq_true (by unfold partsOk kindOk roleOk; dsimp only; omega)]; rfl, HB.out⟩
            | exact ⟨by rw [show r = (bw == 0) from by
                rw [HR.out]
                by_cases h7 : bw = 0
                · rw [decide_eq_true (by unfold partsOk kindOk roleOk; dsimp only; omega), h7]; rfl
                · rw [decide_eq_false (by unfold partsOk kindOk roleOk; dsimp only; omega), beq_false_of_ne h7]]; rfl, HB.out⟩
            | exact ⟨by rw [show r = (bn == 0) from by
                rw [HR.out]
                by_cases h7 : bn = 0
                · rw [decide_eq_true (by unfold partsOk kindOk roleOk; dsimp only; omega), h7]; rfl
                · rw [decide_eq_false (by unfold partsOk kindOk roleOk; dsimp only; omega), beq_false_of_ne h7]]; rfl, HB.out⟩
        · rw [decide_eq_false h6]
          unfold roleOk at h6
          go_wp2_with fail
          all_goals go_ret
          all_goals first
            | exact ⟨by rw [show r = false from by rw [HR.out]; exact decide_eq_false (by unfold partsOk kindOk roleOk; dsimp only; omega)]; rfl, HB.out⟩
            | exact ⟨by rw [show r = true from by rw [HR.out]; exact decide_eq_true (by unfold partsOk kindOk roleOk; dsimp only; omega)]; rfl, HB.out⟩
            | exact ⟨by rw [show r = (bw == 0) from by
                rw [HR.out]
                by_cases h7 : bw = 0
                · rw [decide_eq_true (by unfold partsOk kindOk roleOk; dsimp only; omega), h7]; rfl
                · rw [decide_eq_false (by unfold partsOk kindOk roleOk; dsimp only; omega), beq_false_of_ne h7]]; rfl, HB.out⟩
            | exact ⟨by rw [show r = (bn == 0) from by
                rw [HR.out]
                by_cases h7 : bn = 0
                · rw [decide_eq_true (by unfold partsOk kindOk roleOk; dsimp only; omega), h7]; rfl
                · rw [decide_eq_false (by unfold partsOk kindOk roleOk; dsimp only; omega), beq_false_of_ne h7]]; rfl, HB.out⟩
      · rw [decide_eq_false h5]
        unfold roleOk at h5
        go_wp2_with fail
        all_goals go_ret
        all_goals first
          | exact ⟨by rw [show r = false from by rw [HR.out]; exact decide_eq_false (by unfold partsOk kindOk roleOk; dsimp only; omega)]; rfl, HB.out⟩
          | exact ⟨by rw [show r = true from by rw [HR.out]; exact decide_eq_true (by unfold partsOk kindOk roleOk; dsimp only; omega)]; rfl, HB.out⟩
          | exact ⟨by rw [show r = (bw == 0) from by
              rw [HR.out]
              by_cases h7 : bw = 0
              · rw [decide_eq_true (by unfold partsOk kindOk roleOk; dsimp only; omega), h7]; rfl
              · rw [decide_eq_false (by unfold partsOk kindOk roleOk; dsimp only; omega), beq_false_of_ne h7]]; rfl, HB.out⟩
          | exact ⟨by rw [show r = (bn == 0) from by
              rw [HR.out]
              by_cases h7 : bn = 0
              · rw [decide_eq_true (by unfold partsOk kindOk roleOk; dsimp only; omega), h7]; rfl
              · rw [decide_eq_false (by unfold partsOk kindOk roleOk; dsimp only; omega), beq_false_of_ne h7]]; rfl, HB.out⟩
    · skip
      go_enter Try.func124, Try.ntmps124
      go_wp2_with fail
      all_goals go_ret
      all_goals first
        | exact ⟨by rw [show r = false from by rw [HR.out]; exact decide_eq_false (by unfold partsOk kindOk roleOk; dsimp only; omega)]; rfl, HB.out⟩
        | exact ⟨by rw [show r = true from by rw [HR.out]; exact decide_eq_true (by unfold partsOk kindOk roleOk; dsimp only; omega)]; rfl, HB.out⟩
        | exact ⟨by rw [show r = (bw == 0) from by
            rw [HR.out]
            by_cases h7 : bw = 0
            · rw [decide_eq_true (by unfold partsOk kindOk roleOk; dsimp only; omega), h7]; rfl
            · rw [decide_eq_false (by unfold partsOk kindOk roleOk; dsimp only; omega), beq_false_of_ne h7]]; rfl, HB.out⟩
        | exact ⟨by rw [show r = (bn == 0) from by
            rw [HR.out]
            by_cases h7 : bn = 0
            · rw [decide_eq_true (by unfold partsOk kindOk roleOk; dsimp only; omega), h7]; rfl
            · rw [decide_eq_false (by unfold partsOk kindOk roleOk; dsimp only; omega), beq_false_of_ne h7]]; rfl, HB.out⟩
  by_cases k4 : k = 4
  · subst k4
    by_cases h4 : wh = 0
    · subst h4
      go_enter Try.func124, Try.ntmps124
      go_wp2_with fail
      obtain ⟨b2, e2⟩ : ∃ b, b = w.heap.size + 1 + 1 := ⟨_, rfl⟩
      obtain ⟨b1, e1⟩ : ∃ b, b = w.heap.size + 1 := ⟨_, rfl⟩
      obtain ⟨b0, e0⟩ : ∃ b, b = w.heap.size := ⟨_, rfl⟩
      rw [← e2] at G2 ⊢
      rw [← e1] at G1 ⊢
      rw [← e0] at G0 ⊢
      clear e0 e1 e2
      generalize ((w.alloc (.cells #[.int .i64 aw, .int .i64 an] 34)).alloc (.cells #[.int .i64 bw, .int .i64 bn] 34)).alloc (.cells #[.int .i64 0, .int .i64 0] 34) = w1 at *
      refine (implRole_calls aw an _).mono ?_
      rintro e w5 ⟨rfl, hb⟩
      have HB := hide (HB.out.trans (hb.mono HB.out.size))
      have G0 := hide (G0.out.below hb G0.out.lt)
      have G1 := hide (G1.out.below hb G1.out.lt)
      have G2 := hide (G2.out.below hb G2.out.lt)
      clear hb
      have c10 : w5.cell? ⟨b1, 0, none⟩ = some (.int .i64 bw) := by rw [G1.out.cell 0]; rfl
      have c11 : w5.cell? ⟨b1, 1, none⟩ = some (.int .i64 bn) := by rw [G1.out.cell 1]; rfl
      have l1 := G1.out.lt
      by_cases h5 : roleOk aw an
      · rw [decide_eq_true h5]
        unfold roleOk at h5
        go_wp2_with fail
        clear c10 c11 l1
        refine (implRole_calls bw bn _).mono ?_
        rintro e w6 ⟨rfl, hb⟩
        have HB := hide (HB.out.trans (hb.mono HB.out.size))
        have G0 := hide (G0.out.below hb G0.out.lt)
        have G1 := hide (G1.out.below hb G1.out.lt)
        have G2 := hide (G2.out.below hb G2.out.lt)
        clear hb
        have c10 : w6.cell? ⟨b1, 0, none⟩ = some (.int .i64 bw) := by rw [G1.out.cell 0]; rfl
        have c11 : w6.cell? ⟨b1, 1, none⟩ = some (.int .i64 bn) := by rw [G1.out.cell 1]; rfl
        have l1 := G1.out.lt
        by_cases h6 : roleOk bw bn
        · rw [decide_eq_true h6]
          unfold roleOk at h6
          go_wp2_with fail
          all_goals go_ret
          all_goals first
            | exact ⟨by rw [show r = false from by rw [HR.out]; exact decide_eq_false (by unfold partsOk kindOk roleOk; dsimp only; omega)]; rfl, HB.out⟩
            | exact ⟨by rw [show r = true from by rw [HR.out]; exact decide_eq_true (by unfold partsOk kindOk roleOk; dsimp only; omega)]; rfl, HB.out⟩
            | exact ⟨by rw [show r = (bw == 0) from by
                rw [HR.out]
                by_cases h7 : bw = 0
                · rw [decide_eq_true (by unfold partsOk kindOk roleOk; dsimp only; omega), h7]; rfl
                · rw [decide_eq_false (by unfold partsOk kindOk roleOk; dsimp only; omega), beq_false_of_ne h7]]; rfl, HB.out⟩
            | exact ⟨by rw [show r = (bn == 0) from by
                rw [HR.out]
                by_cases h7 : bn = 0
                · rw [decide_eq_true (by unfold partsOk kindOk roleOk; dsimp only; omega), h7]; rfl
                · rw [decide_eq_false (by unfold partsOk kindOk roleOk; dsimp only; omega), beq_false_of_ne h7]]; rfl, HB.out⟩
        · rw [decide_eq_false h6]
          unfold roleOk at h6
          go_wp2_with fail
          all_goals go_ret
          all_goals first
            | exact ⟨by rw [show r = false from by rw [HR.out]; exact decide_eq_false (by unfold partsOk kindOk roleOk; dsimp only; omega)]; rfl, HB.out⟩
            | exact ⟨by rw [show r = true from by rw [HR.out]; exact decide_eq_true (by unfold partsOk kindOk roleOk; dsimp only; omega)]; rfl, HB.out⟩
            | exact ⟨by rw [show r = (bw == 0) from by
                rw [HR.out]
                by_cases h7 : bw = 0
                · rw [decide_eq_true (by unfold partsOk kindOk roleOk; dsimp only; omega), h7]; rfl
                · rw [decide_eq_false (by unfold partsOk kindOk roleOk; dsimp only; omega), beq_false_of_ne h7]]; rfl, HB.out⟩
            | exact ⟨by rw [show r = (bn == 0) from by
                rw [HR.out]
                by_cases h7 : bn = 0
                · rw [decide_eq_true (by unfold partsOk kindOk roleOk; dsimp only; omega), h7]; rfl
                · rw [decide_eq_false (by unfold partsOk kindOk roleOk; dsimp only; omega), beq_false_of_ne h7]]; rfl, HB.out⟩
      · rw [decide_eq_false h5]
        unfold roleOk at h5
        go_wp2_with fail
        all_goals go_ret
        all_goals first
          | exact ⟨by rw [show r = false from by rw [HR.out]; exact decide_eq_false (by unfold partsOk kindOk roleOk; dsimp only; omega)]; rfl, HB.out⟩
          | exact ⟨by rw [show r = true from by rw [HR.out]; exact decide_eq_true (by unfold partsOk kindOk roleOk; dsimp only; omega)]; rfl, HB.out⟩
          | exact ⟨by rw [show r = (bw == 0) from by
              rw [HR.out]
              by_cases h7 : bw = 0
              · rw [decide_eq_true (by unfold partsOk kindOk roleOk; dsimp only; omega), h7]; rfl
              · rw [decide_eq_false (by unfold partsOk kindOk roleOk; dsimp only; omega), beq_false_of_ne h7]]; rfl, HB.out⟩
          | exact ⟨by rw [show r = (bn == 0) from by
              rw [HR.out]
              by_cases h7 : bn = 0
              · rw [decide_eq_true (by unfold partsOk kindOk roleOk; dsimp only; omega), h7]; rfl
              · rw [decide_eq_false (by unfold partsOk kindOk roleOk; dsimp only; omega), beq_false_of_ne h7]]; rfl, HB.out⟩
    · skip
      go_enter Try.func124, Try.ntmps124
      go_wp2_with fail
      all_goals go_ret
      all_goals first
        | exact ⟨by rw [show r = false from by rw [HR.out]; exact decide_eq_false (by unfold partsOk kindOk roleOk; dsimp only; omega)]; rfl, HB.out⟩
        | exact ⟨by rw [show r = true from by rw [HR.out]; exact decide_eq_true (by unfold partsOk kindOk roleOk; dsimp only; omega)]; rfl, HB.out⟩
        | exact ⟨by rw [show r = (bw == 0) from by
            rw [HR.out]
            by_cases h7 : bw = 0
            · rw [decide_eq_true (by unfold partsOk kindOk roleOk; dsimp only; omega), h7]; rfl
            · rw [decide_eq_false (by unfold partsOk kindOk roleOk; dsimp only; omega), beq_false_of_ne h7]]; rfl, HB.out⟩
        | exact ⟨by rw [show r = (bn == 0) from by
            rw [HR.out]
            by_cases h7 : bn = 0
            · rw [decide_eq_true (by unfold partsOk kindOk roleOk; dsimp only; omega), h7]; rfl
            · rw [decide_eq_false (by unfold partsOk kindOk roleOk; dsimp only; omega), beq_false_of_ne h7]]; rfl, HB.out⟩
  go_enter Try.func124, Try.ntmps124
  go_wp2_with fail
  all_goals go_ret
  all_goals first
    | exact ⟨by rw [show r = false from by rw [HR.out]; exact decide_eq_false (by unfold partsOk kindOk roleOk; dsimp only; omega)]; rfl, HB.out⟩
    | exact ⟨by rw [show r = true from by rw [HR.out]; exact decide_eq_true (by unfold partsOk kindOk roleOk; dsimp only; omega)]; rfl, HB.out⟩
    | exact ⟨by rw [show r = (bw == 0) from by
        rw [HR.out]
        by_cases h7 : bw = 0
        · rw [decide_eq_true (by unfold partsOk kindOk roleOk; dsimp only; omega), h7]; rfl
        · rw [decide_eq_false (by unfold partsOk kindOk roleOk; dsimp only; omega), beq_false_of_ne h7]]; rfl, HB.out⟩
    | exact ⟨by rw [show r = (bn == 0) from by
        rw [HR.out]
        by_cases h7 : bn = 0
        · rw [decide_eq_true (by unfold partsOk kindOk roleOk; dsimp only; omega), h7]; rfl
        · rw [decide_eq_false (by unfold partsOk kindOk roleOk; dsimp only; omega), beq_false_of_ne h7]]; rfl, HB.out⟩

set_option maxHeartbeats 1000000 in
theorem implCredOk_calls (c : Cr) (w : World) :
    Calls Try.prog 104 #[credV c] w fun e w' => e = .returned (.bool (decide (credOk c))) ∧ Below w.heap.size w w' := by
  obtain ⟨k, ow, on, wh, aw, an, bw, bn, u, n⟩ := c
  simp only [credV]
  have HB : Hid (Below w.heap.size w (w.alloc (.cells #[.int .i64 k, .int .i64 ow, .int .i64 on, .int .i64 wh, .int .i64 aw, .int .i64 an, .int .i64 bw, .int .i64 bn, .int .i64 u, .int .i64 n] 39))) := (Below.refl _ _).alloc (Nat.le_refl _) _
  have HA := hide (Blk.new w #[.int .i64 k, .int .i64 ow, .int .i64 on, .int .i64 wh, .int .i64 aw, .int .i64 an, .int .i64 bw, .int .i64 bn, .int .i64 u, .int .i64 n] 39)
  obtain ⟨r, Er⟩ : ∃ r, Hid (r = decide (credOk ⟨k, ow, on, wh, aw, an, bw, bn, u, n⟩)) := ⟨_, rfl⟩
  rw [← Er.out]
  have hb2 : ∀ h : u < 1 ∨ 9999 < u ∨ n < 0 ∨ 99 < n, r = false := fun h => Er.out.trans (decide_eq_false (by unfold credOk roleOk; dsimp only; omega))
  have HF := hide hb2
  clear hb2
  by_cases h1 : u < 1
  · have HR := hide (HF.out (by omega))
    clear Er HF
    go_enter Try.func104, Try.ntmps104
    go_wp2_with fail
    go_ret
    exact ⟨by rw [HR.out]; rfl, HB.out⟩
  by_cases h2 : 9999 < u
  · have HR := hide (HF.out (by omega))
    clear Er HF
    go_enter Try.func104, Try.ntmps104
    go_wp2_with fail
    go_ret
    exact ⟨by rw [HR.out]; rfl, HB.out⟩
  by_cases h3 : n < 0
  · have HR := hide (HF.out (by omega))
    clear Er HF
    go_enter Try.func104, Try.ntmps104
    go_wp2_with fail
    go_ret
    exact ⟨by rw [HR.out]; rfl, HB.out⟩
  by_cases h4 : 99 < n
  · have HR := hide (HF.out (by omega))
    clear Er HF
    go_enter Try.func104, Try.ntmps104
    go_wp2_with fail
    go_ret
    exact ⟨by rw [HR.out]; rfl, HB.out⟩
  clear HF
  go_enter Try.func104, Try.ntmps104
  go_wp2_with fail
  obtain ⟨b1, hb1⟩ : ∃ b, b = w.heap.size := ⟨_, rfl⟩
  rw [← hb1] at HA ⊢
  clear hb1
  generalize w.alloc (.cells #[.int .i64 k, .int .i64 ow, .int .i64 on, .int .i64 wh, .int .i64 aw, .int .i64 an, .int .i64 bw, .int .i64 bn, .int .i64 u, .int .i64 n] 39) = w1 at *
  refine (implRole_calls ow on _).mono ?_
  rintro e w2 ⟨rfl, hb⟩
  have HB := hide (HB.out.trans (hb.mono HB.out.size))
  have HA := hide (HA.out.below hb HA.out.lt)
  clear hb
  have c0 : w2.cell? ⟨b1, 0, none⟩ = some (.int .i64 k) := by rw [HA.out.cell 0]; rfl
  have c3 : w2.cell? ⟨b1, 3, none⟩ = some (.int .i64 wh) := by rw [HA.out.cell 3]; rfl
  have c4 : w2.cell? ⟨b1, 4, none⟩ = some (.int .i64 aw) := by rw [HA.out.cell 4]; rfl
  have c5 : w2.cell? ⟨b1, 5, none⟩ = some (.int .i64 an) := by rw [HA.out.cell 5]; rfl
  have c6 : w2.cell? ⟨b1, 6, none⟩ = some (.int .i64 bw) := by rw [HA.out.cell 6]; rfl
  have c7 : w2.cell? ⟨b1, 7, none⟩ = some (.int .i64 bn) := by rw [HA.out.cell 7]; rfl
  have l1 := HA.out.lt
  by_cases h5 : roleOk ow on
  · rw [decide_eq_true h5]
    have HR : Hid (r = decide (partsOk k wh aw an bw bn)) := by
      show r = _
      rw [Er.out]
      unfold roleOk at h5
      have hk : partsOk k wh aw an bw bn ↔ kindOk ⟨k, ow, on, wh, aw, an, bw, bn, u, n⟩ := Iff.rfl
      by_cases h6 : partsOk k wh aw an bw bn
      · rw [decide_eq_true h6]
        refine decide_eq_true ⟨⟨?_, ?_⟩, hk.1 h6⟩
        · show roleOk ow on
          unfold roleOk; omega
        · dsimp only; omega
      · rw [decide_eq_false h6]
        exact decide_eq_false fun h => h6 (hk.2 h.2)
    clear Er h5
    go_wp2_with fail
    clear c0 c3 c4 c5 c6 c7 l1
    refine (parts_calls k wh aw an bw bn _).mono ?_
    rintro e w3 ⟨rfl, hb⟩
    have HB := hide (HB.out.trans (hb.mono HB.out.size))
    rw [← HR.out]
    clear hb
    go_wp2_with fail
    go_ret
    exact ⟨rfl, HB.out⟩
  · rw [decide_eq_false h5]
    have HR : Hid (r = false) := Er.out.trans (decide_eq_false fun h => h5 h.1.1)
    clear Er h5
    go_wp2_with fail
    go_ret
    exact ⟨by rw [HR.out]; rfl, HB.out⟩
end Go.Proofs.Ythafpkpmnhgmaaa.P5
