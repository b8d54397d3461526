/- The contracts of the program's personOk, RoleOk, partsOk and CredOk; no condition. -/
import Derived.Test.YtflicklgmhgpiaaDoorCrd1
namespace Go.Proofs.YtflicklgmhgpiaaDoor.P5
set_option maxRecDepth 8000
open Go.RowKit P1

theorem person_calls (a : Int) (w : World) : Calls Tryd.prog 39 #[.int .i64 a] w fun e w' => e = .returned (.bool (decide (0 ≤ a ∧ a ≤ 5))) ∧ w' = w := by
  by_cases h1 : 0 ≤ a
  · by_cases h2 : a ≤ 5
    · have h3 : a < 6 := by omega
      rw [decide_eq_true ⟨h1, h2⟩]
      go_enter Tryd.func39, Tryd.ntmps39
      go_wp2_with fail
      go_ret
      exact ⟨rfl, rfl⟩
    · have h3 : ¬ a < 6 := by omega
      rw [decide_eq_false (fun h => h2 h.2)]
      go_enter Tryd.func39, Tryd.ntmps39
      go_wp2_with fail
      go_ret
      exact ⟨rfl, rfl⟩
  · rw [decide_eq_false (fun h => h1 h.1)]
    go_enter Tryd.func39, Tryd.ntmps39
    go_wp2_with fail
    go_ret
    exact ⟨rfl, rfl⟩

set_option maxHeartbeats 400000 in
theorem implRole_calls (a b : Int) (w : World) :
    Calls Tryd.prog 20 #[roleV a b] w fun e w' => e = .returned (.bool (decide (roleOk a b))) ∧ Below w.heap.size w w' := by
  have HB : Hid (Below w.heap.size w (w.alloc (.cells #[.int .i64 a, .int .i64 b] 25))) := (Below.refl _ _).alloc (Nat.le_refl _) _
  obtain ⟨r, Er⟩ : ∃ r, Hid (r = decide (roleOk a b)) := ⟨_, rfl⟩
  rw [← Er.out]
  by_cases h1 : 0 ≤ a ∧ a ≤ 5
  · have d1 := decide_eq_true h1
    by_cases h2 : 0 ≤ b
    · by_cases h3 : b < 4
      · have HR : Hid (r = true) := Er.out.trans (decide_eq_true (by unfold roleOk; omega))
        clear h1 Er
        go_enter Tryd.func20, Tryd.ntmps20
        go_wp2_with fail
        refine (person_calls _ _).mono ?_
        rintro e w1 ⟨rfl, rfl⟩
        rw [d1]
        clear d1
        go_wp2_with fail
        go_ret
        exact ⟨by rw [HR.out]; rfl, HB.out⟩
      · have HR : Hid (r = decide (b < 4)) := Er.out.trans ((decide_eq_false (by unfold roleOk; omega)).trans (decide_eq_false h3).symm)
        clear h1 Er
        go_enter Tryd.func20, Tryd.ntmps20
        go_wp2_with fail
        refine (person_calls _ _).mono ?_
        rintro e w1 ⟨rfl, rfl⟩
        rw [d1]
        clear d1
        go_wp2_with fail
        go_ret
        exact ⟨by rw [HR.out]; rfl, HB.out⟩
    · have HR : Hid (r = false) := Er.out.trans (decide_eq_false (by unfold roleOk; omega))
      clear h1 Er
      go_enter Tryd.func20, Tryd.ntmps20
      go_wp2_with fail
      refine (person_calls _ _).mono ?_
      rintro e w1 ⟨rfl, rfl⟩
      rw [d1]
      clear d1
      go_wp2_with fail
      go_ret
      exact ⟨by rw [HR.out]; rfl, HB.out⟩
  · have d1 := decide_eq_false h1
    have HR : Hid (r = false) := Er.out.trans (decide_eq_false (by unfold roleOk; omega))
    clear h1 Er
    go_enter Tryd.func20, Tryd.ntmps20
    go_wp2_with fail
    refine (person_calls _ _).mono ?_
    rintro e w1 ⟨rfl, rfl⟩
    rw [d1]
    clear d1
    go_wp2_with fail
    go_ret
    exact ⟨by rw [HR.out]; rfl, HB.out⟩

/-- What a word of its kind has, of these numbers. -/
def partsOk (k wh aw an bw bn : Int) : Prop := kindOk ⟨k, 0, 0, wh, aw, an, bw, bn, 0, 0⟩

instance (k wh aw an bw bn : Int) : Decidable (partsOk k wh aw an bw bn) := by unfold partsOk; infer_instance

set_option maxHeartbeats 1000000 in
theorem parts_calls (k wh aw an bw bn : Int) (w : World) :
    Calls Tryd.prog 36 #[.int .i64 k, .int .i64 wh, roleV aw an, roleV bw bn] w fun e w' => e = .returned (.bool (decide (partsOk k wh aw an bw bn))) ∧ Below w.heap.size w w' := by
  obtain ⟨r, HR⟩ : ∃ r, Hid (r = decide (partsOk k wh aw an bw bn)) := ⟨_, rfl⟩
  rw [← HR.out]
  have hb0 := (Below.refl w.heap.size w).alloc (Nat.le_refl _) (.cells #[.int .i64 aw, .int .i64 an] 25)
  have hb1 := hb0.alloc hb0.size (.cells #[.int .i64 bw, .int .i64 bn] 25)
  have HB := hide (hb1.alloc hb1.size (.cells #[.int .i64 0, .int .i64 0] 25))
  have g0 := Blk.new w #[.int .i64 aw, .int .i64 an] 25
  have g0 := g0.below ((Below.refl _ _).alloc (Nat.le_refl _) (.cells #[.int .i64 bw, .int .i64 bn] 25)) g0.lt
  have g0 := g0.below ((Below.refl _ _).alloc (Nat.le_refl _) (.cells #[.int .i64 0, .int .i64 0] 25)) g0.lt
  have g1 := Blk.new (w.alloc (.cells #[.int .i64 aw, .int .i64 an] 25)) #[.int .i64 bw, .int .i64 bn] 25
  have g1 := g1.below ((Below.refl _ _).alloc (Nat.le_refl _) (.cells #[.int .i64 0, .int .i64 0] 25)) g1.lt
  have g2 := Blk.new ((w.alloc (.cells #[.int .i64 aw, .int .i64 an] 25)).alloc (.cells #[.int .i64 bw, .int .i64 bn] 25)) #[.int .i64 0, .int .i64 0] 25
  rw [show (w.alloc (.cells #[.int .i64 aw, .int .i64 an] 25)).heap.size = w.heap.size + 1 from by simp [go_sem]] at g1
  rw [show ((w.alloc (.cells #[.int .i64 aw, .int .i64 an] 25)).alloc (.cells #[.int .i64 bw, .int .i64 bn] 25)).heap.size = w.heap.size + 1 + 1 from by simp [go_sem]] at g2
  clear hb0 hb1
  have G0 := hide g0
  have G1 := hide g1
  have G2 := hide g2
  clear g0 g1 g2
  by_cases k1 : k = 1
  · subst k1
    go_enter Tryd.func36, Tryd.ntmps36
    go_wp2_with fail
    obtain ⟨b2, e2⟩ : ∃ b, b = w.heap.size + 1 + 1 := ⟨_, rfl⟩
    obtain ⟨b1, e1⟩ : ∃ b, b = w.heap.size + 1 := ⟨_, rfl⟩
    obtain ⟨b0, e0⟩ : ∃ b, b = w.heap.size := ⟨_, rfl⟩
    rw [← e2] at G2 ⊢
    rw [← e1] at G1 ⊢
    rw [← e0] at G0 ⊢
    clear e0 e1 e2
    generalize ((w.alloc (.cells #[.int .i64 aw, .int .i64 an] 25)).alloc (.cells #[.int .i64 bw, .int .i64 bn] 25)).alloc (.cells #[.int .i64 0, .int .i64 0] 25) = w1 at *
    refine (person_calls _ _).mono ?_
    rintro e w4 ⟨rfl, rfl⟩
    have c00 : w4.cell? ⟨b0, 0, none⟩ = some (.int .i64 aw) := by rw [G0.out.cell 0]; rfl
    have c01 : w4.cell? ⟨b0, 1, none⟩ = some (.int .i64 an) := by rw [G0.out.cell 1]; rfl
    have c10 : w4.cell? ⟨b1, 0, none⟩ = some (.int .i64 bw) := by rw [G1.out.cell 0]; rfl
    have c11 : w4.cell? ⟨b1, 1, none⟩ = some (.int .i64 bn) := by rw [G1.out.cell 1]; rfl
    have c20 : w4.cell? ⟨b2, 0, none⟩ = some (.int .i64 0) := by rw [G2.out.cell 0]; rfl
    have c21 : w4.cell? ⟨b2, 1, none⟩ = some (.int .i64 0) := by rw [G2.out.cell 1]; rfl
    have l0 := G0.out.lt
    have l1 := G1.out.lt
    have l2 := G2.out.lt
    by_cases h4 : 0 ≤ wh ∧ wh ≤ 5
    · rw [decide_eq_true h4]
      go_wp2_with fail
      all_goals go_ret
      all_goals first
        | exact ⟨by rw [show r = false from by rw [HR.out]; exact decide_eq_false (by unfold partsOk kindOk roleOk; dsimp only; omega)]; rfl, HB.out⟩
        | exact ⟨by rw [show r = true from by rw [HR.out]; exact decide_eq_true (by unfold partsOk kindOk roleOk; dsimp only; omega)]; rfl, HB.out⟩
        | exact ⟨by rw [show r = (bw == 0) from by
            rw [HR.out]
            by_cases h7 : bw = 0
            · rw [decide_eq_true (by unfold partsOk kindOk roleOk; dsimp only; omega), h7]; rfl
            · rw [decide_eq_false (by unfold partsOk kindOk roleOk; dsimp only; omega), beq_false_of_ne h7]]; rfl, HB.out⟩
        | exact ⟨by rw [show r = (bn == 0) from by
            rw [HR.out]
            by_cases h7 : bn = 0
            · rw [decide_eq_true (by unfold partsOk kindOk roleOk; dsimp only; omega), h7]; rfl
            · rw [decide_eq_false (by unfold partsOk kindOk roleOk; dsimp only; omega), beq_false_of_ne h7]]; rfl, HB.out⟩
    · rw [decide_eq_false h4]
      go_wp2_with fail
      all_goals go_ret
      all_goals first
        | exact ⟨by rw [show r = false from by rw [HR.out]; exact decide_eq_false (by unfold partsOk kindOk roleOk; dsimp only; omega)]; rfl, HB.out⟩
        | exact ⟨by rw [show r = true from by rw [HR.out]; exact decide_eq_true (by unfold partsOk kindOk roleOk; dsimp only; omega)]; rfl, HB.out⟩
        | exact ⟨by rw [show r = (bw == 0) from by
            rw [HR.out]
            by_cases h7 : bw = 0
            · rw [decide_eq_true (by unfold partsOk kindOk roleOk; dsimp only; omega), h7]; rfl
            · rw [decide_eq_false (by unfold partsOk kindOk roleOk; dsimp only; omega), beq_false_of_ne h7]]; rfl, HB.out⟩
        | exact ⟨by rw [show r = (bn == 0) from by
            rw [HR.out]
            by_cases h7 : bn = 0
            · rw [decide_eq_true (by unfold partsOk kindOk roleOk; dsimp only; omega), h7]; rfl
            · rw [decide_eq_false (by unfold partsOk kindOk roleOk; dsimp only; omega), beq_false_of_ne h7]]; rfl, HB.out⟩
  by_cases k2 : k = 2
  · subst k2
    by_cases h4 : wh = 0
    · subst h4
      go_enter Tryd.func36, Tryd.ntmps36
      go_wp2_with fail
      obtain ⟨b2, e2⟩ : ∃ b, b = w.heap.size + 1 + 1 := ⟨_, rfl⟩
      obtain ⟨b1, e1⟩ : ∃ b, b = w.heap.size + 1 := ⟨_, rfl⟩
      obtain ⟨b0, e0⟩ : ∃ b, b = w.heap.size := ⟨_, rfl⟩
      rw [← e2] at G2 ⊢
      rw [← e1] at G1 ⊢
      rw [← e0] at G0 ⊢
      clear e0 e1 e2
      generalize ((w.alloc (.cells #[.int .i64 aw, .int .i64 an] 25)).alloc (.cells #[.int .i64 bw, .int .i64 bn] 25)).alloc (.cells #[.int .i64 0, .int .i64 0] 25) = w1 at *
      refine (implRole_calls aw an _).mono ?_
      rintro e w5 ⟨rfl, hb⟩
      have HB := hide (HB.out.trans (hb.mono HB.out.size))
      have G0 := hide (G0.out.below hb G0.out.lt)
      have G1 := hide (G1.out.below hb G1.out.lt)
      have G2 := hide (G2.out.below hb G2.out.lt)
      clear hb
      have c10 : w5.cell? ⟨b1, 0, none⟩ = some (.int .i64 bw) := by rw [G1.out.cell 0]; rfl
      have c11 : w5.cell? ⟨b1, 1, none⟩ = some (.int .i64 bn) := by rw [G1.out.cell 1]; rfl
      have c20 : w5.cell? ⟨b2, 0, none⟩ = some (.int .i64 0) := by rw [G2.out.cell 0]; rfl
      have c21 : w5.cell? ⟨b2, 1, none⟩ = some (.int .i64 0) := by rw [G2.out.cell 1]; rfl
      have l1 := G1.out.lt
      have l2 := G2.out.lt
      by_cases h5 : roleOk aw an
      · rw [decide_eq_true h5]
        unfold roleOk at h5
        go_wp2_with fail
        all_goals go_ret
        all_goals first
          | exact ⟨by rw [show r = false from by rw [HR.out]; exact decide_eq_false (by unfold partsOk kindOk roleOk; dsimp only; omega)]; rfl, HB.out⟩
          | exact ⟨by rw [show r = true from by rw [HR.out]; exact decide_eq_true (by unfold partsOk kindOk roleOk; dsimp only; omega)]; rfl, HB.out⟩
          | exact ⟨by rw [show r = (bw == 0) from by
              rw [HR.out]
              by_cases h7 : bw = 0
              · rw [decide_eq_true (by unfold partsOk kindOk roleOk; dsimp only; omega), h7]; rfl
              · rw [decide_eq_false (by unfold partsOk kindOk roleOk; dsimp only; omega), beq_false_of_ne h7]]; rfl, HB.out⟩
          | exact ⟨by rw [show r = (bn == 0) from by
              rw [HR.out]
              by_cases h7 : bn = 0
              · rw [decide_eq_true (by unfold partsOk kindOk roleOk; dsimp only; omega), h7]; rfl
              · rw [decide_eq_false (by unfold partsOk kindOk roleOk; dsimp only; omega), beq_false_of_ne h7]]; rfl, HB.out⟩
      · rw [decide_eq_false h5]
        unfold roleOk at h5
        go_wp2_with fail
        all_goals go_ret
        all_goals first
          | exact ⟨by rw [show r = false from by rw [HR.out]; exact decide_eq_false (by unfold partsOk kindOk roleOk; dsimp only; omega)]; rfl, HB.out⟩
          | exact ⟨by rw [show r = true from by rw [HR.out]; exact decide_eq_true (by unfold partsOk kindOk roleOk; dsimp only; omega)]; rfl, HB.out⟩
          | exact ⟨by rw [show r = (bw == 0) from by
              rw [HR.out]
              by_cases h7 : bw = 0
              · rw [decide_eq_true (by unfold partsOk kindOk roleOk; dsimp only; omega), h7]; rfl
              · rw [decide_eq_false (by unfold partsOk kindOk roleOk; dsimp only; omega), beq_false_of_ne h7]]; rfl, HB.out⟩
          | exact ⟨by rw [show r = (bn == 0) from by
              rw [HR.out]
              by_cases h7 : bn = 0
              · rw [decide_eq_true (by unfold partsOk kindOk roleOk; dsimp only; omega), h7]; rfl
              · rw [decide_eq_false (by unfold partsOk kindOk roleOk; dsimp only; omega), beq_false_of_ne h7]]; rfl, HB.out⟩
    · skip
      go_enter Tryd.func36, Tryd.ntmps36
      go_wp2_with fail
      all_goals go_ret
      all_goals first
        | exact ⟨by rw [show r = false from by rw [HR.out]; exact decide_eq_false (by unfold partsOk kindOk roleOk; dsimp only; omega)]; rfl, HB.out⟩
        | exact ⟨by rw [show r = true from by rw [HR.out]; exact decide_eq_true (by unfold partsOk kindOk roleOk; dsimp only; omega)]; rfl, HB.out⟩
        | exact ⟨by rw [show r = (bw == 0) from by
            rw [HR.out]
            by_cases h7 : bw = 0
            · rw [decide_eq_true (by unfold partsOk kindOk roleOk; dsimp only; omega), h7]; rfl
            · rw [decide_eq_false (by unfold partsOk kindOk roleOk; dsimp only; omega), beq_false_of_ne h7]]; rfl, HB.out⟩
        | exact ⟨by rw [show r = (bn == 0) from by
            rw [HR.out]
            by_cases h7 : bn = 0
            · rw [decide_eq_true (by unfold partsOk kindOk roleOk; dsimp only; omega), h7]; rfl
            · rw [decide_eq_false (by unfold partsOk kindOk roleOk; dsimp only; omega), beq_false_of_ne h7]]; rfl, HB.out⟩
  by_cases k3 : k = 3
  · subst k3
    by_cases h4 : wh = 0
    · subst h4
      go_enter Tryd.func36, Tryd.ntmps36
      go_wp2_with fail
      obtain ⟨b2, e2⟩ : ∃ b, b = w.heap.size + 1 + 1 := ⟨_, rfl⟩
      obtain ⟨b1, e1⟩ : ∃ b, b = w.heap.size + 1 := ⟨_, rfl⟩
      obtain ⟨b0, e0⟩ : ∃ b, b = w.heap.size := ⟨_, rfl⟩
      rw [← e2] at G2 ⊢
      rw [← e1] at G1 ⊢
      rw [← e0] at G0 ⊢
      clear e0 e1 e2
      generalize ((w.alloc (.cells #[.int .i64 aw, .int .i64 an] 25)).alloc (.cells #[.int .i64 bw, .int .i64 bn] 25)).alloc (.cells #[.int .i64 0, .int .i64 0] 25) = w1 at *
      refine (implRole_calls aw an _).mono ?_
      rintro e w5 ⟨rfl, hb⟩
      have HB := hide (HB.out.trans (hb.mono HB.out.size))
      have G0 := hide (G0.out.below hb G0.out.lt)
      have G1 := hide (G1.out.below hb G1.out.lt)
      have G2 := hide (G2.out.below hb G2.out.lt)
      clear hb
      have c10 : w5.cell? ⟨b1, 0, none⟩ = some (.int .i64 bw) := by rw [G1.out.cell 0]; rfl
      have c11 : w5.cell? ⟨b1, 1, none⟩ = some (.int .i64 bn) := by rw [G1.out.cell 1]; rfl
      have l1 := G1.out.lt
      by_cases h5 : roleOk aw an
      · rw [decide_eq_true h5]
        unfold roleOk at h5
        go_wp2_with fail
        clear c10 c11 l1
        refine (implRole_calls bw bn _).mono ?_
        rintro e w6 ⟨rfl, hb⟩
        have HB := hide (HB.out.trans (hb.mono HB.out.size))
        have G0 := hide (G0.out.below hb G0.out.lt)
        have G1 := hide (G1.out.below hb G1.out.lt)
        have G2 := hide (G2.out.below hb G2.out.lt)
        clear hb
        have c10 : w6.cell? ⟨b1, 0, none⟩ = some (.int .i64 bw) := by rw [G1.out.cell 0]; rfl
        have c11 : w6.cell? ⟨b1, 1, none⟩ = some (.int .i64 bn) := by rw [G1.out.cell 1]; rfl
        have l1 := G1.out.lt
        by_cases h6 : roleOk bw bn
        · rw [decide_eq_true h6]
          unfold roleOk at h6
          go_wp2_with fail
          all_goals go_ret
          all_goals first
            | exact ⟨by rw [show r = false from by rw [HR.out]; exact decide_eq_false (by unfold partsOk kindOk roleOk; dsimp only; omega)]; rfl, HB.out⟩
            | exact ⟨by rw [show r = true from by rw [HR.out]; exact decide_eq_true (by unfold partsOk kindOk roleOk; dsimp only; omega)]; rfl, HB.out⟩
            | exact ⟨by rw [show r = (bw == 0) from by
                rw [HR.out]
                by_cases h7 : bw = 0
                · rw [decide_eq_true (by unfold partsOk kindOk roleOk; dsimp only; omega), h7]; rfl
                · rw [decide_eq_false (by unfold partsOk kindOk roleOk; dsimp only; omega), beq_false_of_ne h7]]; rfl, HB.out⟩
            | exact ⟨by rw [show r = (bn == 0) from by
                rw [HR.out]
                by_cases h7 : bn = 0
                · rw [decide_eq_true (by unfold partsOk kindOk roleOk; dsimp only; omega), h7]; rfl
                · rw [decide_eq_false (by unfold partsOk kindOk roleOk; dsimp only; omega), beq_false_of_ne h7]]; rfl, HB.out⟩
        · rw [decide_eq_false h6]
          unfold roleOk at h6
          go_wp2_with fail
          all_goals go_ret
          all_goals first
            | exact ⟨by rw [show r = false from by rw [HR.out]; exact decide_eq_false (by unfold partsOk kindOk roleOk; dsimp only; omega)]; rfl, HB.out⟩
            | exact ⟨by rw [show r = true from by rw [HR.out]; exact decide_eq_true (by unfold partsOk kindOk roleOk; dsimp only; omega)]; rfl, HB.out⟩
            | exact ⟨by rw [show r = (bw == 0) from by
                rw [HR.out]
                by_cases h7 : bw = 0
                · rw [decide_eq_true (by unfold partsOk kindOk roleOk; dsimp only; omega), h7]; rfl
                · rw [decide_eq_false (by unfold partsOk kindOk roleOk; dsimp only; omega), beq_false_of_ne h7]]; rfl, HB.out⟩
            | exact ⟨by rw [show r = (bn == 0) from by
                rw [HR.out]
                by_cases h7 : bn = 0
                · rw [decide_eq_true (by unfold partsOk kindOk roleOk; dsimp only; omega), h7]; rfl
                · rw [decide_eq_false (by unfold partsOk kindOk roleOk; dsimp only; omega), beq_false_of_ne h7]]; rfl, HB.out⟩
      · rw [decide_eq_false h5]
        unfold roleOk at h5
        go_wp2_with fail
        all_goals go_ret
        all_goals first
          | exact ⟨by rw [show r = false from by rw [HR.out]; exact decide_eq_false (by unfold partsOk kindOk roleOk; dsimp only; omega)]; rfl, HB.out⟩
          | exact ⟨by rw [show r = true from by rw [HR.out]; exact decide_eq_true (by unfold partsOk kindOk roleOk; dsimp only; omega)]; rfl, HB.out⟩
          | exact ⟨by rw [show r = (bw == 0) from by
              rw [HR.out]
              by_cases h7 : bw = 0
              · rw [decide_eq_true (by unfold partsOk kindOk roleOk; dsimp only; omega), h7]; rfl
              · rw [decide_eq_false (by unfold partsOk kindOk roleOk; dsimp only; omega), beq_false_of_ne h7]]; rfl, HB.out⟩
          | exact ⟨by rw [show r = (bn == 0) from by
              rw [HR.out]
              by_cases h7 : bn = 0
              · rw [decide_eq_true (by unfold partsOk kindOk roleOk; dsimp only; omega), h7]; rfl
              · rw [decide_eq_false (by unfold partsOk kindOk roleOk; dsimp only; omega), beq_false_of_ne h7]]; rfl, HB.out⟩
    · skip
      go_enter Tryd.func36, Tryd.ntmps36
      go_wp2_with fail
      all_goals go_ret
      all_goals first
        | exact ⟨by rw [show r = false from by rw [HR.out]; exact decide_eq_false (by unfold partsOk kindOk roleOk; dsimp only; omega)]; rfl, HB.out⟩
        | exact ⟨by rw [show r = true from by rw [HR.out]; exact decide_eq_true (by unfold partsOk kindOk roleOk; dsimp only; omega)]; rfl, HB.out⟩
        | exact ⟨by rw [show r = (bw == 0) from by
            rw [HR.out]
            by_cases h7 : bw = 0
            · rw [decide_eq_true (by unfold partsOk kindOk roleOk; dsimp only; omega), h7]; rfl
            · rw [decide_eq_false (by unfold partsOk kindOk roleOk; dsimp only; omega), beq_false_of_ne h7]]; rfl, HB.out⟩
        | exact ⟨by rw [show r = (bn == 0) from by
            rw [HR.out]
            by_cases h7 : bn = 0
            · rw [decide_eq_true (by unfold partsOk kindOk roleOk; dsimp only; omega), h7]; rfl
            · rw [decide_eq_false (by unfold partsOk kindOk roleOk; dsimp only; omega), beq_false_of_ne h7]]; rfl, HB.out⟩
  by_cases k4 : k = 4
  · subst k4
    by_cases h4 : wh = 0
    · subst h4
      go_enter Tryd.func36, Tryd.ntmps36
      go_wp2_with fail
      obtain ⟨b2, e2⟩ : ∃ b, b = w.heap.size + 1 + 1 := ⟨_, rfl⟩
      obtain ⟨b1, e1⟩ : ∃ b, b = w.heap.size + 1 := ⟨_, rfl⟩
      obtain ⟨b0, e0⟩ : ∃ b, b = w.heap.size := ⟨_, rfl⟩
      rw [← e2] at G2 ⊢
      rw [← e1] at G1 ⊢
      rw [← e0] at G0 ⊢
      clear e0 e1 e2
      generalize ((w.alloc (.cells #[.int .i64 aw, .int .i64 an] 25)).alloc (.cells #[.int .i64 bw, .int .i64 bn] 25)).alloc (.cells #[.int .i64 0, .int .i64 0] 25) = w1 at *
      refine (implRole_calls aw an _).mono ?_
      rintro e w5 ⟨rfl, hb⟩
      have HB := hide (HB.out.trans (hb.mono HB.out.size))
      have G0 := hide (G0.out.below hb G0.out.lt)
      have G1 := hide (G1.out.below hb G1.out.lt)
      have G2 := hide (G2.out.below hb G2.out.lt)
      clear hb
      have c10 : w5.cell? ⟨b1, 0, none⟩ = some (.int .i64 bw) := by rw [G1.out.cell 0]; rfl
      have c11 : w5.cell? ⟨b1, 1, none⟩ = some (.int .i64 bn) := by rw [G1.out.cell 1]; rfl
      have l1 := G1.out.lt
      by_cases h5 : roleOk aw an
      · rw [decide_eq_true h5]
        unfold roleOk at h5
        go_wp2_with fail
        clear c10 c11 l1
        refine (implRole_calls bw bn _).mono ?_
        rintro e w6 ⟨rfl, hb⟩
        have HB := hide (HB.out.trans (hb.mono HB.out.size))
        have G0 := hide (G0.out.below hb G0.out.lt)
        have G1 := hide (G1.out.below hb G1.out.lt)
        have G2 := hide (G2.out.below hb G2.out.lt)
        clear hb
        have c10 : w6.cell? ⟨b1, 0, none⟩ = some (.int .i64 bw) := by rw [G1.out.cell 0]; rfl
        have c11 : w6.cell? ⟨b1, 1, none⟩ = some (.int .i64 bn) := by rw [G1.out.cell 1]; rfl
        have l1 := G1.out.lt
        by_cases h6 : roleOk bw bn
        · rw [decide_eq_true h6]
          unfold roleOk at h6
          go_wp2_with fail
          all_goals go_ret
          all_goals first
            | exact ⟨by rw [show r = false from by rw [HR.out]; exact decide_eq_false (by unfold partsOk kindOk roleOk; dsimp only; omega)]; rfl, HB.out⟩
            | exact ⟨by rw [show r = true from by rw [HR.out]; exact decide_eq_true (by unfold partsOk kindOk roleOk; dsimp only; omega)]; rfl, HB.out⟩
            | exact ⟨by rw [show r = (bw == 0) from by
                rw [HR.out]
                by_cases h7 : bw = 0
                · rw [decide_eq_true (by unfold partsOk kindOk roleOk; dsimp only; omega), h7]; rfl
                · rw [decide_eq_false (by unfold partsOk kindOk roleOk; dsimp only; omega), beq_false_of_ne h7]]; rfl, HB.out⟩
            | exact ⟨by rw [show r = (bn == 0) from by
                rw [HR.out]
                by_cases h7 : bn = 0
                · rw [decide_eq_true (by unfold partsOk kindOk roleOk; dsimp only; omega), h7]; rfl
                · rw [decide_eq_false (by unfold partsOk kindOk roleOk; dsimp only; omega), beq_false_of_ne h7]]; rfl, HB.out⟩
        · rw [decide_eq_false h6]
          unfold roleOk at h6
          go_wp2_with fail
          all_goals go_ret
          all_goals first
            | exact ⟨by rw [show r = false from by rw [HR.out]; exact decide_eq_false (by unfold partsOk kindOk roleOk; dsimp only; omega)]; rfl, HB.out⟩
            | exact ⟨by rw [show r = true from by rw [HR.out]; exact decide_eq_true (by unfold partsOk kindOk roleOk; dsimp only; omega)]; rfl, HB.out⟩
            | exact ⟨by rw [show r = (bw == 0) from by
                rw [HR.out]
                by_cases h7 : bw = 0
                · rw [decide_eq_true (by unfold partsOk kindOk roleOk; dsimp only; omega), h7]; rfl
                · rw [decide_eq_false (by unfold partsOk kindOk roleOk; dsimp only; omega), beq_false_of_ne h7]]; rfl, HB.out⟩
            | exact ⟨by rw [show r = (bn == 0) from by
                rw [HR.out]
                by_cases h7 : bn = 0
                · rw [decide_eq_true (by unfold partsOk kindOk roleOk; dsimp only; omega), h7]; rfl
                · rw [decide_eq_false (by unfold partsOk kindOk roleOk; dsimp only; omega), beq_false_of_ne h7]]; rfl, HB.out⟩
      · rw [decide_eq_false h5]
        unfold roleOk at h5
        go_wp2_with fail
        all_goals go_ret
        all_goals first
          | exact ⟨by rw [show r = false from by rw [HR.out]; exact decide_eq_false (by unfold partsOk kindOk roleOk; dsimp only; omega)]; rfl, HB.out⟩
          | exact ⟨by rw [show r = true from by rw [HR.out]; exact decide_eq_true (by unfold partsOk kindOk roleOk; dsimp only; omega)]; rfl, HB.out⟩
          | exact ⟨by rw [show r = (bw == 0) from by
              rw [HR.out]
              by_cases h7 : bw = 0
              · rw [decide_eq_true (by unfold partsOk kindOk roleOk; dsimp only; omega), h7]; rfl
              · rw [decide_eq_false (by unfold partsOk kindOk roleOk; dsimp only; omega), beq_false_of_ne h7]]; rfl, HB.out⟩
          | exact ⟨by rw [show r = (bn == 0) from by
              rw [HR.out]
              by_cases h7 : bn = 0
              · rw [decide_eq_true (by unfold partsOk kindOk roleOk; dsimp only; omega), h7]; rfl
              · rw [decide_eq_false (by unfold partsOk kindOk roleOk; dsimp only; omega), beq_false_of_ne h7]]; rfl, HB.out⟩
    · skip
      go_enter Tryd.func36, Tryd.ntmps36
      go_wp2_with fail
      all_goals go_ret
      all_goals first
        | exact ⟨by rw [show r = false from by rw [HR.out]; exact decide_eq_false (by unfold partsOk kindOk roleOk; dsimp only; omega)]; rfl, HB.out⟩
        | exact ⟨by rw [show r = true from by rw [HR.out]; exact decide_eq_true (by unfold partsOk kindOk roleOk; dsimp only; omega)]; rfl, HB.out⟩
        | exact ⟨by rw [show r = (bw == 0) from by
            rw [HR.out]
            by_cases h7 : bw = 0
            · rw [decide_eq_true (by unfold partsOk kindOk roleOk; dsimp only; omega), h7]; rfl
            · rw [decide_eq_false (by unfold partsOk kindOk roleOk; dsimp only; omega), beq_false_of_ne h7]]; rfl, HB.out⟩
        | exact ⟨by rw [show r = (bn == 0) from by
            rw [HR.out]
            by_cases h7 : bn = 0
            · rw [decide_eq_true (by unfold partsOk kindOk roleOk; dsimp only; omega), h7]; rfl
            · rw [decide_eq_false (by unfold partsOk kindOk roleOk; dsimp only; omega), beq_false_of_ne h7]]; rfl, HB.out⟩
  go_enter Tryd.func36, Tryd.ntmps36
  go_wp2_with fail
  all_goals go_ret
  all_goals first
    | exact ⟨by rw [show r = false from by rw [HR.out]; exact decide_eq_false (by unfold partsOk kindOk roleOk; dsimp only; omega)]; rfl, HB.out⟩
    | exact ⟨by rw [show r = true from by rw [HR.out]; exact decide_eq_true (by unfold partsOk kindOk roleOk; dsimp only; omega)]; rfl, HB.out⟩
    | exact ⟨by rw [show r = (bw == 0) from by
        rw [HR.out]
        by_cases h7 : bw = 0
        · rw [decide_eq_true (by unfold partsOk kindOk roleOk; dsimp only; omega), h7]; rfl
        · rw [decide_eq_false (by unfold partsOk kindOk roleOk; dsimp only; omega), beq_false_of_ne h7]]; rfl, HB.out⟩
    | exact ⟨by rw [show r = (bn == 0) from by
        rw [HR.out]
        by_cases h7 : bn = 0
        · rw [decide_eq_true (by unfold partsOk kindOk roleOk; dsimp only; omega), h7]; rfl
        · rw [decide_eq_false (by unfold partsOk kindOk roleOk; dsimp only; omega), beq_false_of_ne h7]]; rfl, HB.out⟩

set_option maxHeartbeats 1000000 in
theorem implCredOk_calls (c : Cr) (w : World) :
    Calls Tryd.prog 15 #[credV c] w fun e w' => e = .returned (.bool (decide (credOk c))) ∧ Below w.heap.size w w' := by
  obtain ⟨k, ow, on, wh, aw, an, bw, bn, u, n⟩ := c
  simp only [credV]
  have HB : Hid (Below w.heap.size w (w.alloc (.cells #[.int .i64 k, .int .i64 ow, .int .i64 on, .int .i64 wh, .int .i64 aw, .int .i64 an, .int .i64 bw, .int .i64 bn, .int .i64 u, .int .i64 n] 27))) := (Below.refl _ _).alloc (Nat.le_refl _) _
  have HA := hide (Blk.new w #[.int .i64 k, .int .i64 ow, .int .i64 on, .int .i64 wh, .int .i64 aw, .int .i64 an, .int .i64 bw, .int .i64 bn, .int .i64 u, .int .i64 n] 27)
  obtain ⟨r, Er⟩ : ∃ r, Hid (r = decide (credOk ⟨k, ow, on, wh, aw, an, bw, bn, u, n⟩)) := ⟨_, rfl⟩
  rw [← Er.out]
  have hb2 : ∀ h : u < 1 ∨ 9999 < u ∨ n < 0 ∨ 99 < n, r = false := fun h => Er.out.trans (decide_eq_false (by unfold credOk roleOk; dsimp only; omega))
  have HF := hide hb2
  clear hb2
  by_cases h1 : u < 1
  · have HR := hide (HF.out (by omega))
    clear Er HF
    go_enter Tryd.func15, Tryd.ntmps15
    go_wp2_with fail
    go_ret
    exact ⟨by rw [HR.out]; rfl, HB.out⟩
  by_cases h2 : 9999 < u
  · have HR := hide (HF.out (by omega))
    clear Er HF
    go_enter Tryd.func15, Tryd.ntmps15
    go_wp2_with fail
    go_ret
    exact ⟨by rw [HR.out]; rfl, HB.out⟩
  by_cases h3 : n < 0
  · have HR := hide (HF.out (by omega))
    clear Er HF
    go_enter Tryd.func15, Tryd.ntmps15
    go_wp2_with fail
    go_ret
    exact ⟨by rw [HR.out]; rfl, HB.out⟩
  by_cases h4 : 99 < n
  · have HR := hide (HF.out (by omega))
    clear Er HF
    go_enter Tryd.func15, Tryd.ntmps15
    go_wp2_with fail
    go_ret
    exact ⟨by rw [HR.out]; rfl, HB.out⟩
  clear HF
  go_enter Tryd.func15, Tryd.ntmps15
  go_wp2_with fail
  obtain ⟨b1, hb1⟩ : ∃ b, b = w.heap.size := ⟨_, rfl⟩
  rw [← hb1] at HA ⊢
  clear hb1
  generalize w.alloc (.cells #[.int .i64 k, .int .i64 ow, .int .i64 on, .int .i64 wh, .int .i64 aw, .int .i64 an, .int .i64 bw, .int .i64 bn, .int .i64 u, .int .i64 n] 27) = w1 at *
  refine (implRole_calls ow on _).mono ?_
  rintro e w2 ⟨rfl, hb⟩
  have HB := hide (HB.out.trans (hb.mono HB.out.size))
  have HA := hide (HA.out.below hb HA.out.lt)
  clear hb
  have c0 : w2.cell? ⟨b1, 0, none⟩ = some (.int .i64 k) := by rw [HA.out.cell 0]; rfl
  have c3 : w2.cell? ⟨b1, 3, none⟩ = some (.int .i64 wh) := by rw [HA.out.cell 3]; rfl
  have c4 : w2.cell? ⟨b1, 4, none⟩ = some (.int .i64 aw) := by rw [HA.out.cell 4]; rfl
  have c5 : w2.cell? ⟨b1, 5, none⟩ = some (.int .i64 an) := by rw [HA.out.cell 5]; rfl
  have c6 : w2.cell? ⟨b1, 6, none⟩ = some (.int .i64 bw) := by rw [HA.out.cell 6]; rfl
  have c7 : w2.cell? ⟨b1, 7, none⟩ = some (.int .i64 bn) := by rw [HA.out.cell 7]; rfl
  have l1 := HA.out.lt
  by_cases h5 : roleOk ow on
  · rw [decide_eq_true h5]
    have HR : Hid (r = decide (partsOk k wh aw an bw bn)) := by
      show r = _
      rw [Er.out]
      unfold roleOk at h5
      have hk : partsOk k wh aw an bw bn ↔ kindOk ⟨k, ow, on, wh, aw, an, bw, bn, u, n⟩ := Iff.rfl
      by_cases h6 : partsOk k wh aw an bw bn
      · rw [decide_eq_true h6]
        refine decide_eq_true ⟨⟨?_, ?_⟩, hk.1 h6⟩
        · show roleOk ow on
          unfold roleOk; omega
        · dsimp only; omega
      · rw [decide_eq_false h6]
        exact decide_eq_false fun h => h6 (hk.2 h.2)
    clear Er h5
    go_wp2_with fail
    clear c0 c3 c4 c5 c6 c7 l1
    refine (parts_calls k wh aw an bw bn _).mono ?_
    rintro e w3 ⟨rfl, hb⟩
    have HB := hide (HB.out.trans (hb.mono HB.out.size))
    rw [← HR.out]
    clear hb
    go_wp2_with fail
    go_ret
    exact ⟨rfl, HB.out⟩
  · rw [decide_eq_false h5]
    have HR : Hid (r = false) := Er.out.trans (decide_eq_false fun h => h5 h.1.1)
    clear Er h5
    go_wp2_with fail
    go_ret
    exact ⟨by rw [HR.out]; rfl, HB.out⟩
end Go.Proofs.YtflicklgmhgpiaaDoor.P5
