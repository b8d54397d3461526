/- The contract of the laws' eqCred; no condition. -/
import Derived.Test.YtflicklgmhgpiaaCrd3
namespace Go.Proofs.Ytflicklgmhgpiaa.P5
set_option maxRecDepth 8000
open Go.RowKit P1

set_option maxHeartbeats 2000000 in
theorem eqCred_calls (c d : Cr) (w : World) :
    Calls Try.prog 18 #[credV c, credV d] w fun e w' => e = .returned (.bool (decide (c = d))) ∧ Below w.heap.size w w' := by
  obtain ⟨k, ow, on, wh, aw, an, bw, bn, u, n⟩ := c
  obtain ⟨k', ow', on', wh', aw', an', bw', bn', u', n'⟩ := d
  simp only [credV]
  obtain ⟨r, Er⟩ : ∃ r, Hid (r = decide ((⟨k, ow, on, wh, aw, an, bw, bn, u, n⟩ : Cr) = ⟨k', ow', on', wh', aw', an', bw', bn', u', n'⟩)) := ⟨_, rfl⟩
  rw [← Er.out]
  have hb1 := (Below.refl w.heap.size w).alloc (Nat.le_refl _) (.cells #[.int .i64 k, .int .i64 ow, .int .i64 on, .int .i64 wh, .int .i64 aw, .int .i64 an, .int .i64 bw, .int .i64 bn, .int .i64 u, .int .i64 n] 32)
  have HA := Blk.new w #[.int .i64 k, .int .i64 ow, .int .i64 on, .int .i64 wh, .int .i64 aw, .int .i64 an, .int .i64 bw, .int .i64 bn, .int .i64 u, .int .i64 n] 32
  have HB := hide (hb1.alloc hb1.size (.cells #[.int .i64 k', .int .i64 ow', .int .i64 on', .int .i64 wh', .int .i64 aw', .int .i64 an', .int .i64 bw', .int .i64 bn', .int .i64 u', .int .i64 n'] 32))
  have HD := Blk.new (w.alloc (.cells #[.int .i64 k, .int .i64 ow, .int .i64 on, .int .i64 wh, .int .i64 aw, .int .i64 an, .int .i64 bw, .int .i64 bn, .int .i64 u, .int .i64 n] 32)) #[.int .i64 k', .int .i64 ow', .int .i64 on', .int .i64 wh', .int .i64 aw', .int .i64 an', .int .i64 bw', .int .i64 bn', .int .i64 u', .int .i64 n'] 32
  replace HA := hide (HA.below ((Below.refl _ (w.alloc (.cells #[.int .i64 k, .int .i64 ow, .int .i64 on, .int .i64 wh, .int .i64 aw, .int .i64 an, .int .i64 bw, .int .i64 bn, .int .i64 u, .int .i64 n] 32))).alloc (Nat.le_refl _) (.cells #[.int .i64 k', .int .i64 ow', .int .i64 on', .int .i64 wh', .int .i64 aw', .int .i64 an', .int .i64 bw', .int .i64 bn', .int .i64 u', .int .i64 n'] 32)) HA.lt)
  rw [show (w.alloc (.cells #[.int .i64 k, .int .i64 ow, .int .i64 on, .int .i64 wh, .int .i64 aw, .int .i64 an, .int .i64 bw, .int .i64 bn, .int .i64 u, .int .i64 n] 32)).heap.size = w.heap.size + 1 from by simp [go_sem]] at HD
  replace HD := hide HD
  clear hb1
  go_enter Try.func18, Try.ntmps18
  by_cases q0 : k = k'
  · subst q0
    go_wp2_with fail
    obtain ⟨b1, e1⟩ : ∃ b, b = w.heap.size + 1 := ⟨_, rfl⟩
    obtain ⟨b0, e0⟩ : ∃ b, b = w.heap.size := ⟨_, rfl⟩
    rw [← e1] at HD ⊢
    rw [← e0] at HA ⊢
    clear e0 e1
    generalize (w.alloc (.cells #[.int .i64 k, .int .i64 ow, .int .i64 on, .int .i64 wh, .int .i64 aw, .int .i64 an, .int .i64 bw, .int .i64 bn, .int .i64 u, .int .i64 n] 32)).alloc (.cells #[.int .i64 k, .int .i64 ow', .int .i64 on', .int .i64 wh', .int .i64 aw', .int .i64 an', .int .i64 bw', .int .i64 bn', .int .i64 u', .int .i64 n'] 32) = w1 at *
    refine (eqRole_calls ow on ow' on' _).mono ?_
    rintro e wa1 ⟨rfl, hb⟩
    have HB := hide (HB.out.trans (hb.mono HB.out.size))
    have HA := hide (HA.out.below hb HA.out.lt)
    have HD := hide (HD.out.below hb HD.out.lt)
    clear hb
    by_cases q1 : ow = ow' ∧ on = on'
    · rw [decide_eq_true q1]
      obtain ⟨rfl, rfl⟩ := q1
      have c3 : wa1.cell? ⟨b0, 3, none⟩ = some (.int .i64 wh) := by rw [HA.out.cell 3]; rfl
      have d3 : wa1.cell? ⟨b1, 3, none⟩ = some (.int .i64 wh') := by rw [HD.out.cell 3]; rfl
      have c4 : wa1.cell? ⟨b0, 4, none⟩ = some (.int .i64 aw) := by rw [HA.out.cell 4]; rfl
      have d4 : wa1.cell? ⟨b1, 4, none⟩ = some (.int .i64 aw') := by rw [HD.out.cell 4]; rfl
      have c5 : wa1.cell? ⟨b0, 5, none⟩ = some (.int .i64 an) := by rw [HA.out.cell 5]; rfl
      have d5 : wa1.cell? ⟨b1, 5, none⟩ = some (.int .i64 an') := by rw [HD.out.cell 5]; rfl
      by_cases q3 : wh = wh'
      · subst q3
        go_wp2_with fail
        clear c3 c4 c5 d3 d4 d5
        refine (eqRole_calls aw an aw' an' _).mono ?_
        rintro e wa2 ⟨rfl, hb⟩
        have HB := hide (HB.out.trans (hb.mono HB.out.size))
        have HA := hide (HA.out.below hb HA.out.lt)
        have HD := hide (HD.out.below hb HD.out.lt)
        clear hb
        by_cases q4 : aw = aw' ∧ an = an'
        · rw [decide_eq_true q4]
          obtain ⟨rfl, rfl⟩ := q4
          have c6 : wa2.cell? ⟨b0, 6, none⟩ = some (.int .i64 bw) := by rw [HA.out.cell 6]; rfl
          have d6 : wa2.cell? ⟨b1, 6, none⟩ = some (.int .i64 bw') := by rw [HD.out.cell 6]; rfl
          have c7 : wa2.cell? ⟨b0, 7, none⟩ = some (.int .i64 bn) := by rw [HA.out.cell 7]; rfl
          have d7 : wa2.cell? ⟨b1, 7, none⟩ = some (.int .i64 bn') := by rw [HD.out.cell 7]; rfl
          go_wp2_with fail
          clear c6 c7 d6 d7
          refine (eqRole_calls bw bn bw' bn' _).mono ?_
          rintro e wa3 ⟨rfl, hb⟩
          have HB := hide (HB.out.trans (hb.mono HB.out.size))
          have HA := hide (HA.out.below hb HA.out.lt)
          have HD := hide (HD.out.below hb HD.out.lt)
          clear hb
          by_cases q6 : bw = bw' ∧ bn = bn'
          · rw [decide_eq_true q6]
            obtain ⟨rfl, rfl⟩ := q6
            have c8 : wa3.cell? ⟨b0, 8, none⟩ = some (.int .i64 u) := by rw [HA.out.cell 8]; rfl
            have d8 : wa3.cell? ⟨b1, 8, none⟩ = some (.int .i64 u') := by rw [HD.out.cell 8]; rfl
            have c9 : wa3.cell? ⟨b0, 9, none⟩ = some (.int .i64 n) := by rw [HA.out.cell 9]; rfl
            have d9 : wa3.cell? ⟨b1, 9, none⟩ = some (.int .i64 n') := by rw [HD.out.cell 9]; rfl
            by_cases q8 : u = u'
            · subst q8
              by_cases q9 : n = n'
              · subst q9
                go_wp2_with fail
                go_ret
                exact ⟨by rw [show r = true from Er.out.trans (by simp)]; rfl, HB.out⟩
              · go_wp2_with fail
                go_ret
                exact ⟨by rw [show r = false from Er.out.trans (decide_eq_false (fun h => q9 (by simp only [Cr.mk.injEq] at h; omega)))]; rfl, HB.out⟩
            · go_wp2_with fail
              go_ret
              exact ⟨by rw [show r = false from Er.out.trans (decide_eq_false (fun h => q8 (by simp only [Cr.mk.injEq] at h; omega)))]; rfl, HB.out⟩
          · rw [decide_eq_false q6]
            go_wp2_with fail
            go_ret
            exact ⟨by rw [show r = false from Er.out.trans (decide_eq_false (fun h => q6 (by simp only [Cr.mk.injEq] at h; omega)))]; rfl, HB.out⟩
        · rw [decide_eq_false q4]
          go_wp2_with fail
          go_ret
          exact ⟨by rw [show r = false from Er.out.trans (decide_eq_false (fun h => q4 (by simp only [Cr.mk.injEq] at h; omega)))]; rfl, HB.out⟩
      · go_wp2_with fail
        go_ret
        exact ⟨by rw [show r = false from Er.out.trans (decide_eq_false (fun h => q3 (by simp only [Cr.mk.injEq] at h; omega)))]; rfl, HB.out⟩
    · rw [decide_eq_false q1]
      go_wp2_with fail
      go_ret
      exact ⟨by rw [show r = false from Er.out.trans (decide_eq_false (fun h => q1 (by simp only [Cr.mk.injEq] at h; omega)))]; rfl, HB.out⟩
  · go_wp2_with fail
    go_ret
    exact ⟨by rw [show r = false from Er.out.trans (decide_eq_false (fun h => q0 (by simp only [Cr.mk.injEq] at h; omega)))]; rfl, HB.out⟩
end Go.Proofs.Ytflicklgmhgpiaa.P5
