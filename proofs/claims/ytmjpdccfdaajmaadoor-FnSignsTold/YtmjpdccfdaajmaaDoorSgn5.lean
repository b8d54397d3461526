/- The contracts of spec.l04Steps, l04Long and l04Form; condition: at most 2^20 texts. -/
import Derived.Test.YtmjpdccfdaajmaaDoorSgn1
import Derived.Test.YtmjpdccfdaajmaaDoorStrB
import Derived.Test.YtmjpdccfdaajmaaDoorOrd
namespace Go.Proofs.YtmjpdccfdaajmaaDoor.P4
set_option maxRecDepth 8000
open Go.RowKit P1 P3

set_option maxHeartbeats 400000 in
theorem steps_calls (w : World) : Calls Tryd.prog 89 #[] w fun e w' => e = .returned (.int .i64 2) ∧ w' = w := by
  go_enter Tryd.func89, Tryd.ntmps89
  go_wp2_with fail
  go_loop [1, 2] (fun n k => (n = .int .i64 0 ∧ k = .int .i64 4) ∨ (n = .int .i64 1 ∧ k = .int .i64 2) ∨ (n = .int .i64 2 ∧ k = .int .i64 1)) (fun _ k => (intOf k).toNat)
  case atStart => exact .inl ⟨rfl, rfl⟩
  case round =>
    rcases hrel with ⟨rfl, rfl⟩ | ⟨rfl, rfl⟩ | ⟨rfl, rfl⟩
    · go_wp2_with fail
      go_round
      case rel => exact .inr (.inl ⟨rfl, rfl⟩)
      case measure => simp [intOf]
    · go_wp2_with fail
      go_round
      case rel => exact .inr (.inr ⟨rfl, rfl⟩)
      case measure => simp [intOf]
    · go_wp2_with fail
      go_ret
      exact ⟨rfl, rfl⟩

/-- Each of eight bytes. -/
def allEight (l : List (List UInt8)) : Prop := ∀ x ∈ l, x.length = 8

instance (l : List (List UInt8)) : Decidable (allEight l) := by unfold allEight; infer_instance

set_option maxHeartbeats 400000 in
theorem long_calls (w : World) (v : Value) (l : List (List UInt8)) (hv : TextsAt w v l) (hl : l.length ≤ 1073741824) (hx : ∀ x ∈ l, x.length ≤ 1073741824) :
    Calls Tryd.prog 90 #[v] w fun e w' => e = .returned (.bool (decide (allEight l))) ∧ w' = w := by
  obtain ⟨a, ca, rfl, HA⟩ := hv
  replace HA := hide HA
  have HX := hide hx
  clear hx
  go_enter Tryd.func90, Tryd.ntmps90
  go_wp2_with fail
  go_loop [3] (fun i => ∃ k : Nat, k ≤ l.length ∧ i = .int .i64 k ∧ ∀ x ∈ l.take k, x.length = 8) (fun i => l.length - (intOf i).toNat)
  case atStart => exact ⟨0, Nat.zero_le _, rfl, by simp⟩
  case round =>
    obtain ⟨k, hk, rfl, htk⟩ := hrel
    have HT := hide htk
    clear htk
    by_cases hlt : k < l.length
    · obtain ⟨ga, oa, rfl, ha2, ha3⟩ := HA.out k hlt
      have hb := HX.out l[k] (List.getElem_mem hlt)
      by_cases h8 : (l[k]).length = 8
      · have hne : (((l[k]).length : Int) != 8) = false := by simp; omega
        have HN : Hid (∀ x ∈ l.take (k + 1), x.length = 8) := by
          show ∀ x ∈ l.take (k + 1), x.length = 8
          rw [List.take_succ_eq_append_getElem hlt]
          intro x hx
          rcases List.mem_append.1 hx with h | h
          · exact HT.out x h
          · simp at h; rw [h]; exact h8
        clear h8 HT
        generalize l[k] = x at *
        go_wp2_with fail
        go_round
        case rel => exact ⟨k + 1, by omega, by go_num, HN.out⟩
        case measure => simp [intOf]; omega
      · have hne : (((l[k]).length : Int) != 8) = true := by simp; omega
        have HE : Hid (decide (allEight l) = false) := by
          show decide (allEight l) = false
          rw [decide_eq_false_iff_not]
          exact fun h => h8 (h _ (List.getElem_mem hlt))
        clear h8 HT
        generalize l[k] = x at *
        go_wp2_with fail
        go_ret
        exact ⟨by rw [HE.out]; rfl, rfl⟩
    · have HE : Hid (decide (allEight l) = true) := by
        show decide (allEight l) = true
        rw [decide_eq_true_iff]
        intro x hx
        refine HT.out x ?_
        rw [List.take_of_length_le (by omega)]
        exact hx
      go_wp2_with fail
      go_ret
      exact ⟨by rw [HE.out]; rfl, rfl⟩

/-- The form of a signature. -/
def formOk (leaf : Int) (E W : List (List UInt8)) : Prop := (0 ≤ leaf ∧ leaf ≤ 3) ∧ E.length = 11 ∧ W.length = 2 ∧ allEight E ∧ allEight W

instance (leaf : Int) (E W : List (List UInt8)) : Decidable (formOk leaf E W) := by unfold formOk; infer_instance

/-- A signature as a value. -/
structure SigAt (w : World) (v : Value) (leaf : Int) (E W : List (List UInt8)) : Prop where
  val : ∃ vE vW, v = .agg #[.int .i64 leaf, vE, vW] ∧ TextsAt w vE E ∧ TextsAt w vW W
  le : E.length ≤ 1048576
  lw : W.length ≤ 1048576
  te : ∀ x ∈ E, x.length ≤ 1048576
  tw : ∀ x ∈ W, x.length ≤ 1048576

theorem texts_len {w : World} {v : Value} {l : List (List UInt8)} (h : TextsAt w v l) : ∃ a cap, v = .slice a l.length cap := by
  obtain ⟨a, cap, h1, _⟩ := h
  exact ⟨a, cap, h1⟩

set_option maxHeartbeats 2000000 in
theorem form_calls (w : World) (v : Value) (leaf : Int) (E W : List (List UInt8)) (hv : SigAt w v leaf E W) :
    Calls Tryd.prog 72 #[v] w fun e w' => e = .returned (.bool (decide (formOk leaf E W))) ∧ Below w.heap.size w w' := by
  obtain ⟨⟨vE, vW, rfl, tE, tW⟩, lE, lW, xE, xW⟩ := hv
  have hbA : Below w.heap.size w (w.alloc (.cells #[.int .i64 leaf, vE, vW] 29)) := (Below.refl _ _).alloc (Nat.le_refl _) _
  have tE1 := tE.below hbA (Nat.le_refl _)
  have tW1 := tW.below hbA (Nat.le_refl _)
  obtain ⟨aE, cE, hE⟩ := texts_len tE
  obtain ⟨aW, cW, hW⟩ := texts_len tW
  have TE := hide tE1
  have TW := hide tW1
  have HB := hide hbA
  have XE := hide (fun x hx => Nat.le_trans (xE x hx) (by decide : 1048576 ≤ 1073741824))
  have XW := hide (fun x hx => Nat.le_trans (xW x hx) (by decide : 1048576 ≤ 1073741824))
  subst hE hW
  clear tE tW tE1 tW1 hbA xE xW
  obtain ⟨r, Er⟩ : ∃ r, Hid (r = decide (formOk leaf E W)) := ⟨_, rfl⟩
  rw [← Er.out]
  by_cases h1 : 0 ≤ leaf ∧ leaf ≤ 3
  · have HIN := hide (fun (wx : World) => inD_calls leaf 0 3 wx)
    simp only [decide_eq_true h1] at HIN
    by_cases h2 : E.length = 11
    · have d2 : ((E.length : Int) == 11) = true := by simp; omega
      by_cases h3 : W.length = 2
      · have d3 : ((W.length : Int) == 2) = true := by simp; omega
        have HLE := hide (fun (n : Nat) => long_calls ((w.alloc (.cells #[.int .i64 leaf, .slice aE E.length cE, .slice aW W.length cW] 29)).drewN n) _ E (TE.out.drewN n) (by omega) XE.out)
        have HLW := hide (fun (n : Nat) => long_calls ((w.alloc (.cells #[.int .i64 leaf, .slice aE E.length cE, .slice aW W.length cW] 29)).drewN n) _ W (TW.out.drewN n) (by omega) XW.out)
        by_cases h4 : allEight E
        · simp only [decide_eq_true h4] at HLE
          by_cases h5 : allEight W
          · simp only [decide_eq_true h5] at HLW
            have hr : r = true := by rw [Er.out]; simp [formOk, h1, h2, h3, h4, h5]
            subst hr
            clear h1 h2 h3 h4 h5 Er
            go_enter Tryd.func72, Tryd.ntmps72
            go_wp2_with fail
            refine wp_region_quiet_lit (by kernel_rfl) (by kernel_rfl) ?_
            repeat (go_big_quiet_step (fail))
            go_big_quiet_step (exact Calls.quiet_of_same (HIN.out _))
            repeat (go_big_quiet_step (fail))
            go_big_quiet_step (exact Calls.quiet_of_same (steps_calls _))
            repeat (go_big_quiet_step (fail))
            go_big_quiet_step (exact Calls.quiet_of_same (HLE.out _))
            repeat (go_big_quiet_step (fail))
            go_big_quiet_step (exact Calls.quiet_of_same (HLW.out _))
            repeat (go_big_quiet_step (fail))
            refine wpQuiet_nil ?_
            intro _ hw'
            obtain ⟨nq, hw''⟩ := hw'
            subst hw''
            go_wp2_with fail
            go_ret
            exact ⟨rfl, ⟨HB.out.os, HB.out.tape, HB.out.output, HB.out.size, HB.out.block⟩⟩
          · simp only [decide_eq_false h5] at HLW
            have hr : r = false := by rw [Er.out]; simp [formOk, h5]
            subst hr
            clear h1 h2 h3 h4 h5 Er
            go_enter Tryd.func72, Tryd.ntmps72
            go_wp2_with fail
            refine wp_region_quiet_lit (by kernel_rfl) (by kernel_rfl) ?_
            repeat (go_big_quiet_step (fail))
            go_big_quiet_step (exact Calls.quiet_of_same (HIN.out _))
            repeat (go_big_quiet_step (fail))
            go_big_quiet_step (exact Calls.quiet_of_same (steps_calls _))
            repeat (go_big_quiet_step (fail))
            go_big_quiet_step (exact Calls.quiet_of_same (HLE.out _))
            repeat (go_big_quiet_step (fail))
            go_big_quiet_step (exact Calls.quiet_of_same (HLW.out _))
            repeat (go_big_quiet_step (fail))
            refine wpQuiet_nil ?_
            intro _ hw'
            obtain ⟨nq, hw''⟩ := hw'
            subst hw''
            go_wp2_with fail
            go_ret
            exact ⟨rfl, ⟨HB.out.os, HB.out.tape, HB.out.output, HB.out.size, HB.out.block⟩⟩
        · simp only [decide_eq_false h4] at HLE
          have hr : r = false := by rw [Er.out]; simp [formOk, h4]
          subst hr
          clear h1 h2 h3 h4 Er
          go_enter Tryd.func72, Tryd.ntmps72
          go_wp2_with fail
          refine wp_region_quiet_lit (by kernel_rfl) (by kernel_rfl) ?_
          repeat (go_big_quiet_step (fail))
          go_big_quiet_step (exact Calls.quiet_of_same (HIN.out _))
          repeat (go_big_quiet_step (fail))
          go_big_quiet_step (exact Calls.quiet_of_same (steps_calls _))
          repeat (go_big_quiet_step (fail))
          go_big_quiet_step (exact Calls.quiet_of_same (HLE.out _))
          repeat (go_big_quiet_step (fail))
          refine wpQuiet_nil ?_
          intro _ hw'
          obtain ⟨nq, hw''⟩ := hw'
          subst hw''
          go_wp2_with fail
          go_ret
          exact ⟨rfl, ⟨HB.out.os, HB.out.tape, HB.out.output, HB.out.size, HB.out.block⟩⟩
      · have d3 : ((W.length : Int) == 2) = false := by simp; omega
        have hr : r = false := by rw [Er.out]; simp [formOk, h3]
        subst hr
        clear h1 h2 h3 Er
        go_enter Tryd.func72, Tryd.ntmps72
        go_wp2_with fail
        refine wp_region_quiet_lit (by kernel_rfl) (by kernel_rfl) ?_
        repeat (go_big_quiet_step (fail))
        go_big_quiet_step (exact Calls.quiet_of_same (HIN.out _))
        repeat (go_big_quiet_step (fail))
        go_big_quiet_step (exact Calls.quiet_of_same (steps_calls _))
        repeat (go_big_quiet_step (fail))
        refine wpQuiet_nil ?_
        intro _ hw'
        obtain ⟨nq, hw''⟩ := hw'
        subst hw''
        go_wp2_with fail
        go_ret
        exact ⟨rfl, ⟨HB.out.os, HB.out.tape, HB.out.output, HB.out.size, HB.out.block⟩⟩
    · have d2 : ((E.length : Int) == 11) = false := by simp; omega
      have hr : r = false := by rw [Er.out]; simp [formOk, h2]
      subst hr
      clear h1 h2 Er
      go_enter Tryd.func72, Tryd.ntmps72
      go_wp2_with fail
      refine wp_region_quiet_lit (by kernel_rfl) (by kernel_rfl) ?_
      repeat (go_big_quiet_step (fail))
      go_big_quiet_step (exact Calls.quiet_of_same (HIN.out _))
      repeat (go_big_quiet_step (fail))
      refine wpQuiet_nil ?_
      intro _ hw'
      obtain ⟨nq, hw''⟩ := hw'
      subst hw''
      go_wp2_with fail
      go_ret
      exact ⟨rfl, ⟨HB.out.os, HB.out.tape, HB.out.output, HB.out.size, HB.out.block⟩⟩
  · have HIN := hide (fun (wx : World) => inD_calls leaf 0 3 wx)
    simp only [decide_eq_false h1] at HIN
    have hr : r = false := by rw [Er.out]; simp [formOk, h1]
    subst hr
    clear h1 Er
    go_enter Tryd.func72, Tryd.ntmps72
    go_wp2_with fail
    refine wp_region_quiet_lit (by kernel_rfl) (by kernel_rfl) ?_
    repeat (go_big_quiet_step (fail))
    go_big_quiet_step (exact Calls.quiet_of_same (HIN.out _))
    repeat (go_big_quiet_step (fail))
    refine wpQuiet_nil ?_
    intro _ hw'
    obtain ⟨nq, hw''⟩ := hw'
    subst hw''
    go_wp2_with fail
    go_ret
    exact ⟨rfl, ⟨HB.out.os, HB.out.tape, HB.out.output, HB.out.size, HB.out.block⟩⟩
end Go.Proofs.YtmjpdccfdaajmaaDoor.P4
