/- The contracts of the program's keysOk and SignedBy; conditions: texts and lists of at most 2^20, the listed tables hold what their text lays. -/
import Derived.Test.YtmjpdccfdaajmaaDoorSgnI7
import Derived.Test.YtmjpdccfdaajmaaDoorSgn6
namespace Go.Proofs.YtmjpdccfdaajmaaDoor.P4
set_option maxRecDepth 8000
open Go.RowKit P1 P3 Sr

set_option maxHeartbeats 400000 in
theorem keysOk_calls (w : World) (v : Value) (l : List (List UInt8)) (c : Nat) (ci : Int) (hci : ci = (c : Int)) (hv : TextsAt w v l) (hl : l.length ≤ 1073741824) (hx : ∀ x ∈ l, x.length ≤ 1073741824) :
    Calls Tryd.prog 58 #[v, .int .i64 ci] w fun e w' => e = .returned (.bool (decide (l.length = c ∧ allEight l))) ∧ w' = w := by
  subst hci
  obtain ⟨a, ca, rfl, HA⟩ := hv
  replace HA := hide HA
  have HX := hide hx
  clear hx
  by_cases hc : l.length = c
  · have hne : ((l.length : Int) != (c : Int)) = false := by simp; omega
    have HD : Hid (decide (l.length = c ∧ allEight l) = decide (allEight l)) := by
      show _ = _
      by_cases h : allEight l
      · rw [decide_eq_true h, decide_eq_true ⟨hc, h⟩]
      · rw [decide_eq_false h, decide_eq_false (fun h' => h h'.2)]
    rw [HD.out]
    have hcc : (c : Int) = (l.length : Int) := by omega
    rw [hcc] at hne ⊢
    clear hc hcc
    go_enter Tryd.func58, Tryd.ntmps58
    go_wp2_with fail
    go_loop [13] (fun i => ∃ k : Nat, k ≤ l.length ∧ i = .int .i64 k ∧ ∀ x ∈ l.take k, x.length = 8) (fun i => l.length - (intOf i).toNat)
    case atStart => exact ⟨0, Nat.zero_le _, rfl, by simp⟩
    case round =>
      obtain ⟨k, hk, rfl, htk⟩ := hrel
      have HT := hide htk
      clear htk
      by_cases hlt : k < l.length
      · obtain ⟨ga, oa, rfl, ha2, ha3⟩ := HA.out k hlt
        have hb := HX.out l[k] (List.getElem_mem hlt)
        by_cases h8 : (l[k]).length = 8
        · have hne8 : (((l[k]).length : Int) != 8) = false := by simp; omega
          have HN : Hid (∀ x ∈ l.take (k + 1), x.length = 8) := by
            show ∀ x ∈ l.take (k + 1), x.length = 8
            rw [List.take_succ_eq_append_getElem hlt]
            intro x hx
            rcases List.mem_append.1 hx with h | h
            · exact HT.out x h
            · simp at h; rw [h]; exact h8
          clear h8 HT
          generalize l[k] = x at *
          go_wp2_with fail
          go_round
          case rel => exact ⟨k + 1, by omega, by go_num, HN.out⟩
          case measure => simp [intOf]; omega
        · have hne8 : (((l[k]).length : Int) != 8) = true := by simp; omega
          have HE : Hid (decide (allEight l) = false) := by
            show decide (allEight l) = false
            rw [decide_eq_false_iff_not]
            exact fun h => h8 (h _ (List.getElem_mem hlt))
          clear h8 HT
          generalize l[k] = x at *
          go_wp2_with fail
          go_ret
          exact ⟨by rw [HE.out]; rfl, rfl⟩
      · have HE : Hid (decide (allEight l) = true) := by
          show decide (allEight l) = true
          rw [decide_eq_true_iff]
          intro x hx
          refine HT.out x ?_
          rw [List.take_of_length_le (by omega)]
          exact hx
        go_wp2_with fail
        go_ret
        exact ⟨by rw [HE.out]; rfl, rfl⟩
  · have hne : ((l.length : Int) != (c : Int)) = true := by simp; omega
    have HD : Hid (decide (l.length = c ∧ allEight l) = false) := decide_eq_false (fun h => hc h.1)
    clear hc
    go_enter Tryd.func58, Tryd.ntmps58
    go_wp2_with fail
    go_ret
    exact ⟨by rw [HD.out]; rfl, rfl⟩

set_option maxHeartbeats 400000 in
theorem signed1_calls (i : Nat) (hi : i < 11) (x : List UInt8) (bS gE oE cE : Nat) (w : World) (h0 : w.cell? ⟨bS, 1, none⟩ = some (.slice (some ⟨gE, oE, none⟩) 11 cE)) (h1 : w.cell? ⟨gE, oE + i, none⟩ = some (.string ⟨x.toArray⟩)) :
    Calls Tryd.prog 59 #[.int .i64 i, .pointer (some ⟨bS, 0, none⟩)] w fun e w' => e = .returned (.string ⟨x.toArray⟩) ∧ Below w.heap.size w w' := by
  go_enter Tryd.func59, Tryd.ntmps59
  go_wp2_with fail
  go_ret
  exact ⟨rfl, Below.refl _ _⟩

set_option maxHeartbeats 400000 in
theorem signed2_calls (i : Nat) (hi : i < 11) (q : Nat) (hq : q < 4) (bQ gq cq : Nat) (w : World) (h0 : w.cell? ⟨bQ, 0, none⟩ = some (.slice (some ⟨gq, 0, none⟩) 11 cq)) (h1 : w.cell? ⟨gq, i, none⟩ = some (.int .i64 q)) :
    Calls Tryd.prog 60 #[.int .i64 i, .pointer (some ⟨bQ, 0, none⟩)] w fun e w' => e = .returned (.int .i64 (3 - (q : Int))) ∧ Below w.heap.size w w' := by
  go_enter Tryd.func60, Tryd.ntmps60
  go_wp2_with fail
  go_ret
  exact ⟨rfl, Below.refl _ _⟩

theorem sgnText_flat (t : List UInt8) (E : List (List UInt8)) (k : Nat) : sgnText t E k = 108 :: ((List.range k).map fun (i : Nat) => chain (3 - (quadsN t).getD i 0) (E.getD i [])).flatten := by
  induction k with
  | zero => rfl
  | succ k ih => rw [sgnText, ih, List.range_succ]; simp

theorem sgn_lst (t : List UInt8) (E : List (List UInt8)) : 108 :: (lst (fun i : Nat => chainV (E.getD i []) (3 - ((quadsN t).getD i 0 : Nat)))).flatten = sgnText t E 11 := by
  rw [sgnText_flat]
  unfold lst
  congr 2
  refine List.map_congr_left (fun i hi => ?_)
  have hi' := List.mem_range.1 hi
  have h11 := quadsN_length t
  have := quadsN_lt t ((quadsN t).getD i 0) (by rw [List.getD_eq_getElem?_getD, List.getElem?_eq_getElem (by omega)]; exact List.getElem_mem _)
  unfold chainV
  congr 1
  omega
end Go.Proofs.YtmjpdccfdaajmaaDoor.P4
