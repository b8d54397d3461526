/- The laws' own copies and sizes of lists of texts: toStringS, szStringS; conditions: lists of at most 2^30 texts. -/
import Derived.Test.YtmjpdccfdaajmaaDoorStrB
import Derived.Test.YtmjpdccfdaajmaaDoorKit
import Derived.WalkKit
namespace Go.Proofs.YtmjpdccfdaajmaaDoor.Sr
set_option maxRecDepth 8000
open Go.RowKit P1

theorem cellsS_zeros (n : Nat) : (madeCells #[Value.string ⟨#[]⟩] n).toList = cellsS (List.replicate n []) := by
  rw [toList_madeCells_one]
  simp [cellsS]

theorem cellsS_put (l : List (List UInt8)) (k : Nat) (x : List UInt8) : (cellsS l).set k (.string ⟨x.toArray⟩) = cellsS (l.set k x) := by
  simp [cellsS]

/-- The first k of l, noughts behind. -/
def halfS (l : List (List UInt8)) (k : Nat) : List (List UInt8) := l.take k ++ List.replicate (l.length - k) []

theorem halfS_length (l : List (List UInt8)) (k : Nat) (hk : k ≤ l.length) : (halfS l k).length = l.length := by simp [halfS]; omega

theorem halfS_set (l : List (List UInt8)) (k : Nat) (hk : k < l.length) : (halfS l k).set k l[k] = halfS l (k + 1) := by
  unfold halfS
  have h1 : (l.take k).length = k := by rw [List.length_take]; omega
  rw [List.set_append_right _ _ (by omega), h1, Nat.sub_self, List.take_succ_eq_append_getElem hk]
  rw [show l.length - k = (l.length - (k + 1)) + 1 by omega, List.replicate_succ, List.set_cons_zero, List.append_assoc, List.singleton_append]

theorem halfS_all (l : List (List UInt8)) (k : Nat) (hk : l.length ≤ k) : halfS l k = l := by
  unfold halfS
  rw [List.take_of_length_le hk, show l.length - k = 0 by omega]
  simp

set_option maxHeartbeats 400000 in
theorem toTexts_calls (w : World) (v : Value) (l : List (List UInt8)) (hv : TextsAt w v l) (hl : l.length ≤ 1073741824) :
    Calls Tryd.prog 80 #[v] w fun e w' => ∃ v', e = .returned v' ∧ w'.ownsRow w.heap.size 9 1 v' l.length (cellsS l) ∧ Below w.heap.size w w' := by
  have HV := hide hv
  obtain ⟨a, ca, rfl, HA⟩ := hv
  replace HA := hide HA
  obtain ⟨i0, hi, hz0, hz1, hz2⟩ := info_parts info_str
  go_enter Tryd.func80, Tryd.ntmps80
  go_wp2_with (at_make; refine wpList_make_full _ rfl (.tmp 6) (.tmp 6) 27 rfl w.heap.size 9 i0 (.string ⟨#[]⟩) 1 Tryd.underlying27 hi hz0 hz1 .i64 .i64 _ _ l.length rfl rfl (by omega) (by omega) (by rw [hz2]; omega) (by unfold maxLen; omega) (Nat.le_refl _) ?_)
  intro w2 hown2 hgr2
  rw [cellsS_zeros] at hown2
  have hb2 : Below w.heap.size w w2 := (Below.refl _ _).grown hgr2 (Nat.le_refl _) (by intro k hk; cases hk)
  have HO2 := hide hown2
  have HB2 := hide hb2
  clear hown2 hgr2 hb2
  obtain ⟨g, hg⟩ : ∃ g, g = w.heap.size := ⟨_, rfl⟩
  go_wp2
  rw [← hg]
  have hgw : w.heap.size ≤ g := by omega
  have HG := hide hg
  clear hg
  go_loopw [4] (fun i wr => ∃ k : Nat, k ≤ l.length ∧ i = .int .i64 k ∧ wr.ownsRow w.heap.size 9 1 (.slice (some ⟨g, 0, none⟩) l.length l.length) l.length (cellsS (halfS l k)) ∧ Below w.heap.size w wr) (fun i _ => l.length - (intOf i).toNat)
  case atStart => exact ⟨0, Nat.zero_le _, rfl, by rw [HG.out]; simpa [halfS] using HO2.out, HB2.out⟩
  case round =>
    clear HO2 HB2
    obtain ⟨k, hk, rfl, hown, hbel⟩ := hrel
    have HO := hide hown
    have HB := hide hbel
    clear hown hbel
    by_cases hlt : k < l.length
    · obtain ⟨ga, oa, rfl, ha2, ha3⟩ := HA.out k hlt
      have hc1 := HB.out.cell (p := ⟨ga, oa + k, none⟩) ha2
      rw [ha3] at hc1
      have hc2 : ∃ x, wr.cell? ⟨g, k, none⟩ = some x := by rw [HO.out.cellAt k (by omega)]; exact ⟨_, List.getElem?_eq_getElem (by rw [cellsS_length, halfS_length l k hk]; omega)⟩
      obtain ⟨x0, hc2⟩ := hc2
      have hf2 := HO.out.frozenAt k
      have HS := hide (halfS_set l k hlt)
      clear ha3
      go_wp2
      go_roundw
      case rel =>
        refine ⟨k + 1, by omega, by go_num, ?_, HB.out.setCell hgw _⟩
        have h1 := (HO.out.stored k (.string ⟨(l[k]).toArray⟩)).1
        rw [cellsS_put, HS.out] at h1
        exact h1
      case measure => simp [intOf]; omega
    · have HE := hide (halfS_all l k (by omega))
      go_wp2
      go_ret
      exact ⟨_, rfl, by rw [← HE.out]; rw [HE.out]; simpa [HE.out] using HO.out, HB.out⟩


set_option maxHeartbeats 400000 in
theorem sz_calls (w : World) (v : Value) (l : List (List UInt8)) (hv : TextsAt w v l) (c : Int) (h0 : 0 ≤ c) (h1 : c ≤ 1048576) (hl : l.length ≤ 9223372036854775807) (hx : ∀ x ∈ l, x.length ≤ 9223372036854775807) :
    Calls Tryd.prog 79 #[v, .int .i64 c] w fun e w' => ∃ d : Int, e = .returned (.int .i64 d) ∧ (0 ≤ d → d ≤ c ∧ l.length ≤ 1048576 ∧ ∀ x ∈ l, x.length ≤ 1048576) ∧ w' = w := by
  obtain ⟨a, ca, rfl, HA⟩ := hv
  replace HA := hide HA
  have HX := hide hx
  clear hx
  by_cases hn : c - (l.length : Int) < 0
  · have hd : decide (c - (l.length : Int) < 0) = true := by simpa using hn
    go_enter Tryd.func79, Tryd.ntmps79
    go_wp2_with fail
    go_ret
    exact ⟨-1, rfl, fun h => by omega, rfl⟩
  · have hd : decide (c - (l.length : Int) < 0) = false := by simpa using hn
    go_enter Tryd.func79, Tryd.ntmps79
    go_wp2_with fail
    go_loop [1, 5] (fun v i => ∃ (k : Nat) (m : Int), k ≤ l.length ∧ i = .int .i64 k ∧ v = .int .i64 m ∧ 0 ≤ m ∧ m ≤ c ∧ ∀ x ∈ l.take k, x.length ≤ 1048576) (fun _ i => l.length - (intOf i).toNat)
    case atStart => exact ⟨0, c - l.length, Nat.zero_le _, rfl, rfl, by omega, by omega, by simp⟩
    case round =>
      obtain ⟨k, m, hk, rfl, rfl, hm0, hmc, htk⟩ := hrel
      have HT := hide htk
      clear htk
      by_cases hlt : k < l.length
      · obtain ⟨ga, oa, rfl, ha2, ha3⟩ := HA.out k hlt
        have hb := HX.out l[k] (List.getElem_mem hlt)
        by_cases hneg : m - ((l[k]).length : Int) < 0
        · have hd2 : decide (m - ((l[k]).length : Int) < 0) = true := by simpa using hneg
          generalize l[k] = x at *
          go_wp2_with fail
          go_ret
          exact ⟨-1, rfl, fun h => by omega, rfl⟩
        · have hd2 : decide (m - ((l[k]).length : Int) < 0) = false := by simpa using hneg
          have HN : Hid (∀ x ∈ l.take (k + 1), x.length ≤ 1048576) := by
            show ∀ x ∈ l.take (k + 1), x.length ≤ 1048576
            rw [List.take_succ_eq_append_getElem hlt]
            intro x hx
            rcases List.mem_append.1 hx with h | h
            · exact HT.out x h
            · simp at h; rw [h]; omega
          generalize l[k] = x at *
          go_wp2_with fail
          go_round
          case rel => exact ⟨k + 1, m - (x.length : Int), by omega, by go_num, rfl, by omega, by omega, HN.out⟩
          case measure => simp [intOf]; omega
      · have HE : Hid (∀ x ∈ l, x.length ≤ 1048576) := by
          show ∀ x ∈ l, x.length ≤ 1048576
          intro x hx
          refine HT.out x ?_
          rw [List.take_of_length_le (by omega)]
          exact hx
        go_wp2_with fail
        go_ret
        exact ⟨m, rfl, fun _ => ⟨hmc, by omega, HE.out⟩, rfl⟩
end Go.Proofs.YtmjpdccfdaajmaaDoor.Sr
