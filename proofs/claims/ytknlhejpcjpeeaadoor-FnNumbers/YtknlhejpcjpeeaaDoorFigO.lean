/- The contract of impl.figuresOf at the bases 10 and 16: the figures' worth up to the first byte that is none, and whether there is none; condition: the text is at most 2^20 bytes long. -/
import Derived.Test.YtknlhejpcjpeeaaDoorVar
import Derived.Test.YtknlhejpcjpeeaaDoorFigP
import Derived.WalkKit
import Derived.WalkMore
namespace Go.Proofs.YtknlhejpcjpeeaaDoor.P1
set_option maxRecDepth 8000
open Go.RowKit

theorem figV_digit {base c : Nat} (h : 48 ≤ c ∧ c ≤ 57) : figV base c = some (c - 48) := by simp [figV, h]
theorem figV_letter {c : Nat} (h : 97 ≤ c ∧ c ≤ 102) : figV 16 c = some (c - 87) := by simp [figV, h, show ¬ (48 ≤ c ∧ c ≤ 57) by omega]
theorem figV_no {base c : Nat} (h : ¬ (48 ≤ c ∧ c ≤ 57)) (h2 : ¬ (base = 16 ∧ 97 ≤ c ∧ c ≤ 102)) : figV base c = none := by simp only [figV, if_neg h, if_neg h2]

theorem ret_fig {v : Value} {F G : List UInt8} {n : Nat} {b : Bool} (h : F = G) (hb : b = ((F.length : Int) == (n : Int))) :
    Ending.returned (.tuple #[v, .bool b]) = .returned (.tuple #[v, .bool (decide (G.length = n))]) := by
  subst h
  have : b = decide (F.length = n) := by
    rw [hb, Bool.eq_iff_iff]
    simp
    omega
  rw [this]

set_option maxHeartbeats 400000 in
theorem figuresOf_calls (s : ByteArray) (hs : s.size ≤ 1048576) (w : World) :
    Calls Tryd.prog 17 #[.string s, .int .i64 16] w fun e w' => ∃ v, e = .returned (.tuple #[v, .bool (decide ((figs 16 s.data.toList).length = s.size))]) ∧
      w'.ownsRow w.heap.size 5 1 v (figs 16 s.data.toList).length (cellsB (figs 16 s.data.toList)) ∧ Below w.heap.size w w' := by
  obtain ⟨i0, hi, hz0, hz1, hz2⟩ := info_parts info5
  go_enter Tryd.func17, Tryd.ntmps17
  go_wp2
  go_step3
  go_wp2_with (at_make; refine wpList_make_own _ rfl (.const (.int .i64 0)) (.tmp 10) 22 rfl w.heap.size 5 i0 (.int .u8 0) 1 Tryd.underlying22 hi hz0 hz1 .i64 .i64 (s.size : Int) s.size rfl rfl rfl (by rw [hz2]; omega) (by unfold maxLen; omega) (Nat.le_refl _) ?_)
  intro w0 hown0 hgr0
  have hbel0 : Below w.heap.size w w0 := (Below.refl _ _).grown hgr0 (Nat.le_refl _) (by intro k hk; cases hk)
  clear hgr0
  go_wp2
  go_step3
  go_wp2
  go_loopw [6, 14] (fun v i wr => ∃ k : Nat, ∃ pre : List UInt8, k ≤ s.size ∧ Figs 16 s.data.toList k pre ∧ i = .int .i64 (k : Int) ∧ wr.ownsRow w.heap.size 5 1 v pre.length (cellsB pre) ∧ Below w.heap.size w wr) (fun _ i _ => s.size - (intOf i).toNat)
  case atStart => exact ⟨0, [], Nat.zero_le _, Figs.start _ _, rfl, hown0, hbel0⟩
  case round =>
    clear hown0 hbel0
    obtain ⟨k, pre, hk, hf, rfl, hown, hbel⟩ := hrel
    have hpl := hf.len
    have hpl' : pre.length ≤ 1048576 := by omega
    have Hf := hide hf
    clear hf hpl
    by_cases hlt : k < s.size
    · have hb : (s[k]'hlt).toNat < 256 := UInt8.toNat_lt _
      have hlt' : k < s.data.toList.length := by rw [Array.length_toList]; exact hlt
      by_cases h1 : 48 ≤ (s[k]'hlt).toNat ∧ (s[k]'hlt).toNat ≤ 57
      · have Hn := hide (Hf.out.next hlt' (figV_digit h1))
        obtain ⟨h2, h3⟩ := h1
        go_wp2_with (at_builtin; refine wpList_append_byte hbel (Nat.le_refl _) rfl (.tmp 27) (.tmp 30) 22 rfl 5 i0 Tryd.underlying22 hi hz0 hz1 hz2 _ _ _ rfl hown 1 rfl (by omega) ?_)
        intro v' w1 hown' hbel'
        go_wp2
        go_roundw
        case rel => exact ⟨k + 1, _, by omega, Hn.out, by go_num, own_snoc hown' _ (by rw [byte_of _ (by show (s[k]'hlt).toNat - 48 < 256; omega)]; show _ = (((s[k]'hlt).toNat - 48 : Nat) : Int); omega), hbel'⟩
        case measure => simp [intOf]; omega
      · by_cases h4 : 97 ≤ (s[k]'hlt).toNat ∧ (s[k]'hlt).toNat ≤ 102
        · have Hn := hide (Hf.out.next hlt' (figV_letter h4))
          obtain ⟨h2, h3⟩ := h4
          have h5 : 57 < (s[k]'hlt).toNat := by omega
          clear h1
          go_wp2_with (at_builtin; refine wpList_append_byte hbel (Nat.le_refl _) rfl (.tmp 43) (.tmp 47) 22 rfl 5 i0 Tryd.underlying22 hi hz0 hz1 hz2 _ _ _ rfl hown 1 rfl (by omega) ?_)
          intro v' w1 hown' hbel'
          go_wp2
          go_roundw
          case rel => exact ⟨k + 1, _, by omega, Hn.out, by go_num, own_snoc hown' _ (by rw [byte_of _ (by show (s[k]'hlt).toNat - 87 < 256; omega)]; show _ = (((s[k]'hlt).toNat - 87 : Nat) : Int); omega), hbel'⟩
          case measure => simp [intOf]; omega
        · have Hq := hide (Hf.out.stop hlt' (figV_no h1 (fun h => h4 h.2)))
          have hc3 : (s[k]'hlt).toNat < 48 ∨ (57 < (s[k]'hlt).toNat ∧ (s[k]'hlt).toNat < 97) ∨ 102 < (s[k]'hlt).toNat := by omega
          clear h1 h4 hlt'
          rw [← Hq.out] at hown
          have hfl := figs_len 16 s.data.toList
          rw [show s.data.toList.length = s.size from Array.length_toList] at hfl
          obtain ⟨F, HF⟩ : ∃ F, Hid (F = figs 16 s.data.toList) := ⟨_, hide rfl⟩
          rw [← HF.out] at hown hfl
          rcases hown.2 with ⟨rfl, h0⟩ | ⟨g, cap, cur, rfl, -⟩
          · rcases hc3 with hc | ⟨hc, hd⟩ | hc
            all_goals
              go_wp2
              first | (rw [Exit.noGoto_ret]; go_ret2) | go_ret2
              exact ⟨_, ret_fig HF.out (by rw [h0]; rfl), by rw [← HF.out]; exact hown, hbel⟩
          · rcases hc3 with hc | ⟨hc, hd⟩ | hc
            all_goals
              go_wp2
              first | (rw [Exit.noGoto_ret]; go_ret2) | go_ret2
              exact ⟨_, ret_fig HF.out rfl, by rw [← HF.out]; exact hown, hbel⟩
    · have Hq := hide (Hf.out.end_ (by rw [Array.length_toList]; show s.size ≤ k; omega))
      rw [← Hq.out] at hown
      have hfl := figs_len 16 s.data.toList
      rw [show s.data.toList.length = s.size from Array.length_toList] at hfl
      obtain ⟨F, HF⟩ : ∃ F, Hid (F = figs 16 s.data.toList) := ⟨_, hide rfl⟩
      rw [← HF.out] at hown hfl
      rcases hown.2 with ⟨rfl, h0⟩ | ⟨g, cap, cur, rfl, -⟩
      · go_wp2
        first | (rw [Exit.noGoto_ret]; go_ret2) | go_ret2
        exact ⟨_, ret_fig HF.out (by rw [h0]; rfl), by rw [← HF.out]; exact hown, hbel⟩
      · go_wp2
        first | (rw [Exit.noGoto_ret]; go_ret2) | go_ret2
        exact ⟨_, ret_fig HF.out rfl, by rw [← HF.out]; exact hown, hbel⟩
end Go.Proofs.YtknlhejpcjpeeaaDoor.P1
