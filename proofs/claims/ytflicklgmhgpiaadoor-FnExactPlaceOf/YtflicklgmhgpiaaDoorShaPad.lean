/- The contract of spec.PadText; condition: the text is at most 2^21 bytes long. -/
import Derived.Test.YtflicklgmhgpiaaDoorRowB
import Derived.Test.YtflicklgmhgpiaaDoorShaP
import Derived.Test.YtflicklgmhgpiaaDoorRows
import Derived.WalkKit
namespace Go.Proofs.YtflicklgmhgpiaaDoor.P3
set_option maxRecDepth 8000
open Go.RowKit P1

def slLen : Value → Nat | .slice _ n _ => n | _ => 0

theorem info_u8 : (Tryd.prog.info? 5).map (fun i => (i.zero, i.size, i.bytes)) = some (some (.int .u8 0), 1, 1) := by kernel_rfl

/-- A text and its first pads. -/
def padK (t : List UInt8) (k : Nat) : List UInt8 := t ++ 128 :: List.replicate k 0

theorem padK_length (t : List UInt8) (k : Nat) : (padK t k).length = t.length + 1 + k := by simp [padK]; omega

theorem padK_next (t : List UInt8) (k : Nat) : padK t k ++ [0] = padK t (k + 1) := by
  simp [padK, List.replicate_succ']

theorem pad_eq (t : List UInt8) : pad t = padK t (zeros t.length) ++ lenB (8 * t.length) := by simp [pad, padK]

theorem lenB_take (n k : Nat) (hk : k < 8) : (lenB n).take k ++ [(lenB n).getD k 0] = (lenB n).take (k + 1) := by
  match k, hk with
  | 0, _ => rfl
  | 1, _ => rfl
  | 2, _ => rfl
  | 3, _ => rfl
  | 4, _ => rfl
  | 5, _ => rfl
  | 6, _ => rfl
  | 7, _ => rfl

theorem lenB_at (n k : Nat) (hk : k < 8) : ((lenB n).getD k 0).toNat = n / 2 ^ (8 * (7 - k)) % 256 := by
  match k, hk with
  | 0, _ => simp [lenB]
  | 1, _ => simp [lenB]
  | 2, _ => simp [lenB]
  | 3, _ => simp [lenB]
  | 4, _ => simp [lenB]
  | 5, _ => simp [lenB]
  | 6, _ => simp [lenB]
  | 7, _ => simp [lenB]

set_option maxHeartbeats 1000000 in
theorem specPad_calls (t : List UInt8) (ht : t.length ≤ 2097152) (w : World) :
    Calls Tryd.prog 50 #[.string ⟨t.toArray⟩] w fun e w' => e = .returned (.string ⟨(pad t).toArray⟩) ∧ Below w.heap.size w w' := by
  obtain ⟨v0, w1, hrun, hrow, hbel⟩ := RowB.of_text w (P := Tryd.prog) 9 22 5 t Tryd.underlying9 Tryd.underlying22 Tryd.underlying5
  obtain ⟨i0, hi, hz0, hz1, hz2⟩ := info_parts info_u8
  have HR := hide hrow
  have HB := hide hbel
  have HP := hide (pad_eq t)
  clear hrow hbel
  have hz64 : zeros t.length < 64 := Nat.mod_lt _ (by decide)
  obtain ⟨pd, HPD⟩ : ∃ pd, Hid (pd = pad t) := ⟨_, rfl⟩
  rw [← HPD.out] at HP ⊢
  clear HPD
  go_enter Tryd.func50, Tryd.ntmps50
  go_wp2_with (at_builtin; refine wpList_append_rowB HB.out (Nat.le_refl _) 128 rfl rfl (.tmp 8) (.tmp 9) 22 rfl 5 i0 Tryd.underlying22 hi hz0 hz1 hz2 _ _ rfl HR.out 1 rfl (by omega) ?_)
  intro v1 w2 hrow hbel
  have HR1 := hide hrow
  have HB1 := hide hbel
  clear hrow hbel HR HB hrun
  go_wp2
  go_loopw [3] (fun v wr => ∃ k : Nat, k ≤ zeros t.length ∧ RowB w.heap.size wr v (padK t k) ∧ Below w.heap.size w wr) (fun v _ => t.length + 65 - slLen v)
  case atStart => exact ⟨0, Nat.zero_le _, HR1.out, HB1.out⟩
  case round =>
    clear HR1 HB1
    obtain ⟨k, hk, hrow, hbel⟩ := hrel
    have HR := hide hrow
    have HB := hide hbel
    have hlen := padK_length t k
    obtain ⟨a0, cap, hv⟩ := hrow.len
    rw [hlen] at hv
    clear hrow hbel
    subst hv
    by_cases hlt : k < zeros t.length
    · have hd : ((((t.length + 1 + k : Nat) : Int) % 64) != 56) = true := by
        unfold zeros at hlt hz64
        simp; omega
      rw [show ((t.length + 1 + k : Nat) : Int) = (t.length : Int) + 1 + (k : Int) by omega] at hd
      go_wp2_with (at_builtin; refine wpList_append_rowB HB.out (Nat.le_refl _) 0 rfl rfl (.tmp 15) (.tmp 16) 22 rfl 5 i0 Tryd.underlying22 hi hz0 hz1 hz2 _ _ rfl HR.out 1 rfl (by omega) ?_)
      intro v2 w3 hrow hbel
      have hr2 := hrow
      rw [padK_next] at hr2
      obtain ⟨a2, cap2, hv2⟩ := hr2.len
      rw [padK_length] at hv2
      have HR2 := hide hr2
      have HB2 := hide hbel
      clear hrow hr2 hbel
      subst hv2
      go_wp2
      go_roundw
      case rel => exact ⟨k + 1, by omega, HR2.out, HB2.out⟩
      case measure => simp [slLen]; omega
    · have hk2 : k = zeros t.length := by omega
      have hd : ((((t.length + 1 + k : Nat) : Int) % 64) != 56) = false := by
        unfold zeros at hk2
        simp; omega
      rw [show ((t.length + 1 + k : Nat) : Int) = (t.length : Int) + 1 + (k : Int) by omega] at hd
      rw [← hk2] at HP
      have hk64 : k < 64 := by omega
      clear hk2 hz64 hlt hk
      go_wp2
      go_loopw [3, 5] (fun v i wr => ∃ j : Nat, j ≤ 8 ∧ i = .int .i64 (7 - (j : Int)) ∧ RowB w.heap.size wr v (padK t k ++ (lenB (8 * t.length)).take j) ∧ Below w.heap.size w wr) (fun _ i _ => (intOf i + 1).toNat)
      case atStart => exact ⟨0, by omega, rfl, by rw [List.take_zero, List.append_nil]; exact HR.out, HB.out⟩
      case round =>
        clear HR HB
        obtain ⟨j, hj, rfl, hrow, hbel⟩ := hrel
        have HR := hide hrow
        have HB := hide hbel
        obtain ⟨a1, cap1, hv⟩ := hrow.len
        have hl8 : (lenB (8 * t.length)).length = 8 := rfl
        rw [List.length_append, hlen, List.length_take, hl8, Nat.min_eq_left hj] at hv
        clear hrow hbel hd hl8
        subst hv
        by_cases hlt : j < 8
        · have hcase : j = 0 ∨ j = 1 ∨ j = 2 ∨ j = 3 ∨ j = 4 ∨ j = 5 ∨ j = 6 ∨ j = 7 := by omega
          rcases hcase with rfl | rfl | rfl | rfl | rfl | rfl | rfl | rfl
          · have hq : ((lenB (8 * t.length)).getD 0 0).toNat = 8 * t.length / 72057594037927936 % 256 := by simpa using lenB_at (8 * t.length) 0 (by decide)
            have hn := lenB_take (8 * t.length) 0 (by decide)
            have HN := hide hn
            have HQ := hide hq
            clear hn hq
            go_wp2_with (at_builtin; refine wpList_append_rowB HB.out (Nat.le_refl _) ((lenB (8 * t.length)).getD 0 0) (by have := HQ.out; omega) rfl (.tmp 25) (.tmp 32) 22 rfl 5 i0 Tryd.underlying22 hi hz0 hz1 hz2 _ _ rfl HR.out 1 rfl (by simp [padK_length, lenB]; omega) ?_)
            intro v2 w3 hrow hbel
            have hr2 : RowB w.heap.size w3 v2 (padK t k ++ (lenB (8 * t.length)).take (0 + 1)) := by
              have e := HN.out
              rw [List.getD_eq_getElem?_getD] at e
              rw [← e]
              first | exact hrow | simpa using hrow
            have HR2 := hide hr2
            clear hr2
            have HB2 := hide hbel
            clear hrow hbel
            go_wp2
            go_roundw
            case rel => exact ⟨0 + 1, by omega, by go_num, HR2.out, HB2.out⟩
            case measure => simp [intOf]
          · have hq : ((lenB (8 * t.length)).getD 1 0).toNat = 8 * t.length / 281474976710656 % 256 := by simpa using lenB_at (8 * t.length) 1 (by decide)
            have hn := lenB_take (8 * t.length) 1 (by decide)
            have HN := hide hn
            have HQ := hide hq
            clear hn hq
            go_wp2_with (at_builtin; refine wpList_append_rowB HB.out (Nat.le_refl _) ((lenB (8 * t.length)).getD 1 0) (by have := HQ.out; omega) rfl (.tmp 25) (.tmp 32) 22 rfl 5 i0 Tryd.underlying22 hi hz0 hz1 hz2 _ _ rfl HR.out 1 rfl (by simp [padK_length, lenB]; omega) ?_)
            intro v2 w3 hrow hbel
            have hr2 : RowB w.heap.size w3 v2 (padK t k ++ (lenB (8 * t.length)).take (1 + 1)) := by
              have e := HN.out
              rw [List.getD_eq_getElem?_getD] at e
              rw [← e]
              first | exact hrow | simpa using hrow
            have HR2 := hide hr2
            clear hr2
            have HB2 := hide hbel
            clear hrow hbel
            go_wp2
            go_roundw
            case rel => exact ⟨1 + 1, by omega, by go_num, HR2.out, HB2.out⟩
            case measure => simp [intOf]
          · have hq : ((lenB (8 * t.length)).getD 2 0).toNat = 8 * t.length / 1099511627776 % 256 := by simpa using lenB_at (8 * t.length) 2 (by decide)
            have hn := lenB_take (8 * t.length) 2 (by decide)
            have HN := hide hn
            have HQ := hide hq
            clear hn hq
            go_wp2_with (at_builtin; refine wpList_append_rowB HB.out (Nat.le_refl _) ((lenB (8 * t.length)).getD 2 0) (by have := HQ.out; omega) rfl (.tmp 25) (.tmp 32) 22 rfl 5 i0 Tryd.underlying22 hi hz0 hz1 hz2 _ _ rfl HR.out 1 rfl (by simp [padK_length, lenB]; omega) ?_)
            intro v2 w3 hrow hbel
            have hr2 : RowB w.heap.size w3 v2 (padK t k ++ (lenB (8 * t.length)).take (2 + 1)) := by
              have e := HN.out
              rw [List.getD_eq_getElem?_getD] at e
              rw [← e]
              first | exact hrow | simpa using hrow
            have HR2 := hide hr2
            clear hr2
            have HB2 := hide hbel
            clear hrow hbel
            go_wp2
            go_roundw
            case rel => exact ⟨2 + 1, by omega, by go_num, HR2.out, HB2.out⟩
            case measure => simp [intOf]
          · have hq : ((lenB (8 * t.length)).getD 3 0).toNat = 8 * t.length / 4294967296 % 256 := by simpa using lenB_at (8 * t.length) 3 (by decide)
            have hn := lenB_take (8 * t.length) 3 (by decide)
            have HN := hide hn
            have HQ := hide hq
            clear hn hq
            go_wp2_with (at_builtin; refine wpList_append_rowB HB.out (Nat.le_refl _) ((lenB (8 * t.length)).getD 3 0) (by have := HQ.out; omega) rfl (.tmp 25) (.tmp 32) 22 rfl 5 i0 Tryd.underlying22 hi hz0 hz1 hz2 _ _ rfl HR.out 1 rfl (by simp [padK_length, lenB]; omega) ?_)
            intro v2 w3 hrow hbel
            have hr2 : RowB w.heap.size w3 v2 (padK t k ++ (lenB (8 * t.length)).take (3 + 1)) := by
              have e := HN.out
              rw [List.getD_eq_getElem?_getD] at e
              rw [← e]
              first | exact hrow | simpa using hrow
            have HR2 := hide hr2
            clear hr2
            have HB2 := hide hbel
            clear hrow hbel
            go_wp2
            go_roundw
            case rel => exact ⟨3 + 1, by omega, by go_num, HR2.out, HB2.out⟩
            case measure => simp [intOf]
          · have hq : ((lenB (8 * t.length)).getD 4 0).toNat = 8 * t.length / 16777216 % 256 := by simpa using lenB_at (8 * t.length) 4 (by decide)
            have hn := lenB_take (8 * t.length) 4 (by decide)
            have HN := hide hn
            have HQ := hide hq
            clear hn hq
            go_wp2_with (at_builtin; refine wpList_append_rowB HB.out (Nat.le_refl _) ((lenB (8 * t.length)).getD 4 0) (by have := HQ.out; omega) rfl (.tmp 25) (.tmp 32) 22 rfl 5 i0 Tryd.underlying22 hi hz0 hz1 hz2 _ _ rfl HR.out 1 rfl (by simp [padK_length, lenB]; omega) ?_)
            intro v2 w3 hrow hbel
            have hr2 : RowB w.heap.size w3 v2 (padK t k ++ (lenB (8 * t.length)).take (4 + 1)) := by
              have e := HN.out
              rw [List.getD_eq_getElem?_getD] at e
              rw [← e]
              first | exact hrow | simpa using hrow
            have HR2 := hide hr2
            clear hr2
            have HB2 := hide hbel
            clear hrow hbel
            go_wp2
            go_roundw
            case rel => exact ⟨4 + 1, by omega, by go_num, HR2.out, HB2.out⟩
            case measure => simp [intOf]
          · have hq : ((lenB (8 * t.length)).getD 5 0).toNat = 8 * t.length / 65536 % 256 := by simpa using lenB_at (8 * t.length) 5 (by decide)
            have hn := lenB_take (8 * t.length) 5 (by decide)
            have HN := hide hn
            have HQ := hide hq
            clear hn hq
            go_wp2_with (at_builtin; refine wpList_append_rowB HB.out (Nat.le_refl _) ((lenB (8 * t.length)).getD 5 0) (by have := HQ.out; omega) rfl (.tmp 25) (.tmp 32) 22 rfl 5 i0 Tryd.underlying22 hi hz0 hz1 hz2 _ _ rfl HR.out 1 rfl (by simp [padK_length, lenB]; omega) ?_)
            intro v2 w3 hrow hbel
            have hr2 : RowB w.heap.size w3 v2 (padK t k ++ (lenB (8 * t.length)).take (5 + 1)) := by
              have e := HN.out
              rw [List.getD_eq_getElem?_getD] at e
              rw [← e]
              first | exact hrow | simpa using hrow
            have HR2 := hide hr2
            clear hr2
            have HB2 := hide hbel
            clear hrow hbel
            go_wp2
            go_roundw
            case rel => exact ⟨5 + 1, by omega, by go_num, HR2.out, HB2.out⟩
            case measure => simp [intOf]
          · have hq : ((lenB (8 * t.length)).getD 6 0).toNat = 8 * t.length / 256 % 256 := by simpa using lenB_at (8 * t.length) 6 (by decide)
            have hn := lenB_take (8 * t.length) 6 (by decide)
            have HN := hide hn
            have HQ := hide hq
            clear hn hq
            go_wp2_with (at_builtin; refine wpList_append_rowB HB.out (Nat.le_refl _) ((lenB (8 * t.length)).getD 6 0) (by have := HQ.out; omega) rfl (.tmp 25) (.tmp 32) 22 rfl 5 i0 Tryd.underlying22 hi hz0 hz1 hz2 _ _ rfl HR.out 1 rfl (by simp [padK_length, lenB]; omega) ?_)
            intro v2 w3 hrow hbel
            have hr2 : RowB w.heap.size w3 v2 (padK t k ++ (lenB (8 * t.length)).take (6 + 1)) := by
              have e := HN.out
              rw [List.getD_eq_getElem?_getD] at e
              rw [← e]
              first | exact hrow | simpa using hrow
            have HR2 := hide hr2
            clear hr2
            have HB2 := hide hbel
            clear hrow hbel
            go_wp2
            go_roundw
            case rel => exact ⟨6 + 1, by omega, by go_num, HR2.out, HB2.out⟩
            case measure => simp [intOf]
          · have hq : ((lenB (8 * t.length)).getD 7 0).toNat = 8 * t.length % 256 := by simpa using lenB_at (8 * t.length) 7 (by decide)
            have hn := lenB_take (8 * t.length) 7 (by decide)
            have HN := hide hn
            have HQ := hide hq
            clear hn hq
            go_wp2_with (at_builtin; refine wpList_append_rowB HB.out (Nat.le_refl _) ((lenB (8 * t.length)).getD 7 0) (by have := HQ.out; omega) rfl (.tmp 25) (.tmp 32) 22 rfl 5 i0 Tryd.underlying22 hi hz0 hz1 hz2 _ _ rfl HR.out 1 rfl (by simp [padK_length, lenB]; omega) ?_)
            intro v2 w3 hrow hbel
            have hr2 : RowB w.heap.size w3 v2 (padK t k ++ (lenB (8 * t.length)).take (7 + 1)) := by
              have e := HN.out
              rw [List.getD_eq_getElem?_getD] at e
              rw [← e]
              first | exact hrow | simpa using hrow
            have HR2 := hide hr2
            clear hr2
            have HB2 := hide hbel
            clear hrow hbel
            go_wp2
            go_roundw
            case rel => exact ⟨7 + 1, by omega, by go_num, HR2.out, HB2.out⟩
            case measure => simp [intOf]
        · have hj8 : j = 8 := by omega
          subst hj8
          have hrr := HR.out
          rw [show (lenB (8 * t.length)).take 8 = lenB (8 * t.length) from rfl, ← HP.out] at hrr
          have hcv := hrr.text (P := Tryd.prog) 22 9 5 Tryd.underlying22 Tryd.underlying5 Tryd.underlying9
          clear hrr HP
          go_wp2
          go_ret
          exact ⟨rfl, HB.out⟩
end Go.Proofs.YtflicklgmhgpiaaDoor.P3
