/- The contracts of spec.l01Figure, spec.Hex and impl.Hex: each returns the figures that chapter 1 names. -/
import Derived.Test.YtknlhejpcjpeeaaDoorVar
import Derived.Test.YtknlhejpcjpeeaaDoorHexP
import Derived.Test.YtknlhejpcjpeeaaDoorOrd
import Derived.WalkKit
namespace Go.Proofs.YtknlhejpcjpeeaaDoor.P1
set_option maxRecDepth 8000
open Go.RowKit

theorem own_two {w : World} {B : Nat} {e : TypeId} {v : Value} {l m : List UInt8} {z1 z2 : Int} {b1 b2 : UInt8} (h : w.ownsRow B e 1 v (l.length + 2) (cellsB l ++ [.int .u8 z1, .int .u8 z2])) (hm : m = l ++ [b1, b2]) (h1 : z1 = b1.toNat) (h2 : z2 = b2.toNat) :
    w.ownsRow B e 1 v m.length (cellsB m) := by
  subst hm
  have e1 : cellsB (l ++ [b1, b2]) = cellsB l ++ [.int .u8 z1, .int .u8 z2] := by simp [cellsB, h1, h2]
  have e2 : (l ++ [b1, b2]).length = l.length + 2 := by simp
  rw [e1, e2]; exact h

/-- What Hex answers. -/
def hex (s : ByteArray) : List UInt8 × Bool := if s.size ≤ 20000 then (hexB s.data.toList, true) else ([], false)

theorem fig_index (q : Nat) (h : q < 16) (wx : World) : (Instr.index 9 (.string ⟨#[48, 49, 50, 51, 52, 53, 54, 55, 56, 57, 97, 98, 99, 100, 101, 102]⟩) (.int .u8 (q : Int))).run Tryd.prog wx = .ok (.int .u8 (fig q : Int)) wx :=
  match q, h with
  | 0, _ => by kernel_rfl
  | 1, _ => by kernel_rfl
  | 2, _ => by kernel_rfl
  | 3, _ => by kernel_rfl
  | 4, _ => by kernel_rfl
  | 5, _ => by kernel_rfl
  | 6, _ => by kernel_rfl
  | 7, _ => by kernel_rfl
  | 8, _ => by kernel_rfl
  | 9, _ => by kernel_rfl
  | 10, _ => by kernel_rfl
  | 11, _ => by kernel_rfl
  | 12, _ => by kernel_rfl
  | 13, _ => by kernel_rfl
  | 14, _ => by kernel_rfl
  | 15, _ => by kernel_rfl
  | n + 16, h => absurd h (by omega)

theorem fig_index_int (x : Int) (h0 : 0 ≤ x) (h1 : x < 16) (wx : World) : (Instr.index 9 (.string ⟨#[48, 49, 50, 51, 52, 53, 54, 55, 56, 57, 97, 98, 99, 100, 101, 102]⟩) (.int .u8 x)).run Tryd.prog wx = .ok (.int .u8 (fig x.toNat : Int)) wx := by
  obtain ⟨m, rfl⟩ := Int.eq_ofNat_of_zero_le h0
  exact fig_index m (by omega) wx

set_option maxHeartbeats 400000 in
theorem implHex_calls (s : ByteArray) (hs : s.size ≤ 140737488355328) (w : World) :
    Calls Tryd.prog 13 #[.string s] w fun e w' => e = .returned (.tuple #[.string ⟨(hex s).1.toArray⟩, .bool (hex s).2]) ∧ Below w.heap.size w w' := by
  by_cases h : s.size ≤ 20000
  · have hv : hex s = (hexB s.data.toList, true) := by simp only [hex, if_pos h]
    rw [hv]
    clear hv hs
    obtain ⟨i0, hi, hz0, hz1, hz2⟩ := info_parts info5
    go_enter Tryd.func13, Tryd.ntmps13
    go_wp2_with (at_make; refine wpList_make_own _ rfl (.const (.int .i64 0)) (.tmp 11) 22 rfl w.heap.size 5 i0 (.int .u8 0) 1 Tryd.underlying22 hi hz0 hz1 .i64 .i64 (2 * (s.size : Int)) (2 * s.size) rfl rfl (by omega) (by rw [hz2]; omega) (by unfold maxLen; omega) (Nat.le_refl _) ?_)
    intro w0 hown0 hgr0
    have hbel0 : Below w.heap.size w w0 := (Below.refl _ _).grown hgr0 (Nat.le_refl _) (by intro k hk; cases hk)
    clear hgr0
    go_wp2
    go_loopw [4, 15] (fun v i wr => ∃ k : Nat, k ≤ s.size ∧ i = .int .i64 k ∧ wr.ownsRow w.heap.size 5 1 v (hexB (s.data.toList.take k)).length (cellsB (hexB (s.data.toList.take k))) ∧ Below w.heap.size w wr) (fun _ i _ => s.size - (intOf i).toNat)
    case atStart => exact ⟨0, Nat.zero_le _, rfl, hown0, hbel0⟩
    case round =>
      obtain ⟨k, hk, rfl, hown, hbel⟩ := hrel
      clear hown0 hbel0
      by_cases hlt : k < s.size
      · have hb : (s[k]'hlt).toNat < 256 := UInt8.toNat_lt _
        have hlen : (hexB (s.data.toList.take k)).length ≤ 40000 := by rw [hexB_length, List.length_take]; omega
        have hx1 := fun (wx : World) => fig_index_int (((s[k]'hlt).toNat : Int) / 16) (by omega) (by omega) wx
        have hx2 := fun (wx : World) => fig_index_int (((s[k]'hlt).toNat : Int) % 16) (by omega) (by omega) wx
        go_wp2
        refine wp_region_open (fun wd => wd.ownsRow w.heap.size 5 1 u4 (hexB (s.data.toList.take k)).length (cellsB (hexB (s.data.toList.take k))) ∧ Below w.heap.size w wd) ⟨hown.drew, hbel.drew⟩ (by kernel_rfl) ?_
        clear hown hbel
        rintro wd ⟨hown, hbel⟩
        refine wpAny_seg_lit 0 11 3 rfl (by decide) (by kernel_rfl) (by kernel_rfl) (fun _ _ _ _ _ h => h) ?_
        simp only [List.take_succ_cons, List.take_zero, List.drop_zero]
        repeat (go_big_quiet_step (fail))
        refine wpQuiet_nil ?_
        clear hx1 hx2
        refine wpAny_rest 11 rfl (by kernel_rfl) ?_
        simp only [List.drop_succ_cons, List.drop_zero]
        have e1 : (fig ((s[k]'hlt).toNat / 16) : Int) = ((UInt8.ofNat (fig ((s[k]'hlt).toNat / 16))).toNat : Int) := (byte_of _ (fig_lt _ (by omega))).symm
        have e2 : (fig ((s[k]'hlt).toNat % 16) : Int) = ((UInt8.ofNat (fig ((s[k]'hlt).toNat % 16))).toNat : Int) := (byte_of _ (fig_lt _ (by omega))).symm
        have Ht := hide (hexB_take s.data.toList k (by rw [Array.length_toList]; exact hlt))
        generalize ((fig ((s[k]'hlt).toNat / 16) : Nat) : Int) = z1 at *
        generalize ((fig ((s[k]'hlt).toNat % 16) : Nat) : Int) = z2 at *
        have E1 := hide e1
        have E2 := hide e2
        clear e1 e2
        go_wp2_with (at_builtin; refine wpList_append_two hbel (Nat.le_refl _) rfl (.tmp 18) (.tmp 29) 22 rfl 5 i0 Tryd.underlying22 hi hz0 hz1 hz2 _ _ _ rfl hown 2 rfl (by omega) ?_)
        intro v' w1 hown' hbel'
        go_wp2
        go_roundw
        case rel => exact ⟨k + 1, by omega, by go_num, own_two hown' Ht.out E1.out E2.out, hbel'⟩
        case measure => simp [intOf]; omega
      · have hcv := own_text_any (P := Tryd.prog) hown 22 9 Tryd.underlying22 Tryd.underlying5 Tryd.underlying9
        rw [List.take_of_length_le (by rw [Array.length_toList]; show s.size ≤ k; omega)] at hcv
        clear hown
        go_wp2
        go_ret2
        exact ⟨rfl, hbel⟩
  · have hv : hex s = ([], false) := by simp only [hex, if_neg h]
    rw [hv]
    clear hv
    go_enter Tryd.func13, Tryd.ntmps13
    go_wp2
    go_ret2
    exact ⟨rfl, Below.refl _ _⟩
end Go.Proofs.YtknlhejpcjpeeaaDoor.P1
