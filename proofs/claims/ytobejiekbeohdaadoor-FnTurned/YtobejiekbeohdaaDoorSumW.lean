/- The contracts of chapter 2's sums: spec.SumMore, impl.SumMore (over its table). -/
import Derived.Test.YtobejiekbeohdaaDoorRows
import Derived.Test.YtobejiekbeohdaaDoorKit
import Derived.Test.YtobejiekbeohdaaDoorSumP
import Derived.Laws.BitsAllLaws
import Derived.WalkKit
namespace Go.Proofs.YtobejiekbeohdaaDoor.P2
open Go.RowKit P1

theorem ret_u32 {a b : Int} (h : a = b) : Ending.returned (.int .u32 a) = .returned (.int .u32 b) := by rw [h]

theorem take_snoc (s : ByteArray) (k : Nat) (h : k < s.size) : s.data.toList.take (k + 1) = s.data.toList.take k ++ [s[k]] := by
  rw [List.take_succ_eq_append_getElem (by simpa using h)]; rfl

theorem take_all (s : ByteArray) (k : Nat) (h : ¬ k < s.size) : s.data.toList.take k = s.data.toList :=
  List.take_of_length_le (by simp only [Array.length_toList]; exact Nat.le_of_not_lt h)

theorem xor_byte (y : Nat) (b : UInt8) (hy : y < 4294967296) : bits .xor .u32 (y : Int) ((b.toNat : Int) % 4294967296) = ((y ^^^ b.toNat : Nat) : Int) := by
  have hb := b.toNat_lt
  rw [show ((b.toNat : Int) % 4294967296) = (b.toNat : Int) by omega]
  exact u32_xor_nat _ _ hy (by omega)

theorem xor_poly (y : Nat) (hy : y < 4294967296) : bits .xor .u32 ((y : Int) / 2) 3558460437 = ((y / 2 ^^^ 3558460437 : Nat) : Int) := by
  have h := u32_xor_nat (y / 2) 3558460437 (by omega) (by decide)
  rw [← h]
  rfl

theorem half_odd (y : Nat) (h : y % 2 = 1) : half y = y / 2 ^^^ 3558460437 := by simp [half, h]
theorem half_even (y : Nat) (h : ¬ y % 2 = 1) : half y = y / 2 := by simp [half, h]

set_option maxHeartbeats 400000 in
theorem specSumMore_calls (x : Nat) (hx : x < 4294967296) (s : ByteArray) (hs : s.size ≤ maxLen) (w : World) :
    Calls Tryd.prog 15 #[.int .u32 x, .string s] w fun e w' => e = .returned (.int .u32 (sumL x s.data.toList : Nat)) ∧ w' = w := by
  unfold maxLen at hs
  go_enter Tryd.func15, Tryd.ntmps15
  go_wp2
  go_loop [0, 5] (fun v i => ∃ k : Nat, k ≤ s.size ∧ i = .int .i64 k ∧ v = .int .u32 (sumL x (s.data.toList.take k) : Nat)) (fun _ i => s.size - (intOf i).toNat)
  case atStart => exact ⟨0, Nat.zero_le _, rfl, rfl⟩
  case round =>
    obtain ⟨k, hk, rfl, rfl⟩ := hrel
    have hlt0 := sumL_lt (s.data.toList.take k) x hx
    by_cases hlt : k < s.size
    · have HS : Hid (sumL x (s.data.toList.take (k + 1)) = sum1 (sumL x (s.data.toList.take k)) s[k]) := by rw [take_snoc s k hlt, sumL_snoc]; exact rfl
      generalize sumL x (s.data.toList.take k) = y at hlt0 HS
      have HX := hide (xor_byte y s[k] hlt0)
      go_wp2
      go_loop [0, 6] (fun v i => ∃ j : Nat, j ≤ 8 ∧ i = .int .i64 j ∧ v = .int .u32 (halfs j (y ^^^ s[k].toNat) : Nat)) (fun _ i => 8 - (intOf i).toNat)
      case atStart => exact ⟨0, by omega, rfl, by rw [HX.out]; rfl⟩
      case round =>
        clear HX
        obtain ⟨j, hj, rfl, rfl⟩ := hrel
        have hz := halfs_lt j (y ^^^ s[k].toNat) (xor_lt _ _ hlt0 (by have := s[k].toNat_lt; omega))
        by_cases hj8 : j < 8
        · have HL := hide (halfs_last j (y ^^^ s[k].toNat))
          generalize halfs j (y ^^^ s[k].toNat) = z at hz HL
          by_cases hp : z % 2 = 1
          · have hpb : ((z : Int) % 2 == 1) = true := by simp; omega
            have HP := hide (xor_poly z hz)
            have HH := hide (half_odd z hp)
            clear hp
            go_wp2
            go_round
            case rel => exact ⟨j + 1, by omega, by go_num, by rw [HP.out, HL.out, HH.out]⟩
            case measure => simp [intOf]; omega
          · have hpb : ((z : Int) % 2 == 1) = false := by simp; omega
            have HH := hide (half_even z hp)
            clear hp
            go_wp2
            go_round
            case rel => exact ⟨j + 1, by omega, by go_num, by rw [HL.out, HH.out]; rfl⟩
            case measure => simp [intOf]; omega
        · obtain rfl : j = 8 := by omega
          clear hj8 hj
          go_wp2
          go_round
          case rel => exact ⟨k + 1, by omega, by go_num, by rw [HS.out]; rfl⟩
          case measure => simp [intOf]; omega
    · have HT := hide (take_all s k hlt)
      go_wp2
      go_ret
      exact ⟨by rw [HT.out]; rfl, rfl⟩

/-- The table lies where the program's text lays it. -/
def Tab (w : World) : Prop := 0 < w.heap.size ∧ ∀ r : Nat, r < 16 → w.cell? ⟨0, r, none⟩ = some (.int .u32 (tab.getD r 0 : Nat))

theorem Tab.on {w w' : World} (h : Tab w) {B : Nat} (hB : 0 < B) (hb : Below B w w') : Tab w' :=
  ⟨Nat.lt_of_lt_of_le h.1 hb.size, fun r hr => by rw [hb.cell (p := ⟨0, r, none⟩) hB]; exact h.2 r hr⟩

theorem xor_tab (z t : Nat) (hz : z < 4294967296) (ht : t < 4294967296) : bits .xor .u32 ((z : Int) / 16) (t : Int) = ((z / 16 ^^^ t : Nat) : Int) := by
  have h := u32_xor_nat (z / 16) t (by omega) ht
  rw [← h]
  rfl

set_option maxHeartbeats 400000 in
theorem more_calls (x : Nat) (hx : x < 4294967296) (b : UInt8) (w : World) (ht : Tab w) :
    Calls Tryd.prog 25 #[.int .u32 x, .int .u8 b.toNat] w fun e w' => e = .returned (.int .u32 (sum1 x b : Nat)) ∧ w' = w := by
  have HT := hide ht.2
  clear ht
  have HX := hide (u32_xor_nat x b.toNat hx (by have := b.toNat_lt; omega))
  have hz := xor_lt x b.toNat hx (by have := b.toNat_lt; omega)
  have hb := b.toNat_lt
  go_enter Tryd.func25, Tryd.ntmps25
  go_wp2
  go_loop [0, 9] (fun v i => ∃ j : Nat, j ≤ 2 ∧ i = .int .i64 j ∧ v = .int .u32 (halfs (4 * j) (x ^^^ b.toNat) : Nat)) (fun _ i => 2 - (intOf i).toNat)
  case atStart => exact ⟨0, by omega, rfl, by rw [HX.out]; rfl⟩
  case round =>
    clear HX
    obtain ⟨j, hj, rfl, rfl⟩ := hrel
    have hy := halfs_lt (4 * j) _ hz
    by_cases hj2 : j < 2
    · have HL := hide (halfs_add (4 * j) 4 (x ^^^ b.toNat))
      generalize halfs (4 * j) (x ^^^ b.toNat) = y at hy HL
      have hc := HT.out (y % 16) (by omega)
      go_wp2
      go_round
      case rel => exact ⟨j + 1, by omega, by go_num, by
        have e := xor_tab y _ hy (tab_lt (y % 16) (by omega))
        rw [List.getD_eq_getElem?_getD] at e
        rw [e, show 4 * (j + 1) = 4 * j + 4 from by omega, HL.out, four, List.getD_eq_getElem?_getD]⟩
      case measure => simp [intOf]; omega
    · obtain rfl : j = 2 := by omega
      go_wp2
      go_ret
      exact ⟨rfl, rfl⟩

set_option maxHeartbeats 400000 in
theorem implSumMore_calls (x : Nat) (hx : x < 4294967296) (s : ByteArray) (hs : s.size ≤ maxLen) (w : World) (ht : Tab w) :
    Calls Tryd.prog 13 #[.int .u32 x, .string s] w fun e w' => e = .returned (.int .u32 (sumL x s.data.toList : Nat)) ∧ w' = w := by
  unfold maxLen at hs
  have HB := hide ht
  clear ht
  go_enter Tryd.func13, Tryd.ntmps13
  go_wp2
  go_loop [5, 10] (fun v i => ∃ k : Nat, k ≤ s.size ∧ i = .int .i64 k ∧ v = .int .u32 (sumL x (s.data.toList.take k) : Nat)) (fun _ i => s.size - (intOf i).toNat)
  case atStart => exact ⟨0, Nat.zero_le _, rfl, rfl⟩
  case round =>
    obtain ⟨k, hk, rfl, rfl⟩ := hrel
    have hlt0 := sumL_lt (s.data.toList.take k) x hx
    by_cases hlt : k < s.size
    · have HS : Hid (sumL x (s.data.toList.take (k + 1)) = sum1 (sumL x (s.data.toList.take k)) s[k]) := by rw [take_snoc s k hlt, sumL_snoc]; exact rfl
      generalize sumL x (s.data.toList.take k) = y at hlt0 HS
      go_wp2_with (go_at_call 25; refine (more_calls y hlt0 s[k] _ HB.out).mono ?_; rintro e w' ⟨rfl, rfl⟩)
      go_round
      case rel => exact ⟨k + 1, by omega, by go_num, by rw [HS.out]⟩
      case measure => simp [intOf]; omega
    · have HT := hide (take_all s k hlt)
      go_wp2
      go_ret
      exact ⟨by rw [HT.out]; rfl, rfl⟩

/-- Four bytes, the highest first. -/
def fourB (x : Nat) : List UInt8 := [UInt8.ofNat (x / 16777216), UInt8.ofNat (x / 65536 % 256), UInt8.ofNat (x / 256 % 256), UInt8.ofNat (x % 256)]

theorem four_text (W : World) (z0 z1 z2 z3 : Nat) (h0 : z0 < 256) (h1 : z1 < 256) (h2 : z2 < 256) (h3 : z3 < 256) :
    (convert 22 9 (.slice (some ⟨W.heap.size, 0, none⟩) 4 4)).run Tryd.prog (W.alloc (.cells #[.int .u8 z0, .int .u8 z1, .int .u8 z2, .int .u8 z3] 5)) = .ok (.string ⟨[UInt8.ofNat z0, UInt8.ofNat z1, UInt8.ofNat z2, UInt8.ofNat z3].toArray⟩) (W.alloc (.cells #[.int .u8 z0, .int .u8 z1, .int .u8 z2, .int .u8 z3] 5)) := by
  refine run_convert_bytes_back _ 22 9 5 ⟨W.heap.size, 0, none⟩ 4 [UInt8.ofNat z0, UInt8.ofNat z1, UInt8.ofNat z2, UInt8.ofNat z3] Tryd.underlying22 Tryd.underlying5 Tryd.underlying9 ?_
  intro j hj
  have b0 := byte_of z0 h0
  have b1 := byte_of z1 h1
  have b2 := byte_of z2 h2
  have b3 := byte_of z3 h3
  match j, hj with
  | 0, _ => simp only [List.getElem_cons_zero, b0]; simp [Addr.add]
  | 1, _ => simp only [List.getElem_cons_zero, List.getElem_cons_succ, b1]; simp [Addr.add]
  | 2, _ => simp only [List.getElem_cons_zero, List.getElem_cons_succ, b2]; simp [Addr.add]
  | 3, _ => simp only [List.getElem_cons_zero, List.getElem_cons_succ, b3]; simp [Addr.add]


theorem four_run (x : Nat) (hx : x < 4294967296) (w : World) :
    (convert 22 9 (.slice (some ⟨w.heap.size, 0, none⟩) 4 4)).run Tryd.prog (w.alloc (.cells #[.int .u8 ((x : Int) / 16777216), .int .u8 ((x : Int) / 65536 % 256), .int .u8 ((x : Int) / 256 % 256), .int .u8 ((x : Int) % 256)] 5)) =
      .ok (.string ⟨(fourB x).toArray⟩) (w.alloc (.cells #[.int .u8 ((x : Int) / 16777216), .int .u8 ((x : Int) / 65536 % 256), .int .u8 ((x : Int) / 256 % 256), .int .u8 ((x : Int) % 256)] 5)) := by
  have h := four_text w (x / 16777216) (x / 65536 % 256) (x / 256 % 256) (x % 256) (by omega) (by omega) (by omega) (by omega)
  exact h

set_option maxHeartbeats 400000 in
theorem four_calls (x : Nat) (hx : x < 4294967296) (w : World) :
    Calls Tryd.prog 26 #[.int .u32 x] w fun e w' => e = .returned (.string ⟨(fourB x).toArray⟩) ∧ Below w.heap.size w w' := by
  have hr := four_run x hx w
  generalize fourB x = l at hr
  go_enter Tryd.func26, Tryd.ntmps26
  go_wp2
  go_ret
  exact ⟨rfl, (Below.refl _ _).alloc (Nat.le_refl _) _⟩

set_option maxHeartbeats 400000 in
theorem text_calls (x : Nat) (hx : x < 4294967296) (w : World) :
    Calls Tryd.prog 23 #[.int .u32 x] w fun e w' => e = .returned (.string ⟨(fourB x).toArray⟩) ∧ Below w.heap.size w w' := by
  have hr := four_run x hx w
  generalize fourB x = l at hr
  go_enter Tryd.func23, Tryd.ntmps23
  go_wp2
  go_ret
  exact ⟨rfl, (Below.refl _ _).alloc (Nat.le_refl _) _⟩

/-- SumOf. -/
def sumOf (l : List UInt8) : Nat := sumL 4294967295 l

theorem sumOf_lt (l : List UInt8) : sumOf l < 4294967296 := sumL_lt l _ (by decide)

theorem specSumOf_calls (s : ByteArray) (hs : s.size ≤ maxLen) (w : World) :
    Calls Tryd.prog 16 #[.string s] w fun e w' => e = .returned (.int .u32 (sumOf s.data.toList : Nat)) ∧ w' = w := by
  have HC := hide (specSumMore_calls 4294967295 (by decide) s hs w)
  go_enter Tryd.func16, Tryd.ntmps16
  go_wp2_with fail
  refine HC.out.mono ?_
  rintro e w' ⟨rfl, rfl⟩
  go_wp2
  go_ret
  exact ⟨rfl, rfl⟩

theorem implSumOf_calls (s : ByteArray) (hs : s.size ≤ maxLen) (w : World) (ht : Tab w) :
    Calls Tryd.prog 14 #[.string s] w fun e w' => e = .returned (.int .u32 (sumOf s.data.toList : Nat)) ∧ w' = w := by
  have HC := hide (implSumMore_calls 4294967295 (by decide) s hs w ht)
  clear ht
  go_enter Tryd.func14, Tryd.ntmps14
  go_wp2_with fail
  refine HC.out.mono ?_
  rintro e w' ⟨rfl, rfl⟩
  go_wp2
  go_ret
  exact ⟨rfl, rfl⟩
end Go.Proofs.YtobejiekbeohdaaDoor.P2
