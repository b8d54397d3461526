/- The contracts of chapter 2's Sealed and Unsealed, of the specification and of the program. -/
import Derived.Test.YtobejiekbeohdaaDoorSumW
import Derived.Test.YtobejiekbeohdaaDoorOrd
import Derived.Test.YtobejiekbeohdaaDoorClone
namespace Go.Proofs.YtobejiekbeohdaaDoor.P2
open Go.RowKit P1

/-- What Sealed answers. -/
def sealedV (l : List UInt8) : Value := if l.length ≤ 20000 then .tuple #[.string ⟨(l ++ fourB (sumOf l)).toArray⟩, .bool true] else .tuple #[.string ⟨#[]⟩, .bool false]

theorem size_list (s : ByteArray) : s.data.toList.length = s.size := by simp only [Array.length_toList]; rfl

theorem cat_four (s : ByteArray) (x : Nat) : s ++ (⟨(fourB x).toArray⟩ : ByteArray) = ⟨(s.data.toList ++ fourB x).toArray⟩ := by
  have h := ByteArray.mk_append_mk s.data.toList (fourB x)
  rw [← h]

theorem sealedV_yes (s : ByteArray) (h : s.size ≤ 20000) : sealedV s.data.toList = .tuple #[.string (s ++ ⟨(fourB (sumOf s.data.toList)).toArray⟩), .bool true] := by
  unfold sealedV
  rw [size_list, if_pos h, cat_four]

theorem sealedV_no (s : ByteArray) (h : ¬ s.size ≤ 20000) : sealedV s.data.toList = .tuple #[.string ⟨#[]⟩, .bool false] := by
  unfold sealedV
  rw [size_list, if_neg h]

set_option maxHeartbeats 400000 in
theorem specSealed_calls (s : ByteArray) (hs : s.size ≤ maxLen) (w : World) :
    Calls Tryd.prog 17 #[.string s] w fun e w' => e = .returned (sealedV s.data.toList) ∧ Below w.heap.size w w' := by
  by_cases h : s.size ≤ 20000
  · have HV := hide (sealedV_yes s h)
    have H1 := hide (specSumOf_calls s hs w)
    have H2 := hide (four_calls (sumOf s.data.toList) (sumOf_lt _) w)
    have hl4 : (fourB (sumOf s.data.toList)).length ≤ 4 := Nat.le_refl _
    generalize fourB (sumOf s.data.toList) = l at HV H2 hl4
    generalize sumOf s.data.toList = x at H1 H2
    generalize sealedV s.data.toList = V at HV
    skip
    unfold maxLen at hs
    go_enter Tryd.func17, Tryd.ntmps17
    go_wp2_with fail
    refine H1.out.mono ?_
    rintro e w' ⟨rfl, rfl⟩
    go_wp2_with fail
    refine H2.out.mono ?_
    rintro e w1 ⟨rfl, hb⟩
    go_wp2
    go_ret2
    exact ⟨by rw [HV.out]; rfl, hb⟩
  · have HV := hide (sealedV_no s h)
    generalize sealedV s.data.toList = V at HV
    skip
    unfold maxLen at hs
    go_enter Tryd.func17, Tryd.ntmps17
    go_wp2
    go_ret2
    exact ⟨by rw [HV.out]; rfl, Below.refl _ _⟩

set_option maxHeartbeats 400000 in
theorem implSealed_calls (s : ByteArray) (hs : s.size ≤ maxLen) (w : World) (ht : Tab w) :
    Calls Tryd.prog 11 #[.string s] w fun e w' => e = .returned (sealedV s.data.toList) ∧ Below w.heap.size w w' := by
  by_cases h : s.size ≤ 20000
  · have HV := hide (sealedV_yes s h)
    have H1 := hide (implSumOf_calls s hs w ht)
    have H2 := hide (text_calls (sumOf s.data.toList) (sumOf_lt _) w)
    have hl4 : (fourB (sumOf s.data.toList)).length ≤ 4 := Nat.le_refl _
    generalize fourB (sumOf s.data.toList) = l at HV H2 hl4
    generalize sumOf s.data.toList = x at H1 H2
    generalize sealedV s.data.toList = V at HV
    clear ht
    unfold maxLen at hs
    go_enter Tryd.func11, Tryd.ntmps11
    go_wp2_with fail
    refine H1.out.mono ?_
    rintro e w' ⟨rfl, rfl⟩
    go_wp2_with fail
    refine H2.out.mono ?_
    rintro e w1 ⟨rfl, hb⟩
    go_wp2
    go_ret2
    exact ⟨by rw [HV.out]; rfl, hb⟩
  · have HV := hide (sealedV_no s h)
    generalize sealedV s.data.toList = V at HV
    clear ht
    unfold maxLen at hs
    go_enter Tryd.func11, Tryd.ntmps11
    go_wp2
    go_ret2
    exact ⟨by rw [HV.out]; rfl, Below.refl _ _⟩

/-- What Unsealed answers. -/
def unsealedV (l : List UInt8) : Value := if 4 ≤ l.length ∧ l.length ≤ 20004 ∧ l.drop (l.length - 4) = fourB (sumOf (l.take (l.length - 4))) then .tuple #[.string ⟨(l.take (l.length - 4)).toArray⟩, .bool true] else .tuple #[.string ⟨#[]⟩, .bool false]

theorem cut_from (s : ByteArray) (h4 : ¬ s.size < 4) : ∃ T : ByteArray, (∀ wx : World, (Instr.slice 9 (.string s) (some (.int .i64 ((s.size : Int) - 4))) none none).run Tryd.prog wx = .ok (.string T) wx) ∧ Hid (T.data.toList = s.data.toList.drop (s.size - 4)) := by
  refine ⟨s.extract (s.size - 4) s.size, fun wx => ?_, ?_⟩
  · rw [run_slice_string_from_if _ _ _ _ _ Tryd.underlying9, if_pos ⟨by omega, by omega⟩]
    rw [show ((s.size : Int) - 4).toNat = s.size - 4 by omega]
  · show (s.extract (s.size - 4) s.size).data.toList = _
    rw [ByteArray.data_extract, Array.toList_extract, List.extract_eq_take_drop]
    rw [← size_list s]
    exact List.take_of_length_le (by rw [List.length_drop]; omega)

theorem cut_to (s : ByteArray) (h4 : ¬ s.size < 4) : ∃ T : ByteArray, (∀ wx : World, (Instr.slice 9 (.string s) none (some (.int .i64 ((s.size : Int) - 4))) none).run Tryd.prog wx = .ok (.string T) wx) ∧ Hid (T.data.toList = s.data.toList.take (s.size - 4)) ∧ T.size ≤ s.size := by
  refine ⟨s.extract 0 (s.size - 4), fun wx => ?_, ?_, ?_⟩
  · rw [run_slice_string_to_if _ _ _ _ _ Tryd.underlying9, if_pos ⟨by omega, by omega⟩]
    rw [show ((s.size : Int) - 4).toNat = s.size - 4 by omega]
  · show (s.extract 0 (s.size - 4)).data.toList = _
    rw [ByteArray.data_extract, Array.toList_extract, List.extract_eq_take_drop]
    simp
  · rw [ByteArray.size_extract]; omega

theorem implSumOf_near (s : ByteArray) (hs : s.size ≤ maxLen) (w : World) (ht : Tab w) :
    Calls Tryd.prog 14 #[.string s] w fun e w' => e = .returned (.int .u32 (sumOf s.data.toList : Nat)) ∧ Below w.heap.size w w' :=
  (implSumOf_calls s hs w ht).mono fun _ _ ⟨h1, h2⟩ => ⟨h1, h2 ▸ Below.refl _ _⟩

theorem specSumOf_near (s : ByteArray) (hs : s.size ≤ maxLen) (w : World) :
    Calls Tryd.prog 16 #[.string s] w fun e w' => e = .returned (.int .u32 (sumOf s.data.toList : Nat)) ∧ Below w.heap.size w w' :=
  (specSumOf_calls s hs w).mono fun _ _ ⟨h1, h2⟩ => ⟨h1, h2 ▸ Below.refl _ _⟩

theorem unsealedV_out (s : ByteArray) (h : s.size < 4 ∨ 20004 < s.size) : unsealedV s.data.toList = .tuple #[.string ⟨#[]⟩, .bool false] := by
  unfold unsealedV
  rw [size_list, if_neg (by omega)]

theorem unsealedV_in (s : ByteArray) (h4 : ¬ s.size < 4) (h5 : ¬ 20004 < s.size) (T U : ByteArray) (l : List UInt8) (hT : T.data.toList = s.data.toList.drop (s.size - 4)) (hU : U.data.toList = s.data.toList.take (s.size - 4)) (hl : l = fourB (sumOf (s.data.toList.take (s.size - 4)))) :
    unsealedV s.data.toList = if T.data.toList = l then .tuple #[.string U, .bool true] else .tuple #[.string ⟨#[]⟩, .bool false] := by
  unfold unsealedV
  rw [size_list, ← hl, ← hT, ← hU]
  by_cases h : T.data.toList = l
  · rw [if_pos ⟨by omega, by omega, h⟩, if_pos h]
  · rw [if_neg (fun hh => h hh.2.2), if_neg h]

set_option maxHeartbeats 400000 in
theorem implUnsealed_calls (s : ByteArray) (hs : s.size ≤ maxLen) (w : World) (ht : Tab w) :
    Calls Tryd.prog 12 #[.string s] w fun e w' => e = .returned (unsealedV s.data.toList) ∧ Below w.heap.size w w' := by
  unfold maxLen at hs
  by_cases hout : s.size < 4 ∨ 20004 < s.size
  · have HV := hide (unsealedV_out s hout)
    generalize unsealedV s.data.toList = V at HV
    clear ht
    rcases hout with h4 | h5
    · have hg : decide ((s.size : Int) - 4 < 0) = true := by simp; omega
      go_enter Tryd.func12, Tryd.ntmps12
      go_wp2
      go_ret2
      exact ⟨by rw [HV.out]; rfl, Below.refl _ _⟩
    · go_enter Tryd.func12, Tryd.ntmps12
      go_wp2
      go_ret2
      exact ⟨by rw [HV.out]; rfl, Below.refl _ _⟩
  · have h4 : ¬ s.size < 4 := by omega
    have h5 : ¬ 20004 < s.size := by omega
    clear hout
    have HT := hide ht
    clear ht
    obtain ⟨T, hT, HTl⟩ := cut_from s h4
    obtain ⟨U, hU, HUl, hUs⟩ := cut_to s h4
    have HS := hide (fun (p : Near w.heap.size w) => implSumOf_near U (by unfold maxLen; omega) p.w (HT.out.on HT.out.1 p.h))
    have HF := hide (fun (p : Near w.heap.size w) => text_calls (sumOf U.data.toList) (sumOf_lt _) p.w)
    have HUl2 := hide (show fourB (sumOf U.data.toList) = fourB (sumOf (s.data.toList.take (s.size - 4))) by rw [HUl.out])
    have hl4 : (fourB (sumOf U.data.toList)).length ≤ 4 := Nat.le_refl _
    generalize fourB (sumOf U.data.toList) = l at HF HUl2 hl4
    generalize sumOf U.data.toList = x at HS HF
    have HV := hide (unsealedV_in s h4 h5 T U l HTl.out HUl.out HUl2.out)
    generalize unsealedV s.data.toList = V at HV
    have hg : decide ((s.size : Int) - 4 < 0) = false := by simp; omega
    have hg2 : decide (20000 < (s.size : Int) - 4) = false := by simp; omega
    go_enter Tryd.func12, Tryd.ntmps12
    go_wp2
    have hne := Near.some w.heap.size w
    refine wp_region_near w.heap.size w (Below.refl _ _) (by kernel_rfl) (by kernel_rfl) ?_
    repeat (go_big_quiet_step (first | exact calls_near (Nat.le_refl _) (HS.out _) | exact calls_near (Nat.le_refl _) (HF.out _)))
    refine wpQuiet_nil ?_
    rintro w2 ⟨q, rfl⟩
    have hqb := q.h
    obtain ⟨w2, hq⟩ := q
    simp only at hqb ⊢
    clear hq HS HF
    by_cases heq : T.data.toList = l
    · have hcmp : (!T.toList == l) = false := by rw [ByteArray.toList_eq, heq]; simp
      rw [if_pos heq] at HV
      clear heq
      rw [hcmp]
      go_wp2_with fail
      refine (clone_calls U _ (by omega)).mono ?_
      rintro e w3 ⟨rfl, hb3⟩
      go_wp2
      go_ret2
      exact ⟨by rw [HV.out]; rfl, hqb.trans (hb3.mono hqb.size)⟩
    · have hcmp : (!T.toList == l) = true := by rw [ByteArray.toList_eq]; simpa using heq
      rw [if_neg heq] at HV
      clear heq
      rw [hcmp]
      go_wp2
      go_ret2
      exact ⟨by rw [HV.out]; rfl, hqb⟩

set_option maxHeartbeats 400000 in
theorem specUnsealed_calls (s : ByteArray) (hs : s.size ≤ maxLen) (w : World) :
    Calls Tryd.prog 18 #[.string s] w fun e w' => e = .returned (unsealedV s.data.toList) ∧ Below w.heap.size w w' := by
  unfold maxLen at hs
  by_cases hout : s.size < 4 ∨ 20004 < s.size
  · have HV := hide (unsealedV_out s hout)
    generalize unsealedV s.data.toList = V at HV
    skip
    rcases hout with h4 | h5
    · have hg : decide ((s.size : Int) - 4 < 0) = true := by simp; omega
      go_enter Tryd.func18, Tryd.ntmps18
      go_wp2
      have hne := Near.some w.heap.size w
      refine wp_region_near w.heap.size w (Below.refl _ _) (by kernel_rfl) (by kernel_rfl) ?_
      repeat (go_big_quiet_step (fail))
      refine wpQuiet_nil ?_
      rintro w2 ⟨q, rfl⟩
      have hqb := q.h
      obtain ⟨w2, hq⟩ := q
      simp only at hqb ⊢
      clear hq
      go_wp2
      go_ret2
      exact ⟨by rw [HV.out]; rfl, hqb⟩
    · have hg : decide ((s.size : Int) - 4 < 0) = false := by simp; omega
      have hg2 : decide (20000 < (s.size : Int) - 4) = true := by simp; omega
      go_enter Tryd.func18, Tryd.ntmps18
      go_wp2
      have hne := Near.some w.heap.size w
      refine wp_region_near w.heap.size w (Below.refl _ _) (by kernel_rfl) (by kernel_rfl) ?_
      repeat (go_big_quiet_step (fail))
      refine wpQuiet_nil ?_
      rintro w2 ⟨q, rfl⟩
      have hqb := q.h
      obtain ⟨w2, hq⟩ := q
      simp only at hqb ⊢
      clear hq
      go_wp2
      go_ret2
      exact ⟨by rw [HV.out]; rfl, hqb⟩
  · have h4 : ¬ s.size < 4 := by omega
    have h5 : ¬ 20004 < s.size := by omega
    clear hout
    skip
    skip
    obtain ⟨T, hT, HTl⟩ := cut_from s h4
    obtain ⟨U, hU, HUl, hUs⟩ := cut_to s h4
    have HS := hide (fun (p : Near w.heap.size w) => specSumOf_near U (by unfold maxLen; omega) p.w)
    have HF := hide (fun (p : Near w.heap.size w) => four_calls (sumOf U.data.toList) (sumOf_lt _) p.w)
    have HUl2 := hide (show fourB (sumOf U.data.toList) = fourB (sumOf (s.data.toList.take (s.size - 4))) by rw [HUl.out])
    have hl4 : (fourB (sumOf U.data.toList)).length ≤ 4 := Nat.le_refl _
    generalize fourB (sumOf U.data.toList) = l at HF HUl2 hl4
    generalize sumOf U.data.toList = x at HS HF
    have HV := hide (unsealedV_in s h4 h5 T U l HTl.out HUl.out HUl2.out)
    generalize unsealedV s.data.toList = V at HV
    have hg : decide ((s.size : Int) - 4 < 0) = false := by simp; omega
    have hg2 : decide (20000 < (s.size : Int) - 4) = false := by simp; omega
    go_enter Tryd.func18, Tryd.ntmps18
    go_wp2
    have hne := Near.some w.heap.size w
    refine wp_region_near w.heap.size w (Below.refl _ _) (by kernel_rfl) (by kernel_rfl) ?_
    repeat (go_big_quiet_step (first | exact calls_near (Nat.le_refl _) (HS.out _) | exact calls_near (Nat.le_refl _) (HF.out _)))
    refine wpQuiet_nil ?_
    rintro w2 ⟨q, rfl⟩
    have hqb := q.h
    obtain ⟨w2, hq⟩ := q
    simp only at hqb ⊢
    clear hq HS HF
    by_cases heq : T.data.toList = l
    · have hcmp : (!T.toList == l) = false := by rw [ByteArray.toList_eq, heq]; simp
      rw [if_pos heq] at HV
      clear heq
      rw [hcmp]
      go_wp2
      go_ret2
      exact ⟨by rw [HV.out]; rfl, hqb⟩
    · have hcmp : (!T.toList == l) = true := by rw [ByteArray.toList_eq]; simpa using heq
      rw [if_neg heq] at HV
      clear heq
      rw [hcmp]
      go_wp2
      go_ret2
      exact ⟨by rw [HV.out]; rfl, hqb⟩

end Go.Proofs.YtobejiekbeohdaaDoor.P2
