/- The contracts of spec.ShaStart and spec.ShaBlock. -/
import Derived.Test.YtkmeafccdhejdaaDoorShaD
import Derived.Test.YtkmeafccdhejdaaDoorIntS
namespace Go.Proofs.YtkmeafccdhejdaaDoor.P3
open Go.RowKit P1

/-- Words as ints. -/
def intsOf (l : List Nat) : List Int := l.map fun (n : Nat) => (n : Int)

theorem intsOf_snoc (l : List Nat) (k : Nat) (hk : k < l.length) : intsOf (l.take k) ++ [((l.getD k 0 : Nat) : Int)] = intsOf (l.take (k + 1)) := by
  unfold intsOf
  rw [List.take_succ_eq_append_getElem hk, List.map_append]
  have hg : l.getD k 0 = l[k] := by simp [List.getD_eq_getElem?_getD, hk]
  rw [hg]
  rfl

theorem intsOf_length (l : List Nat) : (intsOf l).length = l.length := by simp [intsOf]

set_option maxHeartbeats 400000 in
theorem specStart_calls (w : World) :
    Calls Tryd.prog 26 #[] w fun e w' => ∃ v, e = .returned v ∧ w'.ownsRow w.heap.size 3 1 v 8 (cellsI (intsOf start.list)) ∧ Below w.heap.size w w' := by
  have hz8 := (zero_of_info zero8).1
  obtain ⟨Z8, hZ8⟩ : ∃ Z, Z = wordsV nil8 := ⟨_, rfl⟩
  obtain ⟨SV, hSV⟩ : ∃ Z, Z = wordsV start.list := ⟨_, rfl⟩
  have HF := hide first_calls
  rw [← hZ8] at hz8
  simp only [← hSV] at HF
  have s3 : Z8.size = 8 := by rw [hZ8]; rfl
  have s4 : SV.size = 8 := by rw [hSV]; rfl
  have u2 : SV.all (·.oneCell') = true := by rw [hSV]; exact wordsV_one _
  have ES := hide hSV
  have Hz8 := hide hz8
  obtain ⟨st, Est⟩ : ∃ st, Hid (st = start) := ⟨_, rfl⟩
  have hok : st.ok := by rw [Est.out]; exact start_ok
  rw [← Est.out] at ES ⊢
  clear hz8 hZ8 hSV Est
  obtain ⟨i0, hi, hz0, hz1, hz2⟩ := info_parts info_i64
  go_enter Tryd.func26, Tryd.ntmps26
  go_wp2_with fail
  refine (HF.out _).mono ?_
  rintro e w1 ⟨rfl, hb1⟩
  have HB1 := hide hb1
  clear hb1
  go_wp2_with (first | (refine wpList_alloc_agg rfl 49 rfl Z8 Hz8.out ?_) | (refine wpList_store_last rfl 49 (.tmp 1) (.tmp 4) rfl Z8 SV rfl rfl (by rw [s4]; exact size8) (by rw [s3, s4]) u2 ?_))
  have hA := Arr.new w1 49 st.list SV ES.out
  have hbA : Below w.heap.size w (w1.alloc (.cells SV 49)) := HB1.out.alloc HB1.out.size _
  obtain ⟨b0, hb0⟩ : ∃ b0, b0 = w1.heap.size := ⟨_, rfl⟩
  have hw2z : (w1.alloc (.cells SV 49)).heap.size = b0 + 1 := by rw [hb0]; simp
  have ho0 : w.heap.size ≤ b0 := by rw [hb0]; exact HB1.out.size
  have hk2 : Below (b0 + 1) (w1.alloc (.cells SV 49)) ((w1.alloc (.cells SV 49)).alloc (.cells #[] 3)) := (Below.refl _ _).alloc (by rw [hw2z]; exact Nat.le_refl _) _
  have hA2 := hA.below hk2 (by omega)
  have hb2 : Below w.heap.size w ((w1.alloc (.cells SV 49)).alloc (.cells #[] 3)) := hbA.trans (hk2.mono (by omega))
  have hown0 : ((w1.alloc (.cells SV 49)).alloc (.cells #[] 3)).ownsRow (b0 + 1) 3 1 (.slice (some ⟨b0 + 1, 0, none⟩) 0 0) 0 [] := by
    have := World.ownsRow_lit (base := b0 + 1) (e := 3) (size := 1) (w1.alloc (.cells SV 49)) #[] 0 (by rw [hw2z]; exact Nat.le_refl _) (by decide) rfl
    rw [hw2z] at this
    exact this
  have hsz0 := hk2.size
  rw [hw2z] at hsz0
  rw [← hb0] at hA2 ⊢
  obtain ⟨w3, hw3⟩ : ∃ w3, w3 = (w1.alloc (.cells SV 49)).alloc (.cells #[] 3) := ⟨_, rfl⟩
  rw [← hw3] at hA2 hb2 hown0 hsz0 ⊢
  have HA := hide hA2
  have HB := hide hb2
  have HO := hide hown0
  clear hA hbA hk2 hA2 hb2 hown0 hw3 hb0 HB1 hw2z
  go_loopw [2, 3] (fun v i wr => ∃ k : Nat, ∃ L : List Int, k ≤ 8 ∧ i = .int .i64 k ∧ L = intsOf (st.list.take k) ∧ wr.ownsRow (b0 + 1) 3 1 v L.length (cellsI L) ∧ Arr wr b0 st.list ∧ Below w.heap.size w wr ∧ b0 + 1 ≤ wr.heap.size) (fun _ i _ => 8 - (intOf i).toNat)
  case atStart => exact ⟨0, [], by omega, rfl, rfl, HO.out, HA.out, HB.out, hsz0⟩
  case round =>
    clear HA HB HO hsz0
    obtain ⟨k, L, hk, rfl, hL, hown, hA, hB, hsz⟩ := hrel
    have HA := hide hA
    have HB := hide hB
    have HO := hide hown
    have HL := hide hL
    have hll : L.length ≤ 8 := by rw [hL, intsOf_length, List.length_take]; omega
    clear hA hB hown hL
    by_cases hlt : k < 8
    · have ck := HA.out.cell k (by show k < 8; omega)
      have HN := hide (intsOf_snoc st.list k (by show k < 8; omega))
      have hx := list_lt st hok k hlt
      obtain ⟨x, hxe⟩ : ∃ x, x = st.list.getD k 0 := ⟨_, rfl⟩
      rw [← hxe] at ck HN hx
      clear hxe
      go_wp2_with (at_builtin; refine wpList_append_one (cs := #[.int .i64 (x : Int)]) (Below.refl (b0 + 1) _) hsz rfl (.tmp 10) (.tmp 15) 24 rfl 3 i0 (.int .i64 0) 1 8 Tryd.underlying24 hi hz0 hz1 hz2 rfl (by decide) rfl (by simp [Value.oneCell']) _ _ _ rfl HO.out 1 rfl (by omega) (by omega) ?_)
      intro v' w4 hown4 hbel4
      have HO4 := hide (own_snocI hown4)
      have HA4 := hide (HA.out.below hbel4 (by omega))
      have HB4 := hide (HB.out.trans (hbel4.mono (by omega)))
      have hsz4 := hbel4.size
      clear hown4 hbel4
      go_wp2
      go_roundw
      case rel => exact ⟨k + 1, L ++ [(x : Int)], by omega, by go_num, by rw [HL.out]; exact HN.out, HO4.out, HA4.out, HB4.out, by omega⟩
      case measure => simp [intOf]; omega
    · have hk8 : k = 8 := by omega
      have hLe : L = intsOf st.list := by rw [HL.out, hk8]; rfl
      have hown := own_mono HO.out (show w.heap.size ≤ b0 + 1 by omega)
      have hl8 : (intsOf st.list).length = 8 := rfl
      rw [hLe, hl8] at hown
      have HOe := hide hown
      clear hown hLe hk8 hl8
      go_wp2
      go_ret
      exact ⟨_, rfl, HOe.out, HB.out⟩
end Go.Proofs.YtkmeafccdhejdaaDoor.P3
