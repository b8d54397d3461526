/- The contracts of the program's list and leafKey over chains; conditions: as of the function values handed in. -/
import Derived.Test.YtmjpdccfdaajmaaDoorSgnI3
namespace Go.Proofs.YtmjpdccfdaajmaaDoor.P4
set_option maxRecDepth 8000
open Go.RowKit P1 P3 Sr

/-- What is told, as a list. -/
def lst (f : Nat → List UInt8) : List (List UInt8) := (List.range 11).map f

theorem lst_length (f : Nat → List UInt8) : (lst f).length = 11 := by simp [lst]

theorem lst_get (f : Nat → List UInt8) (k : Nat) (h : k < (lst f).length) : (lst f)[k] = f k := by simp [lst]

set_option maxHeartbeats 400000 in
theorem list_calls (f : Nat → List UInt8) (told : Value) (w : World) (ht : FnAt w told (fun i => .string ⟨(f i).toArray⟩)) :
    Calls Tryd.prog 51 #[told] w fun e w' => ∃ v, e = .returned v ∧ w'.ownsRow w.heap.size 9 1 v 11 (cellsS (lst f)) ∧ Below w.heap.size w w' := by
  obtain ⟨f1, c1, rfl, r1, k1⟩ := ht
  simp only at k1
  have K1 := hide k1
  clear k1
  have hll := lst_length f
  have HGET := hide (fun k h => lst_get f k h)
  obtain ⟨l, El⟩ : ∃ l, Hid (l = lst f) := ⟨_, rfl⟩
  simp only [← El.out] at hll HGET ⊢
  obtain ⟨i0, hi, hz0, hz1, hz2⟩ := info_parts info_str
  go_enter Tryd.func51, Tryd.ntmps51
  go_wp2_with (at_make; refine wpList_make_full _ rfl (.const (.int .i64 11)) (.const (.int .i64 11)) 27 rfl w.heap.size 9 i0 (.string ⟨#[]⟩) 1 Tryd.underlying27 hi hz0 hz1 .i64 .i64 _ _ 11 rfl rfl (by omega) (by omega) (by rw [hz2]; omega) (by unfold maxLen; omega) (Nat.le_refl _) ?_)
  intro w2 hown2 hgr2
  rw [cellsS_zeros] at hown2
  have hb2 : Below w.heap.size w w2 := (Below.refl _ _).grown hgr2 (Nat.le_refl _) (by intro k hk; cases hk)
  have HO2 := hide hown2
  have HB2 := hide hb2
  clear hown2 hgr2 hb2
  obtain ⟨g, hg⟩ : ∃ g, g = w.heap.size := ⟨_, rfl⟩
  go_wp2_with fail
  rw [← hg]
  have hgw : w.heap.size ≤ g := by omega
  have HG := hide hg
  clear hg
  go_loopw [8] (fun i wr => ∃ k : Nat, k ≤ 11 ∧ i = .int .i64 k ∧ wr.ownsRow w.heap.size 9 1 (.slice (some ⟨g, 0, none⟩) 11 11) 11 (cellsS (halfS l k)) ∧ Below w.heap.size w wr) (fun i _ => 11 - (intOf i).toNat)
  case atStart => exact ⟨0, Nat.zero_le _, rfl, by rw [HG.out]; simpa [halfS, hll] using HO2.out, HB2.out⟩
  case round =>
    clear HO2 HB2
    obtain ⟨k, hk, rfl, hown, hbel⟩ := hrel
    have HO := hide hown
    have HB := hide hbel
    clear hown hbel
    by_cases hlt : k < 11
    · have KC := hide (K1.out wr HB.out k hlt)
      have HS := hide (halfS_set l k (by omega))
      rw [HGET.out k (by omega)] at HS
      generalize f k = z at *
      have hd : decide ((k : Int) < 11) = true := by simp; omega
      go_wp2_with fail
      refine KC.out.mono ?_
      rintro e w3 ⟨rfl, hb3⟩
      have HO3 := hide (own_below HO.out hb3)
      have HB3 := hide (HB.out.trans (hb3.mono HB.out.size))
      clear hb3 HO HB KC
      have hc2 : ∃ x, w3.cell? ⟨g, k, none⟩ = some x := by rw [HO3.out.cellAt k (by omega)]; exact ⟨_, List.getElem?_eq_getElem (by rw [cellsS_length, halfS_length l k (by omega)]; omega)⟩
      obtain ⟨x0, hc2⟩ := hc2
      have hf2 := HO3.out.frozenAt k
      go_wp2_with fail
      go_roundw
      case rel =>
        refine ⟨k + 1, by omega, by go_num, ?_, HB3.out.setCell hgw _⟩
        have h1 := (HO3.out.stored k (.string ⟨z.toArray⟩)).1
        rw [cellsS_put, HS.out] at h1
        exact h1
      case measure => simp [intOf]; omega
    · have hd : decide ((k : Int) < 11) = false := by simp; omega
      have HE := hide (halfS_all l k (by omega))
      rw [HE.out] at HO
      go_wp2_with fail
      go_ret
      exact ⟨_, rfl, HO.out, HB.out⟩
end Go.Proofs.YtmjpdccfdaajmaaDoor.P4
