/- The draw of a state and a block (spec.DrawShaBlock): at most eight ints, at most 64 bytes. -/
import Derived.Test.YtkmeafccdhejdaaDoorTextOf
import Derived.Test.YtkmeafccdhejdaaDoorShaS
namespace Go.Proofs.YtkmeafccdhejdaaDoor.P3
open Go.RowKit P1 Cu

def five : List Int := [0, 1, 4294967295, 2147483648, 12345678]
def three : List Int := [-1, 4294967296, 9223372036854775807]

theorem five_le (x : Int) (h : x ∈ five) : 0 ≤ x ∧ x ≤ 4294967295 := by
  simp [five] at h
  omega

/-- A drawn state and block. -/
def ShaR (w : World) (e : Ending) (w' : World) : Prop := ∃ v, ∃ l : List Int, ∃ b : List UInt8, l.length ≤ 8 ∧ b.length ≤ 64 ∧ e = .returned (.tuple #[v, .string ⟨b.toArray⟩]) ∧ IntsAt w' v l ∧ Below w.heap.size w w'

theorem ShaR.mk {w w' : World} {v : Value} (l : List Int) {b : List UInt8} (h1 : l.length ≤ 8) (h2 : b.length ≤ 64) (h3 : IntsAt w' v l) (h4 : Below w.heap.size w w') : ShaR w (.returned (.tuple #[v, .string ⟨b.toArray⟩])) w' := ⟨v, l, b, h1, h2, rfl, h3, h4⟩

set_option maxHeartbeats 1000000 in
theorem drawSha_calls (w : World) (a : Option Addr) (len cap : Nat) (hc : Cu.Code w.heap.size w (.slice a len cap) len) :
    Calls Tryd.prog 15 #[.slice a len cap] w fun e w' => ShaR w e w' := by
  have HC := hide hc
  clear hc
  obtain ⟨i0, hi, hz0, hz1, hz2⟩ := info_parts info_i64
  go_enter Tryd.func15, Tryd.ntmps15
  go_wp2_with fail
  refine (new_calls _ a len cap HC.out).mono ?_
  rintro e w1 ⟨rfl, hc1, hb1⟩
  have HC1 := hide hc1
  have HB1 := hide hb1
  clear hc1 hb1 HC
  go_wp2_with fail
  refine (below_calls _ _ _ HC1.out 10 (by decide) (by decide)).mono ?_
  rintro e w2 ⟨k, hk, rfl, hc2, hg2⟩
  have HC2 := hide hc2
  have HB2 := hide (HB1.out.trans (below_of_grown hg2 (Nat.le_refl _) HB1.out.size))
  clear hc2 hg2 HC1 HB1
  go_wp2_with fail
  refine (text_calls _ _ _ HC2.out 64 (by decide)).mono ?_
  rintro e w3 ⟨b, hb, rfl, hc3, hg3⟩
  have hlt := hc3.2.1
  have HC3 := hide hc3
  have HB3 := hide (HB2.out.trans (below_of_grown hg3 (Nat.le_refl _) HB2.out.size))
  clear hc3 hg3 HC2 HB2
  go_wp2
  have hbk : Below w3.heap.size w3 (w3.alloc (.cells #[] 3)) := (Below.refl _ _).alloc (Nat.le_refl _) _
  have hc4 := cur_below HC3.out hbk hlt
  have hb4 := HB3.out.trans (hbk.mono (Nat.le_of_lt hlt))
  have ho4 : (w3.alloc (.cells #[] 3)).ownsRow w3.heap.size 3 1 (.slice (some ⟨w3.heap.size, 0, none⟩) 0 0) 0 [] := World.ownsRow_lit _ _ 0 (Nat.le_refl _) (by decide) rfl
  have hs4 := hbk.size
  have HC4 := hide hc4
  have HB4 := hide hb4
  have HO4 := hide ho4
  clear hbk hc4 hb4 ho4 HC3 HB3
  go_loopw [7, 8] (fun v i wr => ∃ L : List Int, L.length ≤ 8 ∧ i = .int .i64 L.length ∧ wr.ownsRow w3.heap.size 3 1 v L.length (cellsI L) ∧ Cur w.heap.size wr w.heap.size ∧ Below w.heap.size w wr ∧ w3.heap.size ≤ wr.heap.size) (fun _ i _ => 8 - (intOf i).toNat)
  case atStart => exact ⟨[], by simp, rfl, HO4.out, HC4.out, HB4.out, hs4⟩
  case round =>
    clear HC4 HB4 HO4 hs4
    obtain ⟨L, hL, rfl, hown, hcur, hbel, hsz⟩ := hrel
    have HO := hide hown
    have HC := hide hcur
    have HB := hide hbel
    clear hown hcur hbel
    by_cases h8 : L.length < 8
    · go_wp2_with fail
      refine (pick_calls _ _ _ HC.out five (by decide) (by decide) 5 rfl _ rfl).mono ?_
      rintro e w5 ⟨x, hx, rfl, hc5, hg5⟩
      have hx2 := five_le x hx
      obtain ⟨hx0, hx1⟩ := hx2
      have HC5 := hide hc5
      have HO5 := hide (own_kept HO.out hg5 hlt)
      have HB5 := hide (HB.out.trans (below_of_grown hg5 (Nat.le_refl _) HB.out.size))
      have hsz5 : w3.heap.size ≤ w5.heap.size := Nat.le_trans hsz hg5.size
      clear hc5 hg5 hx
      go_wp2_with (at_builtin; refine wpList_append_one (cs := #[.int .i64 x]) (Below.refl w3.heap.size _) hsz5 rfl (.tmp 20) (.tmp 25) 24 rfl 3 i0 (.int .i64 0) 1 8 Tryd.underlying24 hi hz0 hz1 hz2 rfl (by decide) rfl (by simp [Value.oneCell']) _ _ _ rfl HO5.out 1 rfl (by omega) (by omega) ?_)
      intro v' w6 hown6 hbel6
      have HO6 := hide (own_snocI hown6)
      have HC6 := hide (cur_below HC5.out hbel6 hlt)
      have HB6 := hide (HB5.out.trans (hbel6.mono (Nat.le_of_lt hlt)))
      have hs6 := hbel6.size
      clear hown6 hbel6
      go_wp2
      go_roundw
      case rel => exact ⟨L ++ [x], by simp; omega, by simp, HO6.out, HC6.out, HB6.out, by omega⟩
      case measure => simp [intOf]; omega
    · have hL8 : L.length = 8 := by omega
      obtain ⟨gs, cp, hv, hgs1, hgs2, hcp, hcells, hfz⟩ := own_at HO.out (by omega)
      subst hv
      try rw [hL8] at HO
      try rw [hL8] at hcp
      try rw [hL8] at hcells
      try rw [hL8]
      have HCe := hide hcells
      clear hcells
      have hia : IntsAt wr (.slice (some ⟨gs, 0, none⟩) 8 cp) L := IntsAt.of_own (B := w3.heap.size) (e := 3) (by rw [hL8]; exact HO.out)
      have HIA := hide hia
      have hcl : ∀ j (hj : j < 8), wr.cell? ⟨gs, j, none⟩ = some (.int .i64 (L[j]'(by omega))) := by
        intro j hj
        rw [HCe.out j (by omega)]
        simp [cellsI, show j < L.length by omega]
      have HCL := hide hcl
      clear hia hcl HCe
      by_cases k0 : k = 0
      · subst k0
        go_wp2
        go_ret2
        refine ShaR.mk (L.drop 1) (by rw [List.length_drop]; omega) (by omega) ?_ HB.out
        have hl7 : (L.drop 1).length = 7 := by rw [List.length_drop]; omega
        refine ⟨_, _, by rw [hl7]; rfl, fun j hj => ⟨gs, 1, rfl, hgs2, ?_⟩⟩
        rw [HCL.out (1 + j) (by omega)]
        simp [Nat.add_comm 1 j]
      · by_cases k1 : k = 1
        · subst k1
          have hsl : ∀ wx : World, (Instr.slice 9 (.string ⟨b.toArray⟩) (some (.int .i64 1)) none none).run Tryd.prog wx = .ok (.string ⟨(b.drop 1).toArray⟩) wx := by
            intro wx
            rw [run_slice_string_from_if _ _ _ _ _ Tryd.underlying9, if_pos ⟨by omega, by show (1 : Int) ≤ (b.length : Int); omega⟩, ByteArray.extract_mk]
            have hs : (⟨b.toArray⟩ : ByteArray).size = b.length := rfl
            rw [hs]
            congr 3
            first
            | (rw [List.extract_toArray, List.extract_eq_take_drop, List.take_of_length_le (by simp)]; done)
            | (simp; done)
            | (simp; exact List.take_of_length_le (by simp))
          go_wp2
          go_ret2
          exact ShaR.mk L (by omega) (by first | (rw [List.length_drop]; omega) | (rw [List.length_tail]; omega)) HIA.out HB.out
        · by_cases k2 : k = 2
          · subst k2
            go_wp2_with fail
            refine (pick_calls _ _ _ HC.out three (by decide) (by decide) 3 rfl _ rfl).mono ?_
            rintro e w5 ⟨x, hx, rfl, hc5, hg5⟩
            have hO5 := own_kept HO.out hg5 hlt
            have HB5 := hide (HB.out.trans (below_of_grown hg5 (Nat.le_refl _) HB.out.size))
            obtain ⟨y, hy⟩ : ∃ y, w5.cell? ⟨gs, 3, none⟩ = some y := by rw [hO5.cellAt 3 (by omega)]; exact ⟨_, List.getElem?_eq_getElem (by rw [cellsI_length]; omega)⟩
            have hf5 := hO5.frozenAt 3
            have hgw : w.heap.size ≤ gs := by omega
            have h6 := (hO5.stored 3 (.int .i64 x)).1
            rw [cellsI_set] at h6
            have HI6 : Hid (IntsAt (w5.setCell ⟨gs, 3, none⟩ (.int .i64 x)) (.slice (some ⟨gs, 0, none⟩) 8 cp) (L.set 3 x)) := IntsAt.of_own (B := w3.heap.size) (e := 3) (by rw [List.length_set, hL8]; exact h6)
            clear hc5 hg5 hx hO5 h6 hfz
            go_wp2
            go_ret2
            exact ShaR.mk (L.set 3 x) (by rw [List.length_set]; omega) (by omega) HI6.out (HB5.out.setCell hgw _)
          · by_cases k3 : k = 3
            · subst k3
              go_wp2_with fail
              refine (specStart_calls _).mono ?_
              rintro e w5 ⟨vs, rfl, hos, hb5⟩
              have HIs : Hid (IntsAt w5 vs (intsOf start.list)) := IntsAt.of_own (B := wr.heap.size) (e := 3) hos
              have HB5 := hide (HB.out.trans (hb5.mono HB.out.size))
              clear hos hb5
              go_wp2
              go_ret2
              exact ShaR.mk (intsOf start.list) (by decide) (by omega) HIs.out HB5.out
            · have e0 : ((k : Int) == 0) = false := by simp; omega
              have e1 : ((k : Int) == 1) = false := by simp; omega
              have e2 : ((k : Int) == 2) = false := by simp; omega
              have e3 : ((k : Int) == 3) = false := by simp; omega
              go_wp2
              go_ret2
              exact ShaR.mk L (by omega) (by omega) HIA.out HB.out
end Go.Proofs.YtkmeafccdhejdaaDoor.P3
