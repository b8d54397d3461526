/- The laws' toItem, toItemS: copies in memory of their own; condition: at most 2^20 items. -/
import Derived.Test.YtfckfgabeeeccaaRg8
import Derived.Test.YtfckfgabeeeccaaDat2
import Derived.Test.YtfckfgabeeeccaaRowR
namespace Go.Proofs.Ytfckfgabeeeccaa.P9
set_option maxRecDepth 8000
open Go.RowKit P1 P8 Da Rr

set_option maxHeartbeats 400000 in
theorem toItem_calls (w : World) (t : List UInt8) (b : Bool) :
    Calls Try.prog 46 #[.agg #[.string ⟨t.toArray⟩, .bool b]] w fun e w' => e = .returned (.agg #[.string ⟨t.toArray⟩, .bool b]) ∧ Below w.heap.size w w' := by
  have h1 := (Below.refl w.heap.size w).alloc (Nat.le_refl _) (.cells #[.string ⟨t.toArray⟩, .bool b] 82)
  have h2 := h1.alloc h1.size (.cells #[.string ⟨t.toArray⟩, .bool b] 74)
  have HB := hide (h2.alloc h2.size (.cells #[.string ⟨t.toArray⟩, .bool b] 74))
  clear h1 h2
  go_enter Try.func46, Try.ntmps46
  go_wp2_with fail
  refine bodyPost_ret (v := .agg #[.string ⟨t.toArray⟩, .bool b]) (by simp [results, Try.results46, go_sem]) rfl ⟨rfl, HB.out⟩

/-- An item's two cells. -/
def itV (x : It) : List Value := [.string ⟨x.t.toArray⟩, .bool x.gone]
def itZ : List Value := [.string ByteArray.empty, .bool false]

/-- The first k copied, the others still nothing. -/
def halfI (l : List It) (k : Nat) : List (List Value) := (l.take k).map itV ++ List.replicate (l.length - k) itZ

theorem halfI_all (l : List It) (k : Nat) : ∀ r ∈ halfI l k, r.length = 2 := by
  intro r hr
  rcases List.mem_append.1 hr with hr | hr
  · obtain ⟨x, _, rfl⟩ := List.mem_map.1 hr
    rfl
  · rw [List.eq_of_mem_replicate hr]
    rfl

theorem halfI_length (l : List It) (k : Nat) (hk : k ≤ l.length) : (halfI l k).length = l.length := by
  simp [halfI]
  omega

theorem halfI_set (l : List It) (k : Nat) (hk : k < l.length) : (halfI l k).set k (itV l[k]) = halfI l (k + 1) := by
  unfold halfI
  have h1 : ((l.take k).map itV).length = k := by simp; omega
  rw [List.set_append_right _ _ (by omega), h1, Nat.sub_self, show l.length - k = (l.length - (k + 1)) + 1 by omega, List.replicate_succ, List.set_cons_zero, List.take_succ_eq_append_getElem hk, List.map_append, List.append_assoc]
  rfl

theorem info_item : (Try.prog.info? 74).map (fun i => (i.zero, i.size, i.bytes)) = some (some (.agg #[.string ByteArray.empty, .bool false]), 2, 24) := by kernel_rfl

set_option maxHeartbeats 1000000 in
theorem toItems_calls (w : World) (v : Value) (l : List It) (hv : ItemsAt w v l) (hl : l.length ≤ 1048576) :
    Calls Try.prog 43 #[v] w fun e w' => ∃ v', e = .returned v' ∧ w'.ownsRow w.heap.size 74 2 v' l.length (l.map itV).flatten ∧ Below w.heap.size w w' := by
  have HV := hide hv
  obtain ⟨a, ca, rfl, -⟩ := hv.open_
  clear hv
  obtain ⟨i0, hi, hz0, hz1, hz2⟩ := info_parts info_item
  go_enter Try.func43, Try.ntmps43
  go_wp2_with (at_make; refine wpList_make_full _ rfl (.tmp 6) (.tmp 6) 48 rfl w.heap.size 74 i0 (.agg #[.string ByteArray.empty, .bool false]) 2 Try.underlying48 hi hz0 hz1 .i64 .i64 _ _ l.length rfl rfl (by omega) (by omega) (by rw [hz2]; omega) (by unfold maxLen; omega) (Nat.le_refl _) ?_)
  intro w2 hown2 hgr2
  have hown3 : w2.ownsRow w.heap.size 74 2 (.slice (some ⟨w.heap.size, 0, none⟩) l.length l.length) l.length (halfI l 0).flatten := by
    have h1 := madeCells_recs #[.string ByteArray.empty, .bool false] 2 rfl (by decide) l.length
    have h2 : (madeCells #[.string ByteArray.empty, .bool false] (l.length * 2)).toList = (halfI l 0).flatten := by rw [h1]; simp [halfI, itZ]
    rw [← h2]
    exact hown2
  have hb2 : Below w.heap.size w w2 := (Below.refl _ _).grown hgr2 (Nat.le_refl _) (by intro k hk; cases hk)
  have HO2 := hide hown3
  have HB2 := hide hb2
  clear hown2 hown3 hgr2 hb2
  obtain ⟨g, hg⟩ : ∃ g, g = w.heap.size := ⟨_, rfl⟩
  go_wp2_with fail
  rw [← hg] at HO2 ⊢
  have hgw : w.heap.size ≤ g := by omega
  have HG := hide hg
  clear hg
  go_loopw [4] (fun i wr => ∃ k : Nat, k ≤ l.length ∧ i = .int .i64 k ∧ Hid (wr.ownsRow g 74 2 (.slice (some ⟨g, 0, none⟩) l.length l.length) l.length (halfI l k).flatten) ∧ Hid (Below w.heap.size w wr)) (fun i _ => l.length - (intOf i).toNat)
  case atStart => exact ⟨0, Nat.zero_le _, rfl, HO2.out, HB2.out⟩
  case round =>
    clear HO2 HB2
    obtain ⟨k, hk, rfl, HO, HB⟩ := hrel
    by_cases hlt : k < l.length
    · obtain ⟨ax, cx, hax, HA⟩ := (HV.out.below HB.out (Nat.le_refl _)).open_
      cases hax
      obtain ⟨gb, off, rfl, hgb, f0, f1⟩ := HA k hlt
      have HS := hide (halfI_set l k hlt)
      have HFS := hide (flatten_set (halfI l k) k (itV l[k]) (halfI_all l k) rfl (by rw [halfI_length l k hk]; exact hlt))
      have HC := hide (fun wx => toItem_calls wx l[k].t l[k].gone)
      have HIV : Hid (itV l[k] = [.string ⟨l[k].t.toArray⟩, .bool l[k].gone]) := rfl
      clear HA
      generalize itV l[k] = iv at *
      generalize l[k].t = xt at *
      generalize l[k].gone = xb at *
      go_wp2_with fail
      refine (HC.out _).mono ?_
      rintro e w5 ⟨rfl, hb5⟩
      have HO5 := hide (own_below HO.out hb5)
      have HB5 := hide (HB.out.trans (hb5.mono HB.out.size))
      have hm : (halfI l k).flatten.length = l.length * 2 := by rw [flatten_length (n := 2) _ (halfI_all l k), halfI_length l k hk]
      have hc0 : ∃ x, w5.cell? ⟨g, k * 2, none⟩ = some x := by rw [HO5.out.cellAt (k * 2) (by omega)]; exact ⟨_, List.getElem?_eq_getElem (by omega)⟩
      have hc1 : ∃ x, w5.cell? ⟨g, k * 2 + 1, none⟩ = some x := by rw [HO5.out.cellAt (k * 2 + 1) (by omega)]; exact ⟨_, List.getElem?_eq_getElem (by omega)⟩
      obtain ⟨x0, hc0⟩ := hc0
      obtain ⟨x1, hc1⟩ := hc1
      have hf0 := HO5.out.frozenAt (k * 2)
      have hf1 := HO5.out.frozenAt (k * 2 + 1)
      have hl5 : g < w5.heap.size := cell_lt' hc0
      clear hb5 HO HB hm f0 f1 hgb HC
      go_wp2_with fail
      go_roundw
      case rel =>
        refine ⟨k + 1, by omega, by go_num, ?_, (HB5.out.setCell (p := ⟨g, k * 2, none⟩) hgw _).setCell (p := ⟨g, k * 2 + 1, none⟩) hgw _⟩
        have h1 := (HO5.out.stored (k * 2) (.string ⟨xt.toArray⟩)).1
        have h2 := (h1.stored (k * 2 + 1) (.bool xb)).1
        have h3 := HFS.out
        rw [HIV.out] at h3
        have h4 : (halfI l (k + 1)).flatten = (((halfI l k).flatten.set (k * 2) (.string ⟨xt.toArray⟩)).set (k * 2 + 1) (.bool xb)) := by
          rw [← HS.out, HIV.out, ← h3]
          rfl
        show World.ownsRow _ _ _ _ _ _ _
        rw [h4]
        exact h2
      case measure => simp [intOf]; omega
    · have hkl : k = l.length := by omega
      subst hkl
      have HE : Hid (halfI l l.length = l.map itV) := by show _ = _; simp [halfI]
      rw [HE.out] at HO
      go_wp2_with fail
      go_ret
      exact ⟨_, rfl, own_mono HO.out hgw, HB.out⟩
end Go.Proofs.Ytfckfgabeeeccaa.P9
