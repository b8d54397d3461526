/- The laws' toShelfS: a copy in memory of its own; condition: lists of at most 2^20. -/
import Derived.Test.YtfckfgabeeeccaaRgC
namespace Go.Proofs.Ytfckfgabeeeccaa.P9
set_option maxRecDepth 8000
open Go.RowKit P1 P8 Da Rr

theorem Owns.head {W : World} {g n cap : Nat} {e : TypeId} {sz : Nat} {ds : List Dt} {fp : List Nat} (h : Owns W (.slice (some ⟨g, 0, none⟩) n cap) (.row e sz ds) fp) : ∃ fps, fp = g :: fps := by
  unfold Owns at h
  rcases h with ⟨h, _⟩ | ⟨g', n', cap', cur, fps', h1, h2, h3, h4, h5, h6, h7, h8, h9⟩
  · cases h
  · cases h1
    exact ⟨fps', h7⟩

theorem info_shelf : (Try.prog.info? 50).map (fun i => (i.zero, i.size, i.bytes)) = some (some (.agg #[.int .i64 0, .slice none 0 0]), 2, 32) := by kernel_rfl

def shZ : List Dt := [intD 0, .row T0.item 2 []]

theorem shZ_owns {W : World} (i : Nat) (d : Dt) (h : shZ[i]? = some d) : ∃ u, [Value.int .i64 0, .slice none 0 0][i]? = some u ∧ Owns W u d [] := by
  match i, h with
  | 0, h =>
    obtain rfl : intD 0 = d := by simpa [shZ] using h
    exact ⟨_, rfl, owns_leaf _⟩
  | 1, h =>
    obtain rfl : Dt.row T0.item 2 [] = d := by simpa [shZ] using h
    exact ⟨_, rfl, owns_nil _ _⟩

set_option maxHeartbeats 2000000 in
theorem toShelves_calls (w : World) (v : Value) (l : List Shf) (hv : ShelvesAt w v l) (hl : l.length ≤ 1048576) (hs0 : ∀ x ∈ l, x.items.length ≤ 1048576) :
    Calls Try.prog 20 #[v] w fun e w' => ∃ a c fp, e = .returned (.slice a l.length c) ∧ Owns w' (.slice a l.length c) (shelvesD T0 l) fp ∧ (∀ q ∈ fp, w.heap.size ≤ q) ∧ Below w.heap.size w w' := by
  have HV := hide hv
  have HSM := hide hs0
  obtain ⟨a, ca, rfl, -⟩ := hv.open_
  clear hv hs0
  obtain ⟨i0, hi, hz0, hz1, hz2⟩ := info_parts info_shelf
  go_enter Try.func20, Try.ntmps20
  go_wp2_with (at_make; refine wpList_make_full _ rfl (.tmp 6) (.tmp 6) 28 rfl w.heap.size 50 i0 (.agg #[.int .i64 0, .slice none 0 0]) 2 Try.underlying28 hi hz0 hz1 .i64 .i64 _ _ l.length rfl rfl (by omega) (by omega) (by rw [hz2]; omega) (by unfold maxLen; omega) (Nat.le_refl _) ?_)
  intro w2 hown2 hgr2
  have hown3 : w2.ownsRow w.heap.size 50 2 (.slice (some ⟨w.heap.size, 0, none⟩) l.length l.length) l.length (List.replicate l.length [Value.int .i64 0, .slice none 0 0]).flatten := by
    have h1 := madeCells_recs #[.int .i64 0, .slice none 0 0] 2 rfl (by decide) l.length
    rw [show [Value.int .i64 0, .slice none 0 0] = (#[Value.int .i64 0, .slice none 0 0] : Array Value).toList from rfl, ← h1]
    exact hown2
  obtain ⟨fp0, hfp0, hfb0⟩ := owns_made (zd := shZ) hown3 rfl rfl (by decide) shZ_owns
  obtain ⟨fps0, rfl⟩ := Owns.head hfp0
  have hfps0 : ∀ q ∈ fps0, w.heap.size ≤ q := fun q hq => (hown3.lt q ((hfb0 q).1 (by simp [hq]))).1
  have hown4 : Owns w2 (.slice (some ⟨w.heap.size, 0, none⟩) l.length l.length) (.row 50 2 (halfR (shC T0) shZ l 0).flatten) (w.heap.size :: fps0) := by
    have : (halfR (shC T0) shZ l 0).flatten = (List.replicate l.length shZ).flatten := by simp [halfR]
    rw [this]
    exact hfp0
  have hb2 : Below w.heap.size w w2 := (Below.refl _ _).grown hgr2 (Nat.le_refl _) (by intro k hk; cases hk)
  have HO2 := hide hown4
  have HF2 := hide hfps0
  have HB2 := hide hb2
  clear hown2 hown3 hown4 hgr2 hb2 hfp0 hfb0 hfps0
  obtain ⟨g, hg⟩ : ∃ g, g = w.heap.size := ⟨_, rfl⟩
  go_wp2_with fail
  rw [← hg] at HO2 ⊢
  have hgw : w.heap.size ≤ g := by omega
  clear hg
  go_loopw [4] (fun i wr => ∃ (k : Nat) (fps : List Nat), k ≤ l.length ∧ i = .int .i64 k ∧ Hid (Owns wr (.slice (some ⟨g, 0, none⟩) l.length l.length) (.row 50 2 (halfR (shC T0) shZ l k).flatten) (g :: fps)) ∧ Hid (∀ q ∈ fps, w.heap.size ≤ q) ∧ Hid (Below w.heap.size w wr)) (fun i _ => l.length - (intOf i).toNat)
  case atStart => exact ⟨0, fps0, Nat.zero_le _, rfl, HO2.out, HF2.out, HB2.out⟩
  case round =>
    clear HO2 HB2 HF2
    obtain ⟨k, fps, hk, rfl, HO, HF, HB⟩ := hrel
    by_cases hlt : k < l.length
    · obtain ⟨ax, cx, hax, HA⟩ := (HV.out.below HB.out (Nat.le_refl _)).open_
      cases hax
      obtain ⟨gb, off, u, rfl, hgb, f0, f1, hit⟩ := HA k hlt
      have HX := hide (halfR_next (f := shC T0) (z := shZ) (n := 2) (fun _ => rfl) rfl l k hlt)
      have hXl := halfR_flat (f := shC T0) (z := shZ) (n := 2) (fun _ => rfl) rfl l k hk
      have hsm := HSM.out l[k] (List.getElem_mem hlt)
      have HSC : Hid (shC T0 l[k] = [intD l[k].key, itemsD T0 l[k].items]) := rfl
      clear HA
      generalize shC T0 l[k] = sc at *
      generalize l[k].key = key at *
      generalize l[k].items = its at *
      have HC := hide (toShelf_calls wr key its u hit hsm)
      obtain ⟨ai, ci, rfl, -⟩ := hit.open_
      clear hit
      go_wp2_with fail
      refine HC.out.mono ?_
      rintro e w5 ⟨a', c', fp', rfl, ho', hf', hb5⟩
      have hlts := HO.out.lt
      have HO5 := hide (HO.out.stay (W' := w5) (fun q hq => hb5.block q (hlts q hq)))
      have HB5 := hide (HB.out.trans (hb5.mono HB.out.size))
      have HO' := hide ho'
      have HFF : Hid (∀ q ∈ fp', q ≠ g ∧ q ∉ fps) := fun q hq => by
        have h1 := hf' q hq
        refine ⟨fun e => ?_, fun h => ?_⟩
        · have := hlts g (by simp)
          omega
        · have := hlts q (by simp [h])
          omega
      have HFW : Hid (∀ q ∈ fp', w.heap.size ≤ q) := fun q hq => Nat.le_trans HB.out.size (hf' q hq)
      obtain ⟨⟨x0, hc0⟩, hf0, hl5⟩ := HO5.out.cell (i := k * 2) (by omega)
      obtain ⟨⟨x1, hc1⟩, hf1, -⟩ := HO5.out.cell (i := k * 2 + 1) (by omega)
      clear hb5 HO HB ho' hf' hlts f0 f1 hgb HC
      go_wp2_with fail
      go_roundw
      case rel =>
        obtain ⟨fps1, k1, k2⟩ := HO5.out.put (i := k * 2) (by omega) (owns_leaf (.int .i64 key)) (by simp)
        have h3 := HO'.out.stay (W' := w5.setCell ⟨g, k * 2, none⟩ (.int .i64 key)) (fun q hq => Below.heap_setCell _ _ _ _ (HFF.out q hq).1)
        obtain ⟨fps2, k3, k4⟩ := k1.put (i := k * 2 + 1) (by rw [List.length_set]; omega) h3 (fun q hq => ⟨(HFF.out q hq).1, fun h => by
          rcases k2 q h with h4 | h4
          · exact (HFF.out q hq).2 h4
          · cases h4⟩)
        refine ⟨k + 1, fps2, by omega, by go_num, ?_, ?_, (HB5.out.setCell (p := ⟨g, k * 2, none⟩) hgw _).setCell (p := ⟨g, k * 2 + 1, none⟩) hgw _⟩
        · show Owns _ _ _ _
          rw [← HX.out, HSC.out]
          exact k3
        · intro q hq
          rcases k4 q hq with h4 | h4
          · rcases k2 q h4 with h5 | h5
            · exact HF.out q h5
            · cases h5
          · exact HFW.out q h4
      case measure => simp [intOf]; omega
    · have hkl : k = l.length := by omega
      subst hkl
      have HE : Hid ((halfR (shC T0) shZ l l.length).flatten = l.flatMap (shC T0)) := halfR_end l
      rw [HE.out] at HO
      go_wp2_with fail
      go_ret
      exact ⟨_, _, _, rfl, HO.out, fun q hq => (List.mem_cons.1 hq).elim (fun e => e ▸ hgw) (HF.out q), HB.out⟩
end Go.Proofs.Ytfckfgabeeeccaa.P9
