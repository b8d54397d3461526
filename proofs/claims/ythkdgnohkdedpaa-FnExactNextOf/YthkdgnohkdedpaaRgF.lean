/- The laws' toPeerS, toRing: copies in memory of their own; condition: lists of at most 2^20. -/
import Derived.Test.YthkdgnohkdedpaaRgE
namespace Go.Proofs.Ythkdgnohkdedpaa.P9
set_option maxRecDepth 8000
open Go.RowKit P1 P8 Da Rr

theorem info_peer : (Try.prog.info? 55).map (fun i => (i.zero, i.size, i.bytes)) = some (some (.agg #[.int .i64 0, .bool false, .int .i64 0, .slice none 0 0, .slice none 0 0, .slice none 0 0]), 6, 96) := by kernel_rfl

def prZ : List Dt := [intD 0, boolD false, intD 0, .row 3 1 [], .row 3 1 [], .row T0.shelf 2 []]

theorem prZ_owns {W : World} (i : Nat) (d : Dt) (h : prZ[i]? = some d) : ∃ u, [Value.int .i64 0, .bool false, .int .i64 0, .slice none 0 0, .slice none 0 0, .slice none 0 0][i]? = some u ∧ Owns W u d [] := by
  match i, h with
  | 0, h =>
    obtain rfl : intD 0 = d := by simpa [prZ] using h
    exact ⟨_, rfl, owns_leaf _⟩
  | 1, h =>
    obtain rfl : boolD false = d := by simpa [prZ] using h
    exact ⟨_, rfl, owns_leaf _⟩
  | 2, h =>
    obtain rfl : intD 0 = d := by simpa [prZ] using h
    exact ⟨_, rfl, owns_leaf _⟩
  | 3, h =>
    obtain rfl : Dt.row 3 1 [] = d := by simpa [prZ] using h
    exact ⟨_, rfl, owns_nil _ _⟩
  | 4, h =>
    obtain rfl : Dt.row 3 1 [] = d := by simpa [prZ] using h
    exact ⟨_, rfl, owns_nil _ _⟩
  | 5, h =>
    obtain rfl : Dt.row T0.shelf 2 [] = d := by simpa [prZ] using h
    exact ⟨_, rfl, owns_nil _ _⟩

set_option maxHeartbeats 4000000 in
theorem toPeers_calls (w : World) (v : Value) (l : List Pr) (hv : PeersAt w v l) (hl : l.length ≤ 1048576) (hs0 : ∀ x ∈ l, Small x) :
    Calls Try.prog 61 #[v] w fun e w' => ∃ a c fp, e = .returned (.slice a l.length c) ∧ Owns w' (.slice a l.length c) (peersD T0 l) fp ∧ (∀ q ∈ fp, w.heap.size ≤ q) ∧ Below w.heap.size w w' := by
  have HV := hide hv
  have HSM := hide hs0
  obtain ⟨a, ca, rfl, -⟩ := hv.open_
  clear hv hs0
  obtain ⟨i0, hi, hz0, hz1, hz2⟩ := info_parts info_peer
  go_enter Try.func61, Try.ntmps61
  go_wp2_with (at_make; refine wpList_make_full _ rfl (.tmp 6) (.tmp 6) 42 rfl w.heap.size 55 i0 (.agg #[.int .i64 0, .bool false, .int .i64 0, .slice none 0 0, .slice none 0 0, .slice none 0 0]) 6 Try.underlying42 hi hz0 hz1 .i64 .i64 _ _ l.length rfl rfl (by omega) (by omega) (by rw [hz2]; omega) (by unfold maxLen; omega) (Nat.le_refl _) ?_)
  intro w2 hown2 hgr2
  have hown3 : w2.ownsRow w.heap.size 55 6 (.slice (some ⟨w.heap.size, 0, none⟩) l.length l.length) l.length (List.replicate l.length [Value.int .i64 0, .bool false, .int .i64 0, .slice none 0 0, .slice none 0 0, .slice none 0 0]).flatten := by
    have h1 := madeCells_recs #[.int .i64 0, .bool false, .int .i64 0, .slice none 0 0, .slice none 0 0, .slice none 0 0] 6 rfl (by decide) l.length
    rw [show [Value.int .i64 0, .bool false, .int .i64 0, .slice none 0 0, .slice none 0 0, .slice none 0 0] = (#[.int .i64 0, .bool false, .int .i64 0, .slice none 0 0, .slice none 0 0, .slice none 0 0] : Array Value).toList from rfl, ← h1]
    exact hown2
  obtain ⟨fp0, hfp0, hfb0⟩ := owns_made (zd := prZ) hown3 rfl rfl (by decide) prZ_owns
  obtain ⟨fps0, rfl⟩ := Owns.head hfp0
  have hfps0 : ∀ q ∈ fps0, w.heap.size ≤ q := fun q hq => (hown3.lt q ((hfb0 q).1 (by simp [hq]))).1
  have hown4 : Owns w2 (.slice (some ⟨w.heap.size, 0, none⟩) l.length l.length) (.row 55 6 (halfR (prC T0) prZ l 0).flatten) (w.heap.size :: fps0) := by
    have : (halfR (prC T0) prZ l 0).flatten = (List.replicate l.length prZ).flatten := by simp [halfR]
    rw [this]
    exact hfp0
  have hb2 : Below w.heap.size w w2 := (Below.refl _ _).grown hgr2 (Nat.le_refl _) (by intro k hk; cases hk)
  have HO2 := hide hown4
  have HF2 := hide hfps0
  have HB2 := hide hb2
  clear hown2 hown3 hown4 hgr2 hb2 hfp0 hfb0 hfps0
  obtain ⟨g, hg⟩ : ∃ g, g = w.heap.size := ⟨_, rfl⟩
  go_wp2_with fail
  rw [← hg] at HO2 ⊢
  have hgw : w.heap.size ≤ g := by omega
  clear hg
  go_loopw [4] (fun i wr => ∃ (k : Nat) (fps : List Nat), k ≤ l.length ∧ i = .int .i64 k ∧ Hid (Owns wr (.slice (some ⟨g, 0, none⟩) l.length l.length) (.row 55 6 (halfR (prC T0) prZ l k).flatten) (g :: fps)) ∧ Hid (∀ q ∈ fps, w.heap.size ≤ q) ∧ Hid (Below w.heap.size w wr)) (fun i _ => l.length - (intOf i).toNat)
  case atStart => exact ⟨0, fps0, Nat.zero_le _, rfl, HO2.out, HF2.out, HB2.out⟩
  case round =>
    clear HO2 HB2 HF2
    obtain ⟨k, fps, hk, rfl, HO, HF, HB⟩ := hrel
    by_cases hlt : k < l.length
    · obtain ⟨ax, cx, hax, HA⟩ := (HV.out.below HB.out (Nat.le_refl _)).open_
      cases hax
      obtain ⟨gb, off, u3, u4, u5, rfl, hgb, hc⟩ := HA k hlt
      have HX := hide (halfR_next (f := prC T0) (z := prZ) (n := 6) (fun _ => rfl) rfl l k hlt)
      have hXl := halfR_flat (f := prC T0) (z := prZ) (n := 6) (fun _ => rfl) rfl l k hk
      have hsm := HSM.out l[k] (List.getElem_mem hlt)
      have HSC : Hid (prC T0 l[k] = [intD l[k].id, boolD l[k].here, intD l[k].ahead, intsD l[k].behind, intsD l[k].fingers, shelvesD T0 l[k].shelves]) := rfl
      clear HA
      generalize prC T0 l[k] = sc at *
      generalize l[k] = q at *
      have HC := hide (toPeer_calls wr q u3 u4 u5 hc.behind hc.fingers hc.shelves hsm)
      obtain ⟨e3, d3, h3, -⟩ := hc.behind
      obtain ⟨e4, d4, h4, -⟩ := hc.fingers
      obtain ⟨e5, d5, h5, -⟩ := hc.shelves.open_
      have f0 := hc.id
      have f1 := hc.here
      have f2 := hc.ahead
      have f3 := hc.c3
      have f4 := hc.c4
      have f5 := hc.c5
      subst h3 h4 h5
      obtain ⟨id, here, ahead, be, fi, sh⟩ := q
      dsimp only at f0 f1 f2 f3 f4 f5 HC HSC
      dsimp only [prV] at HC
      clear hc hsm
      go_wp2_with fail
      refine HC.out.mono ?_
      rintro e w5 ⟨x3, y3, x4, y4, x5, y5, p3, p4, p5, rfl, hpo, hb5⟩
      have hlts := HO.out.lt
      have HO5 := hide (HO.out.stay (W' := w5) (fun q hq => hb5.block q (hlts q hq)))
      have HB5 := hide (HB.out.trans (hb5.mono HB.out.size))
      have ap : ∀ q, wr.heap.size ≤ q → q ≠ g ∧ q ∉ fps := fun q h1 => by
        refine ⟨fun e => ?_, fun h => ?_⟩
        · have := hlts g (by simp)
          omega
        · have := hlts q (by simp [h])
          omega
      have HP := hide hpo
      have HA3 : Hid (∀ q ∈ p3, q ≠ g ∧ q ∉ fps) := fun q hq => ap q (hpo.b3 q hq)
      have HA4 : Hid (∀ q ∈ p4, q ≠ g ∧ q ∉ fps) := fun q hq => ap q (hpo.b4 q hq)
      have HA5 : Hid (∀ q ∈ p5, q ≠ g ∧ q ∉ fps) := fun q hq => ap q (hpo.b5 q hq)
      have HFW : Hid (∀ q, q ∈ p3 ∨ q ∈ p4 ∨ q ∈ p5 → w.heap.size ≤ q) := fun q hq => Nat.le_trans HB.out.size (by
        rcases hq with hq | hq | hq
        · exact hpo.b3 q hq
        · exact hpo.b4 q hq
        · exact hpo.b5 q hq)
      obtain ⟨⟨s0, hc0⟩, hf0, hl5⟩ := HO5.out.cell (i := k * 6) (by omega)
      obtain ⟨⟨s1, hc1⟩, hf1, -⟩ := HO5.out.cell (i := k * 6 + 1) (by omega)
      obtain ⟨⟨s2, hc2⟩, hf2, -⟩ := HO5.out.cell (i := k * 6 + 2) (by omega)
      obtain ⟨⟨s3, hc3⟩, hf3, -⟩ := HO5.out.cell (i := k * 6 + 3) (by omega)
      obtain ⟨⟨s4, hc4⟩, hf4, -⟩ := HO5.out.cell (i := k * 6 + 4) (by omega)
      obtain ⟨⟨s5, hc5⟩, hf5, -⟩ := HO5.out.cell (i := k * 6 + 5) (by omega)
      clear hb5 HO HB hpo hlts ap f0 f1 f2 f3 f4 f5 hgb HC
      go_wp2_with fail
      go_roundw
      case rel =>
        have K3 := HP.out.o3
        have K4 := HP.out.o4
        have K5 := HP.out.o5
        obtain ⟨g0, k0, j0⟩ := HO5.out.put (i := k * 6) (by omega) (owns_leaf (.int .i64 id)) (by simp)
        have n3_1 : ∀ q ∈ p3, q ∉ g0 := fun q hq h => (j0 q h).elim ((HA3.out q hq).2) (by simp)
        have K3 := owns_set K3 (b := g) (i := k * 6) (fun q hq => (HA3.out q hq).1) (.int .i64 id)
        have n4_1 : ∀ q ∈ p4, q ∉ g0 := fun q hq h => (j0 q h).elim ((HA4.out q hq).2) (by simp)
        have K4 := owns_set K4 (b := g) (i := k * 6) (fun q hq => (HA4.out q hq).1) (.int .i64 id)
        have n5_1 : ∀ q ∈ p5, q ∉ g0 := fun q hq h => (j0 q h).elim ((HA5.out q hq).2) (by simp)
        have K5 := owns_set K5 (b := g) (i := k * 6) (fun q hq => (HA5.out q hq).1) (.int .i64 id)
        obtain ⟨g1, k1, j1⟩ := k0.put (i := k * 6 + 1) (by simp only [List.length_set]; omega) (owns_leaf (.bool here)) (by simp)
        have n3_2 : ∀ q ∈ p3, q ∉ g1 := fun q hq h => (j1 q h).elim (n3_1 q hq) (by simp)
        have K3 := owns_set K3 (b := g) (i := k * 6 + 1) (fun q hq => (HA3.out q hq).1) (.bool here)
        have n4_2 : ∀ q ∈ p4, q ∉ g1 := fun q hq h => (j1 q h).elim (n4_1 q hq) (by simp)
        have K4 := owns_set K4 (b := g) (i := k * 6 + 1) (fun q hq => (HA4.out q hq).1) (.bool here)
        have n5_2 : ∀ q ∈ p5, q ∉ g1 := fun q hq h => (j1 q h).elim (n5_1 q hq) (by simp)
        have K5 := owns_set K5 (b := g) (i := k * 6 + 1) (fun q hq => (HA5.out q hq).1) (.bool here)
        obtain ⟨g2, k2, j2⟩ := k1.put (i := k * 6 + 2) (by simp only [List.length_set]; omega) (owns_leaf (.int .i64 ahead)) (by simp)
        have n3_3 : ∀ q ∈ p3, q ∉ g2 := fun q hq h => (j2 q h).elim (n3_2 q hq) (by simp)
        have K3 := owns_set K3 (b := g) (i := k * 6 + 2) (fun q hq => (HA3.out q hq).1) (.int .i64 ahead)
        have n4_3 : ∀ q ∈ p4, q ∉ g2 := fun q hq h => (j2 q h).elim (n4_2 q hq) (by simp)
        have K4 := owns_set K4 (b := g) (i := k * 6 + 2) (fun q hq => (HA4.out q hq).1) (.int .i64 ahead)
        have n5_3 : ∀ q ∈ p5, q ∉ g2 := fun q hq h => (j2 q h).elim (n5_2 q hq) (by simp)
        have K5 := owns_set K5 (b := g) (i := k * 6 + 2) (fun q hq => (HA5.out q hq).1) (.int .i64 ahead)
        obtain ⟨g3, k3, j3⟩ := k2.put (i := k * 6 + 3) (by simp only [List.length_set]; omega) K3 (fun q hq => ⟨(HA3.out q hq).1, n3_3 q hq⟩)
        have n4_4 : ∀ q ∈ p4, q ∉ g3 := fun q hq h => (j3 q h).elim (n4_3 q hq) (fun h' => HP.out.d34 q h' hq)
        have K4 := owns_set K4 (b := g) (i := k * 6 + 3) (fun q hq => (HA4.out q hq).1) (.slice x3 be.length y3)
        have n5_4 : ∀ q ∈ p5, q ∉ g3 := fun q hq h => (j3 q h).elim (n5_3 q hq) (fun h' => HP.out.d35 q h' hq)
        have K5 := owns_set K5 (b := g) (i := k * 6 + 3) (fun q hq => (HA5.out q hq).1) (.slice x3 be.length y3)
        obtain ⟨g4, k4, j4⟩ := k3.put (i := k * 6 + 4) (by simp only [List.length_set]; omega) K4 (fun q hq => ⟨(HA4.out q hq).1, n4_4 q hq⟩)
        have n5_5 : ∀ q ∈ p5, q ∉ g4 := fun q hq h => (j4 q h).elim (n5_4 q hq) (fun h' => HP.out.d45 q h' hq)
        have K5 := owns_set K5 (b := g) (i := k * 6 + 4) (fun q hq => (HA5.out q hq).1) (.slice x4 fi.length y4)
        obtain ⟨g5, k5, j5⟩ := k4.put (i := k * 6 + 5) (by simp only [List.length_set]; omega) K5 (fun q hq => ⟨(HA5.out q hq).1, n5_5 q hq⟩)
        refine ⟨k + 1, g5, by omega, by go_num, ?_, ?_, ((((((HB5.out.setCell (p := ⟨g, k * 6, none⟩) hgw _).setCell (p := ⟨g, k * 6 + 1, none⟩) hgw _).setCell (p := ⟨g, k * 6 + 2, none⟩) hgw _).setCell (p := ⟨g, k * 6 + 3, none⟩) hgw _).setCell (p := ⟨g, k * 6 + 4, none⟩) hgw _).setCell (p := ⟨g, k * 6 + 5, none⟩) hgw _)⟩
        · show Owns _ _ _ _
          rw [← HX.out, HSC.out]
          exact k5
        · intro q hq
          rcases j5 q hq with h | h
          · rcases j4 q h with h | h
            · rcases j3 q h with h | h
              · rcases j2 q h with h | h
                · rcases j1 q h with h | h
                  · rcases j0 q h with h | h
                    · exact HF.out q h
                    · cases h
                  · cases h
                · cases h
              · exact HFW.out q (.inl h)
            · exact HFW.out q (.inr (.inl h))
          · exact HFW.out q (.inr (.inr h))
      case measure => simp [intOf]; omega
    · have hkl : k = l.length := by omega
      subst hkl
      have HE : Hid ((halfR (prC T0) prZ l l.length).flatten = l.flatMap (prC T0)) := halfR_end l
      rw [HE.out] at HO
      go_wp2_with fail
      go_ret
      exact ⟨_, _, _, rfl, HO.out, fun q hq => (List.mem_cons.1 hq).elim (fun e => e ▸ hgw) (HF.out q), HB.out⟩
end Go.Proofs.Ythkdgnohkdedpaa.P9
