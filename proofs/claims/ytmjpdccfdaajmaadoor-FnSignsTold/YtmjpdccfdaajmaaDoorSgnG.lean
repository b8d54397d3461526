/- The contract of spec.DrawSignedBy: some key, text and signature within their bounds; only new memory is written. -/
import Derived.Test.YtmjpdccfdaajmaaDoorSgnF
namespace Go.Proofs.YtmjpdccfdaajmaaDoor.P4
set_option maxRecDepth 8000
open Go.RowKit P1 P3 Cu

set_option maxHeartbeats 2000000 in
theorem drawSigned_calls (w : World) (a : Option Addr) (len cap : Nat) (hc : Cu.Code w.heap.size w (.slice a len cap) len) :
    Calls Tryd.prog 26 #[.slice a len cap] w fun e w' => ∃ (k t : List UInt8) (v : Value) (leaf : Int) (E W : List (List UInt8)), k.length = 8 ∧ t.length ≤ 15 ∧ e = .returned (.tuple #[.string ⟨k.toArray⟩, .string ⟨t.toArray⟩, v]) ∧ SigAt w' v leaf E W ∧ Below w.heap.size w w' := by
  have hbA : Below w.heap.size w (w.alloc (.cells #[.int .i64 0, .slice none 0 0, .slice none 0 0] 29)) := (Below.refl _ _).alloc (Nat.le_refl _) _
  have HR1 := hide (Blk.new w #[.int .i64 0, .slice none 0 0, .slice none 0 0] 29)
  have HC1 := hide ((hc.below (fun k hk => hbA.block k hk)).more hbA.size)
  have HB1 := hide hbA
  clear hc hbA
  go_enter Tryd.func26, Tryd.ntmps26
  go_wp2_with fail
  obtain ⟨b4, hb4⟩ : ∃ b, b = w.heap.size := ⟨_, rfl⟩
  have hB4 : w.heap.size ≤ b4 := by omega
  rw [← hb4] at HR1 ⊢
  clear hb4
  generalize w.alloc (.cells #[.int .i64 0, .slice none 0 0, .slice none 0 0] 29) = w1 at *
  refine (new_calls w1 a len cap HC1.out).mono ?_
  rintro e w2 ⟨rfl, hc2, hb2⟩
  have HC2 := hide hc2
  have HR2 := hide (HR1.out.below hb2 HR1.out.lt)
  have HB2 := hide (HB1.out.trans (hb2.mono HB1.out.size))
  have hz12 := hb2.size
  have hl4 := HR1.out.lt
  clear hc2 hb2 HC1 HR1 HB1
  obtain ⟨gc, hgc⟩ : ∃ gc, gc = w1.heap.size := ⟨_, rfl⟩
  obtain ⟨B1, hB1⟩ : ∃ B1, B1 = w1.heap.size := ⟨_, rfl⟩
  have HC3 : Hid (Cur B1 w2 gc) := by show Cur B1 w2 gc; rw [hgc, hB1]; exact HC2.out
  rw [← hgc]
  have hbB : b4 < B1 := by omega
  have hwB : w.heap.size ≤ B1 := by omega
  clear HC2 hgc hB1
  go_wp2_with fail
  refine (any_calls B1 gc w2 HC3.out).mono ?_
  rintro e w3 ⟨sd, t, v, leaf, E, W, ht, rfl, hv, hb3⟩
  obtain ⟨⟨vE, vW, rfl, tE, tW⟩, d1, d2, d3, d4⟩ := hv
  obtain ⟨aE, cE, hE⟩ := texts_len tE
  obtain ⟨aW, cW, hW⟩ := texts_len tW
  generalize E.length = nE at hE
  generalize W.length = nW at hW
  subst hE hW
  have hbA : Below w3.heap.size w3 (w3.alloc (.cells #[.int .i64 leaf, .slice aE nE cE, .slice aW nW cW] 29)) := (Below.refl _ _).alloc (Nat.le_refl _) _
  have HS4 := hide (Blk.new w3 #[.int .i64 leaf, .slice aE nE cE, .slice aW nW cW] 29)
  have hR3 := HR2.out.below hb3 hbB
  have HR4 := hide (hR3.below hbA hR3.lt)
  have TE4 := hide (tE.below hbA (Nat.le_refl _))
  have TW4 := hide (tW.below hbA (Nat.le_refl _))
  have hb3' := HB2.out.trans (hb3.mono hwB)
  have HB4 := hide (hb3'.trans (hbA.mono hb3'.size))
  have D3 := hide d3
  have D4 := hide d4
  clear tE tW hb3 hbA hR3 hb3' HR2 HB2 HC3 d3 d4
  go_wp2_with fail
  obtain ⟨b7, hb7⟩ : ∃ b, b = w3.heap.size := ⟨_, rfl⟩
  rw [← hb7] at HS4 ⊢
  clear hb7
  generalize w3.alloc (.cells #[.int .i64 leaf, .slice aE nE cE, .slice aW nW cW] 29) = w4 at *
  have l7x := HS4.out.lt
  have n0 : ∀ p : Near w4.heap.size w4, p.w.cell? ⟨b7, 0, none⟩ = some (.int .i64 leaf) := fun p => by rw [(HS4.out.below p.h l7x).cell 0]; rfl
  have n1 : ∀ p : Near w4.heap.size w4, p.w.cell? ⟨b7, 1, none⟩ = some (.slice aE nE cE) := fun p => by rw [(HS4.out.below p.h l7x).cell 1]; rfl
  have n2 : ∀ p : Near w4.heap.size w4, p.w.cell? ⟨b7, 2, none⟩ = some (.slice aW nW cW) := fun p => by rw [(HS4.out.below p.h l7x).cell 2]; rfl
  have hnn := Near.some w4.heap.size w4
  have HK := hide (fun (p : Near w4.heap.size w4) => specKey_calls sd p.w)
  have hkl := key_length sd
  generalize key sd = ks at *
  refine wp_region_cut_seq 6 6 (fun w' => ∃ p : Near w4.heap.size w4, w' = p.w) ⟨⟨_, (Below.refl _ _).drew⟩, rfl⟩ (by kernel_rfl) (by kernel_rfl) (by kernel_rfl) (by kernel_rfl) ?_
  simp only [List.take_succ_cons, List.take_zero, List.drop_succ_cons, List.drop_zero]
  repeat (go_big_quiet_step (fail))
  go_big_quiet_step (exact calls_near (Nat.le_refl _) (HK.out _))
  repeat (go_big_quiet_step (fail))
  refine wpQuiet_nil ?_
  rintro wz ⟨pq, rfl⟩
  have hqb := pq.h
  obtain ⟨wz, hq⟩ := pq
  simp only at hqb ⊢
  have ZR := hide (HR4.out.below hqb HR4.out.lt)
  have ZE := hide (TE4.out.below hqb (Nat.le_refl _))
  have ZW := hide (TW4.out.below hqb (Nat.le_refl _))
  have ZB := hide (HB4.out.trans (hqb.mono HB4.out.size))
  clear hq hqb n0 n1 n2 hnn
  have z0 : wz.cell? ⟨b4, 0, none⟩ = some (.int .i64 0) := by rw [ZR.out.cell 0]; rfl
  have z1 : wz.cell? ⟨b4, 1, none⟩ = some (.slice none 0 0) := by rw [ZR.out.cell 1]; rfl
  have z2 : wz.cell? ⟨b4, 2, none⟩ = some (.slice none 0 0) := by rw [ZR.out.cell 2]; rfl
  have f0 := ZR.out.free 0
  have f1 := ZR.out.free 1
  have f2 := ZR.out.free 2
  go_wp2_with fail
  have hRF := ((ZR.out.set 0 (.int .i64 leaf)).set 1 (.slice aE nE cE)).set 2 (.slice aW nW cW)
  have hgF := Cu.grown_trans (Cu.grown_trans (Cu.grown_set wz b4 0 (.int .i64 leaf)) (Cu.grown_set _ b4 1 (.slice aE nE cE))) (Cu.grown_set _ b4 2 (.slice aW nW cW))
  have hBF := ((ZB.out.setCell (p := ⟨b4, 0, none⟩) hB4 (.int .i64 leaf)).setCell (p := ⟨b4, 1, none⟩) hB4 (.slice aE nE cE)).setCell (p := ⟨b4, 2, none⟩) hB4 (.slice aW nW cW)
  have hTE := TextsAt.grownB ZE.out hgF (sig_nostring ZR.out)
  have hTW := TextsAt.grownB ZW.out hgF (sig_nostring ZR.out)
  clear z0 z1 z2 f0 f1 f2 hgF ZE ZW ZB ZR
  generalize ((wz.setCell ⟨b4, 0, none⟩ (.int .i64 leaf)).setCell ⟨b4, 1, none⟩ (.slice aE nE cE)).setCell ⟨b4, 2, none⟩ (.slice aW nW cW) = wF at *
  have x0 : wF.cell? ⟨b4, 0, none⟩ = some (.int .i64 leaf) := by rw [hRF.cell 0]; rfl
  have x1 : wF.cell? ⟨b4, 1, none⟩ = some (.slice aE nE cE) := by rw [hRF.cell 1]; rfl
  have x2 : wF.cell? ⟨b4, 2, none⟩ = some (.slice aW nW cW) := by rw [hRF.cell 2]; rfl
  refine bodyPost_ret (v := .tuple #[.string ⟨ks.toArray⟩, .string ⟨t.toArray⟩, .agg #[.int .i64 leaf, .slice aE nE cE, .slice aW nW cW]]) (by simp [results, Tryd.results26, go_sem, x0, x1, x2]) rfl ?_
  exact ⟨ks, t, _, leaf, E, W, hkl, ht, rfl, ⟨⟨_, _, rfl, hTE, hTW⟩, d1, d2, D3.out, D4.out⟩, hBF⟩
end Go.Proofs.YtmjpdccfdaajmaaDoor.P4
