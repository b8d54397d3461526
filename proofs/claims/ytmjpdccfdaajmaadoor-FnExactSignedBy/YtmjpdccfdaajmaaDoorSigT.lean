/- The laws' own copies and sizes of signatures: szSignature, toSignature; conditions: none but the lists' own limits. -/
import Derived.Test.YtmjpdccfdaajmaaDoorSigS
import Derived.Test.YtmjpdccfdaajmaaDoorStrT
namespace Go.Proofs.YtmjpdccfdaajmaaDoor.P4
set_option maxRecDepth 8000
open Go.RowKit P1 P3

/-- All within 2^20. -/
structure SmallSig (E W : List (List UInt8)) : Prop where
  le : E.length ≤ 1048576
  lw : W.length ≤ 1048576
  te : ∀ x ∈ E, x.length ≤ 1048576
  tw : ∀ x ∈ W, x.length ≤ 1048576

set_option maxHeartbeats 1000000 in
theorem szSig_calls (w : World) (leaf : Int) (vE vW : Value) (E W : List (List UInt8)) (hE : TextsAt w vE E) (hW : TextsAt w vW W) (lE : E.length ≤ 9223372036854775807) (lW : W.length ≤ 9223372036854775807) (xE : ∀ x ∈ E, x.length ≤ 9223372036854775807) (xW : ∀ x ∈ W, x.length ≤ 9223372036854775807) :
    Calls Tryd.prog 41 #[.agg #[.int .i64 leaf, vE, vW], .int .i64 1048576] w fun e w' => ∃ d : Int, e = .returned (.int .i64 d) ∧ (0 ≤ d → SmallSig E W) ∧ Below w.heap.size w w' := by
  have hb : Below w.heap.size w (w.alloc (.cells #[.int .i64 leaf, vE, vW] 56)) := (Below.refl _ _).alloc (Nat.le_refl _) _
  have hA := Blk.new w #[.int .i64 leaf, vE, vW] 56
  have TE := hide (hE.below hb (Nat.le_refl _))
  have TW := hide (hW.below hb (Nat.le_refl _))
  have HB := hide hb
  have HA := hide hA
  obtain ⟨a1, c1, e1⟩ := texts_len hE
  obtain ⟨a2, c2, e2⟩ := texts_len hW
  have HSE := hide (fun (wx : World) (h : TextsAt wx vE E) => Sr.sz_calls wx vE E h 1048576 (by omega) (by omega) lE xE)
  have HSW := hide (fun (wx : World) (h : TextsAt wx vW W) (c : Int) h0 h1 => Sr.sz_calls wx vW W h c h0 h1 lW xW)
  clear hE hW hb hA lE lW xE xW
  generalize E.length = nE at e1
  generalize W.length = nW at e2
  subst e1 e2
  go_enter Tryd.func41, Tryd.ntmps41
  go_wp2_with fail
  obtain ⟨bA, hbA⟩ : ∃ bA, bA = w.heap.size := ⟨_, rfl⟩
  rw [← hbA] at HA ⊢
  clear hbA
  generalize w.alloc (.cells #[.int .i64 leaf, .slice a1 nE c1, .slice a2 nW c2] 56) = wA at *
  refine (HSE.out _ TE.out).mono ?_
  rintro e w1 ⟨d, rfl, hd, rfl⟩
  by_cases hneg : d < 0
  · clear hd
    go_wp2_with fail
    go_ret
    exact ⟨-1, rfl, fun h => by omega, HB.out⟩
  · obtain ⟨k1, k2, k3⟩ := hd (by omega)
    have K2 := hide k2
    have K3 := hide k3
    have p1 : w1.cell? ⟨bA, 2, none⟩ = some (.slice a2 nW c2) := by rw [HA.out.cell 2]; rfl
    clear hd k2 k3
    go_wp2_with fail
    refine (HSW.out _ TW.out d (by omega) k1).mono ?_
    rintro e w2 ⟨d2, rfl, hd2, rfl⟩
    clear p1
    by_cases hneg2 : d2 < 0
    · clear hd2
      go_wp2_with fail
      go_ret
      exact ⟨-1, rfl, fun h => by omega, HB.out⟩
    · have HD2 := hide (hd2 (by omega))
      clear hd2
      go_wp2_with fail
      go_ret
      exact ⟨_, rfl, fun _ => ⟨K2.out, HD2.out.2.1, K3.out, HD2.out.2.2⟩, HB.out⟩

set_option maxHeartbeats 2000000 in
theorem toSig_calls (w : World) (leaf : Int) (vE vW : Value) (E W : List (List UInt8)) (hE : TextsAt w vE E) (hW : TextsAt w vW W) (lE : E.length ≤ 1048576) (lW : W.length ≤ 1048576) :
    Calls Tryd.prog 42 #[.agg #[.int .i64 leaf, vE, vW]] w fun e w' => ∃ u, e = .returned u ∧ SigOwn w.heap.size w' u leaf E W ∧ Below w.heap.size w w' := by
  obtain ⟨a1, c1, e1⟩ := texts_len hE
  obtain ⟨a2, c2, e2⟩ := texts_len hW
  have HTE := hide (fun (wx : World) (h : TextsAt wx vE E) => Sr.toTexts_calls wx vE E h (by omega))
  have HTW := hide (fun (wx : World) (h : TextsAt wx vW W) => Sr.toTexts_calls wx vW W h (by omega))
  have HE := hide hE
  have HW := hide hW
  clear hE hW lE lW
  have e1' := e1
  have e2' := e2
  obtain ⟨nE, hnE⟩ : ∃ nE, nE = E.length := ⟨_, rfl⟩
  obtain ⟨nW, hnW⟩ : ∃ nW, nW = W.length := ⟨_, rfl⟩
  rw [← hnE] at e1
  rw [← hnW] at e2
  clear hnE hnW e1' e2'
  subst e1 e2
  go_enter Tryd.func42, Tryd.ntmps42
  go_wp2_with fail
  have hb3 : Below w.heap.size w (((w.alloc (.cells #[.int .i64 leaf, .slice a1 nE c1, .slice a2 nW c2] 56)).alloc (.cells #[.int .i64 0, .slice none 0 0, .slice none 0 0] 29)).alloc (.cells #[.int .i64 leaf, .slice none 0 0, .slice none 0 0] 29)) := (((Below.refl _ _).alloc (Nat.le_refl _) _).alloc (by simp) _).alloc (by simp; omega) _
  have k1 : Blk (((w.alloc (.cells #[.int .i64 leaf, .slice a1 nE c1, .slice a2 nW c2] 56)).alloc (.cells #[.int .i64 0, .slice none 0 0, .slice none 0 0] 29)).alloc (.cells #[.int .i64 leaf, .slice none 0 0, .slice none 0 0] 29)) w.heap.size [.int .i64 leaf, .slice a1 nE c1, .slice a2 nW c2] 56 :=
    (Blk.new w #[.int .i64 leaf, .slice a1 nE c1, .slice a2 nW c2] 56).below (B := w.heap.size + 1) (((Below.refl _ _).alloc (by simp) _).alloc (by simp) _) (by omega)
  have k2 : Blk (((w.alloc (.cells #[.int .i64 leaf, .slice a1 nE c1, .slice a2 nW c2] 56)).alloc (.cells #[.int .i64 0, .slice none 0 0, .slice none 0 0] 29)).alloc (.cells #[.int .i64 leaf, .slice none 0 0, .slice none 0 0] 29)) (w.heap.size + 1) [.int .i64 0, .slice none 0 0, .slice none 0 0] 29 := by
    have h := Blk.new (w.alloc (.cells #[.int .i64 leaf, .slice a1 nE c1, .slice a2 nW c2] 56)) #[.int .i64 0, .slice none 0 0, .slice none 0 0] 29
    have hz : (w.alloc (.cells #[.int .i64 leaf, .slice a1 nE c1, .slice a2 nW c2] 56)).heap.size = w.heap.size + 1 := by simp
    rw [hz] at h
    exact h.below (B := w.heap.size + 2) ((Below.refl _ _).alloc (by simp) _) (by omega)
  have k3 : Blk (((w.alloc (.cells #[.int .i64 leaf, .slice a1 nE c1, .slice a2 nW c2] 56)).alloc (.cells #[.int .i64 0, .slice none 0 0, .slice none 0 0] 29)).alloc (.cells #[.int .i64 leaf, .slice none 0 0, .slice none 0 0] 29)) (w.heap.size + 1 + 1) [.int .i64 leaf, .slice none 0 0, .slice none 0 0] 29 := by
    have h := Blk.new ((w.alloc (.cells #[.int .i64 leaf, .slice a1 nE c1, .slice a2 nW c2] 56)).alloc (.cells #[.int .i64 0, .slice none 0 0, .slice none 0 0] 29)) #[.int .i64 leaf, .slice none 0 0, .slice none 0 0] 29
    have hz : ((w.alloc (.cells #[.int .i64 leaf, .slice a1 nE c1, .slice a2 nW c2] 56)).alloc (.cells #[.int .i64 0, .slice none 0 0, .slice none 0 0] 29)).heap.size = w.heap.size + 1 + 1 := by simp
    rw [hz] at h
    exact h
  have HB3 := hide hb3
  have K1 := hide k1
  have K2 := hide k2
  have K3 := hide k3
  clear hb3 k1 k2 k3
  obtain ⟨b3, hb3e⟩ : ∃ b, b = w.heap.size + 1 + 1 := ⟨_, rfl⟩
  obtain ⟨b2, hb2e⟩ : ∃ b, b = w.heap.size + 1 := ⟨_, rfl⟩
  obtain ⟨b1, hb1e⟩ : ∃ b, b = w.heap.size := ⟨_, rfl⟩
  have n12 : b1 ≠ b2 := by omega
  have n13 : b1 ≠ b3 := by omega
  have n23 : b2 ≠ b3 := by omega
  have g2 : w.heap.size ≤ b2 := by omega
  have g3 : w.heap.size ≤ b3 := by omega
  rw [← hb3e] at K3
  rw [← hb2e] at K2
  rw [← hb1e] at K1
  rw [← hb3e, ← hb2e, ← hb1e]
  clear hb1e hb2e hb3e
  generalize ((w.alloc (.cells #[.int .i64 leaf, .slice a1 nE c1, .slice a2 nW c2] 56)).alloc (.cells #[.int .i64 0, .slice none 0 0, .slice none 0 0] 29)).alloc (.cells #[.int .i64 leaf, .slice none 0 0, .slice none 0 0] 29) = w3 at *
  refine (HTE.out _ (HE.out.below HB3.out (Nat.le_refl _))).mono ?_
  rintro e w4 ⟨v1, rfl, ho4, hb4⟩
  obtain ⟨a3, m3, c3, rfl⟩ := own_shape ho4
  have l1 := K1.out.lt
  have l2 := K2.out.lt
  have l3 := K3.out.lt
  have hA1 := K1.out.below hb4 l1
  have hA2 := K2.out.below hb4 l2
  have hA3 := K3.out.below hb4 l3
  have hn3 : (Value.slice a3 m3 c3).ownBlock ≠ some b3 := fun e => by have := (ho4.lt b3 e).1; omega
  have hn2 : (Value.slice a3 m3 c3).ownBlock ≠ some b2 := fun e => by have := (ho4.lt b2 e).1; omega
  have x1 : w4.cell? ⟨b3, 1, none⟩ = some (.slice none 0 0) := by rw [hA3.cell 1]; rfl
  have x2 := hA3.free 1
  have J1 := hide (hA1.other (p := ⟨b3, 1, none⟩) n13 (.slice a3 m3 c3))
  have J2 := hide (hA2.other (p := ⟨b3, 1, none⟩) n23 (.slice a3 m3 c3))
  have J3 := hide (hA3.set 1 (.slice a3 m3 c3))
  have O4 := hide (ownsRow_setCell_other ho4 (a := ⟨b3, 1, none⟩) hn3 (.slice a3 m3 c3))
  have HB4 := hide ((HB3.out.trans (hb4.mono HB3.out.size)).setCell (p := ⟨b3, 1, none⟩) g3 (.slice a3 m3 c3))
  have y1 : (w4.setCell ⟨b3, 1, none⟩ (.slice a3 m3 c3)).cell? ⟨b1, 2, none⟩ = some (.slice a2 nW c2) := by rw [J1.out.cell 2]; rfl
  have N3 := hide hn3
  have N2 := hide hn2
  clear ho4 hb4 hA1 hA2 hA3 HB3 K1 K2 K3 hn3 hn2
  go_wp2_with fail
  clear x1 x2 y1
  generalize w4.setCell ⟨b3, 1, none⟩ (.slice a3 m3 c3) = w5 at *
  refine (HTW.out _ (HW.out.below HB4.out (Nat.le_refl _))).mono ?_
  rintro e w6 ⟨v2, rfl, ho6, hb6⟩
  obtain ⟨a4, m4, c4, rfl⟩ := own_shape ho6
  have q2 := J2.out.lt
  have q3 := J3.out.lt
  have hA2 := J2.out.below hb6 q2
  have hA3 := J3.out.below hb6 q3
  have hn3 : (Value.slice a4 m4 c4).ownBlock ≠ some b3 := fun e => by have := (ho6.lt b3 e).1; omega
  have hn2 : (Value.slice a4 m4 c4).ownBlock ≠ some b2 := fun e => by have := (ho6.lt b2 e).1; omega
  have hap : (Value.slice a3 m3 c3).ownBlock = none ∨ (Value.slice a3 m3 c3).ownBlock ≠ (Value.slice a4 m4 c4).ownBlock := own_apart O4.out ho6
  have HAP := hide hap
  have o6 := own_below O4.out hb6
  have x1 : w6.cell? ⟨b3, 2, none⟩ = some (.slice none 0 0) := by rw [hA3.cell 2]; rfl
  have x2 := hA3.free 2
  have L2 := hide (hA2.other (p := ⟨b3, 2, none⟩) n23 (.slice a4 m4 c4))
  have L3 := hide (hA3.set 2 (.slice a4 m4 c4))
  have O6 := hide (ownsRow_setCell_other o6 (a := ⟨b3, 2, none⟩) N3.out (.slice a4 m4 c4))
  have P6 := hide (ownsRow_setCell_other ho6 (a := ⟨b3, 2, none⟩) hn3 (.slice a4 m4 c4))
  have HB6 := hide ((HB4.out.trans (hb6.mono HB4.out.size)).setCell (p := ⟨b3, 2, none⟩) g3 (.slice a4 m4 c4))
  have r0 : (w6.setCell ⟨b3, 2, none⟩ (.slice a4 m4 c4)).cell? ⟨b3, 0, none⟩ = some (.int .i64 leaf) := by rw [L3.out.cell 0]; rfl
  have r1 : (w6.setCell ⟨b3, 2, none⟩ (.slice a4 m4 c4)).cell? ⟨b3, 1, none⟩ = some (.slice a3 m3 c3) := by rw [L3.out.cell 1]; rfl
  have r2 : (w6.setCell ⟨b3, 2, none⟩ (.slice a4 m4 c4)).cell? ⟨b3, 2, none⟩ = some (.slice a4 m4 c4) := by rw [L3.out.cell 2]; rfl
  have z0 : (w6.setCell ⟨b3, 2, none⟩ (.slice a4 m4 c4)).cell? ⟨b2, 0, none⟩ = some (.int .i64 0) := by rw [L2.out.cell 0]; rfl
  have z1 : (w6.setCell ⟨b3, 2, none⟩ (.slice a4 m4 c4)).cell? ⟨b2, 1, none⟩ = some (.slice none 0 0) := by rw [L2.out.cell 1]; rfl
  have z2 : (w6.setCell ⟨b3, 2, none⟩ (.slice a4 m4 c4)).cell? ⟨b2, 2, none⟩ = some (.slice none 0 0) := by rw [L2.out.cell 2]; rfl
  have f0 := L2.out.free 0
  have f1 := L2.out.free 1
  have f2 := L2.out.free 2
  have M2 := hide hn2
  clear ho6 hb6 hA2 hA3 hap o6 HB4 J1 J2 J3 O4 hn2 hn3
  go_wp2_with fail
  clear r0 r1 r2 z0 z1 z2 f0 f1 f2 x1 x2
  generalize w6.setCell ⟨b3, 2, none⟩ (.slice a4 m4 c4) = w7 at *
  have hRF := ((L2.out.set 0 (.int .i64 leaf)).set 1 (.slice a3 m3 c3)).set 2 (.slice a4 m4 c4)
  have hOE := ownsRow_setCell_other (ownsRow_setCell_other (ownsRow_setCell_other O6.out (a := ⟨b2, 0, none⟩) N2.out (.int .i64 leaf)) (a := ⟨b2, 1, none⟩) N2.out (.slice a3 m3 c3)) (a := ⟨b2, 2, none⟩) N2.out (.slice a4 m4 c4)
  have hOW := ownsRow_setCell_other (ownsRow_setCell_other (ownsRow_setCell_other P6.out (a := ⟨b2, 0, none⟩) M2.out (.int .i64 leaf)) (a := ⟨b2, 1, none⟩) M2.out (.slice a3 m3 c3)) (a := ⟨b2, 2, none⟩) M2.out (.slice a4 m4 c4)
  have hBF := ((HB6.out.setCell (p := ⟨b2, 0, none⟩) g2 (.int .i64 leaf)).setCell (p := ⟨b2, 1, none⟩) g2 (.slice a3 m3 c3)).setCell (p := ⟨b2, 2, none⟩) g2 (.slice a4 m4 c4)
  generalize ((w7.setCell ⟨b2, 0, none⟩ (.int .i64 leaf)).setCell ⟨b2, 1, none⟩ (.slice a3 m3 c3)).setCell ⟨b2, 2, none⟩ (.slice a4 m4 c4) = wF at *
  have x0 : wF.cell? ⟨b2, 0, none⟩ = some (.int .i64 leaf) := by rw [hRF.cell 0]; rfl
  have x1 : wF.cell? ⟨b2, 1, none⟩ = some (.slice a3 m3 c3) := by rw [hRF.cell 1]; rfl
  have x2 : wF.cell? ⟨b2, 2, none⟩ = some (.slice a4 m4 c4) := by rw [hRF.cell 2]; rfl
  refine bodyPost_ret (v := .agg #[.int .i64 leaf, .slice a3 m3 c3, .slice a4 m4 c4]) (by simp [results, Tryd.results42, go_sem, x0, x1, x2]) rfl ?_
  exact ⟨_, rfl, ⟨_, _, rfl, own_mono hOE (by omega), own_mono hOW (by omega), HAP.out⟩, hBF⟩
end Go.Proofs.YtmjpdccfdaajmaaDoor.P4
