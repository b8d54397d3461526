/- The laws' own helpers over signatures: eqSignature, markSignature, heldSignature; conditions: lists of at most 2^20 texts.
The laws' own copies and sizes of signatures: szSignature, toSignature; conditions: none but the lists' own limits. -/
import Derived.Test.YtmjpdccfdaajmaaDoorZF
import Derived.Test.YtmjpdccfdaajmaaDoorZD
namespace Go.Proofs.YtmjpdccfdaajmaaDoor.P4
set_option maxRecDepth 8000
open Go.RowKit P1 P3

theorem SigOwn.below {B : Nat} {w w' : World} {v : Value} {leaf : Int} {E W : List (List UInt8)} (h : SigOwn B w v leaf E W) (hb : Below w.heap.size w w') : SigOwn B w' v leaf E W := by
  obtain ⟨vE, vW, e, h1, h2, h3⟩ := h.val
  exact ⟨vE, vW, e, own_below h1 hb, own_below h2 hb, h3⟩

theorem SigOwn.belowB {B B1 : Nat} {w w' : World} {v : Value} {leaf : Int} {E W : List (List UInt8)} (h : SigOwn B w v leaf E W) (hb : Below B1 w w') (hv : ∀ vE vW, v = .agg #[.int .i64 leaf, vE, vW] → (∀ g, vE.ownBlock = some g → g < B1) ∧ ∀ g, vW.ownBlock = some g → g < B1) : SigOwn B w' v leaf E W := by
  obtain ⟨vE, vW, e, h1, h2, h3⟩ := h.val
  obtain ⟨k1, k2⟩ := hv vE vW e
  exact ⟨vE, vW, e, own_belowB h1 hb k1, own_belowB h2 hb k2, h3⟩

theorem SigOwn.lt {B : Nat} {w : World} {v : Value} {leaf : Int} {E W : List (List UInt8)} (h : SigOwn B w v leaf E W) : ∀ vE vW, v = .agg #[.int .i64 leaf, vE, vW] → (∀ g, vE.ownBlock = some g → g < w.heap.size) ∧ ∀ g, vW.ownBlock = some g → g < w.heap.size := by
  obtain ⟨vE, vW, e, h1, h2, h3⟩ := h.val
  intro vE' vW' e'
  rw [e] at e'
  simp only [Value.agg.injEq, Array.mk.injEq, List.cons.injEq, true_and, and_true] at e'
  obtain ⟨rfl, rfl⟩ := e'
  exact ⟨fun g hg => (h1.lt g hg).2, fun g hg => (h2.lt g hg).2⟩

theorem SigOwn.at_ {B : Nat} {w : World} {v : Value} {leaf : Int} {E W : List (List UInt8)} (h : SigOwn B w v leaf E W) (le : E.length ≤ 1048576) (lw : W.length ≤ 1048576) (te : ∀ x ∈ E, x.length ≤ 1048576) (tw : ∀ x ∈ W, x.length ≤ 1048576) : SigAt w v leaf E W := by
  obtain ⟨vE, vW, e, h1, h2, _⟩ := h.val
  exact ⟨⟨vE, vW, e, TextsAt.of_own h1, TextsAt.of_own h2⟩, le, lw, te, tw⟩

theorem own_shape {w : World} {B : Nat} {e : TypeId} {v : Value} {n : Nat} {xs : List Value} (h : w.ownsRow B e 1 v n xs) : ∃ a m c, v = .slice a m c := by
  rcases h.2 with ⟨rfl, h0⟩ | ⟨g, cap, cur, rfl, h1, h2, h3⟩
  · exact ⟨_, _, _, rfl⟩
  · exact ⟨_, _, _, rfl⟩

set_option maxHeartbeats 1000000 in
theorem eqSig_calls (B1 B2 : Nat) (v u : Value) (leaf : Int) (E W : List (List UInt8)) (w : World) (le : E.length ≤ 1048576) (lw : W.length ≤ 1048576) (h1 : SigOwn B1 w v leaf E W) (h2 : SigOwn B2 w u leaf E W) :
    Calls Tryd.prog 38 #[v, u] w fun e w' => e = .returned (.bool true) ∧ Below w.heap.size w w' := by
  obtain ⟨vE, vW, rfl, e1, w1, -⟩ := h1.val
  obtain ⟨uE, uW, rfl, e2, w2, -⟩ := h2.val
  obtain ⟨a1, m1, c1, rfl⟩ := own_shape e1
  obtain ⟨a2, m2, c2, rfl⟩ := own_shape w1
  obtain ⟨a3, m3, c3, rfl⟩ := own_shape e2
  obtain ⟨a4, m4, c4, rfl⟩ := own_shape w2
  have hb : Below w.heap.size w ((w.alloc (.cells #[.int .i64 leaf, .slice a1 m1 c1, .slice a2 m2 c2] 29)).alloc (.cells #[.int .i64 leaf, .slice a3 m3 c3, .slice a4 m4 c4] 29)) := ((Below.refl _ _).alloc (Nat.le_refl _) _).alloc (by simp) _
  have hA : Blk ((w.alloc (.cells #[.int .i64 leaf, .slice a1 m1 c1, .slice a2 m2 c2] 29)).alloc (.cells #[.int .i64 leaf, .slice a3 m3 c3, .slice a4 m4 c4] 29)) w.heap.size [.int .i64 leaf, .slice a1 m1 c1, .slice a2 m2 c2] 29 :=
    (Blk.new w #[.int .i64 leaf, .slice a1 m1 c1, .slice a2 m2 c2] 29).below (B := w.heap.size + 1) ((Below.refl _ _).alloc (by simp) _) (by omega)
  have hB : Blk ((w.alloc (.cells #[.int .i64 leaf, .slice a1 m1 c1, .slice a2 m2 c2] 29)).alloc (.cells #[.int .i64 leaf, .slice a3 m3 c3, .slice a4 m4 c4] 29)) (w.heap.size + 1) [.int .i64 leaf, .slice a3 m3 c3, .slice a4 m4 c4] 29 := by
    have := Blk.new (w.alloc (.cells #[.int .i64 leaf, .slice a1 m1 c1, .slice a2 m2 c2] 29)) #[.int .i64 leaf, .slice a3 m3 c3, .slice a4 m4 c4] 29
    simpa using this
  have E1 := hide (own_below e1 hb)
  have E2 := hide (own_below e2 hb)
  have W1 := hide (own_below w1 hb)
  have W2 := hide (own_below w2 hb)
  have HB := hide hb
  have HA := hide hA
  have HBB := hide hB
  clear e1 e2 w1 w2 hb hA hB h1 h2
  go_enter Tryd.func38, Tryd.ntmps38
  go_wp2_with fail
  obtain ⟨bA, hbA⟩ : ∃ bA, bA = w.heap.size := ⟨_, rfl⟩
  obtain ⟨bB, hbB⟩ : ∃ bB, bB = w.heap.size + 1 := ⟨_, rfl⟩
  rw [← hbB] at HBB
  rw [← hbA] at HA
  rw [← hbB, ← hbA]
  clear hbA hbB
  generalize (w.alloc (.cells #[.int .i64 leaf, .slice a1 m1 c1, .slice a2 m2 c2] 29)).alloc (.cells #[.int .i64 leaf, .slice a3 m3 c3, .slice a4 m4 c4] 29) = wA at *
  refine (Sr.eqStringS_calls E B1 B2 _ _ wA le E1.out E2.out).mono ?_
  rintro e w3 ⟨rfl, hb3⟩
  have p1 : w3.cell? ⟨bA, 2, none⟩ = some (.slice a2 m2 c2) := by rw [(HA.out.below hb3 HA.out.lt).cell 2]; rfl
  have p2 : w3.cell? ⟨bB, 2, none⟩ = some (.slice a4 m4 c4) := by rw [(HBB.out.below hb3 HBB.out.lt).cell 2]; rfl
  have W13 := hide (own_below W1.out hb3)
  have W23 := hide (own_below W2.out hb3)
  have HB3 := hide (HB.out.trans (hb3.mono HB.out.size))
  clear hb3 HB HA HBB E1 E2 W1 W2
  go_wp2_with fail
  refine (Sr.eqStringS_calls W B1 B2 _ _ w3 lw W13.out W23.out).mono ?_
  rintro e w4 ⟨rfl, hb4⟩
  have HB4 := hide (HB3.out.trans (hb4.mono HB3.out.size))
  clear hb4 p1 p2
  go_wp2_with fail
  go_ret
  exact ⟨rfl, HB4.out⟩

/-- The marks of a signature. -/
def mE (E : List (List UInt8)) : List (List UInt8) := Sr.marks 1 E.length
def mW (E W : List (List UInt8)) : List (List UInt8) := Sr.marks (1 + E.length) W.length

theorem mE_length (E : List (List UInt8)) : (mE E).length = E.length := Sr.marks_length _ _
theorem mW_length (E W : List (List UInt8)) : (mW E W).length = W.length := Sr.marks_length _ _

set_option maxHeartbeats 1000000 in
theorem markSig_calls (B : Nat) (v : Value) (leaf : Int) (E W : List (List UInt8)) (w : World) (le : E.length ≤ 100) (lw : W.length ≤ 100) (hBw : B ≤ w.heap.size) (h1 : SigOwn B w v leaf E W) :
    Calls Tryd.prog 39 #[v, .int .i64 1] w fun e w' => e = .returned (.int .i64 ((1 + E.length + W.length : Nat) : Int)) ∧ SigOwn B w' v leaf (mE E) (mW E W) ∧ Below B w w' ∧ ∀ b, b < w.heap.size → (∀ vE vW, v = .agg #[.int .i64 leaf, vE, vW] → vE.ownBlock ≠ some b ∧ vW.ownBlock ≠ some b) → w'.heap[b]? = w.heap[b]? := by
  obtain ⟨vE, vW, rfl, e1, w1, hap⟩ := h1.val
  obtain ⟨a1, m1, c1, e01⟩ := own_shape e1
  obtain ⟨a2, m2, c2, e02⟩ := own_shape w1
  have hb : Below w.heap.size w (w.alloc (.cells #[.int .i64 leaf, vE, vW] 29)) := (Below.refl _ _).alloc (Nat.le_refl _) _
  have hA := Blk.new w #[.int .i64 leaf, vE, vW] 29
  have E1 := hide (own_below e1 hb)
  have W1 := hide (own_below w1 hb)
  have HB := hide (hb.mono hBw)
  have HA := hide hA
  have HAP := hide hap
  have hEA : vE.ownBlock ≠ some w.heap.size := fun e => by have := (e1.lt _ e).2; omega
  have hWA : vW.ownBlock ≠ some w.heap.size := fun e => by have := (w1.lt _ e).2; omega
  have HEA := hide hEA
  have HBL : Hid (∀ b, b < w.heap.size → (w.alloc (.cells #[.int .i64 leaf, vE, vW] 29)).heap[b]? = w.heap[b]?) := fun b hb' => hb.block b hb'
  have HZA : Hid (w.heap.size ≤ (w.alloc (.cells #[.int .i64 leaf, vE, vW] 29)).heap.size) := hb.size
  clear hb hA hap h1 e1 w1 hEA hWA
  subst e01 e02
  go_enter Tryd.func39, Tryd.ntmps39
  go_wp2_with fail
  obtain ⟨bA, hbA⟩ : ∃ bA, bA = w.heap.size := ⟨_, rfl⟩
  rw [← hbA] at HA HEA ⊢
  clear hbA
  generalize w.alloc (.cells #[.int .i64 leaf, .slice a1 m1 c1, .slice a2 m2 c2] 29) = wA at *
  have HM1 := hide (Sr.markStringS_calls E 1 B _ wA (by omega) (by omega) (by omega) E1.out)
  obtain ⟨nE, hnE⟩ : ∃ nE, nE = 1 + E.length := ⟨_, rfl⟩
  rw [← hnE] at HM1
  have hnE1 : 1 ≤ nE := by omega
  have hnE2 : nE ≤ 101 := by omega
  have HNE := hide hnE
  clear hnE
  refine HM1.out.mono ?_
  rintro e w3 ⟨rfl, ho3, hg3⟩
  have hA3 : Blk w3 bA [.int .i64 leaf, .slice a1 m1 c1, .slice a2 m2 c2] 29 := by
    have := hg3.block bA HA.out.lt (fun e => HEA.out e.symm)
    unfold Blk
    rw [this]
    exact HA.out
  have p1 : w3.cell? ⟨bA, 2, none⟩ = some (.slice a2 m2 c2) := by rw [hA3.cell 2]; rfl
  have hap' : (Value.slice a2 m2 c2).ownBlock = none ∨ (Value.slice a2 m2 c2).ownBlock ≠ (Value.slice a1 m1 c1).ownBlock := by
    rcases HAP.out with h | h
    · cases hx : (Value.slice a2 m2 c2).ownBlock with
      | none => exact .inl rfl
      | some g => exact .inr (by rw [h]; simp)
    · exact .inr (fun e => h e.symm)
  have W3 := hide (W1.out.kept hg3 hap')
  have O3 := hide ho3
  have HB3 := hide (HB.out.trans ((Below.refl B wA).grown hg3 (by have := HB.out.size; omega) (fun k hk => (E1.out.lt k hk).1)))
  have hz3 : B ≤ w3.heap.size := by have := HB3.out.size; omega
  have HBL3 : Hid (∀ b, b < w.heap.size → (Value.slice a1 m1 c1).ownBlock ≠ some b → w3.heap[b]? = w.heap[b]?) := fun b hb' hne => (hg3.block b (Nat.lt_of_lt_of_le hb' HZA.out) (fun e => hne e.symm)).trans (HBL.out b hb')
  have HZ3 : Hid (w.heap.size ≤ w3.heap.size) := Nat.le_trans HZA.out hg3.size
  clear ho3 hg3 hA3 hap' HM1
  go_wp2_with fail
  have HM2 := hide (Sr.markStringS_calls W nE B _ w3 (by omega) (by omega) (by omega) W3.out)
  refine HM2.out.mono ?_
  rintro e w4 ⟨rfl, ho4, hg4⟩
  have O4 := hide ho4
  have OE4 := hide (O3.out.kept hg4 HAP.out)
  have HB4 := hide (HB3.out.trans ((Below.refl B w3).grown hg4 hz3 (fun k hk => (W3.out.lt k hk).1)))
  have HBL4 : Hid (∀ b, b < w.heap.size → (Value.slice a1 m1 c1).ownBlock ≠ some b → (Value.slice a2 m2 c2).ownBlock ≠ some b → w4.heap[b]? = w.heap[b]?) := fun b hb' hne hne2 => (hg4.block b (Nat.lt_of_lt_of_le hb' HZ3.out) (fun e => hne2 e.symm)).trans (HBL3.out b hb' hne)
  clear ho4 hg4 p1 HM2
  go_wp2_with fail
  go_ret
  have hn := HNE.out
  refine ⟨by rw [hn]; rfl, ⟨_, _, rfl, by rw [mE_length]; exact OE4.out, by rw [mW_length, mW, ← hn]; exact O4.out, HAP.out⟩, HB4.out, fun b hb' hne => HBL4.out b hb' (hne _ _ rfl).1 (hne _ _ rfl).2⟩

set_option maxHeartbeats 1000000 in
theorem heldSig_calls (B : Nat) (v : Value) (leaf : Int) (E W : List (List UInt8)) (w : World) (le : E.length ≤ 100) (lw : W.length ≤ 100) (h1 : SigOwn B w v leaf (mE E) (mW E W)) :
    Calls Tryd.prog 40 #[v, .int .i64 1] w fun e w' => e = .returned (.int .i64 ((1 + E.length + W.length : Nat) : Int)) ∧ Below w.heap.size w w' := by
  obtain ⟨vE, vW, rfl, e1, w1, hap⟩ := h1.val
  rw [mE_length, mE] at e1
  rw [mW_length, mW] at w1
  obtain ⟨a1, m1, c1, e01⟩ := own_shape e1
  obtain ⟨a2, m2, c2, e02⟩ := own_shape w1
  have hb : Below w.heap.size w (w.alloc (.cells #[.int .i64 leaf, vE, vW] 29)) := (Below.refl _ _).alloc (Nat.le_refl _) _
  have hA := Blk.new w #[.int .i64 leaf, vE, vW] 29
  have E1 := hide (own_below e1 hb)
  have W1 := hide (own_below w1 hb)
  have HB := hide hb
  have HA := hide hA
  clear hb hA hap h1 e1 w1
  subst e01 e02
  go_enter Tryd.func40, Tryd.ntmps40
  go_wp2_with fail
  obtain ⟨bA, hbA⟩ : ∃ bA, bA = w.heap.size := ⟨_, rfl⟩
  rw [← hbA] at HA ⊢
  clear hbA
  generalize w.alloc (.cells #[.int .i64 leaf, .slice a1 m1 c1, .slice a2 m2 c2] 29) = wA at *
  have HM1 := hide (Sr.heldStringS_calls E.length 1 B _ wA (by omega) (by omega) (by omega) E1.out)
  obtain ⟨nE, hnE⟩ : ∃ nE, nE = 1 + E.length := ⟨_, rfl⟩
  rw [← hnE] at HM1 W1
  have hnE1 : 1 ≤ nE := by omega
  have hnE2 : nE ≤ 101 := by omega
  have HNE := hide hnE
  clear hnE
  refine HM1.out.mono ?_
  rintro e w3 ⟨rfl, hb3⟩
  have p1 : w3.cell? ⟨bA, 2, none⟩ = some (.slice a2 m2 c2) := by rw [(HA.out.below hb3 HA.out.lt).cell 2]; rfl
  have W3 := hide (own_below W1.out hb3)
  have HB3 := hide (HB.out.trans (hb3.mono HB.out.size))
  clear hb3 HM1
  go_wp2_with fail
  have HM2 := hide (Sr.heldStringS_calls W.length nE B _ w3 (by omega) (by omega) (by omega) W3.out)
  refine HM2.out.mono ?_
  rintro e w4 ⟨rfl, hb4⟩
  have HB4 := hide (HB3.out.trans (hb4.mono HB3.out.size))
  clear hb4 p1 HM2
  go_wp2_with fail
  go_ret
  exact ⟨by rw [HNE.out]; rfl, HB4.out⟩
end Go.Proofs.YtmjpdccfdaajmaaDoor.P4
namespace Go.Proofs.YtmjpdccfdaajmaaDoor.P4
set_option maxRecDepth 8000
open Go.RowKit P1 P3

/-- All within 2^20. -/
structure SmallSig (E W : List (List UInt8)) : Prop where
  le : E.length ≤ 1048576
  lw : W.length ≤ 1048576
  te : ∀ x ∈ E, x.length ≤ 1048576
  tw : ∀ x ∈ W, x.length ≤ 1048576

set_option maxHeartbeats 1000000 in
theorem szSig_calls (w : World) (leaf : Int) (vE vW : Value) (E W : List (List UInt8)) (hE : TextsAt w vE E) (hW : TextsAt w vW W) (lE : E.length ≤ 9223372036854775807) (lW : W.length ≤ 9223372036854775807) (xE : ∀ x ∈ E, x.length ≤ 9223372036854775807) (xW : ∀ x ∈ W, x.length ≤ 9223372036854775807) :
    Calls Tryd.prog 41 #[.agg #[.int .i64 leaf, vE, vW], .int .i64 1048576] w fun e w' => ∃ d : Int, e = .returned (.int .i64 d) ∧ (0 ≤ d → SmallSig E W) ∧ Below w.heap.size w w' := by
  have hb : Below w.heap.size w (w.alloc (.cells #[.int .i64 leaf, vE, vW] 56)) := (Below.refl _ _).alloc (Nat.le_refl _) _
  have hA := Blk.new w #[.int .i64 leaf, vE, vW] 56
  have TE := hide (hE.below hb (Nat.le_refl _))
  have TW := hide (hW.below hb (Nat.le_refl _))
  have HB := hide hb
  have HA := hide hA
  obtain ⟨a1, c1, e1⟩ := texts_len hE
  obtain ⟨a2, c2, e2⟩ := texts_len hW
  have HSE := hide (fun (wx : World) (h : TextsAt wx vE E) => Sr.sz_calls wx vE E h 1048576 (by omega) (by omega) lE xE)
  have HSW := hide (fun (wx : World) (h : TextsAt wx vW W) (c : Int) h0 h1 => Sr.sz_calls wx vW W h c h0 h1 lW xW)
  clear hE hW hb hA lE lW xE xW
  generalize E.length = nE at e1
  generalize W.length = nW at e2
  subst e1 e2
  go_enter Tryd.func41, Tryd.ntmps41
  go_wp2_with fail
  obtain ⟨bA, hbA⟩ : ∃ bA, bA = w.heap.size := ⟨_, rfl⟩
  rw [← hbA] at HA ⊢
  clear hbA
  generalize w.alloc (.cells #[.int .i64 leaf, .slice a1 nE c1, .slice a2 nW c2] 56) = wA at *
  refine (HSE.out _ TE.out).mono ?_
  rintro e w1 ⟨d, rfl, hd, rfl⟩
  by_cases hneg : d < 0
  · clear hd
    go_wp2_with fail
    go_ret
    exact ⟨-1, rfl, fun h => by omega, HB.out⟩
  · obtain ⟨k1, k2, k3⟩ := hd (by omega)
    have K2 := hide k2
    have K3 := hide k3
    have p1 : w1.cell? ⟨bA, 2, none⟩ = some (.slice a2 nW c2) := by rw [HA.out.cell 2]; rfl
    clear hd k2 k3
    go_wp2_with fail
    refine (HSW.out _ TW.out d (by omega) k1).mono ?_
    rintro e w2 ⟨d2, rfl, hd2, rfl⟩
    clear p1
    by_cases hneg2 : d2 < 0
    · clear hd2
      go_wp2_with fail
      go_ret
      exact ⟨-1, rfl, fun h => by omega, HB.out⟩
    · have HD2 := hide (hd2 (by omega))
      clear hd2
      go_wp2_with fail
      go_ret
      exact ⟨_, rfl, fun _ => ⟨K2.out, HD2.out.2.1, K3.out, HD2.out.2.2⟩, HB.out⟩

set_option maxHeartbeats 2000000 in
theorem toSig_calls (w : World) (leaf : Int) (vE vW : Value) (E W : List (List UInt8)) (hE : TextsAt w vE E) (hW : TextsAt w vW W) (lE : E.length ≤ 1048576) (lW : W.length ≤ 1048576) :
    Calls Tryd.prog 42 #[.agg #[.int .i64 leaf, vE, vW]] w fun e w' => ∃ u, e = .returned u ∧ SigOwn w.heap.size w' u leaf E W ∧ Below w.heap.size w w' := by
  obtain ⟨a1, c1, e1⟩ := texts_len hE
  obtain ⟨a2, c2, e2⟩ := texts_len hW
  have HTE := hide (fun (wx : World) (h : TextsAt wx vE E) => Sr.toTexts_calls wx vE E h (by omega))
  have HTW := hide (fun (wx : World) (h : TextsAt wx vW W) => Sr.toTexts_calls wx vW W h (by omega))
  have HE := hide hE
  have HW := hide hW
  clear hE hW lE lW
  have e1' := e1
  have e2' := e2
  obtain ⟨nE, hnE⟩ : ∃ nE, nE = E.length := ⟨_, rfl⟩
  obtain ⟨nW, hnW⟩ : ∃ nW, nW = W.length := ⟨_, rfl⟩
  rw [← hnE] at e1
  rw [← hnW] at e2
  clear hnE hnW e1' e2'
  subst e1 e2
  go_enter Tryd.func42, Tryd.ntmps42
  go_wp2_with fail
  have hb3 : Below w.heap.size w (((w.alloc (.cells #[.int .i64 leaf, .slice a1 nE c1, .slice a2 nW c2] 56)).alloc (.cells #[.int .i64 0, .slice none 0 0, .slice none 0 0] 29)).alloc (.cells #[.int .i64 leaf, .slice none 0 0, .slice none 0 0] 29)) := (((Below.refl _ _).alloc (Nat.le_refl _) _).alloc (by simp) _).alloc (by simp; omega) _
  have k1 : Blk (((w.alloc (.cells #[.int .i64 leaf, .slice a1 nE c1, .slice a2 nW c2] 56)).alloc (.cells #[.int .i64 0, .slice none 0 0, .slice none 0 0] 29)).alloc (.cells #[.int .i64 leaf, .slice none 0 0, .slice none 0 0] 29)) w.heap.size [.int .i64 leaf, .slice a1 nE c1, .slice a2 nW c2] 56 :=
    (Blk.new w #[.int .i64 leaf, .slice a1 nE c1, .slice a2 nW c2] 56).below (B := w.heap.size + 1) (((Below.refl _ _).alloc (by simp) _).alloc (by simp) _) (by omega)
  have k2 : Blk (((w.alloc (.cells #[.int .i64 leaf, .slice a1 nE c1, .slice a2 nW c2] 56)).alloc (.cells #[.int .i64 0, .slice none 0 0, .slice none 0 0] 29)).alloc (.cells #[.int .i64 leaf, .slice none 0 0, .slice none 0 0] 29)) (w.heap.size + 1) [.int .i64 0, .slice none 0 0, .slice none 0 0] 29 := by
    have h := Blk.new (w.alloc (.cells #[.int .i64 leaf, .slice a1 nE c1, .slice a2 nW c2] 56)) #[.int .i64 0, .slice none 0 0, .slice none 0 0] 29
    have hz : (w.alloc (.cells #[.int .i64 leaf, .slice a1 nE c1, .slice a2 nW c2] 56)).heap.size = w.heap.size + 1 := by simp
    rw [hz] at h
    exact h.below (B := w.heap.size + 2) ((Below.refl _ _).alloc (by simp) _) (by omega)
  have k3 : Blk (((w.alloc (.cells #[.int .i64 leaf, .slice a1 nE c1, .slice a2 nW c2] 56)).alloc (.cells #[.int .i64 0, .slice none 0 0, .slice none 0 0] 29)).alloc (.cells #[.int .i64 leaf, .slice none 0 0, .slice none 0 0] 29)) (w.heap.size + 1 + 1) [.int .i64 leaf, .slice none 0 0, .slice none 0 0] 29 := by
    have h := Blk.new ((w.alloc (.cells #[.int .i64 leaf, .slice a1 nE c1, .slice a2 nW c2] 56)).alloc (.cells #[.int .i64 0, .slice none 0 0, .slice none 0 0] 29)) #[.int .i64 leaf, .slice none 0 0, .slice none 0 0] 29
    have hz : ((w.alloc (.cells #[.int .i64 leaf, .slice a1 nE c1, .slice a2 nW c2] 56)).alloc (.cells #[.int .i64 0, .slice none 0 0, .slice none 0 0] 29)).heap.size = w.heap.size + 1 + 1 := by simp
    rw [hz] at h
    exact h
  have HB3 := hide hb3
  have K1 := hide k1
  have K2 := hide k2
  have K3 := hide k3
  clear hb3 k1 k2 k3
  obtain ⟨b3, hb3e⟩ : ∃ b, b = w.heap.size + 1 + 1 := ⟨_, rfl⟩
  obtain ⟨b2, hb2e⟩ : ∃ b, b = w.heap.size + 1 := ⟨_, rfl⟩
  obtain ⟨b1, hb1e⟩ : ∃ b, b = w.heap.size := ⟨_, rfl⟩
  have n12 : b1 ≠ b2 := by omega
  have n13 : b1 ≠ b3 := by omega
  have n23 : b2 ≠ b3 := by omega
  have g2 : w.heap.size ≤ b2 := by omega
  have g3 : w.heap.size ≤ b3 := by omega
  rw [← hb3e] at K3
  rw [← hb2e] at K2
  rw [← hb1e] at K1
  rw [← hb3e, ← hb2e, ← hb1e]
  clear hb1e hb2e hb3e
  generalize ((w.alloc (.cells #[.int .i64 leaf, .slice a1 nE c1, .slice a2 nW c2] 56)).alloc (.cells #[.int .i64 0, .slice none 0 0, .slice none 0 0] 29)).alloc (.cells #[.int .i64 leaf, .slice none 0 0, .slice none 0 0] 29) = w3 at *
  refine (HTE.out _ (HE.out.below HB3.out (Nat.le_refl _))).mono ?_
  rintro e w4 ⟨v1, rfl, ho4, hb4⟩
  obtain ⟨a3, m3, c3, rfl⟩ := own_shape ho4
  have l1 := K1.out.lt
  have l2 := K2.out.lt
  have l3 := K3.out.lt
  have hA1 := K1.out.below hb4 l1
  have hA2 := K2.out.below hb4 l2
  have hA3 := K3.out.below hb4 l3
  have hn3 : (Value.slice a3 m3 c3).ownBlock ≠ some b3 := fun e => by have := (ho4.lt b3 e).1; omega
  have hn2 : (Value.slice a3 m3 c3).ownBlock ≠ some b2 := fun e => by have := (ho4.lt b2 e).1; omega
  have x1 : w4.cell? ⟨b3, 1, none⟩ = some (.slice none 0 0) := by rw [hA3.cell 1]; rfl
  have x2 := hA3.free 1
  have J1 := hide (hA1.other (p := ⟨b3, 1, none⟩) n13 (.slice a3 m3 c3))
  have J2 := hide (hA2.other (p := ⟨b3, 1, none⟩) n23 (.slice a3 m3 c3))
  have J3 := hide (hA3.set 1 (.slice a3 m3 c3))
  have O4 := hide (ownsRow_setCell_other ho4 (a := ⟨b3, 1, none⟩) hn3 (.slice a3 m3 c3))
  have HB4 := hide ((HB3.out.trans (hb4.mono HB3.out.size)).setCell (p := ⟨b3, 1, none⟩) g3 (.slice a3 m3 c3))
  have y1 : (w4.setCell ⟨b3, 1, none⟩ (.slice a3 m3 c3)).cell? ⟨b1, 2, none⟩ = some (.slice a2 nW c2) := by rw [J1.out.cell 2]; rfl
  have N3 := hide hn3
  have N2 := hide hn2
  clear ho4 hb4 hA1 hA2 hA3 HB3 K1 K2 K3 hn3 hn2
  go_wp2_with fail
  clear x1 x2 y1
  generalize w4.setCell ⟨b3, 1, none⟩ (.slice a3 m3 c3) = w5 at *
  refine (HTW.out _ (HW.out.below HB4.out (Nat.le_refl _))).mono ?_
  rintro e w6 ⟨v2, rfl, ho6, hb6⟩
  obtain ⟨a4, m4, c4, rfl⟩ := own_shape ho6
  have q2 := J2.out.lt
  have q3 := J3.out.lt
  have hA2 := J2.out.below hb6 q2
  have hA3 := J3.out.below hb6 q3
  have hn3 : (Value.slice a4 m4 c4).ownBlock ≠ some b3 := fun e => by have := (ho6.lt b3 e).1; omega
  have hn2 : (Value.slice a4 m4 c4).ownBlock ≠ some b2 := fun e => by have := (ho6.lt b2 e).1; omega
  have hap : (Value.slice a3 m3 c3).ownBlock = none ∨ (Value.slice a3 m3 c3).ownBlock ≠ (Value.slice a4 m4 c4).ownBlock := own_apart O4.out ho6
  have HAP := hide hap
  have o6 := own_below O4.out hb6
  have x1 : w6.cell? ⟨b3, 2, none⟩ = some (.slice none 0 0) := by rw [hA3.cell 2]; rfl
  have x2 := hA3.free 2
  have L2 := hide (hA2.other (p := ⟨b3, 2, none⟩) n23 (.slice a4 m4 c4))
  have L3 := hide (hA3.set 2 (.slice a4 m4 c4))
  have O6 := hide (ownsRow_setCell_other o6 (a := ⟨b3, 2, none⟩) N3.out (.slice a4 m4 c4))
  have P6 := hide (ownsRow_setCell_other ho6 (a := ⟨b3, 2, none⟩) hn3 (.slice a4 m4 c4))
  have HB6 := hide ((HB4.out.trans (hb6.mono HB4.out.size)).setCell (p := ⟨b3, 2, none⟩) g3 (.slice a4 m4 c4))
  have r0 : (w6.setCell ⟨b3, 2, none⟩ (.slice a4 m4 c4)).cell? ⟨b3, 0, none⟩ = some (.int .i64 leaf) := by rw [L3.out.cell 0]; rfl
  have r1 : (w6.setCell ⟨b3, 2, none⟩ (.slice a4 m4 c4)).cell? ⟨b3, 1, none⟩ = some (.slice a3 m3 c3) := by rw [L3.out.cell 1]; rfl
  have r2 : (w6.setCell ⟨b3, 2, none⟩ (.slice a4 m4 c4)).cell? ⟨b3, 2, none⟩ = some (.slice a4 m4 c4) := by rw [L3.out.cell 2]; rfl
  have z0 : (w6.setCell ⟨b3, 2, none⟩ (.slice a4 m4 c4)).cell? ⟨b2, 0, none⟩ = some (.int .i64 0) := by rw [L2.out.cell 0]; rfl
  have z1 : (w6.setCell ⟨b3, 2, none⟩ (.slice a4 m4 c4)).cell? ⟨b2, 1, none⟩ = some (.slice none 0 0) := by rw [L2.out.cell 1]; rfl
  have z2 : (w6.setCell ⟨b3, 2, none⟩ (.slice a4 m4 c4)).cell? ⟨b2, 2, none⟩ = some (.slice none 0 0) := by rw [L2.out.cell 2]; rfl
  have f0 := L2.out.free 0
  have f1 := L2.out.free 1
  have f2 := L2.out.free 2
  have M2 := hide hn2
  clear ho6 hb6 hA2 hA3 hap o6 HB4 J1 J2 J3 O4 hn2 hn3
  go_wp2_with fail
  clear r0 r1 r2 z0 z1 z2 f0 f1 f2 x1 x2
  generalize w6.setCell ⟨b3, 2, none⟩ (.slice a4 m4 c4) = w7 at *
  have hRF := ((L2.out.set 0 (.int .i64 leaf)).set 1 (.slice a3 m3 c3)).set 2 (.slice a4 m4 c4)
  have hOE := ownsRow_setCell_other (ownsRow_setCell_other (ownsRow_setCell_other O6.out (a := ⟨b2, 0, none⟩) N2.out (.int .i64 leaf)) (a := ⟨b2, 1, none⟩) N2.out (.slice a3 m3 c3)) (a := ⟨b2, 2, none⟩) N2.out (.slice a4 m4 c4)
  have hOW := ownsRow_setCell_other (ownsRow_setCell_other (ownsRow_setCell_other P6.out (a := ⟨b2, 0, none⟩) M2.out (.int .i64 leaf)) (a := ⟨b2, 1, none⟩) M2.out (.slice a3 m3 c3)) (a := ⟨b2, 2, none⟩) M2.out (.slice a4 m4 c4)
  have hBF := ((HB6.out.setCell (p := ⟨b2, 0, none⟩) g2 (.int .i64 leaf)).setCell (p := ⟨b2, 1, none⟩) g2 (.slice a3 m3 c3)).setCell (p := ⟨b2, 2, none⟩) g2 (.slice a4 m4 c4)
  generalize ((w7.setCell ⟨b2, 0, none⟩ (.int .i64 leaf)).setCell ⟨b2, 1, none⟩ (.slice a3 m3 c3)).setCell ⟨b2, 2, none⟩ (.slice a4 m4 c4) = wF at *
  have x0 : wF.cell? ⟨b2, 0, none⟩ = some (.int .i64 leaf) := by rw [hRF.cell 0]; rfl
  have x1 : wF.cell? ⟨b2, 1, none⟩ = some (.slice a3 m3 c3) := by rw [hRF.cell 1]; rfl
  have x2 : wF.cell? ⟨b2, 2, none⟩ = some (.slice a4 m4 c4) := by rw [hRF.cell 2]; rfl
  refine bodyPost_ret (v := .agg #[.int .i64 leaf, .slice a3 m3 c3, .slice a4 m4 c4]) (by simp [results, Tryd.results42, go_sem, x0, x1, x2]) rfl ?_
  exact ⟨_, rfl, ⟨_, _, rfl, own_mono hOE (by omega), own_mono hOW (by omega), HAP.out⟩, hBF⟩
end Go.Proofs.YtmjpdccfdaajmaaDoor.P4
