/- The laws' own helpers over signatures: eqSignature, markSignature, heldSignature; conditions: lists of at most 2^20 texts. -/
import Derived.Test.YtmjpdccfdaajmaaDoorSgnS
import Derived.Test.YtmjpdccfdaajmaaDoorStrS
namespace Go.Proofs.YtmjpdccfdaajmaaDoor.P4
set_option maxRecDepth 8000
open Go.RowKit P1 P3

theorem SigOwn.below {B : Nat} {w w' : World} {v : Value} {leaf : Int} {E W : List (List UInt8)} (h : SigOwn B w v leaf E W) (hb : Below w.heap.size w w') : SigOwn B w' v leaf E W := by
  obtain ⟨vE, vW, e, h1, h2, h3⟩ := h.val
  exact ⟨vE, vW, e, own_below h1 hb, own_below h2 hb, h3⟩

theorem SigOwn.belowB {B B1 : Nat} {w w' : World} {v : Value} {leaf : Int} {E W : List (List UInt8)} (h : SigOwn B w v leaf E W) (hb : Below B1 w w') (hv : ∀ vE vW, v = .agg #[.int .i64 leaf, vE, vW] → (∀ g, vE.ownBlock = some g → g < B1) ∧ ∀ g, vW.ownBlock = some g → g < B1) : SigOwn B w' v leaf E W := by
  obtain ⟨vE, vW, e, h1, h2, h3⟩ := h.val
  obtain ⟨k1, k2⟩ := hv vE vW e
  exact ⟨vE, vW, e, own_belowB h1 hb k1, own_belowB h2 hb k2, h3⟩

theorem SigOwn.lt {B : Nat} {w : World} {v : Value} {leaf : Int} {E W : List (List UInt8)} (h : SigOwn B w v leaf E W) : ∀ vE vW, v = .agg #[.int .i64 leaf, vE, vW] → (∀ g, vE.ownBlock = some g → g < w.heap.size) ∧ ∀ g, vW.ownBlock = some g → g < w.heap.size := by
  obtain ⟨vE, vW, e, h1, h2, h3⟩ := h.val
  intro vE' vW' e'
  rw [e] at e'
  simp only [Value.agg.injEq, Array.mk.injEq, List.cons.injEq, true_and, and_true] at e'
  obtain ⟨rfl, rfl⟩ := e'
  exact ⟨fun g hg => (h1.lt g hg).2, fun g hg => (h2.lt g hg).2⟩

theorem SigOwn.at_ {B : Nat} {w : World} {v : Value} {leaf : Int} {E W : List (List UInt8)} (h : SigOwn B w v leaf E W) (le : E.length ≤ 1048576) (lw : W.length ≤ 1048576) (te : ∀ x ∈ E, x.length ≤ 1048576) (tw : ∀ x ∈ W, x.length ≤ 1048576) : SigAt w v leaf E W := by
  obtain ⟨vE, vW, e, h1, h2, _⟩ := h.val
  exact ⟨⟨vE, vW, e, TextsAt.of_own h1, TextsAt.of_own h2⟩, le, lw, te, tw⟩

theorem own_shape {w : World} {B : Nat} {e : TypeId} {v : Value} {n : Nat} {xs : List Value} (h : w.ownsRow B e 1 v n xs) : ∃ a m c, v = .slice a m c := by
  rcases h.2 with ⟨rfl, h0⟩ | ⟨g, cap, cur, rfl, h1, h2, h3⟩
  · exact ⟨_, _, _, rfl⟩
  · exact ⟨_, _, _, rfl⟩

set_option maxHeartbeats 1000000 in
theorem eqSig_calls (B1 B2 : Nat) (v u : Value) (leaf : Int) (E W : List (List UInt8)) (w : World) (le : E.length ≤ 1048576) (lw : W.length ≤ 1048576) (h1 : SigOwn B1 w v leaf E W) (h2 : SigOwn B2 w u leaf E W) :
    Calls Tryd.prog 38 #[v, u] w fun e w' => e = .returned (.bool true) ∧ Below w.heap.size w w' := by
  obtain ⟨vE, vW, rfl, e1, w1, -⟩ := h1.val
  obtain ⟨uE, uW, rfl, e2, w2, -⟩ := h2.val
  obtain ⟨a1, m1, c1, rfl⟩ := own_shape e1
  obtain ⟨a2, m2, c2, rfl⟩ := own_shape w1
  obtain ⟨a3, m3, c3, rfl⟩ := own_shape e2
  obtain ⟨a4, m4, c4, rfl⟩ := own_shape w2
  have hb : Below w.heap.size w ((w.alloc (.cells #[.int .i64 leaf, .slice a1 m1 c1, .slice a2 m2 c2] 29)).alloc (.cells #[.int .i64 leaf, .slice a3 m3 c3, .slice a4 m4 c4] 29)) := ((Below.refl _ _).alloc (Nat.le_refl _) _).alloc (by simp) _
  have hA : Blk ((w.alloc (.cells #[.int .i64 leaf, .slice a1 m1 c1, .slice a2 m2 c2] 29)).alloc (.cells #[.int .i64 leaf, .slice a3 m3 c3, .slice a4 m4 c4] 29)) w.heap.size [.int .i64 leaf, .slice a1 m1 c1, .slice a2 m2 c2] 29 :=
    (Blk.new w #[.int .i64 leaf, .slice a1 m1 c1, .slice a2 m2 c2] 29).below (B := w.heap.size + 1) ((Below.refl _ _).alloc (by simp) _) (by omega)
  have hB : Blk ((w.alloc (.cells #[.int .i64 leaf, .slice a1 m1 c1, .slice a2 m2 c2] 29)).alloc (.cells #[.int .i64 leaf, .slice a3 m3 c3, .slice a4 m4 c4] 29)) (w.heap.size + 1) [.int .i64 leaf, .slice a3 m3 c3, .slice a4 m4 c4] 29 := by
    have := Blk.new (w.alloc (.cells #[.int .i64 leaf, .slice a1 m1 c1, .slice a2 m2 c2] 29)) #[.int .i64 leaf, .slice a3 m3 c3, .slice a4 m4 c4] 29
    simpa using this
  have E1 := hide (own_below e1 hb)
  have E2 := hide (own_below e2 hb)
  have W1 := hide (own_below w1 hb)
  have W2 := hide (own_below w2 hb)
  have HB := hide hb
  have HA := hide hA
  have HBB := hide hB
  clear e1 e2 w1 w2 hb hA hB h1 h2
  go_enter Tryd.func38, Tryd.ntmps38
  go_wp2_with fail
  obtain ⟨bA, hbA⟩ : ∃ bA, bA = w.heap.size := ⟨_, rfl⟩
  obtain ⟨bB, hbB⟩ : ∃ bB, bB = w.heap.size + 1 := ⟨_, rfl⟩
  rw [← hbB] at HBB
  rw [← hbA] at HA
  rw [← hbB, ← hbA]
  clear hbA hbB
  generalize (w.alloc (.cells #[.int .i64 leaf, .slice a1 m1 c1, .slice a2 m2 c2] 29)).alloc (.cells #[.int .i64 leaf, .slice a3 m3 c3, .slice a4 m4 c4] 29) = wA at *
  refine (Sr.eqStringS_calls E B1 B2 _ _ wA le E1.out E2.out).mono ?_
  rintro e w3 ⟨rfl, hb3⟩
  have p1 : w3.cell? ⟨bA, 2, none⟩ = some (.slice a2 m2 c2) := by rw [(HA.out.below hb3 HA.out.lt).cell 2]; rfl
  have p2 : w3.cell? ⟨bB, 2, none⟩ = some (.slice a4 m4 c4) := by rw [(HBB.out.below hb3 HBB.out.lt).cell 2]; rfl
  have W13 := hide (own_below W1.out hb3)
  have W23 := hide (own_below W2.out hb3)
  have HB3 := hide (HB.out.trans (hb3.mono HB.out.size))
  clear hb3 HB HA HBB E1 E2 W1 W2
  go_wp2_with fail
  refine (Sr.eqStringS_calls W B1 B2 _ _ w3 lw W13.out W23.out).mono ?_
  rintro e w4 ⟨rfl, hb4⟩
  have HB4 := hide (HB3.out.trans (hb4.mono HB3.out.size))
  clear hb4 p1 p2
  go_wp2_with fail
  go_ret
  exact ⟨rfl, HB4.out⟩

/-- The marks of a signature. -/
def mE (E : List (List UInt8)) : List (List UInt8) := Sr.marks 1 E.length
def mW (E W : List (List UInt8)) : List (List UInt8) := Sr.marks (1 + E.length) W.length

theorem mE_length (E : List (List UInt8)) : (mE E).length = E.length := Sr.marks_length _ _
theorem mW_length (E W : List (List UInt8)) : (mW E W).length = W.length := Sr.marks_length _ _

set_option maxHeartbeats 1000000 in
theorem markSig_calls (B : Nat) (v : Value) (leaf : Int) (E W : List (List UInt8)) (w : World) (le : E.length ≤ 100) (lw : W.length ≤ 100) (hBw : B ≤ w.heap.size) (h1 : SigOwn B w v leaf E W) :
    Calls Tryd.prog 39 #[v, .int .i64 1] w fun e w' => e = .returned (.int .i64 ((1 + E.length + W.length : Nat) : Int)) ∧ SigOwn B w' v leaf (mE E) (mW E W) ∧ Below B w w' ∧ ∀ b, b < w.heap.size → (∀ vE vW, v = .agg #[.int .i64 leaf, vE, vW] → vE.ownBlock ≠ some b ∧ vW.ownBlock ≠ some b) → w'.heap[b]? = w.heap[b]? := by
  obtain ⟨vE, vW, rfl, e1, w1, hap⟩ := h1.val
  obtain ⟨a1, m1, c1, e01⟩ := own_shape e1
  obtain ⟨a2, m2, c2, e02⟩ := own_shape w1
  have hb : Below w.heap.size w (w.alloc (.cells #[.int .i64 leaf, vE, vW] 29)) := (Below.refl _ _).alloc (Nat.le_refl _) _
  have hA := Blk.new w #[.int .i64 leaf, vE, vW] 29
  have E1 := hide (own_below e1 hb)
  have W1 := hide (own_below w1 hb)
  have HB := hide (hb.mono hBw)
  have HA := hide hA
  have HAP := hide hap
  have hEA : vE.ownBlock ≠ some w.heap.size := fun e => by have := (e1.lt _ e).2; omega
  have hWA : vW.ownBlock ≠ some w.heap.size := fun e => by have := (w1.lt _ e).2; omega
  have HEA := hide hEA
  have HBL : Hid (∀ b, b < w.heap.size → (w.alloc (.cells #[.int .i64 leaf, vE, vW] 29)).heap[b]? = w.heap[b]?) := fun b hb' => hb.block b hb'
  have HZA : Hid (w.heap.size ≤ (w.alloc (.cells #[.int .i64 leaf, vE, vW] 29)).heap.size) := hb.size
  clear hb hA hap h1 e1 w1 hEA hWA
  subst e01 e02
  go_enter Tryd.func39, Tryd.ntmps39
  go_wp2_with fail
  obtain ⟨bA, hbA⟩ : ∃ bA, bA = w.heap.size := ⟨_, rfl⟩
  rw [← hbA] at HA HEA ⊢
  clear hbA
  generalize w.alloc (.cells #[.int .i64 leaf, .slice a1 m1 c1, .slice a2 m2 c2] 29) = wA at *
  have HM1 := hide (Sr.markStringS_calls E 1 B _ wA (by omega) (by omega) (by omega) E1.out)
  obtain ⟨nE, hnE⟩ : ∃ nE, nE = 1 + E.length := ⟨_, rfl⟩
  rw [← hnE] at HM1
  have hnE1 : 1 ≤ nE := by omega
  have hnE2 : nE ≤ 101 := by omega
  have HNE := hide hnE
  clear hnE
  refine HM1.out.mono ?_
  rintro e w3 ⟨rfl, ho3, hg3⟩
  have hA3 : Blk w3 bA [.int .i64 leaf, .slice a1 m1 c1, .slice a2 m2 c2] 29 := by
    have := hg3.block bA HA.out.lt (fun e => HEA.out e.symm)
    unfold Blk
    rw [this]
    exact HA.out
  have p1 : w3.cell? ⟨bA, 2, none⟩ = some (.slice a2 m2 c2) := by rw [hA3.cell 2]; rfl
  have hap' : (Value.slice a2 m2 c2).ownBlock = none ∨ (Value.slice a2 m2 c2).ownBlock ≠ (Value.slice a1 m1 c1).ownBlock := by
    rcases HAP.out with h | h
    · cases hx : (Value.slice a2 m2 c2).ownBlock with
      | none => exact .inl rfl
      | some g => exact .inr (by rw [h]; simp)
    · exact .inr (fun e => h e.symm)
  have W3 := hide (W1.out.kept hg3 hap')
  have O3 := hide ho3
  have HB3 := hide (HB.out.trans ((Below.refl B wA).grown hg3 (by have := HB.out.size; omega) (fun k hk => (E1.out.lt k hk).1)))
  have hz3 : B ≤ w3.heap.size := by have := HB3.out.size; omega
  have HBL3 : Hid (∀ b, b < w.heap.size → (Value.slice a1 m1 c1).ownBlock ≠ some b → w3.heap[b]? = w.heap[b]?) := fun b hb' hne => (hg3.block b (Nat.lt_of_lt_of_le hb' HZA.out) (fun e => hne e.symm)).trans (HBL.out b hb')
  have HZ3 : Hid (w.heap.size ≤ w3.heap.size) := Nat.le_trans HZA.out hg3.size
  clear ho3 hg3 hA3 hap' HM1
  go_wp2_with fail
  have HM2 := hide (Sr.markStringS_calls W nE B _ w3 (by omega) (by omega) (by omega) W3.out)
  refine HM2.out.mono ?_
  rintro e w4 ⟨rfl, ho4, hg4⟩
  have O4 := hide ho4
  have OE4 := hide (O3.out.kept hg4 HAP.out)
  have HB4 := hide (HB3.out.trans ((Below.refl B w3).grown hg4 hz3 (fun k hk => (W3.out.lt k hk).1)))
  have HBL4 : Hid (∀ b, b < w.heap.size → (Value.slice a1 m1 c1).ownBlock ≠ some b → (Value.slice a2 m2 c2).ownBlock ≠ some b → w4.heap[b]? = w.heap[b]?) := fun b hb' hne hne2 => (hg4.block b (Nat.lt_of_lt_of_le hb' HZ3.out) (fun e => hne2 e.symm)).trans (HBL3.out b hb' hne)
  clear ho4 hg4 p1 HM2
  go_wp2_with fail
  go_ret
  have hn := HNE.out
  refine ⟨by rw [hn]; rfl, ⟨_, _, rfl, by rw [mE_length]; exact OE4.out, by rw [mW_length, mW, ← hn]; exact O4.out, HAP.out⟩, HB4.out, fun b hb' hne => HBL4.out b hb' (hne _ _ rfl).1 (hne _ _ rfl).2⟩

set_option maxHeartbeats 1000000 in
theorem heldSig_calls (B : Nat) (v : Value) (leaf : Int) (E W : List (List UInt8)) (w : World) (le : E.length ≤ 100) (lw : W.length ≤ 100) (h1 : SigOwn B w v leaf (mE E) (mW E W)) :
    Calls Tryd.prog 40 #[v, .int .i64 1] w fun e w' => e = .returned (.int .i64 ((1 + E.length + W.length : Nat) : Int)) ∧ Below w.heap.size w w' := by
  obtain ⟨vE, vW, rfl, e1, w1, hap⟩ := h1.val
  rw [mE_length, mE] at e1
  rw [mW_length, mW] at w1
  obtain ⟨a1, m1, c1, e01⟩ := own_shape e1
  obtain ⟨a2, m2, c2, e02⟩ := own_shape w1
  have hb : Below w.heap.size w (w.alloc (.cells #[.int .i64 leaf, vE, vW] 29)) := (Below.refl _ _).alloc (Nat.le_refl _) _
  have hA := Blk.new w #[.int .i64 leaf, vE, vW] 29
  have E1 := hide (own_below e1 hb)
  have W1 := hide (own_below w1 hb)
  have HB := hide hb
  have HA := hide hA
  clear hb hA hap h1 e1 w1
  subst e01 e02
  go_enter Tryd.func40, Tryd.ntmps40
  go_wp2_with fail
  obtain ⟨bA, hbA⟩ : ∃ bA, bA = w.heap.size := ⟨_, rfl⟩
  rw [← hbA] at HA ⊢
  clear hbA
  generalize w.alloc (.cells #[.int .i64 leaf, .slice a1 m1 c1, .slice a2 m2 c2] 29) = wA at *
  have HM1 := hide (Sr.heldStringS_calls E.length 1 B _ wA (by omega) (by omega) (by omega) E1.out)
  obtain ⟨nE, hnE⟩ : ∃ nE, nE = 1 + E.length := ⟨_, rfl⟩
  rw [← hnE] at HM1 W1
  have hnE1 : 1 ≤ nE := by omega
  have hnE2 : nE ≤ 101 := by omega
  have HNE := hide hnE
  clear hnE
  refine HM1.out.mono ?_
  rintro e w3 ⟨rfl, hb3⟩
  have p1 : w3.cell? ⟨bA, 2, none⟩ = some (.slice a2 m2 c2) := by rw [(HA.out.below hb3 HA.out.lt).cell 2]; rfl
  have W3 := hide (own_below W1.out hb3)
  have HB3 := hide (HB.out.trans (hb3.mono HB.out.size))
  clear hb3 HM1
  go_wp2_with fail
  have HM2 := hide (Sr.heldStringS_calls W.length nE B _ w3 (by omega) (by omega) (by omega) W3.out)
  refine HM2.out.mono ?_
  rintro e w4 ⟨rfl, hb4⟩
  have HB4 := hide (HB3.out.trans (hb4.mono HB3.out.size))
  clear hb4 p1 HM2
  go_wp2_with fail
  go_ret
  exact ⟨by rw [HNE.out]; rfl, HB4.out⟩
end Go.Proofs.YtmjpdccfdaajmaaDoor.P4
