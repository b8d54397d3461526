/- The contract of the program's ReadCred; condition: the text is at most 2^20 bytes long. -/
import Derived.Test.YtflicklgmhgpiaaCrdI2
import Derived.Test.YtflicklgmhgpiaaCrdQ2
import Derived.Test.YtflicklgmhgpiaaRead
namespace Go.Proofs.Ytflicklgmhgpiaa.P5
set_option maxRecDepth 8000
open Go.RowKit P1

/-- What ReadCred answers, as a value. -/
abbrev rcV (r : Cr × Bool) : Value := .tuple #[credV r.1, .bool r.2]

/-- Numbers read so far, noughts behind them. -/
def numsC (L : List Nat) : List Value := (L.map fun (n : Nat) => Value.int .i64 (n : Int)) ++ List.replicate (10 - L.length) (Value.int .i64 0)

theorem numsC_length (L : List Nat) (h : L.length ≤ 10) : (numsC L).length = 10 := by simp [numsC]; omega

theorem numsC_next (L : List Nat) (x : Nat) (h : L.length < 10) : (numsC L).set L.length (.int .i64 (x : Int)) = numsC (L ++ [x]) := by
  unfold numsC
  rw [List.set_append_right _ _ (by simp)]
  obtain ⟨m, hm⟩ : ∃ m, 10 - L.length = m + 1 := ⟨10 - L.length - 1, by omega⟩
  have hm2 : 10 - (L ++ [x]).length = m := by simp; omega
  rw [hm, hm2]
  simp [List.replicate_succ]

theorem numsC_get (L : List Nat) (h : L.length < 10) : (numsC L)[L.length]? = some (.int .i64 0) := by
  unfold numsC
  rw [List.getElem?_append_right (by simp)]
  obtain ⟨m, hm⟩ : ∃ m, 10 - L.length = m + 1 := ⟨10 - L.length - 1, by omega⟩
  rw [hm]
  simp [List.replicate_succ]

theorem ten {L : List Nat} (h : L.length = 10) : ∃ x0 x1 x2 x3 x4 x5 x6 x7 x8 x9, L = [x0, x1, x2, x3, x4, x5, x6, x7, x8, x9] := by
  match L, h with
  | [x0, x1, x2, x3, x4, x5, x6, x7, x8, x9], _ => exact ⟨x0, x1, x2, x3, x4, x5, x6, x7, x8, x9, rfl⟩

set_option maxHeartbeats 1000000 in
theorem implReadCred_calls (s : ByteArray) (hs : s.size ≤ 1048576) (w : World) :
    Calls Try.prog 17 #[.string s] w fun e w' => e = .returned (rcV (readCred s.data.toList)) ∧ Below w.heap.size w w' := by
  have HRV := hide (fun (p : Nat) wx => implReadVar_calls s (p : Int) hs wx)
  have HSL : Hid (s.data.toList.length = s.size) := Array.length_toList
  obtain ⟨T, ET⟩ : ∃ T, T = s.data.toList := ⟨_, rfl⟩
  simp only [← ET] at HRV HSL ⊢
  clear ET
  obtain ⟨R, ER⟩ : ∃ R, Hid (R = readCred T) := ⟨_, rfl⟩
  rw [← ER.out]
  go_enter Try.func17, Try.ntmps17
  go_wp2_with fail
  have HB0 : Hid (Below w.heap.size w ((w.alloc (.cells #[.int .i64 0, .int .i64 0, .int .i64 0, .int .i64 0, .int .i64 0, .int .i64 0, .int .i64 0, .int .i64 0, .int .i64 0, .int .i64 0] 32)).alloc (.cells #[.int .i64 0, .int .i64 0, .int .i64 0, .int .i64 0, .int .i64 0, .int .i64 0, .int .i64 0, .int .i64 0, .int .i64 0, .int .i64 0] 47))) := Below.two _ _ _
  have g0 := Blk.new w #[.int .i64 0, .int .i64 0, .int .i64 0, .int .i64 0, .int .i64 0, .int .i64 0, .int .i64 0, .int .i64 0, .int .i64 0, .int .i64 0] 32
  have g0 := hide (g0.below ((Below.refl _ _).alloc (Nat.le_refl _) (.cells #[.int .i64 0, .int .i64 0, .int .i64 0, .int .i64 0, .int .i64 0, .int .i64 0, .int .i64 0, .int .i64 0, .int .i64 0, .int .i64 0] 47)) g0.lt)
  have g1 := Blk.new (w.alloc (.cells #[.int .i64 0, .int .i64 0, .int .i64 0, .int .i64 0, .int .i64 0, .int .i64 0, .int .i64 0, .int .i64 0, .int .i64 0, .int .i64 0] 32)) #[.int .i64 0, .int .i64 0, .int .i64 0, .int .i64 0, .int .i64 0, .int .i64 0, .int .i64 0, .int .i64 0, .int .i64 0, .int .i64 0] 47
  rw [show (w.alloc (.cells #[.int .i64 0, .int .i64 0, .int .i64 0, .int .i64 0, .int .i64 0, .int .i64 0, .int .i64 0, .int .i64 0, .int .i64 0, .int .i64 0] 32)).heap.size = w.heap.size + 1 from by simp [go_sem]] at g1
  replace g1 := hide g1
  obtain ⟨b1, e1⟩ : ∃ b, b = w.heap.size + 1 := ⟨_, rfl⟩
  obtain ⟨b0, e0⟩ : ∃ b, b = w.heap.size := ⟨_, rfl⟩
  rw [← e1] at g1 ⊢
  rw [← e0] at g0 ⊢
  have h01 : b0 ≠ b1 := by omega
  have hw0 : w.heap.size ≤ b0 := by omega
  have hw1 : w.heap.size ≤ b1 := by omega
  clear e0 e1
  generalize (w.alloc (.cells #[.int .i64 0, .int .i64 0, .int .i64 0, .int .i64 0, .int .i64 0, .int .i64 0, .int .i64 0, .int .i64 0, .int .i64 0, .int .i64 0] 32)).alloc (.cells #[.int .i64 0, .int .i64 0, .int .i64 0, .int .i64 0, .int .i64 0, .int .i64 0, .int .i64 0, .int .i64 0, .int .i64 0, .int .i64 0] 47) = w1 at *
  go_loopw [5, 11] (fun at_ i wr => ∃ k p : Nat, ∃ L : List Nat, k ≤ 10 ∧ p ≤ 1048576 ∧ L.length = k ∧ i = .int .i64 k ∧ at_ = .int .i64 p ∧ Hid (readRow T k = some (L, p)) ∧ Hid (Blk wr b1 (numsC L) 47) ∧ Hid (Blk wr b0 [.int .i64 0, .int .i64 0, .int .i64 0, .int .i64 0, .int .i64 0, .int .i64 0, .int .i64 0, .int .i64 0, .int .i64 0, .int .i64 0] 32) ∧ Hid (Below w.heap.size w wr)) (fun _ i _ => 10 - (intOf i).toNat)
  case atStart => exact ⟨0, 0, [], by decide, by decide, rfl, rfl, rfl, rfl, g1.out, g0.out, HB0.out⟩
  case round =>
    obtain ⟨k, p, L, hk, hp, hL, rfl, rfl, HR, G1, G0, HB⟩ := hrel
    by_cases hlt : k < 10
    · go_wp2_with fail
      refine (HRV.out p _).mono ?_
      rintro e w2 ⟨rfl, rfl⟩
      have l0 := G0.out.lt
      have l1 := G1.out.lt
      have a0 := G0.out.free
      have a1 := G1.out.free
      by_cases hr : (readVar T p).2.2 = true
      · have h2 := readVar_true hr
        have HN := hide (readRow_next HR.out hr)
        have h3 := h2.2.1
        have h4 : (readVar T p).2.1 ≤ 1048576 := by have := HSL.out; omega
        have hget := numsC_get L (by omega)
        have hset := numsC_next L (readVar T p).1 (by omega)
        clear h2 h3
        generalize readVar T (p : Int) = rv at hr h4 HN hset ⊢
        obtain ⟨n, q, ok⟩ := rv
        dsimp only at hr h4 HN hset
        subst hr
        simp only [rvV]
        rw [hL] at hget hset
        have c1 : w2.cell? ⟨b1, k, none⟩ = some (.int .i64 0) := by rw [G1.out.cell k]; exact hget
        have G1' : Hid (Blk (w2.setCell ⟨b1, k, none⟩ (.int .i64 (n : Int))) b1 (numsC (L ++ [n])) 47) := by
          show Blk _ _ _ _
          rw [← hset]
          exact G1.out.set k _
        have G0' := hide (G0.out.other (p := ⟨b1, k, none⟩) h01 (.int .i64 (n : Int)))
        have HB' := hide (HB.out.setCell (p := ⟨b1, k, none⟩) hw1 (.int .i64 (n : Int)))
        have HL' : Hid ((L ++ [n]).length = k + 1) := by show _ = _; simp [hL]
        have a1k := a1 k
        clear hget hset G1 G0 HB a0 a1 HR
        go_wp2
        go_roundw
        case rel => exact ⟨k + 1, q, L ++ [n], by omega, h4, HL'.out, by go_num, rfl, HN.out, G1'.out, G0'.out, HB'.out⟩
        case measure => simp [intOf]; omega
      · have hr' : (readVar T p).2.2 = false := by simpa using hr
        have HN := readRow_stop HR.out hr'
        have hR : R = (Cr.zero, false) := by
          rw [ER.out]
          refine readCred_none ?_
          have := readRow_none HN (9 - k)
          rw [show k + 1 + (9 - k) = 10 by omega] at this
          exact this
        have HRR := hide hR
        clear hR HN hr
        generalize readVar T (p : Int) = rv at hr' ⊢
        obtain ⟨n, q, ok⟩ := rv
        dsimp only at hr'
        subst hr'
        simp only [rvV]
        have c0 : w2.cell? ⟨b0, 0, none⟩ = some (.int .i64 0) := by rw [G0.out.cell 0]; rfl
        have c1 : w2.cell? ⟨b0, 1, none⟩ = some (.int .i64 0) := by rw [G0.out.cell 1]; rfl
        have c2 : w2.cell? ⟨b0, 2, none⟩ = some (.int .i64 0) := by rw [G0.out.cell 2]; rfl
        have c3 : w2.cell? ⟨b0, 3, none⟩ = some (.int .i64 0) := by rw [G0.out.cell 3]; rfl
        have c4 : w2.cell? ⟨b0, 4, none⟩ = some (.int .i64 0) := by rw [G0.out.cell 4]; rfl
        have c5 : w2.cell? ⟨b0, 5, none⟩ = some (.int .i64 0) := by rw [G0.out.cell 5]; rfl
        have c6 : w2.cell? ⟨b0, 6, none⟩ = some (.int .i64 0) := by rw [G0.out.cell 6]; rfl
        have c7 : w2.cell? ⟨b0, 7, none⟩ = some (.int .i64 0) := by rw [G0.out.cell 7]; rfl
        have c8 : w2.cell? ⟨b0, 8, none⟩ = some (.int .i64 0) := by rw [G0.out.cell 8]; rfl
        have c9 : w2.cell? ⟨b0, 9, none⟩ = some (.int .i64 0) := by rw [G0.out.cell 9]; rfl
        go_wp2_with fail
        have HF := hide (((((((((((HB.out.setCell (p := ⟨b0, 0, none⟩) hw0 (.int .i64 0)).setCell (p := ⟨b0, 1, none⟩) hw0 (.int .i64 0)).setCell (p := ⟨b0, 2, none⟩) hw0 (.int .i64 0)).setCell (p := ⟨b0, 3, none⟩) hw0 (.int .i64 0)).setCell (p := ⟨b0, 4, none⟩) hw0 (.int .i64 0)).setCell (p := ⟨b0, 5, none⟩) hw0 (.int .i64 0)).setCell (p := ⟨b0, 6, none⟩) hw0 (.int .i64 0)).setCell (p := ⟨b0, 7, none⟩) hw0 (.int .i64 0)).setCell (p := ⟨b0, 8, none⟩) hw0 (.int .i64 0)).setCell (p := ⟨b0, 9, none⟩) hw0 (.int .i64 0)))
        have GF := hide (((((((((((G0.out.set 0 (.int .i64 0)).set 1 (.int .i64 0)).set 2 (.int .i64 0)).set 3 (.int .i64 0)).set 4 (.int .i64 0)).set 5 (.int .i64 0)).set 6 (.int .i64 0)).set 7 (.int .i64 0)).set 8 (.int .i64 0)).set 9 (.int .i64 0)))
        clear c0 c1 c2 c3 c4 c5 c6 c7 c8 c9 a0 a1 l0 l1 G0 G1 HB
        generalize ((((((((((w2.setCell ⟨b0, 0, none⟩ (.int .i64 0)).setCell ⟨b0, 1, none⟩ (.int .i64 0)).setCell ⟨b0, 2, none⟩ (.int .i64 0)).setCell ⟨b0, 3, none⟩ (.int .i64 0)).setCell ⟨b0, 4, none⟩ (.int .i64 0)).setCell ⟨b0, 5, none⟩ (.int .i64 0)).setCell ⟨b0, 6, none⟩ (.int .i64 0)).setCell ⟨b0, 7, none⟩ (.int .i64 0)).setCell ⟨b0, 8, none⟩ (.int .i64 0)).setCell ⟨b0, 9, none⟩ (.int .i64 0)) = wF at *
        have y0 : wF.cell? ⟨b0, 0, none⟩ = some (.int .i64 0) := by rw [GF.out.cell 0]; rfl
        have y1 : wF.cell? ⟨b0, 1, none⟩ = some (.int .i64 0) := by rw [GF.out.cell 1]; rfl
        have y2 : wF.cell? ⟨b0, 2, none⟩ = some (.int .i64 0) := by rw [GF.out.cell 2]; rfl
        have y3 : wF.cell? ⟨b0, 3, none⟩ = some (.int .i64 0) := by rw [GF.out.cell 3]; rfl
        have y4 : wF.cell? ⟨b0, 4, none⟩ = some (.int .i64 0) := by rw [GF.out.cell 4]; rfl
        have y5 : wF.cell? ⟨b0, 5, none⟩ = some (.int .i64 0) := by rw [GF.out.cell 5]; rfl
        have y6 : wF.cell? ⟨b0, 6, none⟩ = some (.int .i64 0) := by rw [GF.out.cell 6]; rfl
        have y7 : wF.cell? ⟨b0, 7, none⟩ = some (.int .i64 0) := by rw [GF.out.cell 7]; rfl
        have y8 : wF.cell? ⟨b0, 8, none⟩ = some (.int .i64 0) := by rw [GF.out.cell 8]; rfl
        have y9 : wF.cell? ⟨b0, 9, none⟩ = some (.int .i64 0) := by rw [GF.out.cell 9]; rfl
        refine bodyPost_ret (v := .tuple #[.agg #[.int .i64 0, .int .i64 0, .int .i64 0, .int .i64 0, .int .i64 0, .int .i64 0, .int .i64 0, .int .i64 0, .int .i64 0, .int .i64 0], .bool false]) (by simp [results, Try.results17, go_sem, y0, y1, y2, y3, y4, y5, y6, y7, y8, y9]) rfl ⟨?_, HF.out⟩
        rw [HRR.out]
        rfl
    · have hk10 : k = 10 := by omega
      subst hk10
      have hRC := readCred_of HR.out
      have hlen := HSL.out
      rw [← ER.out, hlen] at hRC
      clear hlen HR
      obtain ⟨x0, x1, x2, x3, x4, x5, x6, x7, x8, x9, rfl⟩ := ten hL
      clear hL
      have hc10 : crOf [x0, x1, x2, x3, x4, x5, x6, x7, x8, x9] = ⟨x0, x1, x2, x3, x4, x5, x6, x7, x8, x9⟩ := rfl
      rw [hc10] at hRC
      have HRC := hide hRC
      clear hRC hc10
      have d0 : wr.cell? ⟨b1, 0, none⟩ = some (.int .i64 (x0 : Nat)) := by rw [G1.out.cell 0]; rfl
      have d1 : wr.cell? ⟨b1, 1, none⟩ = some (.int .i64 (x1 : Nat)) := by rw [G1.out.cell 1]; rfl
      have d2 : wr.cell? ⟨b1, 2, none⟩ = some (.int .i64 (x2 : Nat)) := by rw [G1.out.cell 2]; rfl
      have d3 : wr.cell? ⟨b1, 3, none⟩ = some (.int .i64 (x3 : Nat)) := by rw [G1.out.cell 3]; rfl
      have d4 : wr.cell? ⟨b1, 4, none⟩ = some (.int .i64 (x4 : Nat)) := by rw [G1.out.cell 4]; rfl
      have d5 : wr.cell? ⟨b1, 5, none⟩ = some (.int .i64 (x5 : Nat)) := by rw [G1.out.cell 5]; rfl
      have d6 : wr.cell? ⟨b1, 6, none⟩ = some (.int .i64 (x6 : Nat)) := by rw [G1.out.cell 6]; rfl
      have d7 : wr.cell? ⟨b1, 7, none⟩ = some (.int .i64 (x7 : Nat)) := by rw [G1.out.cell 7]; rfl
      have d8 : wr.cell? ⟨b1, 8, none⟩ = some (.int .i64 (x8 : Nat)) := by rw [G1.out.cell 8]; rfl
      have d9 : wr.cell? ⟨b1, 9, none⟩ = some (.int .i64 (x9 : Nat)) := by rw [G1.out.cell 9]; rfl
      have l0 := G0.out.lt
      have l1 := G1.out.lt
      go_wp2_with fail
      clear d0 d1 d2 d3 d4 d5 d6 d7 d8 d9
      refine (cred_calls ⟨x0, x1, x2, x3, x4, x5, x6, x7, x8, x9⟩ _).mono ?_
      rintro e w2 ⟨rfl, hb2⟩
      have G0 := hide (G0.out.below hb2 l0)
      have HB := hide (HB.out.trans (hb2.mono HB.out.size))
      have l02 : b0 < w2.heap.size := Nat.lt_of_lt_of_le l0 hb2.size
      clear hb2 G1 l1 l0
      have hb3 := HB.out.alloc HB.out.size (.cells #[.int .i64 (x0 : Nat), .int .i64 (x1 : Nat), .int .i64 (x2 : Nat), .int .i64 (x3 : Nat), .int .i64 (x4 : Nat), .int .i64 (x5 : Nat), .int .i64 (x6 : Nat), .int .i64 (x7 : Nat), .int .i64 (x8 : Nat), .int .i64 (x9 : Nat)] 32)
      have G2 := hide (Blk.new w2 #[.int .i64 (x0 : Nat), .int .i64 (x1 : Nat), .int .i64 (x2 : Nat), .int .i64 (x3 : Nat), .int .i64 (x4 : Nat), .int .i64 (x5 : Nat), .int .i64 (x6 : Nat), .int .i64 (x7 : Nat), .int .i64 (x8 : Nat), .int .i64 (x9 : Nat)] 32)
      have G0' := G0
      have G0 := hide (G0.out.below ((Below.refl _ w2).alloc (Nat.le_refl _) (.cells #[.int .i64 (x0 : Nat), .int .i64 (x1 : Nat), .int .i64 (x2 : Nat), .int .i64 (x3 : Nat), .int .i64 (x4 : Nat), .int .i64 (x5 : Nat), .int .i64 (x6 : Nat), .int .i64 (x7 : Nat), .int .i64 (x8 : Nat), .int .i64 (x9 : Nat)] 32)) l02)
      have HB3 := hide hb3
      clear hb3
      have HOK := hide (fun wx => implCredOk_calls ⟨x0, x1, x2, x3, x4, x5, x6, x7, x8, x9⟩ wx)
      by_cases hp2 : p = s.size
      · have hne : ((p : Int) != (s.size : Int)) = false := by simp [hp2]
        go_wp2_with fail
        obtain ⟨b2, e2⟩ : ∃ b, b = w2.heap.size := ⟨_, rfl⟩
        rw [← e2] at G2 ⊢
        have h02 : b0 ≠ b2 := by omega
        clear e2 l02
        generalize w2.alloc (.cells #[.int .i64 (x0 : Nat), .int .i64 (x1 : Nat), .int .i64 (x2 : Nat), .int .i64 (x3 : Nat), .int .i64 (x4 : Nat), .int .i64 (x5 : Nat), .int .i64 (x6 : Nat), .int .i64 (x7 : Nat), .int .i64 (x8 : Nat), .int .i64 (x9 : Nat)] 32) = w3 at *
        refine (HOK.out _).mono ?_
        rintro e w4 ⟨rfl, hb4⟩
        have G0 := hide (G0.out.below hb4 G0.out.lt)
        have G2 := hide (G2.out.below hb4 G2.out.lt)
        have HB := hide (HB3.out.trans (hb4.mono HB3.out.size))
        clear hb4 HB3 HOK
        have a0 := G0.out.free
        have l0 := G0.out.lt
        have l2 := G2.out.lt
        have c0 : w4.cell? ⟨b0, 0, none⟩ = some (.int .i64 0) := by rw [G0.out.cell 0]; rfl
        have c1 : w4.cell? ⟨b0, 1, none⟩ = some (.int .i64 0) := by rw [G0.out.cell 1]; rfl
        have c2 : w4.cell? ⟨b0, 2, none⟩ = some (.int .i64 0) := by rw [G0.out.cell 2]; rfl
        have c3 : w4.cell? ⟨b0, 3, none⟩ = some (.int .i64 0) := by rw [G0.out.cell 3]; rfl
        have c4 : w4.cell? ⟨b0, 4, none⟩ = some (.int .i64 0) := by rw [G0.out.cell 4]; rfl
        have c5 : w4.cell? ⟨b0, 5, none⟩ = some (.int .i64 0) := by rw [G0.out.cell 5]; rfl
        have c6 : w4.cell? ⟨b0, 6, none⟩ = some (.int .i64 0) := by rw [G0.out.cell 6]; rfl
        have c7 : w4.cell? ⟨b0, 7, none⟩ = some (.int .i64 0) := by rw [G0.out.cell 7]; rfl
        have c8 : w4.cell? ⟨b0, 8, none⟩ = some (.int .i64 0) := by rw [G0.out.cell 8]; rfl
        have c9 : w4.cell? ⟨b0, 9, none⟩ = some (.int .i64 0) := by rw [G0.out.cell 9]; rfl
        have z0 : w4.cell? ⟨b2, 0, none⟩ = some (.int .i64 (x0 : Nat)) := by rw [G2.out.cell 0]; rfl
        have z1 : w4.cell? ⟨b2, 1, none⟩ = some (.int .i64 (x1 : Nat)) := by rw [G2.out.cell 1]; rfl
        have z2 : w4.cell? ⟨b2, 2, none⟩ = some (.int .i64 (x2 : Nat)) := by rw [G2.out.cell 2]; rfl
        have z3 : w4.cell? ⟨b2, 3, none⟩ = some (.int .i64 (x3 : Nat)) := by rw [G2.out.cell 3]; rfl
        have z4 : w4.cell? ⟨b2, 4, none⟩ = some (.int .i64 (x4 : Nat)) := by rw [G2.out.cell 4]; rfl
        have z5 : w4.cell? ⟨b2, 5, none⟩ = some (.int .i64 (x5 : Nat)) := by rw [G2.out.cell 5]; rfl
        have z6 : w4.cell? ⟨b2, 6, none⟩ = some (.int .i64 (x6 : Nat)) := by rw [G2.out.cell 6]; rfl
        have z7 : w4.cell? ⟨b2, 7, none⟩ = some (.int .i64 (x7 : Nat)) := by rw [G2.out.cell 7]; rfl
        have z8 : w4.cell? ⟨b2, 8, none⟩ = some (.int .i64 (x8 : Nat)) := by rw [G2.out.cell 8]; rfl
        have z9 : w4.cell? ⟨b2, 9, none⟩ = some (.int .i64 (x9 : Nat)) := by rw [G2.out.cell 9]; rfl
        by_cases hok : credOk ⟨x0, x1, x2, x3, x4, x5, x6, x7, x8, x9⟩
        · rw [decide_eq_true hok]
          have HRR : Hid (R = (⟨x0, x1, x2, x3, x4, x5, x6, x7, x8, x9⟩, true)) := by
            show R = _
            rw [HRC.out, if_pos ⟨hp2, hok⟩]
          clear hok HRC
          go_wp2_with fail
          have HF := hide (((((((((((HB.out.setCell (p := ⟨b0, 0, none⟩) hw0 (.int .i64 (x0 : Nat))).setCell (p := ⟨b0, 1, none⟩) hw0 (.int .i64 (x1 : Nat))).setCell (p := ⟨b0, 2, none⟩) hw0 (.int .i64 (x2 : Nat))).setCell (p := ⟨b0, 3, none⟩) hw0 (.int .i64 (x3 : Nat))).setCell (p := ⟨b0, 4, none⟩) hw0 (.int .i64 (x4 : Nat))).setCell (p := ⟨b0, 5, none⟩) hw0 (.int .i64 (x5 : Nat))).setCell (p := ⟨b0, 6, none⟩) hw0 (.int .i64 (x6 : Nat))).setCell (p := ⟨b0, 7, none⟩) hw0 (.int .i64 (x7 : Nat))).setCell (p := ⟨b0, 8, none⟩) hw0 (.int .i64 (x8 : Nat))).setCell (p := ⟨b0, 9, none⟩) hw0 (.int .i64 (x9 : Nat))))
          have GF := hide (((((((((((G0.out.set 0 (.int .i64 (x0 : Nat))).set 1 (.int .i64 (x1 : Nat))).set 2 (.int .i64 (x2 : Nat))).set 3 (.int .i64 (x3 : Nat))).set 4 (.int .i64 (x4 : Nat))).set 5 (.int .i64 (x5 : Nat))).set 6 (.int .i64 (x6 : Nat))).set 7 (.int .i64 (x7 : Nat))).set 8 (.int .i64 (x8 : Nat))).set 9 (.int .i64 (x9 : Nat))))
          clear c0 c1 c2 c3 c4 c5 c6 c7 c8 c9 z0 z1 z2 z3 z4 z5 z6 z7 z8 z9 a0 l0 l2 G0 G2 HB
          generalize ((((((((((w4.setCell ⟨b0, 0, none⟩ (.int .i64 (x0 : Nat))).setCell ⟨b0, 1, none⟩ (.int .i64 (x1 : Nat))).setCell ⟨b0, 2, none⟩ (.int .i64 (x2 : Nat))).setCell ⟨b0, 3, none⟩ (.int .i64 (x3 : Nat))).setCell ⟨b0, 4, none⟩ (.int .i64 (x4 : Nat))).setCell ⟨b0, 5, none⟩ (.int .i64 (x5 : Nat))).setCell ⟨b0, 6, none⟩ (.int .i64 (x6 : Nat))).setCell ⟨b0, 7, none⟩ (.int .i64 (x7 : Nat))).setCell ⟨b0, 8, none⟩ (.int .i64 (x8 : Nat))).setCell ⟨b0, 9, none⟩ (.int .i64 (x9 : Nat))) = wF at *
          have y0 : wF.cell? ⟨b0, 0, none⟩ = some (.int .i64 (x0 : Nat)) := by rw [GF.out.cell 0]; rfl
          have y1 : wF.cell? ⟨b0, 1, none⟩ = some (.int .i64 (x1 : Nat)) := by rw [GF.out.cell 1]; rfl
          have y2 : wF.cell? ⟨b0, 2, none⟩ = some (.int .i64 (x2 : Nat)) := by rw [GF.out.cell 2]; rfl
          have y3 : wF.cell? ⟨b0, 3, none⟩ = some (.int .i64 (x3 : Nat)) := by rw [GF.out.cell 3]; rfl
          have y4 : wF.cell? ⟨b0, 4, none⟩ = some (.int .i64 (x4 : Nat)) := by rw [GF.out.cell 4]; rfl
          have y5 : wF.cell? ⟨b0, 5, none⟩ = some (.int .i64 (x5 : Nat)) := by rw [GF.out.cell 5]; rfl
          have y6 : wF.cell? ⟨b0, 6, none⟩ = some (.int .i64 (x6 : Nat)) := by rw [GF.out.cell 6]; rfl
          have y7 : wF.cell? ⟨b0, 7, none⟩ = some (.int .i64 (x7 : Nat)) := by rw [GF.out.cell 7]; rfl
          have y8 : wF.cell? ⟨b0, 8, none⟩ = some (.int .i64 (x8 : Nat)) := by rw [GF.out.cell 8]; rfl
          have y9 : wF.cell? ⟨b0, 9, none⟩ = some (.int .i64 (x9 : Nat)) := by rw [GF.out.cell 9]; rfl
          refine bodyPost_ret (v := .tuple #[.agg #[.int .i64 (x0 : Nat), .int .i64 (x1 : Nat), .int .i64 (x2 : Nat), .int .i64 (x3 : Nat), .int .i64 (x4 : Nat), .int .i64 (x5 : Nat), .int .i64 (x6 : Nat), .int .i64 (x7 : Nat), .int .i64 (x8 : Nat), .int .i64 (x9 : Nat)], .bool true]) (by simp [results, Try.results17, go_sem, y0, y1, y2, y3, y4, y5, y6, y7, y8, y9]) rfl ⟨?_, HF.out⟩
          rw [HRR.out]
        · rw [decide_eq_false hok]
          have HRR : Hid (R = (Cr.zero, false)) := by
            show R = _
            rw [HRC.out, if_neg (fun h => hok h.2)]
          clear hok HRC
          go_wp2_with fail
          have HF := hide (((((((((((HB.out.setCell (p := ⟨b0, 0, none⟩) hw0 (.int .i64 0)).setCell (p := ⟨b0, 1, none⟩) hw0 (.int .i64 0)).setCell (p := ⟨b0, 2, none⟩) hw0 (.int .i64 0)).setCell (p := ⟨b0, 3, none⟩) hw0 (.int .i64 0)).setCell (p := ⟨b0, 4, none⟩) hw0 (.int .i64 0)).setCell (p := ⟨b0, 5, none⟩) hw0 (.int .i64 0)).setCell (p := ⟨b0, 6, none⟩) hw0 (.int .i64 0)).setCell (p := ⟨b0, 7, none⟩) hw0 (.int .i64 0)).setCell (p := ⟨b0, 8, none⟩) hw0 (.int .i64 0)).setCell (p := ⟨b0, 9, none⟩) hw0 (.int .i64 0)))
          have GF := hide (((((((((((G0.out.set 0 (.int .i64 0)).set 1 (.int .i64 0)).set 2 (.int .i64 0)).set 3 (.int .i64 0)).set 4 (.int .i64 0)).set 5 (.int .i64 0)).set 6 (.int .i64 0)).set 7 (.int .i64 0)).set 8 (.int .i64 0)).set 9 (.int .i64 0)))
          clear c0 c1 c2 c3 c4 c5 c6 c7 c8 c9 z0 z1 z2 z3 z4 z5 z6 z7 z8 z9 a0 l0 l2 G0 G2 HB
          generalize ((((((((((w4.setCell ⟨b0, 0, none⟩ (.int .i64 0)).setCell ⟨b0, 1, none⟩ (.int .i64 0)).setCell ⟨b0, 2, none⟩ (.int .i64 0)).setCell ⟨b0, 3, none⟩ (.int .i64 0)).setCell ⟨b0, 4, none⟩ (.int .i64 0)).setCell ⟨b0, 5, none⟩ (.int .i64 0)).setCell ⟨b0, 6, none⟩ (.int .i64 0)).setCell ⟨b0, 7, none⟩ (.int .i64 0)).setCell ⟨b0, 8, none⟩ (.int .i64 0)).setCell ⟨b0, 9, none⟩ (.int .i64 0)) = wF at *
          have y0 : wF.cell? ⟨b0, 0, none⟩ = some (.int .i64 0) := by rw [GF.out.cell 0]; rfl
          have y1 : wF.cell? ⟨b0, 1, none⟩ = some (.int .i64 0) := by rw [GF.out.cell 1]; rfl
          have y2 : wF.cell? ⟨b0, 2, none⟩ = some (.int .i64 0) := by rw [GF.out.cell 2]; rfl
          have y3 : wF.cell? ⟨b0, 3, none⟩ = some (.int .i64 0) := by rw [GF.out.cell 3]; rfl
          have y4 : wF.cell? ⟨b0, 4, none⟩ = some (.int .i64 0) := by rw [GF.out.cell 4]; rfl
          have y5 : wF.cell? ⟨b0, 5, none⟩ = some (.int .i64 0) := by rw [GF.out.cell 5]; rfl
          have y6 : wF.cell? ⟨b0, 6, none⟩ = some (.int .i64 0) := by rw [GF.out.cell 6]; rfl
          have y7 : wF.cell? ⟨b0, 7, none⟩ = some (.int .i64 0) := by rw [GF.out.cell 7]; rfl
          have y8 : wF.cell? ⟨b0, 8, none⟩ = some (.int .i64 0) := by rw [GF.out.cell 8]; rfl
          have y9 : wF.cell? ⟨b0, 9, none⟩ = some (.int .i64 0) := by rw [GF.out.cell 9]; rfl
          refine bodyPost_ret (v := .tuple #[.agg #[.int .i64 0, .int .i64 0, .int .i64 0, .int .i64 0, .int .i64 0, .int .i64 0, .int .i64 0, .int .i64 0, .int .i64 0, .int .i64 0], .bool false]) (by simp [results, Try.results17, go_sem, y0, y1, y2, y3, y4, y5, y6, y7, y8, y9]) rfl ⟨?_, HF.out⟩
          rw [HRR.out]
          rfl
      · have hne : ((p : Int) != (s.size : Int)) = true := by simp; omega
        have HRR : Hid (R = (Cr.zero, false)) := by
          show R = _
          rw [HRC.out, if_neg (fun h => hp2 h.1)]
        clear hp2 HRC HOK G2
        have a0 := G0'.out.free
        have hn0 : b0 ≠ w2.heap.size := by omega
        have hn0' : ¬ b0 = w2.heap.size := hn0
        have c0 : w2.cell? ⟨b0, 0, none⟩ = some (.int .i64 0) := by rw [G0'.out.cell 0]; rfl
        have c1 : w2.cell? ⟨b0, 1, none⟩ = some (.int .i64 0) := by rw [G0'.out.cell 1]; rfl
        have c2 : w2.cell? ⟨b0, 2, none⟩ = some (.int .i64 0) := by rw [G0'.out.cell 2]; rfl
        have c3 : w2.cell? ⟨b0, 3, none⟩ = some (.int .i64 0) := by rw [G0'.out.cell 3]; rfl
        have c4 : w2.cell? ⟨b0, 4, none⟩ = some (.int .i64 0) := by rw [G0'.out.cell 4]; rfl
        have c5 : w2.cell? ⟨b0, 5, none⟩ = some (.int .i64 0) := by rw [G0'.out.cell 5]; rfl
        have c6 : w2.cell? ⟨b0, 6, none⟩ = some (.int .i64 0) := by rw [G0'.out.cell 6]; rfl
        have c7 : w2.cell? ⟨b0, 7, none⟩ = some (.int .i64 0) := by rw [G0'.out.cell 7]; rfl
        have c8 : w2.cell? ⟨b0, 8, none⟩ = some (.int .i64 0) := by rw [G0'.out.cell 8]; rfl
        have c9 : w2.cell? ⟨b0, 9, none⟩ = some (.int .i64 0) := by rw [G0'.out.cell 9]; rfl
        have G0 := G0'
        go_wp2_with fail
        have hf := ((((((((((HB.out.setCell (p := ⟨b0, 0, none⟩) hw0 (.int .i64 0)).setCell (p := ⟨b0, 1, none⟩) hw0 (.int .i64 0)).setCell (p := ⟨b0, 2, none⟩) hw0 (.int .i64 0)).setCell (p := ⟨b0, 3, none⟩) hw0 (.int .i64 0)).setCell (p := ⟨b0, 4, none⟩) hw0 (.int .i64 0)).setCell (p := ⟨b0, 5, none⟩) hw0 (.int .i64 0)).setCell (p := ⟨b0, 6, none⟩) hw0 (.int .i64 0)).setCell (p := ⟨b0, 7, none⟩) hw0 (.int .i64 0)).setCell (p := ⟨b0, 8, none⟩) hw0 (.int .i64 0)).setCell (p := ⟨b0, 9, none⟩) hw0 (.int .i64 0))
        have gf := ((((((((((G0.out.set 0 (.int .i64 0)).set 1 (.int .i64 0)).set 2 (.int .i64 0)).set 3 (.int .i64 0)).set 4 (.int .i64 0)).set 5 (.int .i64 0)).set 6 (.int .i64 0)).set 7 (.int .i64 0)).set 8 (.int .i64 0)).set 9 (.int .i64 0))
        have HF := hide (hf.alloc hf.size (.cells #[.int .i64 (x0 : Nat), .int .i64 (x1 : Nat), .int .i64 (x2 : Nat), .int .i64 (x3 : Nat), .int .i64 (x4 : Nat), .int .i64 (x5 : Nat), .int .i64 (x6 : Nat), .int .i64 (x7 : Nat), .int .i64 (x8 : Nat), .int .i64 (x9 : Nat)] 32))
        have GF := hide (gf.below ((Below.refl _ _).alloc (Nat.le_refl _) (.cells #[.int .i64 (x0 : Nat), .int .i64 (x1 : Nat), .int .i64 (x2 : Nat), .int .i64 (x3 : Nat), .int .i64 (x4 : Nat), .int .i64 (x5 : Nat), .int .i64 (x6 : Nat), .int .i64 (x7 : Nat), .int .i64 (x8 : Nat), .int .i64 (x9 : Nat)] 32)) gf.lt)
        clear c0 c1 c2 c3 c4 c5 c6 c7 c8 c9 a0 G0 HB HB3 hf gf G0'
        generalize ((((((((((w2.setCell ⟨b0, 0, none⟩ (.int .i64 0)).setCell ⟨b0, 1, none⟩ (.int .i64 0)).setCell ⟨b0, 2, none⟩ (.int .i64 0)).setCell ⟨b0, 3, none⟩ (.int .i64 0)).setCell ⟨b0, 4, none⟩ (.int .i64 0)).setCell ⟨b0, 5, none⟩ (.int .i64 0)).setCell ⟨b0, 6, none⟩ (.int .i64 0)).setCell ⟨b0, 7, none⟩ (.int .i64 0)).setCell ⟨b0, 8, none⟩ (.int .i64 0)).setCell ⟨b0, 9, none⟩ (.int .i64 0)).alloc (.cells #[.int .i64 (x0 : Nat), .int .i64 (x1 : Nat), .int .i64 (x2 : Nat), .int .i64 (x3 : Nat), .int .i64 (x4 : Nat), .int .i64 (x5 : Nat), .int .i64 (x6 : Nat), .int .i64 (x7 : Nat), .int .i64 (x8 : Nat), .int .i64 (x9 : Nat)] 32) = wF at *
        have y0 : wF.cell? ⟨b0, 0, none⟩ = some (.int .i64 0) := by rw [GF.out.cell 0]; rfl
        have y1 : wF.cell? ⟨b0, 1, none⟩ = some (.int .i64 0) := by rw [GF.out.cell 1]; rfl
        have y2 : wF.cell? ⟨b0, 2, none⟩ = some (.int .i64 0) := by rw [GF.out.cell 2]; rfl
        have y3 : wF.cell? ⟨b0, 3, none⟩ = some (.int .i64 0) := by rw [GF.out.cell 3]; rfl
        have y4 : wF.cell? ⟨b0, 4, none⟩ = some (.int .i64 0) := by rw [GF.out.cell 4]; rfl
        have y5 : wF.cell? ⟨b0, 5, none⟩ = some (.int .i64 0) := by rw [GF.out.cell 5]; rfl
        have y6 : wF.cell? ⟨b0, 6, none⟩ = some (.int .i64 0) := by rw [GF.out.cell 6]; rfl
        have y7 : wF.cell? ⟨b0, 7, none⟩ = some (.int .i64 0) := by rw [GF.out.cell 7]; rfl
        have y8 : wF.cell? ⟨b0, 8, none⟩ = some (.int .i64 0) := by rw [GF.out.cell 8]; rfl
        have y9 : wF.cell? ⟨b0, 9, none⟩ = some (.int .i64 0) := by rw [GF.out.cell 9]; rfl
        refine bodyPost_ret (v := .tuple #[.agg #[.int .i64 0, .int .i64 0, .int .i64 0, .int .i64 0, .int .i64 0, .int .i64 0, .int .i64 0, .int .i64 0, .int .i64 0, .int .i64 0], .bool false]) (by simp [results, Try.results17, go_sem, y0, y1, y2, y3, y4, y5, y6, y7, y8, y9]) rfl ⟨?_, HF.out⟩
        rw [HRR.out]
        rfl
end Go.Proofs.Ytflicklgmhgpiaa.P5
