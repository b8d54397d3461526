/- The contract of the specification's CredText; condition: numbers are ints. -/
import Derived.Test.YtflicklgmhgpiaaDoorCrd1
import Derived.Test.YtflicklgmhgpiaaDoorVar
namespace Go.Proofs.YtflicklgmhgpiaaDoor.P5
set_option maxRecDepth 8000
open Go.RowKit P1

/-- Ten texts one after the other. -/
theorem cat10 (a b c d e f g h i j : List UInt8) : ((((((((((⟨a.toArray⟩ : ByteArray) ++ ⟨b.toArray⟩) ++ ⟨c.toArray⟩) ++ ⟨d.toArray⟩) ++ ⟨e.toArray⟩) ++ ⟨f.toArray⟩) ++ ⟨g.toArray⟩) ++ ⟨h.toArray⟩) ++ ⟨i.toArray⟩) ++ ⟨j.toArray⟩) = ⟨(a ++ b ++ c ++ d ++ e ++ f ++ g ++ h ++ i ++ j).toArray⟩ := by
  simp only [ByteArray.mk_append_mk]

theorem l01Var_near (x : Int) (h0 : 0 ≤ x ∧ x ≤ 9999) {B : Nat} {W : World} (hB : B ≤ W.heap.size) (p : Near B W) :
    Calls Tryd.prog 38 #[.int .i64 x] p.w fun e w' => e = .returned (.string ⟨(varB 4 x.toNat).toArray⟩) ∧ ∃ q : Near B W, w' = q.w := by
  obtain ⟨m, rfl⟩ := Int.eq_ofNat_of_zero_le h0.1
  exact calls_near hB (l01Var_calls m (by omega) p.w)

set_option maxHeartbeats 1000000 in
theorem specCredText_calls (c : Cr) (w : World) :
    Calls Tryd.prog 17 #[credV c] w fun e w' => e = .returned (.string ⟨(credT c).toArray⟩) ∧ Below w.heap.size w w' := by
  have HRO := hide (fun wx => specCredOk_calls c wx)
  have Hs := hide (fun h : credOk c => h.small)
  obtain ⟨T, ET⟩ : ∃ T, Hid (T = credT c) := ⟨_, rfl⟩
  rw [← ET.out]
  obtain ⟨k, ow, on, wh, aw, an, bw, bn, u, n⟩ := c
  simp only [credV] at HRO ⊢
  have HB : Hid (Below w.heap.size w (w.alloc (.cells #[.int .i64 k, .int .i64 ow, .int .i64 on, .int .i64 wh, .int .i64 aw, .int .i64 an, .int .i64 bw, .int .i64 bn, .int .i64 u, .int .i64 n] 27))) := (Below.refl _ _).alloc (Nat.le_refl _) _
  have HA := hide (Blk.new w #[.int .i64 k, .int .i64 ow, .int .i64 on, .int .i64 wh, .int .i64 aw, .int .i64 an, .int .i64 bw, .int .i64 bn, .int .i64 u, .int .i64 n] 27)
  by_cases h1 : credOk ⟨k, ow, on, wh, aw, an, bw, bn, u, n⟩
  · simp only [decide_eq_true h1] at HRO
    have hs := Hs.out h1
    have hT : T = credB ⟨k, ow, on, wh, aw, an, bw, bn, u, n⟩ := by rw [ET.out, credT, if_pos h1]
    simp only [credB] at hT
    unfold Cr.small at hs
    dsimp only at hs
    obtain ⟨s0, s1, s2, s3, s4, s5, s6, s7, s8, s9⟩ := hs
    clear ET Hs h1
    go_enter Tryd.func17, Tryd.ntmps17
    go_wp2_with fail
    obtain ⟨b1, hb1⟩ : ∃ b, b = w.heap.size := ⟨_, rfl⟩
    rw [← hb1] at HA ⊢
    clear hb1
    generalize w.alloc (.cells #[.int .i64 k, .int .i64 ow, .int .i64 on, .int .i64 wh, .int .i64 aw, .int .i64 an, .int .i64 bw, .int .i64 bn, .int .i64 u, .int .i64 n] 27) = w1 at *
    refine (HRO.out _).mono ?_
    rintro e w2 ⟨rfl, hb2⟩
    have hA2 := HA.out.below hb2 HA.out.lt
    have HB2 := hide (HB.out.trans (hb2.mono HB.out.size))
    clear hb2 HA HB HRO
    have n0 : ∀ p : Near w2.heap.size w2, p.w.cell? ⟨b1, 0, none⟩ = some (.int .i64 k) := fun p => by rw [(hA2.below p.h hA2.lt).cell 0]; rfl
    have n1 : ∀ p : Near w2.heap.size w2, p.w.cell? ⟨b1, 1, none⟩ = some (.int .i64 ow) := fun p => by rw [(hA2.below p.h hA2.lt).cell 1]; rfl
    have n2 : ∀ p : Near w2.heap.size w2, p.w.cell? ⟨b1, 2, none⟩ = some (.int .i64 on) := fun p => by rw [(hA2.below p.h hA2.lt).cell 2]; rfl
    have n3 : ∀ p : Near w2.heap.size w2, p.w.cell? ⟨b1, 3, none⟩ = some (.int .i64 wh) := fun p => by rw [(hA2.below p.h hA2.lt).cell 3]; rfl
    have n4 : ∀ p : Near w2.heap.size w2, p.w.cell? ⟨b1, 4, none⟩ = some (.int .i64 aw) := fun p => by rw [(hA2.below p.h hA2.lt).cell 4]; rfl
    have n5 : ∀ p : Near w2.heap.size w2, p.w.cell? ⟨b1, 5, none⟩ = some (.int .i64 an) := fun p => by rw [(hA2.below p.h hA2.lt).cell 5]; rfl
    have n6 : ∀ p : Near w2.heap.size w2, p.w.cell? ⟨b1, 6, none⟩ = some (.int .i64 bw) := fun p => by rw [(hA2.below p.h hA2.lt).cell 6]; rfl
    have n7 : ∀ p : Near w2.heap.size w2, p.w.cell? ⟨b1, 7, none⟩ = some (.int .i64 bn) := fun p => by rw [(hA2.below p.h hA2.lt).cell 7]; rfl
    have n8 : ∀ p : Near w2.heap.size w2, p.w.cell? ⟨b1, 8, none⟩ = some (.int .i64 u) := fun p => by rw [(hA2.below p.h hA2.lt).cell 8]; rfl
    have n9 : ∀ p : Near w2.heap.size w2, p.w.cell? ⟨b1, 9, none⟩ = some (.int .i64 n) := fun p => by rw [(hA2.below p.h hA2.lt).cell 9]; rfl
    have C0 := hide (fun p : Near w2.heap.size w2 => l01Var_near k s0 (Nat.le_refl _) p)
    have C1 := hide (fun p : Near w2.heap.size w2 => l01Var_near ow s1 (Nat.le_refl _) p)
    have C2 := hide (fun p : Near w2.heap.size w2 => l01Var_near on s2 (Nat.le_refl _) p)
    have C3 := hide (fun p : Near w2.heap.size w2 => l01Var_near wh s3 (Nat.le_refl _) p)
    have C4 := hide (fun p : Near w2.heap.size w2 => l01Var_near aw s4 (Nat.le_refl _) p)
    have C5 := hide (fun p : Near w2.heap.size w2 => l01Var_near an s5 (Nat.le_refl _) p)
    have C6 := hide (fun p : Near w2.heap.size w2 => l01Var_near bw s6 (Nat.le_refl _) p)
    have C7 := hide (fun p : Near w2.heap.size w2 => l01Var_near bn s7 (Nat.le_refl _) p)
    have C8 := hide (fun p : Near w2.heap.size w2 => l01Var_near u s8 (Nat.le_refl _) p)
    have C9 := hide (fun p : Near w2.heap.size w2 => l01Var_near n s9 (Nat.le_refl _) p)
    have l0 := (varB_length 4 k.toNat).2
    have l1 := (varB_length 4 ow.toNat).2
    have l2 := (varB_length 4 on.toNat).2
    have l3 := (varB_length 4 wh.toNat).2
    have l4 := (varB_length 4 aw.toNat).2
    have l5 := (varB_length 4 an.toNat).2
    have l6 := (varB_length 4 bw.toNat).2
    have l7 := (varB_length 4 bn.toNat).2
    have l8 := (varB_length 4 u.toNat).2
    have l9 := (varB_length 4 n.toNat).2
    generalize varB 4 k.toNat = t0 at *
    generalize varB 4 ow.toNat = t1 at *
    generalize varB 4 on.toNat = t2 at *
    generalize varB 4 wh.toNat = t3 at *
    generalize varB 4 aw.toNat = t4 at *
    generalize varB 4 an.toNat = t5 at *
    generalize varB 4 bw.toNat = t6 at *
    generalize varB 4 bn.toNat = t7 at *
    generalize varB 4 u.toNat = t8 at *
    generalize varB 4 n.toNat = t9 at *
    clear s0 s1 s2 s3 s4 s5 s6 s7 s8 s9 hA2
    have HT := hide hT
    clear hT
    have hnn := Near.some w2.heap.size w2
    go_wp2_with fail
    refine wp_region_near w2.heap.size w2 (Below.refl _ _) (by kernel_rfl) (by kernel_rfl) ?_
    repeat (go_big_quiet_step (fail))
    go_big_quiet_step (exact C0.out _)
    repeat (go_big_quiet_step (fail))
    go_big_quiet_step (exact C1.out _)
    repeat (go_big_quiet_step (fail))
    go_big_quiet_step (exact C2.out _)
    repeat (go_big_quiet_step (fail))
    go_big_quiet_step (exact C3.out _)
    repeat (go_big_quiet_step (fail))
    go_big_quiet_step (exact C4.out _)
    repeat (go_big_quiet_step (fail))
    go_big_quiet_step (exact C5.out _)
    repeat (go_big_quiet_step (fail))
    go_big_quiet_step (exact C6.out _)
    repeat (go_big_quiet_step (fail))
    go_big_quiet_step (exact C7.out _)
    repeat (go_big_quiet_step (fail))
    go_big_quiet_step (exact C8.out _)
    repeat (go_big_quiet_step (fail))
    go_big_quiet_step (exact C9.out _)
    repeat (go_big_quiet_step (fail))
    refine wpQuiet_nil ?_
    rintro w3 ⟨pq, rfl⟩
    have hqb := pq.h
    obtain ⟨w3, hq⟩ := pq
    simp only at hqb ⊢
    clear hq hnn n0 C0 n1 C1 n2 C2 n3 C3 n4 C4 n5 C5 n6 C6 n7 C7 n8 C8 n9 C9
    go_wp2_with fail
    go_ret
    refine ⟨?_, HB2.out.trans (hqb.mono HB2.out.size)⟩
    rw [HT.out, ← cat10]
    rfl
  · simp only [decide_eq_false h1] at HRO
    have HT : Hid (T = []) := by
      show T = []
      rw [ET.out, credT, if_neg h1]
    clear ET Hs h1
    go_enter Tryd.func17, Tryd.ntmps17
    go_wp2_with fail
    generalize w.alloc (.cells #[.int .i64 k, .int .i64 ow, .int .i64 on, .int .i64 wh, .int .i64 aw, .int .i64 an, .int .i64 bw, .int .i64 bn, .int .i64 u, .int .i64 n] 27) = w1 at *
    refine (HRO.out _).mono ?_
    rintro e w2 ⟨rfl, hb2⟩
    have HB2 := hide (HB.out.trans (hb2.mono HB.out.size))
    clear hb2 HA HB HRO
    go_wp2_with fail
    go_ret
    exact ⟨by rw [HT.out]; rfl, HB2.out⟩
end Go.Proofs.YtflicklgmhgpiaaDoor.P5
