/- Function values that answer the same in every world that is as it was: the program's closures over chains: secretsOf, further, list, leafKey; conditions: texts of at most 2^20 bytes, the listed tables hold what their text lays. -/
import Derived.Test.YtmjpdccfdaajmaaDoorSgnI2
import Derived.Test.YtmjpdccfdaajmaaDoorStrT
import Derived.Test.YtmjpdccfdaajmaaDoorCut
namespace Go.Proofs.YtmjpdccfdaajmaaDoor.P4
set_option maxRecDepth 8000
open Go.RowKit P1 P3

/-- v is a function value that answers R i at each i below 11, in every world that is as W was. -/
def FnAt (W : World) (v : Value) (R : Nat → Value) : Prop :=
  ∃ fid caps, v = .func (.func fid) #[] caps ∧ (∀ args w, (callFunc fid args).run Tryd.prog w = .ok (.enter fid args) w) ∧
    ∀ w, Below W.heap.size W w → ∀ i : Nat, i < 11 → Calls Tryd.prog fid (#[.int .i64 i] ++ caps) w fun e w' => e = .returned (R i) ∧ Below w.heap.size w w'

theorem FnAt.below {W W' : World} {v : Value} {R : Nat → Value} (h : FnAt W v R) (hb : Below W.heap.size W W') : FnAt W' v R := by
  obtain ⟨fid, caps, h1, h2, h3⟩ := h
  exact ⟨fid, caps, h1, h2, fun w hw i hi => h3 w (hb.trans (hw.mono hb.size)) i hi⟩

set_option maxHeartbeats 400000 in
theorem secrets1_calls (seed leaf : Int) (i : Nat) (b0 b1 : Nat) (w : World) (hG : Glo w) (h0 : w.cell? ⟨b0, 0, none⟩ = some (.int .i64 seed)) (h1 : w.cell? ⟨b1, 0, none⟩ = some (.int .i64 leaf)) :
    Calls Tryd.prog 82 #[.int .i64 i, .pointer (some ⟨b0, 0, none⟩), .pointer (some ⟨b1, 0, none⟩)] w fun e w' => e = .returned (.string ⟨(secret seed leaf i).toArray⟩) ∧ Below w.heap.size w w' := by
  have H := hide (implSecret_calls seed leaf i w hG)
  generalize secret seed leaf i = c at *
  clear hG
  go_enter Tryd.func82, Tryd.ntmps82
  go_wp2_with fail
  refine H.out.mono ?_
  rintro e w5 ⟨rfl, hb5⟩
  go_wp2_with fail
  go_ret
  exact ⟨rfl, hb5⟩

set_option maxHeartbeats 400000 in
theorem secrets_calls (seed leaf : Int) (w : World) (hG : Glo w) :
    Calls Tryd.prog 48 #[.int .i64 seed, .int .i64 leaf] w fun e w' => ∃ v, e = .returned v ∧ FnAt w' v (fun i => .string ⟨(secret seed leaf i).toArray⟩) ∧ Below w.heap.size w w' := by
  have HG := hide hG
  clear hG
  go_enter Tryd.func48, Tryd.ntmps48
  go_wp2_with fail
  go_ret
  have hb : Below w.heap.size w ((w.alloc (.cells #[.int .i64 seed] 3)).alloc (.cells #[.int .i64 leaf] 3)) := ((Below.refl _ _).alloc (Nat.le_refl _) _).alloc (by simp) _
  refine ⟨_, rfl, ⟨_, _, rfl, run_enter Tryd.func82 (by kernel_rfl) (by kernel_rfl), fun w1 hw1 i hi => ?_⟩, hb⟩
  have hz : ((w.alloc (.cells #[.int .i64 seed] 3)).alloc (.cells #[.int .i64 leaf] 3)).heap.size = w.heap.size + 2 := by simp
  refine secrets1_calls seed leaf i _ _ w1 ((HG.out.below hb).below hw1) ?_ ?_
  · rw [hw1.cell (p := ⟨w.heap.size, 0, none⟩) (by rw [hz]; show w.heap.size < _; omega)]
    simp [go_sem]
  · rw [hw1.cell (p := ⟨w.heap.size + 1, 0, none⟩) (by rw [hz]; show w.heap.size + 1 < _; omega)]
    simp [go_sem]

set_option maxHeartbeats 400000 in
theorem further1_calls (f : Nat → List UInt8) (g : Nat → Int) (told steps : Value) (W w : World) (hb : Below W.heap.size W w) (ht : FnAt W told (fun i => .string ⟨(f i).toArray⟩)) (hs : FnAt W steps (fun i => .int .i64 (g i))) (hG : Glo W)
    (i : Nat) (hi : i < 11) (hf : (f i).length ≤ 1048576) (b0 b1 : Nat) (hl0 : b0 < W.heap.size) (hl1 : b1 < W.heap.size) (h0 : W.cell? ⟨b0, 0, none⟩ = some told) (h1 : W.cell? ⟨b1, 0, none⟩ = some steps) :
    Calls Tryd.prog 83 #[.int .i64 i, .pointer (some ⟨b0, 0, none⟩), .pointer (some ⟨b1, 0, none⟩)] w fun e w' => e = .returned (.string ⟨(chainV (f i) (g i)).toArray⟩) ∧ Below w.heap.size w w' := by
  obtain ⟨f1, c1, rfl, r1, k1⟩ := ht
  obtain ⟨f2, c2, rfl, r2, k2⟩ := hs
  simp only at k1 k2
  have K1 := hide (fun (p : Near w.heap.size w) => k1 p.w (hb.trans (p.h.mono hb.size)) i hi)
  have K2 := hide (fun (p : Near w.heap.size w) => k2 p.w (hb.trans (p.h.mono hb.size)) i hi)
  have K3 := hide (fun (p : Near w.heap.size w) => implChain_calls (f i) hf (g i) p.w (hG.below (hb.trans (p.h.mono hb.size))))
  generalize chainV (f i) (g i) = c at *
  generalize f i = fi at *
  generalize g i = gi at *
  have n0 : ∀ p : Near w.heap.size w, p.w.cell? ⟨b0, 0, none⟩ = some (.func (.func f1) #[] c1) := fun p => ((hb.trans (p.h.mono hb.size)).cell (p := ⟨b0, 0, none⟩) hl0).trans h0
  have n1 : ∀ p : Near w.heap.size w, p.w.cell? ⟨b1, 0, none⟩ = some (.func (.func f2) #[] c2) := fun p => ((hb.trans (p.h.mono hb.size)).cell (p := ⟨b1, 0, none⟩) hl1).trans h1
  have hnn := Near.some w.heap.size w
  clear hG k1 k2 h0 h1
  go_enter Tryd.func83, Tryd.ntmps83
  go_wp2_with fail
  refine wp_region_near w.heap.size w (Below.refl _ _) (by kernel_rfl) (by kernel_rfl) ?_
  repeat (go_big_quiet_step (fail))
  go_big_quiet_step (exact calls_near (Nat.le_refl _) (K1.out _))
  repeat (go_big_quiet_step (fail))
  go_big_quiet_step (exact calls_near (Nat.le_refl _) (K2.out _))
  repeat (go_big_quiet_step (fail))
  go_big_quiet_step (exact calls_near (Nat.le_refl _) (K3.out _))
  repeat (go_big_quiet_step (fail))
  refine wpQuiet_nil ?_
  rintro w3 ⟨pq, rfl⟩
  have hqb := pq.h
  obtain ⟨w3, hq⟩ := pq
  simp only at hqb ⊢
  clear hq n0 n1 hnn
  go_wp2_with fail
  go_ret
  exact ⟨rfl, hqb⟩

set_option maxHeartbeats 400000 in
theorem further_calls (f : Nat → List UInt8) (g : Nat → Int) (told steps : Value) (w : World) (ht : FnAt w told (fun i => .string ⟨(f i).toArray⟩)) (hs : FnAt w steps (fun i => .int .i64 (g i))) (hG : Glo w) (hf : ∀ i, i < 11 → (f i).length ≤ 1048576) :
    Calls Tryd.prog 49 #[told, steps] w fun e w' => ∃ v, e = .returned v ∧ FnAt w' v (fun i => .string ⟨(chainV (f i) (g i)).toArray⟩) ∧ Below w.heap.size w w' := by
  have HG := hide hG
  have HT := hide ht
  have HS := hide hs
  clear hG
  obtain ⟨f1, c1, e1, -⟩ := ht
  obtain ⟨f2, c2, e2, -⟩ := hs
  subst e1 e2
  have hb : Below w.heap.size w ((w.alloc (.cells #[.func (.func f1) #[] c1] 65)).alloc (.cells #[.func (.func f2) #[] c2] 68)) := ((Below.refl _ _).alloc (Nat.le_refl _) _).alloc (by simp) _
  have hz : ((w.alloc (.cells #[.func (.func f1) #[] c1] 65)).alloc (.cells #[.func (.func f2) #[] c2] 68)).heap.size = w.heap.size + 2 := by simp
  have q0 : ((w.alloc (.cells #[.func (.func f1) #[] c1] 65)).alloc (.cells #[.func (.func f2) #[] c2] 68)).cell? ⟨w.heap.size, 0, none⟩ = some (.func (.func f1) #[] c1) := by simp [go_sem]
  have q1 : ((w.alloc (.cells #[.func (.func f1) #[] c1] 65)).alloc (.cells #[.func (.func f2) #[] c2] 68)).cell? ⟨w.heap.size + 1, 0, none⟩ = some (.func (.func f2) #[] c2) := by simp [go_sem]
  have HB := hide hb
  have HZ := hide hz
  have Q0 := hide q0
  have Q1 := hide q1
  have HF := hide hf
  clear hb hz q0 q1 hf
  go_enter Tryd.func49, Tryd.ntmps49
  go_wp2_with fail
  go_ret
  refine ⟨_, rfl, ⟨_, _, rfl, run_enter Tryd.func83 (by kernel_rfl) (by kernel_rfl), fun w1 hw1 i hi => ?_⟩, HB.out⟩
  exact further1_calls f g _ _ _ w1 hw1 (HT.out.below HB.out) (HS.out.below HB.out) (HG.out.below HB.out) i hi (HF.out i hi) _ _ (by rw [HZ.out]; omega) (by rw [HZ.out]; omega) Q0.out Q1.out
end Go.Proofs.YtmjpdccfdaajmaaDoor.P4
