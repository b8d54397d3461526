/- The contract of the program's shaNumbers.takeWord: one turn. -/
import Derived.Test.YtflicklgmhgpiaaDoorShaI2
namespace Go.Proofs.YtflicklgmhgpiaaDoor.P3
set_option maxRecDepth 8000
open Go.RowKit P1

theorem ch_bits' (e f g : Nat) (he : e < 4294967296) (hf : f < 4294967296) (hg : g < 4294967296) :
    bits .xor .u32 (bits .and .u32 (e : Int) (f : Int)) (bits .and .u32 (bits .xor .u32 IntKind.u32.max (e : Int)) (g : Int)) = ((ch e f g : Nat) : Int) := by
  rw [← ch_bits e f g he hf hg]
  have e1 := u32_xor_nat e 4294967295 he (by decide)
  have e2 := u32_xor_nat 4294967295 e (by decide) he
  rw [Nat.xor_comm] at e2
  rw [show IntKind.u32.max = ((4294967295 : Nat) : Int) from rfl, e2, ← e1]
  rfl

/-- What a turn reads: the eight numbers, each at its place, the turn's own number; and what was written since. -/
structure T8 (W w : World) (b t kv : Nat) (xs : List Nat) (p0 p1 p2 p3 p4 p5 p6 p7 x0 x1 x2 x3 x4 x5 x6 x7 : Nat) : Prop where
  c0 : w.cell? ⟨b, p0, none⟩ = some (.int .u32 (x0 : Nat))
  c1 : w.cell? ⟨b, p1, none⟩ = some (.int .u32 (x1 : Nat))
  c2 : w.cell? ⟨b, p2, none⟩ = some (.int .u32 (x2 : Nat))
  c3 : w.cell? ⟨b, p3, none⟩ = some (.int .u32 (x3 : Nat))
  c4 : w.cell? ⟨b, p4, none⟩ = some (.int .u32 (x4 : Nat))
  c5 : w.cell? ⟨b, p5, none⟩ = some (.int .u32 (x5 : Nat))
  c6 : w.cell? ⟨b, p6, none⟩ = some (.int .u32 (x6 : Nat))
  c7 : w.cell? ⟨b, p7, none⟩ = some (.int .u32 (x7 : Nat))
  k : w.cell? ⟨1, t % 64, none⟩ = some (.int .u32 (kv : Nat))
  arr : Arr w b xs
  gr : W.grownBy w (some b)

theorem T8.drewN {W w : World} {b t kv : Nat} {xs : List Nat} {p0 p1 p2 p3 p4 p5 p6 p7 x0 x1 x2 x3 x4 x5 x6 x7 : Nat} (h : T8 W w b t kv xs p0 p1 p2 p3 p4 p5 p6 p7 x0 x1 x2 x3 x4 x5 x6 x7) (n : Nat) :
    T8 W (w.drewN n) b t kv xs p0 p1 p2 p3 p4 p5 p6 p7 x0 x1 x2 x3 x4 x5 x6 x7 :=
  ⟨h.c0, h.c1, h.c2, h.c3, h.c4, h.c5, h.c6, h.c7, h.k, h.arr.drewN n, Cu.grown_trans h.gr (Cu.grown_drew _ _ n)⟩

set_option maxHeartbeats 2000000 in
theorem word_calls (b : Nat) (xs : List Nat) (t : Nat) (s : St) (kv wv : Nat) (ht : t < 64) (hr : Rnd t xs s) (hs : s.ok) (w : World) (hA : Arr w b xs)
    (hk : w.cell? ⟨1, t % 64, none⟩ = some (.int .u32 (kv : Nat))) :
    Calls Tryd.prog 55 #[.pointer (some ⟨b, 0, none⟩), .int .u64 t, .int .u32 wv] w fun e w' => (∃ v, e = .returned v) ∧
      Arr w' b ((xs.set (pl t 3) (round1 s kv wv).e).set (pl t 7) (round1 s kv wv).a) ∧ w.grownBy w' (some b) := by
  have hl := hr.len
  obtain ⟨o0, o1, o2, o3, o4, o5, o6, o7⟩ := hs
  have hcell : ∀ p x, p < 8 → xs.getD p 0 = x → w.cell? ⟨b, p, none⟩ = some (.int .u32 (x : Nat)) := fun p x hp hx => by rw [← hx]; exact hA.cell p (by omega)
  have c0 := hcell _ _ (pl_lt t 0) hr.a
  have c1 := hcell _ _ (pl_lt t 1) hr.b
  have c2 := hcell _ _ (pl_lt t 2) hr.c
  have c3 := hcell _ _ (pl_lt t 3) hr.d
  have c4 := hcell _ _ (pl_lt t 4) hr.e
  have c5 := hcell _ _ (pl_lt t 5) hr.f
  have c6 := hcell _ _ (pl_lt t 6) hr.g
  have c7 := hcell _ _ (pl_lt t 7) hr.h
  have P0 := hide (fun wx => place_calls t 0 (by omega) (by decide) wx)
  have P1 := hide (fun wx => place_calls t 1 (by omega) (by decide) wx)
  have P2 := hide (fun wx => place_calls t 2 (by omega) (by decide) wx)
  have P3 := hide (fun wx => place_calls t 3 (by omega) (by decide) wx)
  have P4 := hide (fun wx => place_calls t 4 (by omega) (by decide) wx)
  have P5 := hide (fun wx => place_calls t 5 (by omega) (by decide) wx)
  have P6 := hide (fun wx => place_calls t 6 (by omega) (by decide) wx)
  have P7 := hide (fun wx => place_calls t 7 (by omega) (by decide) wx)
  have q0 := pl_lt t 0
  have q1 := pl_lt t 1
  have q2 := pl_lt t 2
  have q3 := pl_lt t 3
  have q4 := pl_lt t 4
  have q5 := pl_lt t 5
  have q6 := pl_lt t 6
  have q7 := pl_lt t 7
  have HM : Hid (T8 w w b t kv xs (pl t 0) (pl t 1) (pl t 2) (pl t 3) (pl t 4) (pl t 5) (pl t 6) (pl t 7) s.a s.b s.c s.d s.e s.f s.g s.h) := ⟨c0, c1, c2, c3, c4, c5, c6, c7, hk, hA, Cu.grown_refl _ _⟩
  have HE := hide (round1_e s kv wv)
  have HB := hide (round1_a s kv wv)
  obtain ⟨re, Ere⟩ : ∃ re, Hid (re = (round1 s kv wv).e) := ⟨_, rfl⟩
  obtain ⟨ra, Era⟩ : ∃ ra, Hid (ra = (round1 s kv wv).a) := ⟨_, rfl⟩
  rw [← Ere.out] at HE ⊢
  rw [← Era.out] at HB ⊢
  obtain ⟨xa, xb, xc, xd, xe, xf, xg, xh⟩ := s
  clear hcell hr hA Ere Era
  dsimp only at *
  generalize pl t 0 = p0 at *
  generalize pl t 1 = p1 at *
  generalize pl t 2 = p2 at *
  generalize pl t 3 = p3 at *
  generalize pl t 4 = p4 at *
  generalize pl t 5 = p5 at *
  generalize pl t 6 = p6 at *
  generalize pl t 7 = p7 at *
  go_enter Tryd.func55, Tryd.ntmps55
  go_wp2_with fail
  refine wp_region_quiet_lit (by kernel_rfl) (by kernel_rfl) ?_
  repeat (go_big_quiet_step (fail))
  go_big_quiet_step (exact Calls.quiet_of_same (P0.out _))
  repeat (go_big_quiet_step (fail))
  go_big_quiet_step (exact Calls.quiet_of_same (P1.out _))
  repeat (go_big_quiet_step (fail))
  go_big_quiet_step (exact Calls.quiet_of_same (P2.out _))
  repeat (go_big_quiet_step (fail))
  refine wpQuiet_nil ?_
  intro _ hw'
  obtain ⟨nq, hw''⟩ := hw'
  subst hw''
  have hm := HM.out.drewN nq
  clear HM c0 c1 c2 c3 c4 c5 c6 c7 hk
  generalize w.drewN nq = w2 at hm ⊢
  have HM := hide hm
  obtain ⟨c0, c1, c2, c3, c4, c5, c6, c7, hk, hA, hg⟩ := hm
  clear hA hg
  go_wp2_with fail
  refine wp_region_quiet_lit (by kernel_rfl) (by kernel_rfl) ?_
  repeat (go_big_quiet_step (fail))
  go_big_quiet_step (exact Calls.quiet_of_same (P4.out _))
  repeat (go_big_quiet_step (fail))
  go_big_quiet_step (exact Calls.quiet_of_same (P5.out _))
  repeat (go_big_quiet_step (fail))
  go_big_quiet_step (exact Calls.quiet_of_same (P6.out _))
  repeat (go_big_quiet_step (fail))
  refine wpQuiet_nil ?_
  intro _ hw'
  obtain ⟨nq, hw''⟩ := hw'
  subst hw''
  have hm := HM.out.drewN nq
  clear HM c0 c1 c2 c3 c4 c5 c6 c7 hk
  generalize w2.drewN nq = w3 at hm ⊢
  have HM := hide hm
  obtain ⟨c0, c1, c2, c3, c4, c5, c6, c7, hk, hA, hg⟩ := hm
  clear hA hg
  go_wp2_with fail
  refine wp_region_quiet_lit (by kernel_rfl) (by kernel_rfl) ?_
  repeat (go_big_quiet_step (fail))
  go_big_quiet_step (exact Calls.quiet_of_same (P7.out _))
  repeat (go_big_quiet_step (fail))
  refine wpQuiet_nil ?_
  intro _ hw'
  obtain ⟨nq, hw''⟩ := hw'
  subst hw''
  have hm := HM.out.drewN nq
  clear HM c0 c1 c2 c3 c4 c5 c6 c7 hk
  generalize w3.drewN nq = w4 at hm ⊢
  have HM := hide hm
  obtain ⟨c0, c1, c2, c3, c4, c5, c6, c7, hk, hA, hg⟩ := hm
  clear hA hg
  go_wp2_with fail
  refine (roll_calls xe o4 6 (by decide) (by decide) _).mono ?_
  rintro e' w5 ⟨rfl, rfl⟩
  go_wp2_with fail
  refine (roll_calls xe o4 11 (by decide) (by decide) _).mono ?_
  rintro e' w5 ⟨rfl, rfl⟩
  go_wp2_with fail
  refine (roll_calls xe o4 25 (by decide) (by decide) _).mono ?_
  rintro e' w5 ⟨rfl, rfl⟩
  obtain ⟨y1, hne⟩ : ∃ z, z = Sig1 xe := ⟨_, rfl⟩
  have hy1 := Sig1_lt xe o4
  have hb1 := Sig1_bits xe o4
  rw [← hne] at hy1 hb1
  have Ey1 := hide hne
  clear hne
  obtain ⟨y2, hne⟩ : ∃ z, z = ch xe xf xg := ⟨_, rfl⟩
  have hy2 := ch_lt xe xf xg o4
  have hb2 := ch_bits' xe xf xg o4 o5 o6
  rw [← hne] at hy2 hb2
  have Ey2 := hide hne
  clear hne
  go_wp2_with fail
  clear hb1 hb2
  obtain ⟨m, hme⟩ : ∃ m, m = add (add (add xh kv) wv) (add y1 y2) := ⟨_, rfl⟩
  have hm0 : m < 4294967296 := by rw [hme]; exact add_lt _ _
  have hvm : (((xh : Int) + (kv : Int) + (wv : Int) + ((y1 : Int) + (y2 : Int))) % 4294967296) = ((m : Nat) : Int) := by rw [hme]; unfold add; omega
  have Em := hide hme
  rw [hvm]
  clear hvm hme
  refine wp_region_tail 10 (fun wd => T8 w wd b t kv xs p0 p1 p2 p3 p4 p5 p6 p7 xa xb xc xd xe xf xg xh) (HM.out.drewN 1) (by kernel_rfl) (by kernel_rfl) ?_
  clear HM c0 c1 c2 c3 c4 c5 c6 c7 hk
  intro wd hm
  have HM := hide hm
  have c3 := hm.c3
  have hf := hm.arr.free
  clear hm
  simp only [List.take_succ_cons, List.take_zero, List.drop_succ_cons, List.drop_zero]
  repeat (go_big_quiet_step (fail))
  go_big_quiet_step (exact P3.out _ _)
  repeat (go_big_quiet_step (fail))
  refine wpQuiet_nil ?_
  go_wp2_with fail
  have hv3 : (((xd : Int) + (m : Int)) % 4294967296) = ((re : Nat) : Int) := by rw [HE.out, ← Ey1.out, ← Ey2.out, ← Em.out]; unfold add; omega
  rw [hv3]
  clear hv3
  have hA6 := HM.out.arr.set (i := p3) re
  have hg6 := Cu.grown_trans HM.out.gr (Cu.grown_set wd b p3 (.int .u32 (re : Nat)))
  generalize wd.setCell ⟨b, p3, none⟩ (.int .u32 (re : Nat)) = w6 at hA6 hg6 ⊢
  have HA6 := hide hA6
  have HG6 := hide hg6
  clear hA6 hg6 HM c3 hf
  have hmj := maj_bits xa xb xc o0 o1 o2
  have hs0 := Sig0_bits xa o0
  have hy4 := Sig0_lt xa o0
  have hy5 := maj_lt xa xb xc o0 o1
  obtain ⟨y4, hne⟩ : ∃ z, z = Sig0 xa := ⟨_, rfl⟩
  rw [← hne] at hs0 hy4
  have Ey4 := hide hne
  clear hne
  obtain ⟨y5, hne⟩ : ∃ z, z = maj xa xb xc := ⟨_, rfl⟩
  rw [← hne] at hmj hy5
  have Ey5 := hide hne
  clear hne
  refine wp_region_tail 27 (fun wd => Arr wd b (xs.set p3 re) ∧ w.grownBy wd (some b)) ⟨HA6.out.drewN 1, Cu.grown_trans HG6.out (Cu.grown_drew _ _ 1)⟩ (by kernel_rfl) (by kernel_rfl) ?_
  clear HA6 HG6
  rintro wd ⟨hA, hg⟩
  have HA := hide hA
  have HG := hide hg
  have c7 := hA.cell p7 (by rw [List.length_set]; omega)
  have hf := hA.free
  clear hA hg
  simp only [List.take_succ_cons, List.take_zero, List.drop_succ_cons, List.drop_zero]
  repeat (go_big_quiet_step (fail))
  go_big_quiet_step (exact P7.out _ _)
  repeat (go_big_quiet_step (fail))
  go_big_quiet_step (exact roll_calls xa o0 2 (by decide) (by decide) _ _)
  repeat (go_big_quiet_step (fail))
  go_big_quiet_step (exact roll_calls xa o0 13 (by decide) (by decide) _ _)
  repeat (go_big_quiet_step (fail))
  go_big_quiet_step (exact roll_calls xa o0 22 (by decide) (by decide) _ _)
  repeat (go_big_quiet_step (fail))
  refine wpQuiet_nil ?_
  go_wp2_with fail
  refine bodyPost_end (results_none rfl _ _ _) rfl ⟨⟨_, rfl⟩, ?_, Cu.grown_trans HG.out (Cu.grown_set _ _ _ _)⟩
  have hv : (((m : Int) + (y4 : Int) + (y5 : Int)) % 4294967296) = ((ra : Nat) : Int) := by
    rw [HB.out, ← Ey1.out, ← Ey2.out, ← Em.out, ← Ey4.out, ← Ey5.out]
    unfold add
    omega
  rw [hv]
  exact HA.out.set _
end Go.Proofs.YtflicklgmhgpiaaDoor.P3
