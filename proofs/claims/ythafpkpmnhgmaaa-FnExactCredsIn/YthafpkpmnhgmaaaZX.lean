/- The contracts of the specification's l07Shown and CredsIn; condition: at most 2^20 steps.
The contract of the specification's StepOk; condition: at most 2^20 steps and places.
The contracts of the specification's l07At and ProofOk; condition: at most 2^20 steps and places.
The contract of the specification's CredsIn; condition: at most 2^20 steps. -/
import Derived.Test.YthafpkpmnhgmaaaZV
import Derived.Test.YthafpkpmnhgmaaaZS
import Derived.Test.YthafpkpmnhgmaaaZLate4
import Derived.Test.YthafpkpmnhgmaaaZK
import Derived.Test.YthafpkpmnhgmaaaZM
namespace Go.Proofs.Ythafpkpmnhgmaaa.P7
set_option maxRecDepth 8000
open Go.RowKit P1 P5 P6 Rc Rr

/-- A step's fact, where the walk reads it. -/
theorem fact_cells {w : World} {a : Option Addr} {l : List St} {x : Int} (h0 : 0 ≤ x) (h1 : x < l.length)
    (HA : ∀ j (hj : j < l.length), ∃ g off, a = some ⟨g, off, none⟩ ∧ g < w.heap.size ∧ (∀ i, i < 13 → w.cell? ⟨g, off + j * 14 + i, none⟩ = ((ints l[j])[i]?).map (.int .i64 ·)) ∧ ∃ u, w.cell? ⟨g, off + j * 14 + 13, none⟩ = some u ∧ IntsAt w u l[j].fr) :
    ∃ m : Nat, x = (m : Int) ∧ m < l.length ∧ ∃ g off, a = some ⟨g, off, none⟩ ∧ g < w.heap.size ∧ w.cell? ⟨g, off + m * 14 + 10, none⟩ = some (.int .i64 (fa l x).a) ∧ w.cell? ⟨g, off + m * 14 + 11, none⟩ = some (.int .i64 (fa l x).b) ∧ w.cell? ⟨g, off + m * 14 + 12, none⟩ = some (.int .i64 (fa l x).w) := by
  obtain ⟨m, rfl⟩ : ∃ m : Nat, x = (m : Int) := ⟨x.toNat, by omega⟩
  have hm : m < l.length := by omega
  obtain ⟨g, off, h2, h3, h4, -⟩ := HA m hm
  have hfa : fa l (m : Int) = l[m].f := by
    unfold fa
    rw [show ((m : Int)).toNat = m from by omega, getD_lt hm]
  rw [hfa]
  exact ⟨m, rfl, hm, g, off, h2, h3, h4 10 (by decide), h4 11 (by decide), h4 12 (by decide)⟩

theorem shown_take (l : List St) (fr : List Int) (i : Int) (f : Fa) (k : Nat) (h : k < fr.length) : shown l (fr.take (k + 1)) i f = (shown l (fr.take k) i f || decide ((0 ≤ fr[k] ∧ fr[k] ≤ i - 1) ∧ fa l fr[k] = f)) := by
  unfold shown
  rw [List.take_succ_eq_append_getElem h, List.any_append]
  simp

set_option maxHeartbeats 2000000 in
theorem specShown_calls (w : World) (v : Value) (l : List St) (i : Nat) (f : Fa) (hv : StepsAt w v l) (hl : l.length ≤ 1048576) (hi : i < l.length) (hfr : l[i].fr.length ≤ 1048576) :
    Calls Try.prog 88 #[v, .int .i64 (i : Int), faV f] w fun e w' => e = .returned (.bool (shown l l[i].fr (i : Int) f)) ∧ Below w.heap.size w w' := by
  obtain ⟨r, HER⟩ : ∃ r : Bool, Hid (r = shown l l[i].fr (i : Int) f) := ⟨shown l l[i].fr (i : Int) f, (rfl : shown l l[i].fr (i : Int) f = _)⟩
  rw [← HER.out]
  obtain ⟨f0, f1, f2⟩ := f
  simp only [faV]
  have hbA := (Below.refl w.heap.size w).alloc (Nat.le_refl _) (.cells #[.int .i64 f0, .int .i64 f1, .int .i64 f2] 36)
  have HBA := hide hbA
  have HV1 := hide (hv.below hbA (Nat.le_refl _))
  have HG := hide (Blk.new w #[.int .i64 f0, .int .i64 f1, .int .i64 f2] 36)
  obtain ⟨a, ca, rfl, -⟩ := hv
  have HA : Hid (∀ j (hj : j < l.length), ∃ g off, a = some ⟨g, off, none⟩ ∧ g < (w.alloc (.cells #[.int .i64 f0, .int .i64 f1, .int .i64 f2] 36)).heap.size ∧ (∀ i, i < 13 → (w.alloc (.cells #[.int .i64 f0, .int .i64 f1, .int .i64 f2] 36)).cell? ⟨g, off + j * 14 + i, none⟩ = ((ints l[j])[i]?).map (.int .i64 ·)) ∧ ∃ u, (w.alloc (.cells #[.int .i64 f0, .int .i64 f1, .int .i64 f2] 36)).cell? ⟨g, off + j * 14 + 13, none⟩ = some u ∧ IntsAt (w.alloc (.cells #[.int .i64 f0, .int .i64 f1, .int .i64 f2] 36)) u l[j].fr) := by
    obtain ⟨a', ca', h1, h2⟩ := HV1.out
    cases h1
    exact h2
  have HST := hide (fun k (h : k < l[i].fr.length) => shown_take l l[i].fr (i : Int) ⟨f0, f1, f2⟩ k h)
  have HEnd : Hid (shown l (l[i].fr.take l[i].fr.length) (i : Int) ⟨f0, f1, f2⟩ = shown l l[i].fr (i : Int) ⟨f0, f1, f2⟩) := by show _ = _; rw [List.take_length]
  have HAny : Hid (∀ k (hk : k < l[i].fr.length), ((0 ≤ l[i].fr[k] ∧ l[i].fr[k] ≤ (i : Int) - 1) ∧ fa l l[i].fr[k] = ⟨f0, f1, f2⟩) → shown l l[i].fr (i : Int) ⟨f0, f1, f2⟩ = true) := fun k hk h => by
    unfold shown
    exact List.any_eq_true.2 ⟨l[i].fr[k], List.getElem_mem hk, by simpa using h⟩
  clear hbA HV1
  go_enter Try.func88, Try.ntmps88
  go_wp2_with fail
  obtain ⟨b0, e0⟩ : ∃ b, b = w.heap.size := ⟨_, rfl⟩
  rw [← e0] at HG ⊢
  clear e0
  generalize w.alloc (.cells #[.int .i64 f0, .int .i64 f1, .int .i64 f2] 36) = w1 at *
  obtain ⟨gi, oi, rfl, hgi, -, u, hu, hI⟩ := HA.out i hi
  obtain ⟨au, cu, rfl, hIc⟩ := hI
  have HIc := hide hIc
  have HU := hide hu
  generalize hFR : l[i].fr = fr at *
  clear hIc hu hFR
  have hw1 : w.heap.size ≤ w1.heap.size := HBA.out.size
  go_loopw [7] (fun q wr => ∃ k : Nat, k ≤ fr.length ∧ q = .int .i64 k ∧ Hid (Below w1.heap.size w1 wr) ∧ Hid (shown l (fr.take k) (i : Int) ⟨f0, f1, f2⟩ = false)) (fun q _ => fr.length - (intOf q).toNat)
  case atStart => exact ⟨0, Nat.zero_le _, rfl, Below.refl _ _, rfl⟩
  case round =>
    obtain ⟨k, hk, rfl, HB, HN⟩ := hrel
    have hsz := HB.out.size
    have hc13 : wr.cell? ⟨gi, oi + i * 14 + 13, none⟩ = some (.slice au fr.length cu) := (HB.out.cell (p := ⟨gi, oi + i * 14 + 13, none⟩) hgi).trans HU.out
    have hgi' : gi < wr.heap.size := by omega
    have hii : (i : Int) < (l.length : Int) := by omega
    by_cases hlt : k < fr.length
    · obtain ⟨gf, of, rfl, hgf, hcf⟩ := HIc.out k hlt
      have hcf' : wr.cell? ⟨gf, of + k, none⟩ = some (.int .i64 fr[k]) := (HB.out.cell (p := ⟨gf, of + k, none⟩) hgf).trans hcf
      have hgf' : gf < wr.heap.size := by omega
      have hst := HST.out k hlt
      have hany := HAny.out k hlt
      clear hcf
      generalize fr[k] = x at *
      have HI : Hid (∀ wx, Calls Try.prog 85 #[.int .i64 x, .int .i64 0, .int .i64 ((i : Int) - 1)] wx fun e w' => e = .returned (.bool (decide (0 ≤ x ∧ x ≤ (i : Int) - 1))) ∧ Below wx.heap.size wx w') := fun wx => (l01In_calls x 0 ((i : Int) - 1) wx).mono fun e w' ⟨h1, h2⟩ => ⟨h1, by rw [h2]; exact Below.refl _ _⟩
      have hnn := Near.some wr.heap.size wr
      have HGr := hide (HG.out.below HB.out HG.out.lt)
      have hb5 := HGr.out.lt
      have m0 : ∀ p : Near wr.heap.size wr, p.w.cell? ⟨b0, 0, none⟩ = some (.int .i64 f0) := fun p => by rw [(HGr.out.below p.h hb5).cell 0]; rfl
      have m1 : ∀ p : Near wr.heap.size wr, p.w.cell? ⟨b0, 1, none⟩ = some (.int .i64 f1) := fun p => by rw [(HGr.out.below p.h hb5).cell 1]; rfl
      have m2 : ∀ p : Near wr.heap.size wr, p.w.cell? ⟨b0, 2, none⟩ = some (.int .i64 f2) := fun p => by rw [(HGr.out.below p.h hb5).cell 2]; rfl
      by_cases hx : 0 ≤ x ∧ x ≤ (i : Int) - 1
      · obtain ⟨m, rfl, hml, gm, om, hgm, hgml, y0, y1, y2⟩ := fact_cells (x := x) hx.1 (by omega) HA.out
        cases hgm
        simp only [decide_eq_true hx] at HI
        have hmi : (m : Int) < (l.length : Int) := by omega
        have z0 : ∀ p : Near wr.heap.size wr, p.w.cell? ⟨gi, oi + m * 14 + 10, none⟩ = some (.int .i64 (fa l (m : Int)).a) := fun p => (p.h.cell (p := ⟨gi, oi + m * 14 + 10, none⟩) hgi').trans ((HB.out.cell (p := ⟨gi, oi + m * 14 + 10, none⟩) hgi).trans y0)
        have z1 : ∀ p : Near wr.heap.size wr, p.w.cell? ⟨gi, oi + m * 14 + 11, none⟩ = some (.int .i64 (fa l (m : Int)).b) := fun p => (p.h.cell (p := ⟨gi, oi + m * 14 + 11, none⟩) hgi').trans ((HB.out.cell (p := ⟨gi, oi + m * 14 + 11, none⟩) hgi).trans y1)
        have z2 : ∀ p : Near wr.heap.size wr, p.w.cell? ⟨gi, oi + m * 14 + 12, none⟩ = some (.int .i64 (fa l (m : Int)).w) := fun p => (p.h.cell (p := ⟨gi, oi + m * 14 + 12, none⟩) hgi').trans ((HB.out.cell (p := ⟨gi, oi + m * 14 + 12, none⟩) hgi).trans y2)
        have HST2 := hide hst
        have HANY := hide hany
        clear hst hany y0 y1 y2
        generalize fa l (m : Int) = y at *
        obtain ⟨ya, yb, yw⟩ := y
        dsimp only at z0 z1 z2
        by_cases q1 : ya = f0
        · subst q1
          by_cases q2 : yb = f1
          · subst q2
            by_cases q3 : yw = f2
            · subst q3
              have HR : Hid (r = true) := HER.out.trans (HANY.out ⟨hx, rfl⟩)
              clear HST2 HANY
              go_wp2_with fail
              refine wp_region_near wr.heap.size wr (Below.refl _ _) (by kernel_rfl) (by kernel_rfl) ?_
              repeat (go_big_quiet_step (first | rfl | exact calls_near (Nat.le_refl _) (HI.out _)))
              refine wpQuiet_nil ?_
              rintro w10 ⟨pq, rfl⟩
              have hqb := pq.h
              obtain ⟨w10, hq⟩ := pq
              simp only at hqb ⊢
              have HB10 := hide (HB.out.trans (hqb.mono HB.out.size))
              clear hq hqb hnn m0 m1 m2 z0 z1 z2
              go_wp2_with fail
              go_ret
              exact ⟨by rw [HR.out]; rfl, HBA.out.trans (HB10.out.mono HBA.out.size)⟩
            · skip
              have HST3 : Hid (shown l (fr.take (k + 1)) (i : Int) ⟨ya, yb, f2⟩ = false) := by
                show _ = _
                rw [HST2.out, HN.out]
                simp only [Bool.false_or, decide_eq_false_iff_not]
                rintro ⟨_, h⟩
                simp only [Fa.mk.injEq] at h
                exact q3 h.2.2
              clear HST2 HANY
              go_wp2_with fail
              refine wp_region_near wr.heap.size wr (Below.refl _ _) (by kernel_rfl) (by kernel_rfl) ?_
              repeat (go_big_quiet_step (first | rfl | exact calls_near (Nat.le_refl _) (HI.out _)))
              refine wpQuiet_nil ?_
              rintro w10 ⟨pq, rfl⟩
              have hqb := pq.h
              obtain ⟨w10, hq⟩ := pq
              simp only at hqb ⊢
              have HB10 := hide (HB.out.trans (hqb.mono HB.out.size))
              clear hq hqb hnn m0 m1 m2 z0 z1 z2
              go_wp2_with fail
              go_roundw
              case rel => exact ⟨k + 1, by omega, by go_num, HB10.out, HST3.out⟩
              case measure => simp [intOf]; omega
          · skip
            have HST3 : Hid (shown l (fr.take (k + 1)) (i : Int) ⟨ya, f1, f2⟩ = false) := by
              show _ = _
              rw [HST2.out, HN.out]
              simp only [Bool.false_or, decide_eq_false_iff_not]
              rintro ⟨_, h⟩
              simp only [Fa.mk.injEq] at h
              exact q2 h.2.1
            clear HST2 HANY
            go_wp2_with fail
            refine wp_region_near wr.heap.size wr (Below.refl _ _) (by kernel_rfl) (by kernel_rfl) ?_
            repeat (go_big_quiet_step (first | rfl | exact calls_near (Nat.le_refl _) (HI.out _)))
            refine wpQuiet_nil ?_
            rintro w10 ⟨pq, rfl⟩
            have hqb := pq.h
            obtain ⟨w10, hq⟩ := pq
            simp only at hqb ⊢
            have HB10 := hide (HB.out.trans (hqb.mono HB.out.size))
            clear hq hqb hnn m0 m1 m2 z0 z1 z2
            go_wp2_with fail
            go_roundw
            case rel => exact ⟨k + 1, by omega, by go_num, HB10.out, HST3.out⟩
            case measure => simp [intOf]; omega
        · skip
          have HST3 : Hid (shown l (fr.take (k + 1)) (i : Int) ⟨f0, f1, f2⟩ = false) := by
            show _ = _
            rw [HST2.out, HN.out]
            simp only [Bool.false_or, decide_eq_false_iff_not]
            rintro ⟨_, h⟩
            simp only [Fa.mk.injEq] at h
            exact q1 h.1
          clear HST2 HANY
          go_wp2_with fail
          refine wp_region_near wr.heap.size wr (Below.refl _ _) (by kernel_rfl) (by kernel_rfl) ?_
          repeat (go_big_quiet_step (first | rfl | exact calls_near (Nat.le_refl _) (HI.out _)))
          refine wpQuiet_nil ?_
          rintro w10 ⟨pq, rfl⟩
          have hqb := pq.h
          obtain ⟨w10, hq⟩ := pq
          simp only at hqb ⊢
          have HB10 := hide (HB.out.trans (hqb.mono HB.out.size))
          clear hq hqb hnn m0 m1 m2 z0 z1 z2
          go_wp2_with fail
          go_roundw
          case rel => exact ⟨k + 1, by omega, by go_num, HB10.out, HST3.out⟩
          case measure => simp [intOf]; omega
      · simp only [decide_eq_false hx] at HI
        have HST3 : Hid (shown l (fr.take (k + 1)) (i : Int) ⟨f0, f1, f2⟩ = false) := by
          show _ = _
          rw [hst, HN.out]
          simp only [Bool.false_or, decide_eq_false_iff_not]
          exact fun h => hx h.1
        clear hst hany
        go_wp2_with fail
        refine wp_region_near wr.heap.size wr (Below.refl _ _) (by kernel_rfl) (by kernel_rfl) ?_
        repeat (go_big_quiet_step (first | rfl | exact calls_near (Nat.le_refl _) (HI.out _)))
        refine wpQuiet_nil ?_
        rintro w10 ⟨pq, rfl⟩
        have hqb := pq.h
        obtain ⟨w10, hq⟩ := pq
        simp only at hqb ⊢
        have HB10 := hide (HB.out.trans (hqb.mono HB.out.size))
        clear hq hqb hnn m0 m1 m2
        go_wp2_with fail
        go_roundw
        case rel => exact ⟨k + 1, by omega, by go_num, HB10.out, HST3.out⟩
        case measure => simp [intOf]; omega
    · have hkl : k = fr.length := by omega
      have HR : Hid (r = false) := by
        have h1 := HEnd.out
        have h2 := HN.out
        rw [hkl, h1] at h2
        exact HER.out.trans h2
      go_wp2_with fail
      go_ret
      exact ⟨by rw [HR.out]; rfl, HBA.out.trans (HB.out.mono HBA.out.size)⟩
end Go.Proofs.Ythafpkpmnhgmaaa.P7
namespace Go.Proofs.Ythafpkpmnhgmaaa.P7
set_option maxRecDepth 8000
open Go.RowKit P1 P5 P6 Rc Rr

theorem eqFact_run (w : World) (x y : Fa) : (Op.equal 36 (faV x) (faV y)).run Try.prog w = .ok (decide (x = y)) w := by
  obtain ⟨a, b, c⟩ := x
  obtain ⟨a', b', c'⟩ := y
  by_cases h1 : a = a'
  · subst h1
    by_cases h2 : b = b'
    · subst h2
      by_cases h3 : c = c'
      · subst h3
        simp [Op.equal, Op.maxDepth, go_sem]
      · simp [Op.equal, Op.maxDepth, go_sem, h3]
    · simp [Op.equal, Op.maxDepth, go_sem, h2]
  · simp [Op.equal, Op.maxDepth, go_sem, h1]

theorem eqRole_run (w : World) (a b a' b' : Int) : (Op.equal 34 (roleV a b) (roleV a' b')).run Try.prog w = .ok (decide (a = a' ∧ b = b')) w := by
  by_cases h1 : a = a'
  · subst h1
    by_cases h2 : b = b'
    · subst h2
      simp [Op.equal, Op.maxDepth, go_sem]
    · simp [Op.equal, Op.maxDepth, go_sem, h2]
  · simp [Op.equal, Op.maxDepth, go_sem, h1]

/-- What is left of StepOk behind the first tests. -/
theorem okAt_false1 {l : List St} {s : St} {i : Int} (h : ¬ credOk s.c) : okAt l s i = false := by simp [okAt, h]
theorem okAt_false2 {l : List St} {s : St} {i : Int} (h : ¬ (s.f.a = s.c.ow ∧ s.f.b = s.c.on)) : okAt l s i = false := by simp [okAt, h]
theorem okAt_false3 {l : List St} {s : St} {i : Int} {k : Nat} (hk : k < s.fr.length) (h : ¬ (0 ≤ s.fr[k] ∧ s.fr[k] ≤ i - 1)) : okAt l s i = false := by
  have : s.fr.all (fun x => decide (0 ≤ x ∧ x ≤ i - 1)) = false := by
    rw [List.all_eq_false]
    exact ⟨s.fr[k], List.getElem_mem hk, by simpa using h⟩
  simp only [okAt, this, Bool.and_false, Bool.false_and]
theorem okAt_fits {l : List St} {s : St} {i : Int} (h1 : credOk s.c) (h2 : s.f.a = s.c.ow ∧ s.f.b = s.c.on) (h3 : ∀ x ∈ s.fr, 0 ≤ x ∧ x ≤ i - 1) : okAt l s i = fits l s i := by
  have : s.fr.all (fun x => decide (0 ≤ x ∧ x ≤ i - 1)) = true := by
    rw [List.all_eq_true]
    exact fun x hx => by simpa using h3 x hx
  simp only [okAt, this, decide_eq_true h1, decide_eq_true h2, Bool.true_and]

set_option maxHeartbeats 4000000 in
theorem specStepOk_calls (w : World) (v : Value) (l : List St) (i : Int) (hv : StepsAt w v l) (hl : l.length ≤ 1048576) (hfr : ∀ s ∈ l, s.fr.length ≤ 1048576) :
    Calls Try.prog 32 #[v, .int .i64 i] w fun e w' => e = .returned (.bool (stepOk l i)) ∧ Below w.heap.size w w' := by
  have HV := hide hv
  obtain ⟨a, ca, rfl, -⟩ := hv
  by_cases hi : 0 ≤ i ∧ i ≤ (l.length : Int) - 1
  · obtain ⟨j, rfl⟩ : ∃ j : Nat, i = (j : Int) := ⟨i.toNat, by omega⟩
    have hj : j < l.length := by omega
    have hok : stepOk l (j : Int) = okAt l l[j] (j : Int) := by
      unfold stepOk
      rw [decide_eq_true hi, Bool.true_and, show ((j : Int)).toNat = j from by omega, getD_lt hj]
    obtain ⟨r, Er⟩ : ∃ r, r = stepOk l (j : Int) := ⟨_, rfl⟩
    rw [← Er]
    have HR := hide (Er.trans hok)
    have HIn : Hid (∀ wx, Calls Try.prog 85 #[.int .i64 (j : Int), .int .i64 0, .int .i64 ((l.length : Int) - 1)] wx fun e w' => e = .returned (.bool true) ∧ w' = wx) := fun wx => by
      have := l01In_calls (j : Int) 0 ((l.length : Int) - 1) wx
      rw [decide_eq_true hi] at this
      exact this
    have HSH := hide (fun wx f (h : StepsAt wx (.slice a l.length ca) l) => specShown_calls wx _ l j f h hl hj (hfr _ (List.getElem_mem hj)))
    have hfl := hfr l[j] (List.getElem_mem hj)
    obtain ⟨a', ca', h1, h2⟩ := HV.out
    cases h1
    obtain ⟨g, off, hga, hg, hc, u0, hu, hI⟩ := h2 j hj
    have HII := hide hI
    obtain ⟨au, cu, rfl, -⟩ := hI
    clear h2 hok Er hi
    have hjj : (j : Int) < (l.length : Int) := by omega
    generalize hs : l[j] = s at *
    have HOKs := hide (fun wx => specCredOk_calls s.c wx)
    obtain ⟨⟨k, ow, on, wh, aw, an, bw, bn, u, n⟩, ⟨fa, fb, fw⟩, fr⟩ := s
    dsimp only at hfl HII HSH hu
    subst hga
    have f0 : w.cell? ⟨g, off + j * 14, none⟩ = some (.int .i64 k) := hc 0 (by decide)
    have f1 : w.cell? ⟨g, off + j * 14 + 1, none⟩ = some (.int .i64 ow) := hc 1 (by decide)
    have f2 : w.cell? ⟨g, off + j * 14 + 2, none⟩ = some (.int .i64 on) := hc 2 (by decide)
    have f3 : w.cell? ⟨g, off + j * 14 + 3, none⟩ = some (.int .i64 wh) := hc 3 (by decide)
    have f4 : w.cell? ⟨g, off + j * 14 + 4, none⟩ = some (.int .i64 aw) := hc 4 (by decide)
    have f5 : w.cell? ⟨g, off + j * 14 + 5, none⟩ = some (.int .i64 an) := hc 5 (by decide)
    have f6 : w.cell? ⟨g, off + j * 14 + 6, none⟩ = some (.int .i64 bw) := hc 6 (by decide)
    have f7 : w.cell? ⟨g, off + j * 14 + 7, none⟩ = some (.int .i64 bn) := hc 7 (by decide)
    have f8 : w.cell? ⟨g, off + j * 14 + 8, none⟩ = some (.int .i64 u) := hc 8 (by decide)
    have f9 : w.cell? ⟨g, off + j * 14 + 9, none⟩ = some (.int .i64 n) := hc 9 (by decide)
    have f10 : w.cell? ⟨g, off + j * 14 + 10, none⟩ = some (.int .i64 fa) := hc 10 (by decide)
    have f11 : w.cell? ⟨g, off + j * 14 + 11, none⟩ = some (.int .i64 fb) := hc 11 (by decide)
    have f12 : w.cell? ⟨g, off + j * 14 + 12, none⟩ = some (.int .i64 fw) := hc 12 (by decide)
    have f13 : w.cell? ⟨g, off + j * 14 + 13, none⟩ = some (.slice au fr.length cu) := hu
    clear hc hu hs
    simp only [credV] at HOKs
    have hb1 := (Below.refl w.heap.size w).alloc (Nat.le_refl _) (.cells #[.int .i64 k, .int .i64 ow, .int .i64 on, .int .i64 wh, .int .i64 aw, .int .i64 an, .int .i64 bw, .int .i64 bn, .int .i64 u, .int .i64 n, .int .i64 fa, .int .i64 fb, .int .i64 fw, .slice au fr.length cu] 95)
    have HB2 := hide (hb1.alloc hb1.size (.cells #[.int .i64 k, .int .i64 ow, .int .i64 on, .int .i64 wh, .int .i64 aw, .int .i64 an, .int .i64 bw, .int .i64 bn, .int .i64 u, .int .i64 n] 39))
    have g5 := Blk.new w #[.int .i64 k, .int .i64 ow, .int .i64 on, .int .i64 wh, .int .i64 aw, .int .i64 an, .int .i64 bw, .int .i64 bn, .int .i64 u, .int .i64 n, .int .i64 fa, .int .i64 fb, .int .i64 fw, .slice au fr.length cu] 95
    have G5 := hide (g5.below ((Below.refl _ _).alloc (Nat.le_refl _) (.cells #[.int .i64 k, .int .i64 ow, .int .i64 on, .int .i64 wh, .int .i64 aw, .int .i64 an, .int .i64 bw, .int .i64 bn, .int .i64 u, .int .i64 n] 39)) g5.lt)
    have g6 := Blk.new (w.alloc (.cells #[.int .i64 k, .int .i64 ow, .int .i64 on, .int .i64 wh, .int .i64 aw, .int .i64 an, .int .i64 bw, .int .i64 bn, .int .i64 u, .int .i64 n, .int .i64 fa, .int .i64 fb, .int .i64 fw, .slice au fr.length cu] 95)) #[.int .i64 k, .int .i64 ow, .int .i64 on, .int .i64 wh, .int .i64 aw, .int .i64 an, .int .i64 bw, .int .i64 bn, .int .i64 u, .int .i64 n] 39
    rw [show (w.alloc (.cells #[.int .i64 k, .int .i64 ow, .int .i64 on, .int .i64 wh, .int .i64 aw, .int .i64 an, .int .i64 bw, .int .i64 bn, .int .i64 u, .int .i64 n, .int .i64 fa, .int .i64 fb, .int .i64 fw, .slice au fr.length cu] 95)).heap.size = w.heap.size + 1 from by simp [go_sem]] at g6
    have G6 := hide g6
    clear hb1 g5 g6
    go_enter Try.func32, Try.ntmps32
    go_wp2_with fail
    refine (HIn.out w).mono ?_
    rintro e wz ⟨rfl, rfl⟩
    go_wp2_with fail
    clear f0 f1 f2 f3 f4 f5 f6 f7 f8 f9 f10 f11 f12 f13
    obtain ⟨b6, e6⟩ : ∃ b, b = wz.heap.size + 1 := ⟨_, rfl⟩
    obtain ⟨b5, e5⟩ : ∃ b, b = wz.heap.size := ⟨_, rfl⟩
    rw [← e6] at G6 ⊢
    rw [← e5] at G5 ⊢
    clear e5 e6
    generalize (wz.alloc (.cells #[.int .i64 k, .int .i64 ow, .int .i64 on, .int .i64 wh, .int .i64 aw, .int .i64 an, .int .i64 bw, .int .i64 bn, .int .i64 u, .int .i64 n, .int .i64 fa, .int .i64 fb, .int .i64 fw, .slice au fr.length cu] 95)).alloc (.cells #[.int .i64 k, .int .i64 ow, .int .i64 on, .int .i64 wh, .int .i64 aw, .int .i64 an, .int .i64 bw, .int .i64 bn, .int .i64 u, .int .i64 n] 39) = w2 at *
    refine (HOKs.out w2).mono ?_
    rintro e w3 ⟨rfl, hb⟩
    have G5 := hide (G5.out.below hb G5.out.lt)
    have G6 := hide (G6.out.below hb G6.out.lt)
    have HB3 := hide (HB2.out.trans (hb.mono HB2.out.size))
    clear hb HB2 HIn HOKs
    by_cases hok : credOk ⟨k, ow, on, wh, aw, an, bw, bn, u, n⟩
    · rw [decide_eq_true hok]
      have x0 : w3.cell? ⟨b5, 0, none⟩ = some (.int .i64 k) := by rw [G5.out.cell 0]; rfl
      have x1 : w3.cell? ⟨b5, 1, none⟩ = some (.int .i64 ow) := by rw [G5.out.cell 1]; rfl
      have x2 : w3.cell? ⟨b5, 2, none⟩ = some (.int .i64 on) := by rw [G5.out.cell 2]; rfl
      have x3 : w3.cell? ⟨b5, 3, none⟩ = some (.int .i64 wh) := by rw [G5.out.cell 3]; rfl
      have x4 : w3.cell? ⟨b5, 4, none⟩ = some (.int .i64 aw) := by rw [G5.out.cell 4]; rfl
      have x5 : w3.cell? ⟨b5, 5, none⟩ = some (.int .i64 an) := by rw [G5.out.cell 5]; rfl
      have x6 : w3.cell? ⟨b5, 6, none⟩ = some (.int .i64 bw) := by rw [G5.out.cell 6]; rfl
      have x7 : w3.cell? ⟨b5, 7, none⟩ = some (.int .i64 bn) := by rw [G5.out.cell 7]; rfl
      have x8 : w3.cell? ⟨b5, 8, none⟩ = some (.int .i64 u) := by rw [G5.out.cell 8]; rfl
      have x9 : w3.cell? ⟨b5, 9, none⟩ = some (.int .i64 n) := by rw [G5.out.cell 9]; rfl
      have x10 : w3.cell? ⟨b5, 10, none⟩ = some (.int .i64 fa) := by rw [G5.out.cell 10]; rfl
      have x11 : w3.cell? ⟨b5, 11, none⟩ = some (.int .i64 fb) := by rw [G5.out.cell 11]; rfl
      have x12 : w3.cell? ⟨b5, 12, none⟩ = some (.int .i64 fw) := by rw [G5.out.cell 12]; rfl
      have x13 : w3.cell? ⟨b5, 13, none⟩ = some (.slice au fr.length cu) := by rw [G5.out.cell 13]; rfl
      have y0 : w3.cell? ⟨b6, 0, none⟩ = some (.int .i64 k) := by rw [G6.out.cell 0]; rfl
      have y1 : w3.cell? ⟨b6, 1, none⟩ = some (.int .i64 ow) := by rw [G6.out.cell 1]; rfl
      have y2 : w3.cell? ⟨b6, 2, none⟩ = some (.int .i64 on) := by rw [G6.out.cell 2]; rfl
      have y3 : w3.cell? ⟨b6, 3, none⟩ = some (.int .i64 wh) := by rw [G6.out.cell 3]; rfl
      have y4 : w3.cell? ⟨b6, 4, none⟩ = some (.int .i64 aw) := by rw [G6.out.cell 4]; rfl
      have y5 : w3.cell? ⟨b6, 5, none⟩ = some (.int .i64 an) := by rw [G6.out.cell 5]; rfl
      have y6 : w3.cell? ⟨b6, 6, none⟩ = some (.int .i64 bw) := by rw [G6.out.cell 6]; rfl
      have y7 : w3.cell? ⟨b6, 7, none⟩ = some (.int .i64 bn) := by rw [G6.out.cell 7]; rfl
      have y8 : w3.cell? ⟨b6, 8, none⟩ = some (.int .i64 u) := by rw [G6.out.cell 8]; rfl
      have y9 : w3.cell? ⟨b6, 9, none⟩ = some (.int .i64 n) := by rw [G6.out.cell 9]; rfl
      have l5 := G5.out.lt
      have l6 := G6.out.lt
      have hk := hok.2
      unfold P5.kindOk at hk
      have hk4 : k = 1 ∨ k = 2 ∨ k = 3 ∨ k = 4 := by
        dsimp only at hk
        rcases hk with ⟨h, _⟩ | ⟨h, _⟩ | ⟨h, _⟩ | ⟨h, _⟩ <;> omega
      clear hk
      by_cases q1 : fa = ow
      · by_cases q2 : fb = on
        · subst q1
          subst q2
          have hkf := hk4
          have HKI := hide (HII.out.below HB3.out (Nat.le_refl _))
          have HAl0 : Hid (∀ (t : Nat) (ht : t < fr.length), t < 0 → 0 ≤ fr[t] ∧ fr[t] ≤ (j : Int) - 1) := fun t ht h => by omega
          obtain ⟨au', cu', hau, hIc⟩ := HKI.out
          cases hau
          have HIc := hide hIc
          clear hIc
          go_wp2_with fail
          go_loop [7] (fun q => ∃ m : Nat, m ≤ fr.length ∧ q = .int .i64 m ∧ Hid (∀ (t : Nat) (ht : t < fr.length), t < m → 0 ≤ fr[t] ∧ fr[t] ≤ (j : Int) - 1)) (fun q => fr.length - (intOf q).toNat)
          case atStart => exact ⟨0, Nat.zero_le _, rfl, HAl0.out⟩
          case round =>
            obtain ⟨m, hm, rfl, HAm⟩ := hrel
            by_cases hlt : m < fr.length
            · obtain ⟨gf, of, rfl, hgf, hcf⟩ := HIc.out m hlt
              have hnx : ∀ (h : 0 ≤ fr[m] ∧ fr[m] ≤ (j : Int) - 1), ∀ (t : Nat) (ht : t < fr.length), t < m + 1 → 0 ≤ fr[t] ∧ fr[t] ≤ (j : Int) - 1 := fun h t ht h' => by
                by_cases e : t = m
                · subst e
                  exact h
                · exact HAm.out t ht (by omega)
              have hbad : ∀ (h : ¬ (0 ≤ fr[m] ∧ fr[m] ≤ (j : Int) - 1)), r = false := fun h => HR.out.trans (okAt_false3 (s := ⟨⟨k, fa, fb, wh, aw, an, bw, bn, u, n⟩, ⟨fa, fb, fw⟩, fr⟩) hlt h)
              generalize fr[m] = x at *
              have HNX := hide hnx
              have HBAD := hide hbad
              clear hnx hbad
              have HI := hide (l01In_calls x 0 ((j : Int) - 1) w3)
              by_cases hx : 0 ≤ x ∧ x ≤ (j : Int) - 1
              · rw [decide_eq_true hx] at HI
                have HX := hide (HNX.out hx)
                clear HNX HBAD hx
                go_wp2_with fail
                refine HI.out.mono ?_
                rintro e w5 ⟨rfl, rfl⟩
                go_wp2_with fail
                go_round
                case rel => exact ⟨m + 1, by omega, by go_num, HX.out⟩
                case measure => simp [intOf]; omega
              · rw [decide_eq_false hx] at HI
                have HX := hide (HBAD.out hx)
                clear HNX HBAD hx
                go_wp2_with fail
                refine HI.out.mono ?_
                rintro e w5 ⟨rfl, rfl⟩
                go_wp2_with fail
                go_ret
                exact ⟨by rw [HX.out]; rfl, HB3.out⟩
            · have HAll : Hid (∀ x ∈ fr, 0 ≤ x ∧ x ≤ (j : Int) - 1) := fun x hx => by
                obtain ⟨t, ht, rfl⟩ := List.getElem_of_mem hx
                exact HAm.out t ht (by omega)
              have HR2 : Hid (r = fits l ⟨⟨k, fa, fb, wh, aw, an, bw, bn, u, n⟩, ⟨fa, fb, fw⟩, fr⟩ (j : Int)) := HR.out.trans (okAt_fits (s := ⟨⟨k, fa, fb, wh, aw, an, bw, bn, u, n⟩, ⟨fa, fb, fw⟩, fr⟩) hok ⟨rfl, rfl⟩ HAll.out)
              clear HAm HR
              rcases hkf with rfl | rfl | rfl | rfl
              · have HR3 : Hid (r = decide (fw = wh ∧ fr.length = 0)) := by show r = _; rw [HR2.out]; rfl
                clear HR2 HIc HAl0 HKI HII HAll HSH
                by_cases q3 : fw = wh
                · subst q3
                  by_cases q4 : fr.length = 0
                  · have HR4 : Hid (r = true) := by show r = _; rw [HR3.out]; simp [q4]
                    have hbf : ((fr.length : Int) == 0) = true := by simp [q4]
                    clear q4
                    go_wp2_with fail
                    go_ret
                    exact ⟨by rw [HR4.out]; rfl, HB3.out⟩
                  · have HR4 : Hid (r = false) := by show r = _; rw [HR3.out]; simp [q4]
                    have hbf : ((fr.length : Int) == 0) = false := by rw [beq_eq_false_iff_ne]; omega
                    go_wp2_with fail
                    go_ret
                    exact ⟨by rw [HR4.out]; rfl, HB3.out⟩
                · have HR4 : Hid (r = false) := by show r = _; rw [HR3.out]; simp [q3]
                  have hbf : (fw == wh) = false := by simp [q3]
                  go_wp2_with fail
                  go_ret
                  exact ⟨by rw [HR4.out]; rfl, HB3.out⟩
              · have HR3 : Hid (r = (decide (fr.length = 1) && shown l fr (j : Int) ⟨aw, an, fw⟩)) := by show r = _; rw [HR2.out]; rfl
                have HSHc := hide (HSH.out w3 ⟨aw, an, fw⟩ (HV.out.below HB3.out (Nat.le_refl _)))
                simp only [faV] at HSHc
                generalize shown l fr (j : Int) ⟨aw, an, fw⟩ = sh at *
                clear HR2 HIc HAl0 HKI HII HAll HSH
                by_cases q4 : fr.length = 1
                · have HR4 : Hid (r = sh) := by show r = _; rw [HR3.out]; simp [q4]
                  have hbf : ((fr.length : Int) == 1) = true := by simp [q4]
                  clear q4
                  go_wp2_with fail
                  refine HSHc.out.mono ?_
                  rintro e w5 ⟨rfl, hb⟩
                  have HB5 := hide (HB3.out.trans (hb.mono HB3.out.size))
                  clear hb
                  go_wp2_with fail
                  go_ret
                  exact ⟨by rw [HR4.out]; rfl, HB5.out⟩
                · have HR4 : Hid (r = false) := by show r = _; rw [HR3.out]; simp [q4]
                  have hbf : ((fr.length : Int) == 1) = false := by rw [beq_eq_false_iff_ne]; omega
                  go_wp2_with fail
                  go_ret
                  exact ⟨by rw [HR4.out]; rfl, HB3.out⟩
              · have HR3 : Hid (r = (decide (fr.length = 2) && decide ((P7.fa l (fr.getD 0 0)).a = aw ∧ (P7.fa l (fr.getD 0 0)).b = an) && decide (P7.fa l (fr.getD 1 0) = ⟨(P7.fa l (fr.getD 0 0)).w, bn, fw⟩))) := by show r = _; rw [HR2.out]; rfl
                have HA3 : Hid (StepsAt w3 (.slice (some ⟨g, off, none⟩) l.length ca) l) := HV.out.below HB3.out (Nat.le_refl _)
                have hnn := Near.some w3.heap.size w3
                have X10 : ∀ p : Near w3.heap.size w3, p.w.cell? ⟨b5, 10, none⟩ = some (.int .i64 fa) := fun p => (p.h.cell (p := ⟨b5, 10, none⟩) l5).trans x10
                have X11 : ∀ p : Near w3.heap.size w3, p.w.cell? ⟨b5, 11, none⟩ = some (.int .i64 fb) := fun p => (p.h.cell (p := ⟨b5, 11, none⟩) l5).trans x11
                have X12 : ∀ p : Near w3.heap.size w3, p.w.cell? ⟨b5, 12, none⟩ = some (.int .i64 fw) := fun p => (p.h.cell (p := ⟨b5, 12, none⟩) l5).trans x12
                have X13 : ∀ p : Near w3.heap.size w3, p.w.cell? ⟨b5, 13, none⟩ = some (.slice au fr.length cu) := fun p => (p.h.cell (p := ⟨b5, 13, none⟩) l5).trans x13
                have Y4 : ∀ p : Near w3.heap.size w3, p.w.cell? ⟨b6, 4, none⟩ = some (.int .i64 aw) := fun p => (p.h.cell (p := ⟨b6, 4, none⟩) l6).trans y4
                have Y5 : ∀ p : Near w3.heap.size w3, p.w.cell? ⟨b6, 5, none⟩ = some (.int .i64 an) := fun p => (p.h.cell (p := ⟨b6, 5, none⟩) l6).trans y5
                have Y6 : ∀ p : Near w3.heap.size w3, p.w.cell? ⟨b6, 6, none⟩ = some (.int .i64 bw) := fun p => (p.h.cell (p := ⟨b6, 6, none⟩) l6).trans y6
                have Y7 : ∀ p : Near w3.heap.size w3, p.w.cell? ⟨b6, 7, none⟩ = some (.int .i64 bn) := fun p => (p.h.cell (p := ⟨b6, 7, none⟩) l6).trans y7
                clear HR2 HSH HAl0
                by_cases q4 : fr.length = 2
                · obtain ⟨x, y, rfl⟩ : ∃ x y, fr = [x, y] := by
                    match fr, q4 with
                    | [x, y], _ => exact ⟨x, y, rfl⟩
                  have hIc := HIc.out
                  dsimp only [List.length_cons, List.length_nil] at hIc
                  obtain ⟨gf, of, hgf0, hgf, hcf0⟩ := hIc 0 (by decide)
                  obtain ⟨gf', of', hgf1, -, hcf1⟩ := hIc 1 (by decide)
                  cases hgf0
                  cases hgf1
                  simp only [List.getElem_cons_zero, List.getElem_cons_succ, Nat.add_zero] at hcf0 hcf1
                  have i0 : ∀ p : Near w3.heap.size w3, p.w.cell? ⟨gf, of, none⟩ = some (.int .i64 x) := fun p => (p.h.cell (p := ⟨gf, of, none⟩) hgf).trans hcf0
                  have i1 : ∀ p : Near w3.heap.size w3, p.w.cell? ⟨gf, of + 1, none⟩ = some (.int .i64 y) := fun p => (p.h.cell (p := ⟨gf, of + 1, none⟩) hgf).trans hcf1
                  have hxr := HAll.out x (by simp)
                  have hyr := HAll.out y (by simp)
                  obtain ⟨a', ca', h1, h2⟩ := HA3.out
                  cases h1
                  obtain ⟨mx, rfl, hmx, gx, ox, hgx, hgxl, u0, u1, u2⟩ := fact_cells (x := x) hxr.1 (by omega) h2
                  obtain ⟨my, rfl, hmy, gy, oy, hgy, -, t0, t1, t2⟩ := fact_cells (x := y) hyr.1 (by omega) h2
                  cases hgx
                  cases hgy
                  clear h2 hxr hyr
                  have hmx' : (mx : Int) < (l.length : Int) := by omega
                  have hmy' : (my : Int) < (l.length : Int) := by omega
                  have u0' : ∀ p : Near w3.heap.size w3, p.w.cell? ⟨g, off + mx * 14 + 10, none⟩ = some (.int .i64 (P7.fa l (mx : Int)).a) := fun p => (p.h.cell (p := ⟨g, off + mx * 14 + 10, none⟩) hgxl).trans u0
                  have u1' : ∀ p : Near w3.heap.size w3, p.w.cell? ⟨g, off + mx * 14 + 11, none⟩ = some (.int .i64 (P7.fa l (mx : Int)).b) := fun p => (p.h.cell (p := ⟨g, off + mx * 14 + 11, none⟩) hgxl).trans u1
                  have u2' : ∀ p : Near w3.heap.size w3, p.w.cell? ⟨g, off + mx * 14 + 12, none⟩ = some (.int .i64 (P7.fa l (mx : Int)).w) := fun p => (p.h.cell (p := ⟨g, off + mx * 14 + 12, none⟩) hgxl).trans u2
                  have t0' : ∀ p : Near w3.heap.size w3, p.w.cell? ⟨g, off + my * 14 + 10, none⟩ = some (.int .i64 (P7.fa l (my : Int)).a) := fun p => (p.h.cell (p := ⟨g, off + my * 14 + 10, none⟩) hgxl).trans t0
                  have t1' : ∀ p : Near w3.heap.size w3, p.w.cell? ⟨g, off + my * 14 + 11, none⟩ = some (.int .i64 (P7.fa l (my : Int)).b) := fun p => (p.h.cell (p := ⟨g, off + my * 14 + 11, none⟩) hgxl).trans t1
                  have t2' : ∀ p : Near w3.heap.size w3, p.w.cell? ⟨g, off + my * 14 + 12, none⟩ = some (.int .i64 (P7.fa l (my : Int)).w) := fun p => (p.h.cell (p := ⟨g, off + my * 14 + 12, none⟩) hgxl).trans t2
                  simp only [List.length_cons, List.length_nil, List.getD_cons_zero, List.getD_cons_succ, Nat.reduceAdd] at HR3
                  clear HIc HKI HII HAll hIc
                  obtain ⟨xa, xb, xw, hfx⟩ : ∃ xa xb xw, P7.fa l (mx : Int) = ⟨xa, xb, xw⟩ := ⟨_, _, _, rfl⟩
                  obtain ⟨ya, yb, yw, hfy⟩ : ∃ ya yb yw, P7.fa l (my : Int) = ⟨ya, yb, yw⟩ := ⟨_, _, _, rfl⟩
                  rw [hfx, hfy] at HR3
                  simp only [hfx] at u0' u1' u2'
                  simp only [hfy] at t0' t1' t2'
                  clear hfx hfy u0 u1 u2 t0 t1 t2
                  dsimp only at HR3
                  have hbf : (((2 : Nat) : Int) != 2) = false := by simp
                  by_cases q10 : xa = aw
                  · subst q10
                    by_cases q11 : xb = an
                    · subst q11
                      go_wp2_with fail
                      refine wp_region_near w3.heap.size w3 (Below.refl _ _) (by kernel_rfl) (by kernel_rfl) ?_
                      repeat (go_big_quiet_step (first | rfl | fail))
                      refine wpQuiet_nil ?_
                      rintro w10 ⟨pq, rfl⟩
                      have hqb := pq.h
                      obtain ⟨w10, hq⟩ := pq
                      simp only at hqb ⊢
                      have HB10 := hide (HB3.out.trans (hqb.mono HB3.out.size))
                      have PX10 : w10.cell? ⟨b5, 10, none⟩ = some (.int .i64 fa) := X10 ⟨w10, hqb⟩
                      have PX11 : w10.cell? ⟨b5, 11, none⟩ = some (.int .i64 fb) := X11 ⟨w10, hqb⟩
                      have PX12 : w10.cell? ⟨b5, 12, none⟩ = some (.int .i64 fw) := X12 ⟨w10, hqb⟩
                      have PX13 : w10.cell? ⟨b5, 13, none⟩ = some (.slice (some ⟨gf, of, none⟩) 2 cu) := X13 ⟨w10, hqb⟩
                      have PY4 : w10.cell? ⟨b6, 4, none⟩ = some (.int .i64 xa) := Y4 ⟨w10, hqb⟩
                      have PY5 : w10.cell? ⟨b6, 5, none⟩ = some (.int .i64 xb) := Y5 ⟨w10, hqb⟩
                      have PY6 : w10.cell? ⟨b6, 6, none⟩ = some (.int .i64 bw) := Y6 ⟨w10, hqb⟩
                      have PY7 : w10.cell? ⟨b6, 7, none⟩ = some (.int .i64 bn) := Y7 ⟨w10, hqb⟩
                      have Pi0 : w10.cell? ⟨gf, of, none⟩ = some (.int .i64 (mx : Int)) := i0 ⟨w10, hqb⟩
                      have Pi1 : w10.cell? ⟨gf, of + 1, none⟩ = some (.int .i64 (my : Int)) := i1 ⟨w10, hqb⟩
                      have Pu0' : w10.cell? ⟨g, off + mx * 14 + 10, none⟩ = some (.int .i64 xa) := u0' ⟨w10, hqb⟩
                      have Pu1' : w10.cell? ⟨g, off + mx * 14 + 11, none⟩ = some (.int .i64 xb) := u1' ⟨w10, hqb⟩
                      have Pu2' : w10.cell? ⟨g, off + mx * 14 + 12, none⟩ = some (.int .i64 xw) := u2' ⟨w10, hqb⟩
                      have Pt0' : w10.cell? ⟨g, off + my * 14 + 10, none⟩ = some (.int .i64 ya) := t0' ⟨w10, hqb⟩
                      have Pt1' : w10.cell? ⟨g, off + my * 14 + 11, none⟩ = some (.int .i64 yb) := t1' ⟨w10, hqb⟩
                      have Pt2' : w10.cell? ⟨g, off + my * 14 + 12, none⟩ = some (.int .i64 yw) := t2' ⟨w10, hqb⟩
                      have NX10 : ∀ p : Near w10.heap.size w10, p.w.cell? ⟨b5, 10, none⟩ = some (.int .i64 fa) := fun p => (p.h.cell (p := ⟨b5, 10, none⟩) (by have := hqb.size; show b5 < w10.heap.size; omega)).trans PX10
                      have NX11 : ∀ p : Near w10.heap.size w10, p.w.cell? ⟨b5, 11, none⟩ = some (.int .i64 fb) := fun p => (p.h.cell (p := ⟨b5, 11, none⟩) (by have := hqb.size; show b5 < w10.heap.size; omega)).trans PX11
                      have NX12 : ∀ p : Near w10.heap.size w10, p.w.cell? ⟨b5, 12, none⟩ = some (.int .i64 fw) := fun p => (p.h.cell (p := ⟨b5, 12, none⟩) (by have := hqb.size; show b5 < w10.heap.size; omega)).trans PX12
                      have NX13 : ∀ p : Near w10.heap.size w10, p.w.cell? ⟨b5, 13, none⟩ = some (.slice (some ⟨gf, of, none⟩) 2 cu) := fun p => (p.h.cell (p := ⟨b5, 13, none⟩) (by have := hqb.size; show b5 < w10.heap.size; omega)).trans PX13
                      have NY4 : ∀ p : Near w10.heap.size w10, p.w.cell? ⟨b6, 4, none⟩ = some (.int .i64 xa) := fun p => (p.h.cell (p := ⟨b6, 4, none⟩) (by have := hqb.size; show b6 < w10.heap.size; omega)).trans PY4
                      have NY5 : ∀ p : Near w10.heap.size w10, p.w.cell? ⟨b6, 5, none⟩ = some (.int .i64 xb) := fun p => (p.h.cell (p := ⟨b6, 5, none⟩) (by have := hqb.size; show b6 < w10.heap.size; omega)).trans PY5
                      have NY6 : ∀ p : Near w10.heap.size w10, p.w.cell? ⟨b6, 6, none⟩ = some (.int .i64 bw) := fun p => (p.h.cell (p := ⟨b6, 6, none⟩) (by have := hqb.size; show b6 < w10.heap.size; omega)).trans PY6
                      have NY7 : ∀ p : Near w10.heap.size w10, p.w.cell? ⟨b6, 7, none⟩ = some (.int .i64 bn) := fun p => (p.h.cell (p := ⟨b6, 7, none⟩) (by have := hqb.size; show b6 < w10.heap.size; omega)).trans PY7
                      have Ni0 : ∀ p : Near w10.heap.size w10, p.w.cell? ⟨gf, of, none⟩ = some (.int .i64 (mx : Int)) := fun p => (p.h.cell (p := ⟨gf, of, none⟩) (by have := hqb.size; show gf < w10.heap.size; omega)).trans Pi0
                      have Ni1 : ∀ p : Near w10.heap.size w10, p.w.cell? ⟨gf, of + 1, none⟩ = some (.int .i64 (my : Int)) := fun p => (p.h.cell (p := ⟨gf, of + 1, none⟩) (by have := hqb.size; show gf < w10.heap.size; omega)).trans Pi1
                      have Nu0' : ∀ p : Near w10.heap.size w10, p.w.cell? ⟨g, off + mx * 14 + 10, none⟩ = some (.int .i64 xa) := fun p => (p.h.cell (p := ⟨g, off + mx * 14 + 10, none⟩) (by have := hqb.size; show g < w10.heap.size; omega)).trans Pu0'
                      have Nu1' : ∀ p : Near w10.heap.size w10, p.w.cell? ⟨g, off + mx * 14 + 11, none⟩ = some (.int .i64 xb) := fun p => (p.h.cell (p := ⟨g, off + mx * 14 + 11, none⟩) (by have := hqb.size; show g < w10.heap.size; omega)).trans Pu1'
                      have Nu2' : ∀ p : Near w10.heap.size w10, p.w.cell? ⟨g, off + mx * 14 + 12, none⟩ = some (.int .i64 xw) := fun p => (p.h.cell (p := ⟨g, off + mx * 14 + 12, none⟩) (by have := hqb.size; show g < w10.heap.size; omega)).trans Pu2'
                      have Nt0' : ∀ p : Near w10.heap.size w10, p.w.cell? ⟨g, off + my * 14 + 10, none⟩ = some (.int .i64 ya) := fun p => (p.h.cell (p := ⟨g, off + my * 14 + 10, none⟩) (by have := hqb.size; show g < w10.heap.size; omega)).trans Pt0'
                      have Nt1' : ∀ p : Near w10.heap.size w10, p.w.cell? ⟨g, off + my * 14 + 11, none⟩ = some (.int .i64 yb) := fun p => (p.h.cell (p := ⟨g, off + my * 14 + 11, none⟩) (by have := hqb.size; show g < w10.heap.size; omega)).trans Pt1'
                      have Nt2' : ∀ p : Near w10.heap.size w10, p.w.cell? ⟨g, off + my * 14 + 12, none⟩ = some (.int .i64 yw) := fun p => (p.h.cell (p := ⟨g, off + my * 14 + 12, none⟩) (by have := hqb.size; show g < w10.heap.size; omega)).trans Pt2'
                      have hnn2 := Near.some w10.heap.size w10
                      clear hq
                      by_cases q12 : ya = xw
                      · subst q12
                        by_cases q13 : yb = bn
                        · subst q13
                          by_cases q14 : yw = fw
                          · subst q14
                            have HR4 : Hid (r = true) := by show r = _; rw [HR3.out]; simp
                            go_wp2_with fail
                            refine wp_region_near w10.heap.size w10 (Below.refl _ _) (by kernel_rfl) (by kernel_rfl) ?_
                            repeat (go_big_quiet_step (first | rfl | fail))
                            refine wpQuiet_nil ?_
                            rintro w11 ⟨pq, rfl⟩
                            have hqb2 := pq.h
                            obtain ⟨w11, hq2⟩ := pq
                            simp only at hqb2 ⊢
                            have HB11 := hide (HB10.out.trans (hqb2.mono HB10.out.size))
                            clear hq2 hqb2
                            go_wp2_with fail
                            go_ret
                            exact ⟨by rw [HR4.out]; rfl, HB11.out⟩
                          · skip
                            have HR4 : Hid (r = false) := by show r = _; rw [HR3.out]; simp [q14]
                            go_wp2_with fail
                            refine wp_region_near w10.heap.size w10 (Below.refl _ _) (by kernel_rfl) (by kernel_rfl) ?_
                            repeat (go_big_quiet_step (first | rfl | fail))
                            refine wpQuiet_nil ?_
                            rintro w11 ⟨pq, rfl⟩
                            have hqb2 := pq.h
                            obtain ⟨w11, hq2⟩ := pq
                            simp only at hqb2 ⊢
                            have HB11 := hide (HB10.out.trans (hqb2.mono HB10.out.size))
                            clear hq2 hqb2
                            go_wp2_with fail
                            go_ret
                            exact ⟨by rw [HR4.out]; rfl, HB11.out⟩
                        · skip
                          have HR4 : Hid (r = false) := by show r = _; rw [HR3.out]; simp [q13]
                          go_wp2_with fail
                          refine wp_region_near w10.heap.size w10 (Below.refl _ _) (by kernel_rfl) (by kernel_rfl) ?_
                          repeat (go_big_quiet_step (first | rfl | fail))
                          refine wpQuiet_nil ?_
                          rintro w11 ⟨pq, rfl⟩
                          have hqb2 := pq.h
                          obtain ⟨w11, hq2⟩ := pq
                          simp only at hqb2 ⊢
                          have HB11 := hide (HB10.out.trans (hqb2.mono HB10.out.size))
                          clear hq2 hqb2
                          go_wp2_with fail
                          go_ret
                          exact ⟨by rw [HR4.out]; rfl, HB11.out⟩
                      · skip
                        have HR4 : Hid (r = false) := by show r = _; rw [HR3.out]; simp [q12]
                        go_wp2_with fail
                        refine wp_region_near w10.heap.size w10 (Below.refl _ _) (by kernel_rfl) (by kernel_rfl) ?_
                        repeat (go_big_quiet_step (first | rfl | fail))
                        refine wpQuiet_nil ?_
                        rintro w11 ⟨pq, rfl⟩
                        have hqb2 := pq.h
                        obtain ⟨w11, hq2⟩ := pq
                        simp only at hqb2 ⊢
                        have HB11 := hide (HB10.out.trans (hqb2.mono HB10.out.size))
                        clear hq2 hqb2
                        go_wp2_with fail
                        go_ret
                        exact ⟨by rw [HR4.out]; rfl, HB11.out⟩
                    · skip
                      have HR4 : Hid (r = false) := by show r = _; rw [HR3.out]; simp [q11]
                      go_wp2_with fail
                      refine wp_region_near w3.heap.size w3 (Below.refl _ _) (by kernel_rfl) (by kernel_rfl) ?_
                      repeat (go_big_quiet_step (first | rfl | fail))
                      refine wpQuiet_nil ?_
                      rintro w10 ⟨pq, rfl⟩
                      have hqb := pq.h
                      obtain ⟨w10, hq⟩ := pq
                      simp only at hqb ⊢
                      have HB10 := hide (HB3.out.trans (hqb.mono HB3.out.size))
                      go_wp2_with fail
                      go_ret
                      exact ⟨by rw [HR4.out]; rfl, HB10.out⟩
                  · skip
                    have HR4 : Hid (r = false) := by show r = _; rw [HR3.out]; simp [q10]
                    go_wp2_with fail
                    refine wp_region_near w3.heap.size w3 (Below.refl _ _) (by kernel_rfl) (by kernel_rfl) ?_
                    repeat (go_big_quiet_step (first | rfl | fail))
                    refine wpQuiet_nil ?_
                    rintro w10 ⟨pq, rfl⟩
                    have hqb := pq.h
                    obtain ⟨w10, hq⟩ := pq
                    simp only at hqb ⊢
                    have HB10 := hide (HB3.out.trans (hqb.mono HB3.out.size))
                    go_wp2_with fail
                    go_ret
                    exact ⟨by rw [HR4.out]; rfl, HB10.out⟩
                · have HR4 : Hid (r = false) := by show r = _; rw [HR3.out]; simp [q4]
                  clear HR3 HIc HKI HII HAll
                  have hbf : ((fr.length : Int) != 2) = true := by simp; omega
                  go_wp2_with fail
                  refine wp_region_near w3.heap.size w3 (Below.refl _ _) (by kernel_rfl) (by kernel_rfl) ?_
                  repeat (go_big_quiet_step (first | rfl | fail))
                  refine wpQuiet_nil ?_
                  rintro w10 ⟨pq, rfl⟩
                  have hqb := pq.h
                  obtain ⟨w10, hq⟩ := pq
                  simp only at hqb ⊢
                  have HB10 := hide (HB3.out.trans (hqb.mono HB3.out.size))
                  clear hq hqb
                  go_wp2_with fail
                  go_ret
                  exact ⟨by rw [HR4.out]; rfl, HB10.out⟩
              · have HR3 : Hid (r = (decide (fr.length = 2) && decide (P7.fa l (fr.getD 0 0) = ⟨aw, an, fw⟩) && decide (P7.fa l (fr.getD 1 0) = ⟨bw, bn, fw⟩))) := by show r = _; rw [HR2.out]; rfl
                have HA3 : Hid (StepsAt w3 (.slice (some ⟨g, off, none⟩) l.length ca) l) := HV.out.below HB3.out (Nat.le_refl _)
                have hnn := Near.some w3.heap.size w3
                have X10 : ∀ p : Near w3.heap.size w3, p.w.cell? ⟨b5, 10, none⟩ = some (.int .i64 fa) := fun p => (p.h.cell (p := ⟨b5, 10, none⟩) l5).trans x10
                have X11 : ∀ p : Near w3.heap.size w3, p.w.cell? ⟨b5, 11, none⟩ = some (.int .i64 fb) := fun p => (p.h.cell (p := ⟨b5, 11, none⟩) l5).trans x11
                have X12 : ∀ p : Near w3.heap.size w3, p.w.cell? ⟨b5, 12, none⟩ = some (.int .i64 fw) := fun p => (p.h.cell (p := ⟨b5, 12, none⟩) l5).trans x12
                have X13 : ∀ p : Near w3.heap.size w3, p.w.cell? ⟨b5, 13, none⟩ = some (.slice au fr.length cu) := fun p => (p.h.cell (p := ⟨b5, 13, none⟩) l5).trans x13
                have Y4 : ∀ p : Near w3.heap.size w3, p.w.cell? ⟨b6, 4, none⟩ = some (.int .i64 aw) := fun p => (p.h.cell (p := ⟨b6, 4, none⟩) l6).trans y4
                have Y5 : ∀ p : Near w3.heap.size w3, p.w.cell? ⟨b6, 5, none⟩ = some (.int .i64 an) := fun p => (p.h.cell (p := ⟨b6, 5, none⟩) l6).trans y5
                have Y6 : ∀ p : Near w3.heap.size w3, p.w.cell? ⟨b6, 6, none⟩ = some (.int .i64 bw) := fun p => (p.h.cell (p := ⟨b6, 6, none⟩) l6).trans y6
                have Y7 : ∀ p : Near w3.heap.size w3, p.w.cell? ⟨b6, 7, none⟩ = some (.int .i64 bn) := fun p => (p.h.cell (p := ⟨b6, 7, none⟩) l6).trans y7
                clear HR2 HSH HAl0
                by_cases q4 : fr.length = 2
                · obtain ⟨x, y, rfl⟩ : ∃ x y, fr = [x, y] := by
                    match fr, q4 with
                    | [x, y], _ => exact ⟨x, y, rfl⟩
                  have hIc := HIc.out
                  dsimp only [List.length_cons, List.length_nil] at hIc
                  obtain ⟨gf, of, hgf0, hgf, hcf0⟩ := hIc 0 (by decide)
                  obtain ⟨gf', of', hgf1, -, hcf1⟩ := hIc 1 (by decide)
                  cases hgf0
                  cases hgf1
                  simp only [List.getElem_cons_zero, List.getElem_cons_succ, Nat.add_zero] at hcf0 hcf1
                  have i0 : ∀ p : Near w3.heap.size w3, p.w.cell? ⟨gf, of, none⟩ = some (.int .i64 x) := fun p => (p.h.cell (p := ⟨gf, of, none⟩) hgf).trans hcf0
                  have i1 : ∀ p : Near w3.heap.size w3, p.w.cell? ⟨gf, of + 1, none⟩ = some (.int .i64 y) := fun p => (p.h.cell (p := ⟨gf, of + 1, none⟩) hgf).trans hcf1
                  have hxr := HAll.out x (by simp)
                  have hyr := HAll.out y (by simp)
                  obtain ⟨a', ca', h1, h2⟩ := HA3.out
                  cases h1
                  obtain ⟨mx, rfl, hmx, gx, ox, hgx, hgxl, u0, u1, u2⟩ := fact_cells (x := x) hxr.1 (by omega) h2
                  obtain ⟨my, rfl, hmy, gy, oy, hgy, -, t0, t1, t2⟩ := fact_cells (x := y) hyr.1 (by omega) h2
                  cases hgx
                  cases hgy
                  clear h2 hxr hyr
                  have hmx' : (mx : Int) < (l.length : Int) := by omega
                  have hmy' : (my : Int) < (l.length : Int) := by omega
                  have u0' : ∀ p : Near w3.heap.size w3, p.w.cell? ⟨g, off + mx * 14 + 10, none⟩ = some (.int .i64 (P7.fa l (mx : Int)).a) := fun p => (p.h.cell (p := ⟨g, off + mx * 14 + 10, none⟩) hgxl).trans u0
                  have u1' : ∀ p : Near w3.heap.size w3, p.w.cell? ⟨g, off + mx * 14 + 11, none⟩ = some (.int .i64 (P7.fa l (mx : Int)).b) := fun p => (p.h.cell (p := ⟨g, off + mx * 14 + 11, none⟩) hgxl).trans u1
                  have u2' : ∀ p : Near w3.heap.size w3, p.w.cell? ⟨g, off + mx * 14 + 12, none⟩ = some (.int .i64 (P7.fa l (mx : Int)).w) := fun p => (p.h.cell (p := ⟨g, off + mx * 14 + 12, none⟩) hgxl).trans u2
                  have t0' : ∀ p : Near w3.heap.size w3, p.w.cell? ⟨g, off + my * 14 + 10, none⟩ = some (.int .i64 (P7.fa l (my : Int)).a) := fun p => (p.h.cell (p := ⟨g, off + my * 14 + 10, none⟩) hgxl).trans t0
                  have t1' : ∀ p : Near w3.heap.size w3, p.w.cell? ⟨g, off + my * 14 + 11, none⟩ = some (.int .i64 (P7.fa l (my : Int)).b) := fun p => (p.h.cell (p := ⟨g, off + my * 14 + 11, none⟩) hgxl).trans t1
                  have t2' : ∀ p : Near w3.heap.size w3, p.w.cell? ⟨g, off + my * 14 + 12, none⟩ = some (.int .i64 (P7.fa l (my : Int)).w) := fun p => (p.h.cell (p := ⟨g, off + my * 14 + 12, none⟩) hgxl).trans t2
                  simp only [List.length_cons, List.length_nil, List.getD_cons_zero, List.getD_cons_succ, Nat.reduceAdd] at HR3
                  clear HIc HKI HII HAll hIc
                  obtain ⟨xa, xb, xw, hfx⟩ : ∃ xa xb xw, P7.fa l (mx : Int) = ⟨xa, xb, xw⟩ := ⟨_, _, _, rfl⟩
                  obtain ⟨ya, yb, yw, hfy⟩ : ∃ ya yb yw, P7.fa l (my : Int) = ⟨ya, yb, yw⟩ := ⟨_, _, _, rfl⟩
                  rw [hfx, hfy] at HR3
                  simp only [hfx] at u0' u1' u2'
                  simp only [hfy] at t0' t1' t2'
                  clear hfx hfy u0 u1 u2 t0 t1 t2
                  try dsimp only at HR3
                  have hbf : (((2 : Nat) : Int) == 2) = true := by simp
                  by_cases q10 : xa = aw
                  · subst q10
                    by_cases q11 : xb = an
                    · subst q11
                      by_cases q12 : xw = fw
                      · subst q12
                        by_cases q13 : ya = bw
                        · subst q13
                          by_cases q14 : yb = bn
                          · subst q14
                            by_cases q15 : yw = xw
                            · subst q15
                              have HR4 : Hid (r = true) := by show r = _; rw [HR3.out]; simp
                              go_wp2_with fail
                              refine wp_region_near w3.heap.size w3 (Below.refl _ _) (by kernel_rfl) (by kernel_rfl) ?_
                              repeat (go_big_quiet_step (first | rfl | fail))
                              refine wpQuiet_nil ?_
                              rintro w10 ⟨pq, rfl⟩
                              have hqb := pq.h
                              obtain ⟨w10, hq⟩ := pq
                              simp only at hqb ⊢
                              have HB10 := hide (HB3.out.trans (hqb.mono HB3.out.size))
                              go_wp2_with fail
                              go_ret
                              exact ⟨by rw [HR4.out]; rfl, HB10.out⟩
                            · skip
                              have HR4 : Hid (r = false) := by show r = _; rw [HR3.out]; simp [q15]
                              go_wp2_with fail
                              refine wp_region_near w3.heap.size w3 (Below.refl _ _) (by kernel_rfl) (by kernel_rfl) ?_
                              repeat (go_big_quiet_step (first | rfl | fail))
                              refine wpQuiet_nil ?_
                              rintro w10 ⟨pq, rfl⟩
                              have hqb := pq.h
                              obtain ⟨w10, hq⟩ := pq
                              simp only at hqb ⊢
                              have HB10 := hide (HB3.out.trans (hqb.mono HB3.out.size))
                              go_wp2_with fail
                              go_ret
                              exact ⟨by rw [HR4.out]; rfl, HB10.out⟩
                          · skip
                            have HR4 : Hid (r = false) := by show r = _; rw [HR3.out]; simp [q14]
                            go_wp2_with fail
                            refine wp_region_near w3.heap.size w3 (Below.refl _ _) (by kernel_rfl) (by kernel_rfl) ?_
                            repeat (go_big_quiet_step (first | rfl | fail))
                            refine wpQuiet_nil ?_
                            rintro w10 ⟨pq, rfl⟩
                            have hqb := pq.h
                            obtain ⟨w10, hq⟩ := pq
                            simp only at hqb ⊢
                            have HB10 := hide (HB3.out.trans (hqb.mono HB3.out.size))
                            go_wp2_with fail
                            go_ret
                            exact ⟨by rw [HR4.out]; rfl, HB10.out⟩
                        · skip
                          have HR4 : Hid (r = false) := by show r = _; rw [HR3.out]; simp [q13]
                          go_wp2_with fail
                          refine wp_region_near w3.heap.size w3 (Below.refl _ _) (by kernel_rfl) (by kernel_rfl) ?_
                          repeat (go_big_quiet_step (first | rfl | fail))
                          refine wpQuiet_nil ?_
                          rintro w10 ⟨pq, rfl⟩
                          have hqb := pq.h
                          obtain ⟨w10, hq⟩ := pq
                          simp only at hqb ⊢
                          have HB10 := hide (HB3.out.trans (hqb.mono HB3.out.size))
                          go_wp2_with fail
                          go_ret
                          exact ⟨by rw [HR4.out]; rfl, HB10.out⟩
                      · skip
                        have HR4 : Hid (r = false) := by show r = _; rw [HR3.out]; simp [q12]
                        go_wp2_with fail
                        refine wp_region_near w3.heap.size w3 (Below.refl _ _) (by kernel_rfl) (by kernel_rfl) ?_
                        repeat (go_big_quiet_step (first | rfl | fail))
                        refine wpQuiet_nil ?_
                        rintro w10 ⟨pq, rfl⟩
                        have hqb := pq.h
                        obtain ⟨w10, hq⟩ := pq
                        simp only at hqb ⊢
                        have HB10 := hide (HB3.out.trans (hqb.mono HB3.out.size))
                        go_wp2_with fail
                        go_ret
                        exact ⟨by rw [HR4.out]; rfl, HB10.out⟩
                    · skip
                      have HR4 : Hid (r = false) := by show r = _; rw [HR3.out]; simp [q11]
                      go_wp2_with fail
                      refine wp_region_near w3.heap.size w3 (Below.refl _ _) (by kernel_rfl) (by kernel_rfl) ?_
                      repeat (go_big_quiet_step (first | rfl | fail))
                      refine wpQuiet_nil ?_
                      rintro w10 ⟨pq, rfl⟩
                      have hqb := pq.h
                      obtain ⟨w10, hq⟩ := pq
                      simp only at hqb ⊢
                      have HB10 := hide (HB3.out.trans (hqb.mono HB3.out.size))
                      go_wp2_with fail
                      go_ret
                      exact ⟨by rw [HR4.out]; rfl, HB10.out⟩
                  · skip
                    have HR4 : Hid (r = false) := by show r = _; rw [HR3.out]; simp [q10]
                    go_wp2_with fail
                    refine wp_region_near w3.heap.size w3 (Below.refl _ _) (by kernel_rfl) (by kernel_rfl) ?_
                    repeat (go_big_quiet_step (first | rfl | fail))
                    refine wpQuiet_nil ?_
                    rintro w10 ⟨pq, rfl⟩
                    have hqb := pq.h
                    obtain ⟨w10, hq⟩ := pq
                    simp only at hqb ⊢
                    have HB10 := hide (HB3.out.trans (hqb.mono HB3.out.size))
                    go_wp2_with fail
                    go_ret
                    exact ⟨by rw [HR4.out]; rfl, HB10.out⟩
                · have HR4 : Hid (r = false) := by show r = _; rw [HR3.out]; simp [q4]
                  clear HR3 HIc HKI HII HAll
                  have hbf : ((fr.length : Int) == 2) = false := by rw [beq_eq_false_iff_ne]; omega
                  go_wp2_with fail
                  refine wp_region_near w3.heap.size w3 (Below.refl _ _) (by kernel_rfl) (by kernel_rfl) ?_
                  repeat (go_big_quiet_step (first | rfl | fail))
                  refine wpQuiet_nil ?_
                  rintro w10 ⟨pq, rfl⟩
                  have hqb := pq.h
                  obtain ⟨w10, hq⟩ := pq
                  simp only at hqb ⊢
                  have HB10 := hide (HB3.out.trans (hqb.mono HB3.out.size))
                  clear hq hqb
                  go_wp2_with fail
                  go_ret
                  exact ⟨by rw [HR4.out]; rfl, HB10.out⟩
        · have HR1 : Hid (r = false) := HR.out.trans (okAt_false2 (fun h => q2 h.2))
          subst q1
          go_wp2_with fail
          go_ret
          exact ⟨by rw [HR1.out]; rfl, HB3.out⟩
      · have HR1 : Hid (r = false) := HR.out.trans (okAt_false2 (fun h => q1 h.1))
        go_wp2_with fail
        go_ret
        exact ⟨by rw [HR1.out]; rfl, HB3.out⟩
    · rw [decide_eq_false hok]
      have HR1 : Hid (r = false) := HR.out.trans (okAt_false1 hok)
      go_wp2_with fail
      go_ret
      exact ⟨by rw [HR1.out]; rfl, HB3.out⟩
  · have HR : Hid (stepOk l i = false) := by show _ = _; unfold stepOk; rw [decide_eq_false hi, Bool.false_and]
    rw [HR.out]
    have HIn := hide (l01In_calls i 0 ((l.length : Int) - 1) w)
    rw [decide_eq_false hi] at HIn
    go_enter Try.func32, Try.ntmps32
    go_wp2_with fail
    refine HIn.out.mono ?_
    rintro e w2 ⟨rfl, rfl⟩
    go_wp2_with fail
    go_ret
    exact ⟨rfl, Below.refl _ _⟩
end Go.Proofs.Ythafpkpmnhgmaaa.P7
namespace Go.Proofs.Ythafpkpmnhgmaaa.P7
set_option maxRecDepth 8000
open Go.RowKit P1 P5 P6 Rc Rr

theorem at_first {l : List St} {f : Fa} {k : Nat} (hk : k < l.length) (h : l[k].f = f) (hn : ∀ x ∈ l.take k, x.f ≠ f) : at_ l f = (k : Int) := by
  unfold at_
  have : l.findIdx? (fun s => decide (s.f = f)) = some k := by
    rw [List.findIdx?_eq_some_iff_getElem]
    refine ⟨hk, decide_eq_true h, fun j hj => ?_⟩
    have hj' : j < l.length := by omega
    have hm : l[j] ∈ l.take k := by
      rw [List.mem_take_iff_getElem]
      exact ⟨j, by omega, rfl⟩
    simpa using hn _ hm
  rw [this]

theorem at_none {l : List St} {f : Fa} (hn : ∀ x ∈ l, x.f ≠ f) : at_ l f = -1 := by
  unfold at_
  have : l.findIdx? (fun s => decide (s.f = f)) = none := by
    rw [List.findIdx?_eq_none_iff]
    exact fun x hx => by simpa using hn x hx
  rw [this]

/-- The facts of steps, where the walk reads them. -/
theorem facts_at {w : World} {v : Value} {l : List St} (h : StepsAt w v l) : ∃ a cap, v = .slice a l.length cap ∧ ∀ j (hj : j < l.length), ∃ g off, a = some ⟨g, off, none⟩ ∧ g < w.heap.size ∧ w.cell? ⟨g, off + j * 14 + 10, none⟩ = some (.int .i64 l[j].f.a) ∧ w.cell? ⟨g, off + j * 14 + 11, none⟩ = some (.int .i64 l[j].f.b) ∧ w.cell? ⟨g, off + j * 14 + 12, none⟩ = some (.int .i64 l[j].f.w) := by
  obtain ⟨a, cap, h1, h2⟩ := h
  refine ⟨a, cap, h1, fun j hj => ?_⟩
  obtain ⟨g, off, h3, h4, h5, _⟩ := h2 j hj
  exact ⟨g, off, h3, h4, h5 10 (by decide), h5 11 (by decide), h5 12 (by decide)⟩

set_option maxHeartbeats 400000 in
theorem specAt_calls (w : World) (v : Value) (l : List St) (f : Fa) (hv : StepsAt w v l) (hl : l.length ≤ 1048576) :
    Calls Try.prog 84 #[v, faV f] w fun e w' => e = .returned (.int .i64 (at_ l f)) ∧ Below w.heap.size w w' := by
  obtain ⟨a, ca, rfl, HA⟩ := facts_at hv
  replace HA := hide HA
  clear hv
  obtain ⟨fa, fb, fw⟩ := f
  simp only [faV]
  obtain ⟨r, Er⟩ : ∃ r, Hid (r = at_ l ⟨fa, fb, fw⟩) := ⟨_, rfl⟩
  rw [← Er.out]
  have HB := hide ((Below.refl w.heap.size w).alloc (Nat.le_refl _) (.cells #[.int .i64 fa, .int .i64 fb, .int .i64 fw] 36))
  have HG := hide (Blk.new w #[.int .i64 fa, .int .i64 fb, .int .i64 fw] 36)
  go_enter Try.func84, Try.ntmps84
  go_wp2_with fail
  obtain ⟨b0, e0⟩ : ∃ b, b = w.heap.size := ⟨_, rfl⟩
  have HA1 : Hid (∀ j (hj : j < l.length), ∃ g off, a = some ⟨g, off, none⟩ ∧ g < b0 ∧ (w.alloc (.cells #[.int .i64 fa, .int .i64 fb, .int .i64 fw] 36)).cell? ⟨g, off + j * 14 + 10, none⟩ = some (.int .i64 l[j].f.a) ∧ (w.alloc (.cells #[.int .i64 fa, .int .i64 fb, .int .i64 fw] 36)).cell? ⟨g, off + j * 14 + 11, none⟩ = some (.int .i64 l[j].f.b) ∧ (w.alloc (.cells #[.int .i64 fa, .int .i64 fb, .int .i64 fw] 36)).cell? ⟨g, off + j * 14 + 12, none⟩ = some (.int .i64 l[j].f.w)) := fun j hj => by
    obtain ⟨g, off, h1, h2, h3, h4, h5⟩ := HA.out j hj
    have hb := fun o => ((Below.refl w.heap.size w).alloc (Nat.le_refl _) (.cells #[.int .i64 fa, .int .i64 fb, .int .i64 fw] 36)).cell (p := ⟨g, o, none⟩) h2
    exact ⟨g, off, h1, by omega, (hb _).trans h3, (hb _).trans h4, (hb _).trans h5⟩
  rw [← e0] at HG ⊢
  clear e0 HA
  generalize w.alloc (.cells #[.int .i64 fa, .int .i64 fb, .int .i64 fw] 36) = w1 at *
  go_loopw [5] (fun i wr => ∃ k n : Nat, k ≤ l.length ∧ i = .int .i64 k ∧ wr = w1.drewN n ∧ Hid (∀ x ∈ l.take k, x.f ≠ (⟨fa, fb, fw⟩ : Fa))) (fun i _ => l.length - (intOf i).toNat)
  case atStart => exact ⟨0, 0, Nat.zero_le _, rfl, rfl, by show ∀ x ∈ l.take 0, _; simp⟩
  case round =>
    obtain ⟨k, n, hk, rfl, rfl, HN⟩ := hrel
    by_cases hlt : k < l.length
    · obtain ⟨g, off, rfl, hg, hc0, hc1, hc2⟩ := HA1.out k hlt
      have hgl : g < w1.heap.size := by have := HG.out.lt; omega
      have d0 : w1.cell? ⟨b0, 0, none⟩ = some (.int .i64 fa) := by rw [HG.out.cell 0]; rfl
      have d1 : w1.cell? ⟨b0, 1, none⟩ = some (.int .i64 fb) := by rw [HG.out.cell 1]; rfl
      have d2 : w1.cell? ⟨b0, 2, none⟩ = some (.int .i64 fw) := by rw [HG.out.cell 2]; rfl
      have l0 := HG.out.lt
      have HT := hide (fun h : l[k].f ≠ (⟨fa, fb, fw⟩ : Fa) => (show ∀ x ∈ l.take (k + 1), x.f ≠ (⟨fa, fb, fw⟩ : Fa) from fun x hx => by
        rw [List.take_succ_eq_append_getElem hlt] at hx
        rcases List.mem_append.1 hx with hx | hx
        · exact HN.out x hx
        · rw [List.mem_singleton.1 hx]; exact h))
      have HM := hide (fun h : l[k].f = (⟨fa, fb, fw⟩ : Fa) => at_first hlt h HN.out)
      clear HA1
      generalize l[k].f = y at *
      obtain ⟨ya, yb, yw⟩ := y
      dsimp only at hc0 hc1 hc2
      by_cases q1 : ya = fa
      · subst q1
        by_cases q2 : yb = fb
        · subst q2
          by_cases q3 : yw = fw
          · subst q3
            have HR : Hid (r = (k : Int)) := Er.out.trans (HM.out rfl)
            clear HM HT Er
            go_wp2
            go_quiet (fail)
            go_wp2
            go_ret
            exact ⟨by rw [HR.out]; rfl, below_drewN (below_drewN HB.out _) _⟩
          · skip
            have HT2 := hide (HT.out (fun h => q3 (by simp only [Fa.mk.injEq] at h; omega)))
            clear HM HT HN
            go_wp2
            go_quiet (fail)
            go_wp2
            go_roundw
            case rel => exact ⟨k + 1, _, by omega, by go_num, rfl, HT2.out⟩
            case measure => simp [intOf]; omega
        · skip
          have HT2 := hide (HT.out (fun h => q2 (by simp only [Fa.mk.injEq] at h; omega)))
          clear HM HT HN
          go_wp2
          go_quiet (fail)
          go_wp2
          go_roundw
          case rel => exact ⟨k + 1, _, by omega, by go_num, rfl, HT2.out⟩
          case measure => simp [intOf]; omega
      · skip
        have HT2 := hide (HT.out (fun h => q1 (by simp only [Fa.mk.injEq] at h; omega)))
        clear HM HT HN
        go_wp2
        go_quiet (fail)
        go_wp2
        go_roundw
        case rel => exact ⟨k + 1, _, by omega, by go_num, rfl, HT2.out⟩
        case measure => simp [intOf]; omega
    · have hkl : k = l.length := by omega
      have HR : Hid (r = -1) := Er.out.trans (at_none fun x h => HN.out _ (by rw [hkl, List.take_length]; exact h))
      clear HN HA1 Er
      go_wp2
      go_ret
      exact ⟨by rw [HR.out]; rfl, below_drewN HB.out _⟩

theorem proofOk_false1 {l : List St} {a b who : Int} (h : ¬ (1 ≤ (l.length : Int) ∧ (l.length : Int) ≤ 200)) : proofOk l a b who = false := by
  unfold proofOk
  rw [decide_eq_false (by omega), Bool.false_and, Bool.false_and]

theorem proofOk_false2 {l : List St} {a b who : Int} (h : ¬ (l.getD (l.length - 1) St.zero).f = ⟨a, b, who⟩) : proofOk l a b who = false := by
  unfold proofOk
  rw [decide_eq_false h, Bool.and_false, Bool.false_and]

theorem proofOk_false3 {l : List St} {a b who : Int} {k : Nat} (hk : k < l.length) (h : stepOk l (k : Int) = false) : proofOk l a b who = false := by
  unfold proofOk
  rw [Bool.and_eq_false_iff]
  refine .inr ?_
  rw [List.all_eq_false]
  exact ⟨k, List.mem_range.2 hk, by simp [h]⟩

theorem proofOk_true {l : List St} {a b who : Int} (h1 : 1 ≤ (l.length : Int) ∧ (l.length : Int) ≤ 200) (h2 : (l.getD (l.length - 1) St.zero).f = ⟨a, b, who⟩) (h3 : ∀ j, j < l.length → stepOk l (j : Int) = true) : proofOk l a b who = true := by
  unfold proofOk
  rw [decide_eq_true h2, decide_eq_true (by omega), Bool.true_and, Bool.true_and, List.all_eq_true]
  exact fun j hj => h3 j (List.mem_range.1 hj)

set_option maxHeartbeats 2000000 in
theorem specProofOk_calls (w : World) (v : Value) (l : List St) (ra rb who : Int) (hv : StepsAt w v l) (hl : l.length ≤ 1048576) (hfr : ∀ s ∈ l, s.fr.length ≤ 1048576) :
    Calls Try.prog 29 #[v, roleV ra rb, .int .i64 who] w fun e w' => e = .returned (.bool (proofOk l ra rb who)) ∧ Below w.heap.size w w' := by
  have HV := hide hv
  obtain ⟨a, ca, rfl, HA⟩ := facts_at hv
  replace HA := hide HA
  clear hv
  simp only [roleV]
  obtain ⟨r, Er⟩ : ∃ r, Hid (r = proofOk l ra rb who) := ⟨_, rfl⟩
  rw [← Er.out]
  have HB := hide ((Below.refl w.heap.size w).alloc (Nat.le_refl _) (.cells #[.int .i64 ra, .int .i64 rb] 34))
  have HG := hide (Blk.new w #[.int .i64 ra, .int .i64 rb] 34)
  have HIn : Hid (∀ wx, Calls Try.prog 85 #[.int .i64 (l.length : Int), .int .i64 1, .int .i64 200] wx fun e w' => e = .returned (.bool (decide (1 ≤ (l.length : Int) ∧ (l.length : Int) ≤ 200))) ∧ Below wx.heap.size wx w') := fun wx => (l01In_calls (l.length : Int) 1 200 wx).mono fun e w' ⟨h1, h2⟩ => ⟨h1, by rw [h2]; exact Below.refl _ _⟩
  go_enter Try.func29, Try.ntmps29
  go_wp2_with fail
  obtain ⟨b0, e0⟩ : ∃ b, b = w.heap.size := ⟨_, rfl⟩
  have e0' := e0
  rw [← e0] at HG ⊢
  clear e0
  generalize w.alloc (.cells #[.int .i64 ra, .int .i64 rb] 34) = w1 at *
  have hnn := Near.some w1.heap.size w1
  have l0 := HG.out.lt
  have d0 : ∀ p : Near w1.heap.size w1, p.w.cell? ⟨b0, 0, none⟩ = some (.int .i64 ra) := fun p => by rw [(HG.out.below p.h HG.out.lt).cell 0]; rfl
  have d1 : ∀ p : Near w1.heap.size w1, p.w.cell? ⟨b0, 1, none⟩ = some (.int .i64 rb) := fun p => by rw [(HG.out.below p.h HG.out.lt).cell 1]; rfl
  rw [e0'] at *
  by_cases hn : 1 ≤ (l.length : Int) ∧ (l.length : Int) ≤ 200
  · simp only [decide_eq_true hn] at HIn
    obtain ⟨m, hm⟩ : ∃ m, l.length = m + 1 := ⟨l.length - 1, by omega⟩
    have hml : m < l.length := by omega
    have hmi : (l.length : Int) - 1 = (m : Int) := by omega
    have hmj : (m : Int) < (l.length : Int) := by omega
    obtain ⟨g, off, rfl, hg, c0, c1, c2⟩ := HA.out m hml
    have hg1 : g < w1.heap.size := by have := HB.out.size; omega
    have z0 : ∀ p : Near w1.heap.size w1, p.w.cell? ⟨g, off + m * 14 + 10, none⟩ = some (.int .i64 l[m].f.a) := fun p => (p.h.cell (p := ⟨g, off + m * 14 + 10, none⟩) hg1).trans ((HB.out.cell (p := ⟨g, off + m * 14 + 10, none⟩) hg).trans c0)
    have z1 : ∀ p : Near w1.heap.size w1, p.w.cell? ⟨g, off + m * 14 + 11, none⟩ = some (.int .i64 l[m].f.b) := fun p => (p.h.cell (p := ⟨g, off + m * 14 + 11, none⟩) hg1).trans ((HB.out.cell (p := ⟨g, off + m * 14 + 11, none⟩) hg).trans c1)
    have z2 : ∀ p : Near w1.heap.size w1, p.w.cell? ⟨g, off + m * 14 + 12, none⟩ = some (.int .i64 l[m].f.w) := fun p => (p.h.cell (p := ⟨g, off + m * 14 + 12, none⟩) hg1).trans ((HB.out.cell (p := ⟨g, off + m * 14 + 12, none⟩) hg).trans c2)
    have HF := hide (fun h : ¬ l[m].f = ⟨ra, rb, who⟩ => (proofOk_false2 (l := l) (a := ra) (b := rb) (who := who) (by rw [show l.length - 1 = m by omega, getD_lt hml]; exact h)))
    have HP := hide (fun (h : l[m].f = ⟨ra, rb, who⟩) => proofOk_true (a := ra) (b := rb) (who := who) hn (by rw [show l.length - 1 = m by omega, getD_lt hml]; exact h))
    clear c0 c1 c2 HA hm
    generalize l[m].f = y at *
    obtain ⟨ya, yb, yw⟩ := y
    dsimp only at z0 z1 z2
    by_cases q1 : ya = ra
    · subst q1
      by_cases q2 : yb = rb
      · subst q2
        by_cases q3 : yw = who
        · subst q3
          have HPT := hide (HP.out rfl)
          clear HF HP
          go_wp2_with fail
          refine wp_region_near w1.heap.size w1 (Below.refl _ _) (by kernel_rfl) (by kernel_rfl) ?_
          repeat (go_big_quiet_step (first | rfl | exact calls_near (Nat.le_refl _) (HIn.out _)))
          refine wpQuiet_nil ?_
          rintro w10 ⟨pq, rfl⟩
          have hqb := pq.h
          obtain ⟨w10, hq⟩ := pq
          simp only at hqb ⊢
          have HB10 := hide (HB.out.trans (hqb.mono HB.out.size))
          clear hq hqb hnn d0 d1 z0 z1 z2
          go_wp2_with fail
          go_loopw [8] (fun q wr => ∃ k : Nat, k ≤ l.length ∧ q = .int .i64 k ∧ Hid (Below w.heap.size w wr) ∧ Hid (∀ j, j < k → stepOk l (j : Int) = true)) (fun q _ => l.length - (intOf q).toNat)
          case atStart => exact ⟨0, Nat.zero_le _, rfl, HB10.out, by show ∀ j, j < 0 → _; omega⟩
          case round =>
            obtain ⟨k, hk, rfl, HBr, HN⟩ := hrel
            by_cases hlt : k < l.length
            · have HC := hide (specStepOk_calls wr _ l (k : Int) (HV.out.below (HBr.out) (Nat.le_refl _)) (by omega) hfr)
              cases hst : stepOk l (k : Int) with
              | false =>
                have HR : Hid (r = false) := Er.out.trans (proofOk_false3 hlt hst)
                rw [hst] at HC
                go_wp2_with fail
                refine HC.out.mono ?_
                rintro e w4 ⟨rfl, hb⟩
                have HB4 := hide (HBr.out.trans (hb.mono HBr.out.size))
                clear hb
                go_wp2_with fail
                go_ret
                exact ⟨by rw [HR.out]; rfl, HB4.out⟩
              | true =>
                rw [hst] at HC
                have HN2 : Hid (∀ j, j < k + 1 → stepOk l (j : Int) = true) := fun j hj => by
                  rcases Nat.lt_or_ge j k with h | h
                  · exact HN.out j h
                  · have : j = k := by omega
                    subst this
                    exact hst
                go_wp2_with fail
                refine HC.out.mono ?_
                rintro e w4 ⟨rfl, hb⟩
                have HB4 := hide (HBr.out.trans (hb.mono HBr.out.size))
                clear hb hst
                go_wp2_with fail
                go_roundw
                case rel => exact ⟨k + 1, by omega, by go_num, HB4.out, HN2.out⟩
                case measure => simp [intOf]; omega
            · have hkl : k = l.length := by omega
              have HR : Hid (r = true) := Er.out.trans (HPT.out (fun j hj => HN.out j (by omega)))
              go_wp2_with fail
              go_ret
              exact ⟨by rw [HR.out]; rfl, HBr.out⟩
        · skip
          have HR : Hid (r = false) := Er.out.trans (HF.out (fun h => q3 (by simp only [Fa.mk.injEq] at h; omega)))
          clear HF HP
          go_wp2_with fail
          refine wp_region_near w1.heap.size w1 (Below.refl _ _) (by kernel_rfl) (by kernel_rfl) ?_
          repeat (go_big_quiet_step (first | rfl | exact calls_near (Nat.le_refl _) (HIn.out _)))
          refine wpQuiet_nil ?_
          rintro w10 ⟨pq, rfl⟩
          have hqb := pq.h
          obtain ⟨w10, hq⟩ := pq
          simp only at hqb ⊢
          have HB10 := hide (HB.out.trans (hqb.mono HB.out.size))
          clear hq hqb hnn d0 d1 z0 z1 z2
          go_wp2_with fail
          go_ret
          exact ⟨by rw [HR.out]; rfl, HB10.out⟩
      · skip
        have HR : Hid (r = false) := Er.out.trans (HF.out (fun h => q2 (by simp only [Fa.mk.injEq] at h; omega)))
        clear HF HP
        go_wp2_with fail
        refine wp_region_near w1.heap.size w1 (Below.refl _ _) (by kernel_rfl) (by kernel_rfl) ?_
        repeat (go_big_quiet_step (first | rfl | exact calls_near (Nat.le_refl _) (HIn.out _)))
        refine wpQuiet_nil ?_
        rintro w10 ⟨pq, rfl⟩
        have hqb := pq.h
        obtain ⟨w10, hq⟩ := pq
        simp only at hqb ⊢
        have HB10 := hide (HB.out.trans (hqb.mono HB.out.size))
        clear hq hqb hnn d0 d1 z0 z1 z2
        go_wp2_with fail
        go_ret
        exact ⟨by rw [HR.out]; rfl, HB10.out⟩
    · skip
      have HR : Hid (r = false) := Er.out.trans (HF.out (fun h => q1 (by simp only [Fa.mk.injEq] at h; omega)))
      clear HF HP
      go_wp2_with fail
      refine wp_region_near w1.heap.size w1 (Below.refl _ _) (by kernel_rfl) (by kernel_rfl) ?_
      repeat (go_big_quiet_step (first | rfl | exact calls_near (Nat.le_refl _) (HIn.out _)))
      refine wpQuiet_nil ?_
      rintro w10 ⟨pq, rfl⟩
      have hqb := pq.h
      obtain ⟨w10, hq⟩ := pq
      simp only at hqb ⊢
      have HB10 := hide (HB.out.trans (hqb.mono HB.out.size))
      clear hq hqb hnn d0 d1 z0 z1 z2
      go_wp2_with fail
      go_ret
      exact ⟨by rw [HR.out]; rfl, HB10.out⟩
  · simp only [decide_eq_false hn] at HIn
    have HR : Hid (r = false) := Er.out.trans (proofOk_false1 hn)
    go_wp2_with fail
    refine wp_region_near w1.heap.size w1 (Below.refl _ _) (by kernel_rfl) (by kernel_rfl) ?_
    repeat (go_big_quiet_step (first | rfl | exact calls_near (Nat.le_refl _) (HIn.out _)))
    refine wpQuiet_nil ?_
    rintro w10 ⟨pq, rfl⟩
    have hqb := pq.h
    obtain ⟨w10, hq⟩ := pq
    simp only at hqb ⊢
    have HB10 := hide (HB.out.trans (hqb.mono HB.out.size))
    clear hq hqb hnn d0 d1
    go_wp2_with fail
    go_ret
    exact ⟨by rw [HR.out]; rfl, HB10.out⟩

end Go.Proofs.Ythafpkpmnhgmaaa.P7
namespace Go.Proofs.Ythafpkpmnhgmaaa.P7
set_option maxRecDepth 8000
open Go.RowKit P1 P5 P6 Rc Rr

theorem mem_take_succ {l : List Cr} {c : Cr} {m : Nat} (h : m < l.length) : c ∈ l.take (m + 1) ↔ c ∈ l.take m ∨ l[m] = c := by
  rw [List.take_succ_eq_append_getElem h, List.mem_append, List.mem_singleton]
  constructor
  · rintro (h | h)
    · exact .inl h
    · exact .inr h.symm
  · rintro (h | h)
    · exact .inl h
    · exact .inr h.symm

set_option maxHeartbeats 4000000 in
theorem specCredsIn_calls (w : World) (v : Value) (l : List St) (hv : StepsAt w v l) (hl : l.length ≤ 1048576) :
    Calls Try.prog 30 #[v] w fun e w' => ∃ v', e = .returned v' ∧ w'.ownsRow w.heap.size 39 10 v' (credsIn l).length (cellsI (flat crR (credsIn l))) ∧ Below w.heap.size w w' := by
  obtain ⟨M, HM⟩ : ∃ M : Nat → List Cr, Hid (M 0 = [] ∧ (∀ i (hi : i < l.length), M (i + 1) = putC (M i) l[i].c) ∧ (∀ i, (M i).length ≤ 1048576) ∧ M l.length = credsIn l) := by
    refine ⟨fun i => credsIn (l.take i), rfl, fun i hi => credsIn_take l i hi, fun i => ?_, ?_⟩
    · refine Nat.le_trans (credsIn_le _) ?_
      rw [List.length_take]
      omega
    · show credsIn (l.take l.length) = _
      rw [List.take_length]
  rw [← HM.out.2.2.2]
  obtain ⟨a, ca, rfl, HA⟩ := hv
  replace HA := hide HA
  obtain ⟨i0, hi, hz0, hz1, hz2⟩ := info_parts info_cred
  have HO0 := hide (World.ownsRow_lit (base := w.heap.size) (e := 39) (size := 10) w #[] 0 (Nat.le_refl _) (by decide) rfl)
  have HB0 := hide ((Below.refl w.heap.size w).alloc (Nat.le_refl _) (.cells #[] 39))
  go_enter Try.func30, Try.ntmps30
  go_wp2_with fail
  generalize w.alloc (.cells #[] 39) = w3 at *
  go_loopw [3, 4] (fun vo i wr => ∃ j : Nat, j ≤ l.length ∧ i = .int .i64 j ∧ Hid (wr.ownsRow w.heap.size 39 10 vo (M j).length (cellsI (flat crR (M j)))) ∧ Hid (Below w.heap.size w wr)) (fun _ i _ => l.length - (intOf i).toNat)
  case atStart => exact ⟨0, Nat.zero_le _, rfl, by show World.ownsRow _ _ _ _ _ _ _; rw [HM.out.1]; exact HO0.out, HB0.out⟩
  case round =>
    clear HO0 HB0
    obtain ⟨j, hj, rfl, HO, HB⟩ := hrel
    by_cases hlt : j < l.length
    · obtain ⟨g, off, rfl, hg, hc, -⟩ := HA.out j hlt
      have hs := HM.out.2.1 j hlt
      have hle := HM.out.2.2.1 j
      generalize l[j] = s at *
      obtain ⟨⟨k, ow, on, wh, aw, an, bw, bn, u, n⟩, f, fr⟩ := s
      have f0 : wr.cell? ⟨g, off + j * 14, none⟩ = some (.int .i64 k) := (HB.out.cell (p := ⟨g, off + j * 14, none⟩) hg).trans (hc 0 (by decide))
      have f1 : wr.cell? ⟨g, off + j * 14 + 1, none⟩ = some (.int .i64 ow) := (HB.out.cell (p := ⟨g, off + j * 14 + 1, none⟩) hg).trans (hc 1 (by decide))
      have f2 : wr.cell? ⟨g, off + j * 14 + 2, none⟩ = some (.int .i64 on) := (HB.out.cell (p := ⟨g, off + j * 14 + 2, none⟩) hg).trans (hc 2 (by decide))
      have f3 : wr.cell? ⟨g, off + j * 14 + 3, none⟩ = some (.int .i64 wh) := (HB.out.cell (p := ⟨g, off + j * 14 + 3, none⟩) hg).trans (hc 3 (by decide))
      have f4 : wr.cell? ⟨g, off + j * 14 + 4, none⟩ = some (.int .i64 aw) := (HB.out.cell (p := ⟨g, off + j * 14 + 4, none⟩) hg).trans (hc 4 (by decide))
      have f5 : wr.cell? ⟨g, off + j * 14 + 5, none⟩ = some (.int .i64 an) := (HB.out.cell (p := ⟨g, off + j * 14 + 5, none⟩) hg).trans (hc 5 (by decide))
      have f6 : wr.cell? ⟨g, off + j * 14 + 6, none⟩ = some (.int .i64 bw) := (HB.out.cell (p := ⟨g, off + j * 14 + 6, none⟩) hg).trans (hc 6 (by decide))
      have f7 : wr.cell? ⟨g, off + j * 14 + 7, none⟩ = some (.int .i64 bn) := (HB.out.cell (p := ⟨g, off + j * 14 + 7, none⟩) hg).trans (hc 7 (by decide))
      have f8 : wr.cell? ⟨g, off + j * 14 + 8, none⟩ = some (.int .i64 u) := (HB.out.cell (p := ⟨g, off + j * 14 + 8, none⟩) hg).trans (hc 8 (by decide))
      have f9 : wr.cell? ⟨g, off + j * 14 + 9, none⟩ = some (.int .i64 n) := (HB.out.cell (p := ⟨g, off + j * 14 + 9, none⟩) hg).trans (hc 9 (by decide))
      have hgr : g < wr.heap.size := Nat.lt_of_lt_of_le hg HB.out.size
      have HS := hide hs
      clear hs hc
      obtain ⟨ao, co, rfl, HR⟩ := (RowAt.of_own (R := crR) HO.out).open_
      replace HR := hide HR
      have hjj : (j : Int) < (l.length : Int) := by omega
      go_wp2_with fail
      generalize hO : M j = O at *
      have HOe := hide hO
      clear hO
      go_loopw [5, 6] (fun h q wx => ∃ (m nq : Nat) (b : Bool), m ≤ O.length ∧ q = .int .i64 m ∧ h = .bool b ∧ Hid (b = decide ((⟨k, ow, on, wh, aw, an, bw, bn, u, n⟩ : Cr) ∈ O.take m)) ∧ wx = wr.drewN nq) (fun _ q _ => O.length - (intOf q).toNat)
      case atStart => exact ⟨0, 0, false, Nat.zero_le _, rfl, rfl, by show false = _; simp, rfl⟩
      case round =>
        obtain ⟨m, nd, b, hm, rfl, rfl, HE, rfl⟩ := hrel
        by_cases hmt : m < O.length
        · obtain ⟨g2, off2, rfl, hg2, hc2⟩ := HR.out m hmt
          have HT := hide (mem_take_succ (c := ⟨k, ow, on, wh, aw, an, bw, bn, u, n⟩) hmt)
          have hmm : (m : Int) < (O.length : Int) := by omega
          cases b with
          | true =>
            have HE2 : Hid (true = decide ((⟨k, ow, on, wh, aw, an, bw, bn, u, n⟩ : Cr) ∈ O.take (m + 1))) := by
              show _ = _
              rw [eq_comm, decide_eq_true_eq, HT.out]
              exact .inl (of_decide_eq_true HE.out.symm)
            clear HT HE hc2
            go_wp2
            go_quiet (fail)
            go_wp2
            go_roundw
            case rel => exact ⟨m + 1, _, true, by omega, by go_num, rfl, HE2.out, rfl⟩
            case measure => simp [intOf]; omega
          | false =>
            generalize O[m] = y at *
            obtain ⟨y0, y1, y2, y3, y4, y5, y6, y7, y8, y9⟩ := y
            have d0 : wr.cell? ⟨g2, off2 + m * 10, none⟩ = some (.int .i64 y0) := hc2 0 (by decide)
            have d1 : wr.cell? ⟨g2, off2 + m * 10 + 1, none⟩ = some (.int .i64 y1) := hc2 1 (by decide)
            have d2 : wr.cell? ⟨g2, off2 + m * 10 + 2, none⟩ = some (.int .i64 y2) := hc2 2 (by decide)
            have d3 : wr.cell? ⟨g2, off2 + m * 10 + 3, none⟩ = some (.int .i64 y3) := hc2 3 (by decide)
            have d4 : wr.cell? ⟨g2, off2 + m * 10 + 4, none⟩ = some (.int .i64 y4) := hc2 4 (by decide)
            have d5 : wr.cell? ⟨g2, off2 + m * 10 + 5, none⟩ = some (.int .i64 y5) := hc2 5 (by decide)
            have d6 : wr.cell? ⟨g2, off2 + m * 10 + 6, none⟩ = some (.int .i64 y6) := hc2 6 (by decide)
            have d7 : wr.cell? ⟨g2, off2 + m * 10 + 7, none⟩ = some (.int .i64 y7) := hc2 7 (by decide)
            have d8 : wr.cell? ⟨g2, off2 + m * 10 + 8, none⟩ = some (.int .i64 y8) := hc2 8 (by decide)
            have d9 : wr.cell? ⟨g2, off2 + m * 10 + 9, none⟩ = some (.int .i64 y9) := hc2 9 (by decide)
            clear hc2
            by_cases q0 : y0 = k
            · subst q0
              by_cases q1 : y1 = ow
              · subst q1
                by_cases q2 : y2 = on
                · subst q2
                  by_cases q3 : y3 = wh
                  · subst q3
                    by_cases q4 : y4 = aw
                    · subst q4
                      by_cases q5 : y5 = an
                      · subst q5
                        by_cases q6 : y6 = bw
                        · subst q6
                          by_cases q7 : y7 = bn
                          · subst q7
                            by_cases q8 : y8 = u
                            · subst q8
                              by_cases q9 : y9 = n
                              · subst q9
                                have HE2 : Hid (true = decide ((⟨y0, y1, y2, y3, y4, y5, y6, y7, y8, y9⟩ : Cr) ∈ O.take (m + 1))) := by
                                  show _ = _
                                  rw [eq_comm, decide_eq_true_eq, HT.out]
                                  exact .inr rfl
                                clear HT HE
                                go_wp2
                                go_quiet (fail)
                                go_wp2
                                go_roundw
                                case rel => exact ⟨m + 1, _, true, by omega, by go_num, rfl, HE2.out, rfl⟩
                                case measure => simp [intOf]; omega
                              · skip
                                have HE2 : Hid (false = decide ((⟨y0, y1, y2, y3, y4, y5, y6, y7, y8, n⟩ : Cr) ∈ O.take (m + 1))) := by
                                  show _ = _
                                  rw [eq_comm, decide_eq_false_iff_not, HT.out]
                                  rintro (h | h)
                                  · exact of_decide_eq_false HE.out.symm h
                                  · simp only [Cr.mk.injEq] at h
                                    omega
                                clear HT HE
                                go_wp2
                                go_quiet (fail)
                                go_wp2
                                go_roundw
                                case rel => exact ⟨m + 1, _, false, by omega, by go_num, rfl, HE2.out, rfl⟩
                                case measure => simp [intOf]; omega
                            · skip
                              have HE2 : Hid (false = decide ((⟨y0, y1, y2, y3, y4, y5, y6, y7, u, n⟩ : Cr) ∈ O.take (m + 1))) := by
                                show _ = _
                                rw [eq_comm, decide_eq_false_iff_not, HT.out]
                                rintro (h | h)
                                · exact of_decide_eq_false HE.out.symm h
                                · simp only [Cr.mk.injEq] at h
                                  omega
                              clear HT HE
                              go_wp2
                              go_quiet (fail)
                              go_wp2
                              go_roundw
                              case rel => exact ⟨m + 1, _, false, by omega, by go_num, rfl, HE2.out, rfl⟩
                              case measure => simp [intOf]; omega
                          · skip
                            have HE2 : Hid (false = decide ((⟨y0, y1, y2, y3, y4, y5, y6, bn, u, n⟩ : Cr) ∈ O.take (m + 1))) := by
                              show _ = _
                              rw [eq_comm, decide_eq_false_iff_not, HT.out]
                              rintro (h | h)
                              · exact of_decide_eq_false HE.out.symm h
                              · simp only [Cr.mk.injEq] at h
                                omega
                            clear HT HE
                            go_wp2
                            go_quiet (fail)
                            go_wp2
                            go_roundw
                            case rel => exact ⟨m + 1, _, false, by omega, by go_num, rfl, HE2.out, rfl⟩
                            case measure => simp [intOf]; omega
                        · skip
                          have HE2 : Hid (false = decide ((⟨y0, y1, y2, y3, y4, y5, bw, bn, u, n⟩ : Cr) ∈ O.take (m + 1))) := by
                            show _ = _
                            rw [eq_comm, decide_eq_false_iff_not, HT.out]
                            rintro (h | h)
                            · exact of_decide_eq_false HE.out.symm h
                            · simp only [Cr.mk.injEq] at h
                              omega
                          clear HT HE
                          go_wp2
                          go_quiet (fail)
                          go_wp2
                          go_roundw
                          case rel => exact ⟨m + 1, _, false, by omega, by go_num, rfl, HE2.out, rfl⟩
                          case measure => simp [intOf]; omega
                      · skip
                        have HE2 : Hid (false = decide ((⟨y0, y1, y2, y3, y4, an, bw, bn, u, n⟩ : Cr) ∈ O.take (m + 1))) := by
                          show _ = _
                          rw [eq_comm, decide_eq_false_iff_not, HT.out]
                          rintro (h | h)
                          · exact of_decide_eq_false HE.out.symm h
                          · simp only [Cr.mk.injEq] at h
                            omega
                        clear HT HE
                        go_wp2
                        go_quiet (fail)
                        go_wp2
                        go_roundw
                        case rel => exact ⟨m + 1, _, false, by omega, by go_num, rfl, HE2.out, rfl⟩
                        case measure => simp [intOf]; omega
                    · skip
                      have HE2 : Hid (false = decide ((⟨y0, y1, y2, y3, aw, an, bw, bn, u, n⟩ : Cr) ∈ O.take (m + 1))) := by
                        show _ = _
                        rw [eq_comm, decide_eq_false_iff_not, HT.out]
                        rintro (h | h)
                        · exact of_decide_eq_false HE.out.symm h
                        · simp only [Cr.mk.injEq] at h
                          omega
                      clear HT HE
                      go_wp2
                      go_quiet (fail)
                      go_wp2
                      go_roundw
                      case rel => exact ⟨m + 1, _, false, by omega, by go_num, rfl, HE2.out, rfl⟩
                      case measure => simp [intOf]; omega
                  · skip
                    have HE2 : Hid (false = decide ((⟨y0, y1, y2, wh, aw, an, bw, bn, u, n⟩ : Cr) ∈ O.take (m + 1))) := by
                      show _ = _
                      rw [eq_comm, decide_eq_false_iff_not, HT.out]
                      rintro (h | h)
                      · exact of_decide_eq_false HE.out.symm h
                      · simp only [Cr.mk.injEq] at h
                        omega
                    clear HT HE
                    go_wp2
                    go_quiet (fail)
                    go_wp2
                    go_roundw
                    case rel => exact ⟨m + 1, _, false, by omega, by go_num, rfl, HE2.out, rfl⟩
                    case measure => simp [intOf]; omega
                · skip
                  have HE2 : Hid (false = decide ((⟨y0, y1, on, wh, aw, an, bw, bn, u, n⟩ : Cr) ∈ O.take (m + 1))) := by
                    show _ = _
                    rw [eq_comm, decide_eq_false_iff_not, HT.out]
                    rintro (h | h)
                    · exact of_decide_eq_false HE.out.symm h
                    · simp only [Cr.mk.injEq] at h
                      omega
                  clear HT HE
                  go_wp2
                  go_quiet (fail)
                  go_wp2
                  go_roundw
                  case rel => exact ⟨m + 1, _, false, by omega, by go_num, rfl, HE2.out, rfl⟩
                  case measure => simp [intOf]; omega
              · skip
                have HE2 : Hid (false = decide ((⟨y0, ow, on, wh, aw, an, bw, bn, u, n⟩ : Cr) ∈ O.take (m + 1))) := by
                  show _ = _
                  rw [eq_comm, decide_eq_false_iff_not, HT.out]
                  rintro (h | h)
                  · exact of_decide_eq_false HE.out.symm h
                  · simp only [Cr.mk.injEq] at h
                    omega
                clear HT HE
                go_wp2
                go_quiet (fail)
                go_wp2
                go_roundw
                case rel => exact ⟨m + 1, _, false, by omega, by go_num, rfl, HE2.out, rfl⟩
                case measure => simp [intOf]; omega
            · skip
              have HE2 : Hid (false = decide ((⟨k, ow, on, wh, aw, an, bw, bn, u, n⟩ : Cr) ∈ O.take (m + 1))) := by
                show _ = _
                rw [eq_comm, decide_eq_false_iff_not, HT.out]
                rintro (h | h)
                · exact of_decide_eq_false HE.out.symm h
                · simp only [Cr.mk.injEq] at h
                  omega
              clear HT HE
              go_wp2
              go_quiet (fail)
              go_wp2
              go_roundw
              case rel => exact ⟨m + 1, _, false, by omega, by go_num, rfl, HE2.out, rfl⟩
              case measure => simp [intOf]; omega
        · have hml : m = O.length := by omega
          subst hml
          rw [List.take_length] at HE
          cases b with
          | true =>
            have HN : Hid (M (j + 1) = O) := by
              show _ = _
              rw [HS.out]
              exact if_pos (of_decide_eq_true HE.out.symm)
            clear HE
            go_wp2
            go_roundw
            case rel => exact ⟨j + 1, by omega, by go_num, by show World.ownsRow _ _ _ _ _ _ _; rw [HN.out]; exact own_below HO.out (below_drewN (Below.refl _ _) _), below_drewN HB.out _⟩
            case measure => simp [intOf]; omega
          | false =>
            have HN : Hid (M (j + 1) = O ++ [⟨k, ow, on, wh, aw, an, bw, bn, u, n⟩]) := by
              show _ = _
              rw [HS.out]
              exact if_neg (of_decide_eq_false HE.out.symm)
            have HO5 := hide (own_below HO.out (below_drewN (Below.refl wr.heap.size wr) nd))
            have HB5 := hide (below_drewN HB.out nd)
            have hB5 : w.heap.size ≤ (wr.drewN nd).heap.size := HB5.out.size
            clear HE
            go_wp2_with (at_builtin; refine wpList_append_one (cs := #[.int .i64 k, .int .i64 ow, .int .i64 on, .int .i64 wh, .int .i64 aw, .int .i64 an, .int .i64 bw, .int .i64 bn, .int .i64 u, .int .i64 n]) (Below.refl w.heap.size _) hB5 rfl (.tmp 35) (.tmp 41) 24 rfl 39 i0 (.agg #[.int .i64 0, .int .i64 0, .int .i64 0, .int .i64 0, .int .i64 0, .int .i64 0, .int .i64 0, .int .i64 0, .int .i64 0, .int .i64 0]) 10 80 Try.underlying24 hi hz0 hz1 hz2 rfl (by decide) rfl (by simp [Value.oneCell']) _ _ _ rfl HO5.out 1 rfl (by omega) (by omega) ?_)
            intro v6 w6 hown hb
            have HO6 : Hid (w6.ownsRow w.heap.size 39 10 v6 (M (j + 1)).length (cellsI (flat crR (M (j + 1))))) := by show World.ownsRow _ _ _ _ _ _ _; rw [HN.out]; exact own_snocR (R := crR) (x := ⟨k, ow, on, wh, aw, an, bw, bn, u, n⟩) rfl hown
            have HB6 := hide (HB5.out.trans hb)
            clear hown hb
            go_wp2
            go_roundw
            case rel => exact ⟨j + 1, by omega, by go_num, HO6.out, HB6.out⟩
            case measure => simp [intOf]; omega
    · have hjl : j = l.length := by omega
      subst hjl
      go_wp2
      go_ret
      exact ⟨_, rfl, HO.out, HB.out⟩
end Go.Proofs.Ythafpkpmnhgmaaa.P7
