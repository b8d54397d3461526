/- The laws' sameItems, samePeer, sameRing at equal data; condition: lists of at most 2^20.
What is so of each ring that chapter 9's laws begin with; no condition. -/
import Derived.Test.YteladljgnbfcnaaGreatZRB
import Derived.Test.YteladljgnbfcnaaGreatZRC
import Derived.Test.YteladljgnbfcnaaGreatZD
import Derived.Test.YteladljgnbfcnaaGreatZRL
import Derived.Test.YteladljgnbfcnaaGreatZRM
import Derived.Test.YteladljgnbfcnaaGreatZSL
import Derived.Test.YteladljgnbfcnaaGreatZSC
namespace Go.Proofs.YteladljgnbfcnaaGreat.P9
set_option maxRecDepth 8000
open Go.RowKit P1 P8 Da

set_option maxHeartbeats 1000000 in
theorem sameItems_calls (w : World) (v u : Value) (l : List It) (hv : ItemsAt w v l) (hu : ItemsAt w u l) (hl : l.length ≤ 1048576) :
    Calls Tryz.prog 62 #[v, u] w fun e w' => e = .returned (.bool true) ∧ Below w.heap.size w w' := by
  have HV := hide hv
  have HU := hide hu
  obtain ⟨a, ca, rfl, -⟩ := hv.open_
  obtain ⟨b, cb, rfl, -⟩ := hu.open_
  clear hv hu
  go_enter Tryz.func62, Tryz.ntmps62
  go_wp2_with fail
  go_loopw [5] (fun i wr => ∃ k : Nat, k ≤ l.length ∧ i = .int .i64 k ∧ Hid (Below w.heap.size w wr)) (fun i _ => l.length - (intOf i).toNat)
  case atStart => exact ⟨0, Nat.zero_le _, rfl, Below.refl _ _⟩
  case round =>
    obtain ⟨k, hk, rfl, HB⟩ := hrel
    by_cases hlt : k < l.length
    · obtain ⟨ax, cx, hax, HA⟩ := (HV.out.below HB.out (Nat.le_refl _)).open_
      cases hax
      obtain ⟨bx, dx, hbx, HA2⟩ := (HU.out.below HB.out (Nat.le_refl _)).open_
      cases hbx
      obtain ⟨g, off, rfl, hg, f0, f1⟩ := HA k hlt
      obtain ⟨g', off', rfl, hg', f0', f1'⟩ := HA2 k hlt
      clear HA HA2
      generalize l[k] = x at *
      obtain ⟨xt, xb⟩ := x
      dsimp only at f0 f1 f0' f1'
      have hbb : (xb != xb) = false := by cases xb <;> rfl
      have htt : (xt != xt) = false := by simp
      have n0 : ∀ p : Near wr.heap.size wr, p.w.cell? ⟨g, off + k * 2, none⟩ = some (.string ⟨xt.toArray⟩) := fun p => (p.h.cell (p := ⟨g, off + k * 2, none⟩) hg).trans f0
      have n1 : ∀ p : Near wr.heap.size wr, p.w.cell? ⟨g, off + k * 2 + 1, none⟩ = some (.bool xb) := fun p => (p.h.cell (p := ⟨g, off + k * 2 + 1, none⟩) hg).trans f1
      have m0 : ∀ p : Near wr.heap.size wr, p.w.cell? ⟨g', off' + k * 2, none⟩ = some (.string ⟨xt.toArray⟩) := fun p => (p.h.cell (p := ⟨g', off' + k * 2, none⟩) hg').trans f0'
      have m1 : ∀ p : Near wr.heap.size wr, p.w.cell? ⟨g', off' + k * 2 + 1, none⟩ = some (.bool xb) := fun p => (p.h.cell (p := ⟨g', off' + k * 2 + 1, none⟩) hg').trans f1'
      have hnn := Near.some wr.heap.size wr
      go_wp2_with fail
      refine wp_region_near wr.heap.size wr (Below.refl _ _) (by kernel_rfl) (by kernel_rfl) ?_
      repeat (go_big_quiet_step (fail))
      refine wpQuiet_nil ?_
      rintro w3 ⟨pq, rfl⟩
      have hqb := pq.h
      obtain ⟨w3, hq⟩ := pq
      simp only at hqb ⊢
      have HB3 := hide (HB.out.trans (hqb.mono HB.out.size))
      clear hq hnn hqb HB n0 n1 m0 m1
      go_wp2_with fail
      go_roundw
      case rel => exact ⟨k + 1, by omega, by go_num, HB3.out⟩
      case measure => simp [intOf]; omega
    · go_wp2_with fail
      go_ret
      exact ⟨rfl, HB.out⟩

set_option maxHeartbeats 2000000 in
theorem samePeer_calls (w : World) (p : Pr) (v3 v4 v5 u3 u4 u5 : Value) (h3 : IntsAt w v3 p.behind) (h4 : IntsAt w v4 p.fingers) (h5 : ShelvesAt w v5 p.shelves) (k3 : IntsAt w u3 p.behind) (k4 : IntsAt w u4 p.fingers) (k5 : ShelvesAt w u5 p.shelves) (hp : Small p) :
    Calls Tryz.prog 39 #[prV p v3 v4 v5, prV p u3 u4 u5] w fun e w' => e = .returned (.bool true) ∧ Below w.heap.size w w' := by
  obtain ⟨id, here, ahead, be, fi, sh⟩ := p
  have hs3 := hp.b
  have hs4 := hp.f
  have hs5 := hp.s
  have hs6 := hp.i
  dsimp only at h3 h4 h5 k3 k4 k5 hs3 hs4 hs5 hs6
  dsimp only [prV]
  have H3 := hide h3
  have H4 := hide h4
  have H5 := hide h5
  have K3 := hide k3
  have K4 := hide k4
  have K5 := hide k5
  have HS := hide hs6
  obtain ⟨a3, c3, rfl, -⟩ := h3
  obtain ⟨a4, c4, rfl, -⟩ := h4
  obtain ⟨a5, c5, e5, -⟩ := h5.open_
  obtain ⟨b3, d3, rfl, -⟩ := k3
  obtain ⟨b4, d4, rfl, -⟩ := k4
  obtain ⟨b5, d5, e6, -⟩ := k5.open_
  subst e5 e6
  clear h5 k5 hp hs6
  have q1 : (id != id) = false := by simp
  have q2 : (here != here) = false := by cases here <;> rfl
  have q3 : (ahead != ahead) = false := by simp
  go_enter Tryz.func39, Tryz.ntmps39
  go_upto_region 1 with fail
  have h1 := (Below.refl w.heap.size w).alloc (Nat.le_refl _) (.cells #[.int .i64 id, .bool here, .int .i64 ahead, .slice a3 be.length c3, .slice a4 fi.length c4, .slice a5 sh.length c5] 37)
  have h2 := h1.alloc h1.size (.cells #[.int .i64 id, .bool here, .int .i64 ahead, .slice b3 be.length d3, .slice b4 fi.length d4, .slice b5 sh.length d5] 37)
  have A := (Blk.new w #[.int .i64 id, .bool here, .int .i64 ahead, .slice a3 be.length c3, .slice a4 fi.length c4, .slice a5 sh.length c5] 37)
  have A2 := A.below ((Below.refl _ _).alloc (Nat.le_refl _) (.cells #[.int .i64 id, .bool here, .int .i64 ahead, .slice b3 be.length d3, .slice b4 fi.length d4, .slice b5 sh.length d5] 37)) A.lt
  have C := Blk.new (w.alloc (.cells #[.int .i64 id, .bool here, .int .i64 ahead, .slice a3 be.length c3, .slice a4 fi.length c4, .slice a5 sh.length c5] 37)) #[.int .i64 id, .bool here, .int .i64 ahead, .slice b3 be.length d3, .slice b4 fi.length d4, .slice b5 sh.length d5] 37
  rw [show (w.alloc (.cells #[.int .i64 id, .bool here, .int .i64 ahead, .slice a3 be.length c3, .slice a4 fi.length c4, .slice a5 sh.length c5] 37)).heap.size = w.heap.size + 1 from by simp [go_sem]] at C
  have HB := hide h2
  obtain ⟨x, ex⟩ : ∃ x, x = w.heap.size := ⟨_, rfl⟩
  rw [← ex] at A2 C ⊢
  clear ex h1 h2 A
  generalize (w.alloc (.cells #[.int .i64 id, .bool here, .int .i64 ahead, .slice a3 be.length c3, .slice a4 fi.length c4, .slice a5 sh.length c5] 37)).alloc (.cells #[.int .i64 id, .bool here, .int .i64 ahead, .slice b3 be.length d3, .slice b4 fi.length d4, .slice b5 sh.length d5] 37) = w1 at *
  have f0 : w1.cell? ⟨x, 0, none⟩ = some (.int .i64 id) := by rw [A2.cell 0]; rfl
  have f1 : w1.cell? ⟨x, 1, none⟩ = some (.bool here) := by rw [A2.cell 1]; rfl
  have f2 : w1.cell? ⟨x, 2, none⟩ = some (.int .i64 ahead) := by rw [A2.cell 2]; rfl
  have f3 : w1.cell? ⟨x, 3, none⟩ = some (.slice a3 be.length c3) := by rw [A2.cell 3]; rfl
  have f4 : w1.cell? ⟨x, 4, none⟩ = some (.slice a4 fi.length c4) := by rw [A2.cell 4]; rfl
  have f5 : w1.cell? ⟨x, 5, none⟩ = some (.slice a5 sh.length c5) := by rw [A2.cell 5]; rfl
  have g0 : w1.cell? ⟨x + 1, 0, none⟩ = some (.int .i64 id) := by rw [C.cell 0]; rfl
  have g1 : w1.cell? ⟨x + 1, 1, none⟩ = some (.bool here) := by rw [C.cell 1]; rfl
  have g2 : w1.cell? ⟨x + 1, 2, none⟩ = some (.int .i64 ahead) := by rw [C.cell 2]; rfl
  have g3 : w1.cell? ⟨x + 1, 3, none⟩ = some (.slice b3 be.length d3) := by rw [C.cell 3]; rfl
  have g4 : w1.cell? ⟨x + 1, 4, none⟩ = some (.slice b4 fi.length d4) := by rw [C.cell 4]; rfl
  have g5 : w1.cell? ⟨x + 1, 5, none⟩ = some (.slice b5 sh.length d5) := by rw [C.cell 5]; rfl
  have lf := A2.lt
  have lg := C.lt
  have E3 := hide (sameInts_calls w1 _ _ be be (H3.out.below HB.out (Nat.le_refl _)) (K3.out.below HB.out (Nat.le_refl _)) (by omega) (by omega))
  rw [decide_eq_true (rfl : be = be)] at E3
  go_wp2_with fail
  refine E3.out.mono ?_
  rintro e w2 ⟨rfl, n2, rfl⟩
  have HB2 : Hid (Below w.heap.size w (w1.drewN n2)) := below_drewN HB.out n2
  have A3 : Blk (w1.drewN n2) x _ _ := A2
  have C3 : Blk (w1.drewN n2) (x + 1) _ _ := C
  clear E3 f0 f1 f2 f3 f4 f5 g0 g1 g2 g3 g4 g5 lf lg A2 C HB
  generalize w1.drewN n2 = w2 at *
  have f0 : w2.cell? ⟨x, 0, none⟩ = some (.int .i64 id) := by rw [A3.cell 0]; rfl
  have f1 : w2.cell? ⟨x, 1, none⟩ = some (.bool here) := by rw [A3.cell 1]; rfl
  have f2 : w2.cell? ⟨x, 2, none⟩ = some (.int .i64 ahead) := by rw [A3.cell 2]; rfl
  have f3 : w2.cell? ⟨x, 3, none⟩ = some (.slice a3 be.length c3) := by rw [A3.cell 3]; rfl
  have f4 : w2.cell? ⟨x, 4, none⟩ = some (.slice a4 fi.length c4) := by rw [A3.cell 4]; rfl
  have f5 : w2.cell? ⟨x, 5, none⟩ = some (.slice a5 sh.length c5) := by rw [A3.cell 5]; rfl
  have g0 : w2.cell? ⟨x + 1, 0, none⟩ = some (.int .i64 id) := by rw [C3.cell 0]; rfl
  have g1 : w2.cell? ⟨x + 1, 1, none⟩ = some (.bool here) := by rw [C3.cell 1]; rfl
  have g2 : w2.cell? ⟨x + 1, 2, none⟩ = some (.int .i64 ahead) := by rw [C3.cell 2]; rfl
  have g3 : w2.cell? ⟨x + 1, 3, none⟩ = some (.slice b3 be.length d3) := by rw [C3.cell 3]; rfl
  have g4 : w2.cell? ⟨x + 1, 4, none⟩ = some (.slice b4 fi.length d4) := by rw [C3.cell 4]; rfl
  have g5 : w2.cell? ⟨x + 1, 5, none⟩ = some (.slice b5 sh.length d5) := by rw [C3.cell 5]; rfl
  have lf := A3.lt
  have lg := C3.lt
  have E4 := hide (sameInts_calls w2 _ _ fi fi (H4.out.below HB2.out (Nat.le_refl _)) (K4.out.below HB2.out (Nat.le_refl _)) (by omega) (by omega))
  rw [decide_eq_true (rfl : fi = fi)] at E4
  go_wp2_with fail
  refine E4.out.mono ?_
  rintro e w3 ⟨rfl, n3, rfl⟩
  have HB3 : Hid (Below w.heap.size w (w2.drewN n3)) := below_drewN HB2.out n3
  have A4 : Blk (w2.drewN n3) x _ _ := A3
  have C4 : Blk (w2.drewN n3) (x + 1) _ _ := C3
  clear E4 f0 f1 f2 f3 f4 f5 g0 g1 g2 g3 g4 g5 lf lg A3 C3 HB2
  generalize w2.drewN n3 = w3 at *
  have f0 : w3.cell? ⟨x, 0, none⟩ = some (.int .i64 id) := by rw [A4.cell 0]; rfl
  have f1 : w3.cell? ⟨x, 1, none⟩ = some (.bool here) := by rw [A4.cell 1]; rfl
  have f2 : w3.cell? ⟨x, 2, none⟩ = some (.int .i64 ahead) := by rw [A4.cell 2]; rfl
  have f3 : w3.cell? ⟨x, 3, none⟩ = some (.slice a3 be.length c3) := by rw [A4.cell 3]; rfl
  have f4 : w3.cell? ⟨x, 4, none⟩ = some (.slice a4 fi.length c4) := by rw [A4.cell 4]; rfl
  have f5 : w3.cell? ⟨x, 5, none⟩ = some (.slice a5 sh.length c5) := by rw [A4.cell 5]; rfl
  have g0 : w3.cell? ⟨x + 1, 0, none⟩ = some (.int .i64 id) := by rw [C4.cell 0]; rfl
  have g1 : w3.cell? ⟨x + 1, 1, none⟩ = some (.bool here) := by rw [C4.cell 1]; rfl
  have g2 : w3.cell? ⟨x + 1, 2, none⟩ = some (.int .i64 ahead) := by rw [C4.cell 2]; rfl
  have g3 : w3.cell? ⟨x + 1, 3, none⟩ = some (.slice b3 be.length d3) := by rw [C4.cell 3]; rfl
  have g4 : w3.cell? ⟨x + 1, 4, none⟩ = some (.slice b4 fi.length d4) := by rw [C4.cell 4]; rfl
  have g5 : w3.cell? ⟨x + 1, 5, none⟩ = some (.slice b5 sh.length d5) := by rw [C4.cell 5]; rfl
  have lf := A4.lt
  have lg := C4.lt
  have HA3 := hide A4
  have HC3 := hide C4
  have hsl : ((sh.length : Int) != (sh.length : Int)) = false := by simp
  clear A4 C4
  go_wp2_with fail
  go_loopw [5] (fun i wr => ∃ k : Nat, k ≤ sh.length ∧ i = .int .i64 k ∧ Hid (Below w3.heap.size w3 wr)) (fun i _ => sh.length - (intOf i).toNat)
  case atStart => exact ⟨0, Nat.zero_le _, rfl, Below.refl _ _⟩
  case round =>
    clear f0 f1 f2 f3 f4 f5 g0 g1 g2 g3 g4 g5 lf lg
    obtain ⟨k, hk, rfl, HBr⟩ := hrel
    have hBr := HB3.out.trans (HBr.out.mono HB3.out.size)
    have A5 := HA3.out.below HBr.out HA3.out.lt
    have C5 := HC3.out.below HBr.out HC3.out.lt
    have f5 := blk_free_cell A5 5 rfl
    have g5 := blk_free_cell C5 5 rfl
    have lf := A5.lt
    have lg := C5.lt
    by_cases hlt : k < sh.length
    · obtain ⟨ax, cx, hax, HA⟩ := (H5.out.below hBr (Nat.le_refl _)).open_
      cases hax
      obtain ⟨bx, dx, hbx, HA2⟩ := (K5.out.below hBr (Nat.le_refl _)).open_
      cases hbx
      obtain ⟨g, off, u1, rfl, hg, c0, c1, hi1⟩ := HA k hlt
      obtain ⟨g', off', u2, rfl, hg', c0', c1', hi2⟩ := HA2 k hlt
      clear HA HA2
      have hsm := (HS.out sh[k] (List.getElem_mem hlt)).1
      generalize sh[k] = y at *
      obtain ⟨yk, yi⟩ := y
      dsimp only at c0 c1 c0' c1' hi1 hi2 hsm
      obtain ⟨a1, e1, hx1, -⟩ := hi1.open_
      obtain ⟨a2, e2, hx2, -⟩ := hi2.open_
      subst hx1 hx2
      have hkk : (yk != yk) = false := by simp
      have HC := hide (fun p : Near wr.heap.size wr => sameItems_calls p.w _ _ yi (hi1.below p.h (Nat.le_refl _)) (hi2.below p.h (Nat.le_refl _)) hsm)
      have n5 : ∀ p : Near wr.heap.size wr, p.w.cell? ⟨x, 5, none⟩ = some (.slice (some ⟨g, off, none⟩) sh.length c5) := fun p => blk_free_cell (A5.below p.h A5.lt) 5 rfl
      have m5 : ∀ p : Near wr.heap.size wr, p.w.cell? ⟨x + 1, 5, none⟩ = some (.slice (some ⟨g', off', none⟩) sh.length d5) := fun p => blk_free_cell (C5.below p.h C5.lt) 5 rfl
      have n0 : ∀ p : Near wr.heap.size wr, p.w.cell? ⟨g, off + k * 2, none⟩ = some (.int .i64 yk) := fun p => (p.h.cell (p := ⟨g, off + k * 2, none⟩) hg).trans c0
      have n1 : ∀ p : Near wr.heap.size wr, p.w.cell? ⟨g, off + k * 2 + 1, none⟩ = some (.slice a1 yi.length e1) := fun p => (p.h.cell (p := ⟨g, off + k * 2 + 1, none⟩) hg).trans c1
      have m0 : ∀ p : Near wr.heap.size wr, p.w.cell? ⟨g', off' + k * 2, none⟩ = some (.int .i64 yk) := fun p => (p.h.cell (p := ⟨g', off' + k * 2, none⟩) hg').trans c0'
      have m1 : ∀ p : Near wr.heap.size wr, p.w.cell? ⟨g', off' + k * 2 + 1, none⟩ = some (.slice a2 yi.length e2) := fun p => (p.h.cell (p := ⟨g', off' + k * 2 + 1, none⟩) hg').trans c1'
      have hnn := Near.some wr.heap.size wr
      go_upto_region 6 with fail
      refine wp_region_near wr.heap.size wr (Below.refl _ _) (by kernel_rfl) (by kernel_rfl) ?_
      repeat (go_big_quiet_step (fail))
      go_big_quiet_step (exact calls_near (Nat.le_refl _) (HC.out _))
      repeat (go_big_quiet_step (fail))
      refine wpQuiet_nil ?_
      rintro w5 ⟨pq, rfl⟩
      have HB5 := hide (HBr.out.trans (pq.h.mono HBr.out.size))
      clear hnn HC n0 n1 n5 m0 m1 m5 f5 g5 lf lg A5 C5
      go_wp2_with fail
      go_roundw
      case rel => exact ⟨k + 1, by omega, by go_num, HB5.out⟩
      case measure => simp [intOf]; omega
    · have HBf := hide hBr
      clear A5 C5
      go_wp2_with fail
      go_ret
      exact ⟨rfl, HBf.out⟩

set_option maxHeartbeats 1000000 in
theorem sameRing_calls (w : World) (v u : Value) (l : List Pr) (hv : PeersAt w v l) (hu : PeersAt w u l) (hl : l.length ≤ 1048576) (hs0 : ∀ x ∈ l, Small x) :
    Calls Tryz.prog 20 #[.agg #[v], .agg #[u]] w fun e w' => e = .returned (.bool true) ∧ Below w.heap.size w w' := by
  have HV := hide hv
  have HU := hide hu
  obtain ⟨a, ca, rfl, -⟩ := hv.open_
  obtain ⟨b, cb, rfl, -⟩ := hu.open_
  have HSM := hide hs0
  clear hv hu hs0
  have h1 := (Below.refl w.heap.size w).alloc (Nat.le_refl _) (.cells #[.slice a l.length ca] 28)
  have h2 := h1.alloc h1.size (.cells #[.slice b l.length cb] 28)
  have A := Blk.new w #[.slice a l.length ca] 28
  have A2 := A.below ((Below.refl _ _).alloc (Nat.le_refl _) (.cells #[.slice b l.length cb] 28)) A.lt
  have C := Blk.new (w.alloc (.cells #[.slice a l.length ca] 28)) #[.slice b l.length cb] 28
  rw [show (w.alloc (.cells #[.slice a l.length ca] 28)).heap.size = w.heap.size + 1 from by simp [go_sem]] at C
  have HB1 := hide h2
  go_enter Tryz.func20, Tryz.ntmps20
  go_upto_region 1 with fail
  obtain ⟨x, ex⟩ : ∃ x, x = w.heap.size := ⟨_, rfl⟩
  rw [← ex] at A2 C ⊢
  clear ex h1 h2 A
  generalize (w.alloc (.cells #[.slice a l.length ca] 28)).alloc (.cells #[.slice b l.length cb] 28) = w1 at *
  have f0 := blk_free_cell A2 0 rfl
  have g0 := blk_free_cell C 0 rfl
  have lf := A2.lt
  have lg := C.lt
  have HBA := hide A2
  have HBC := hide C
  have hsl : ((l.length : Int) != (l.length : Int)) = false := by simp
  clear A2 C
  go_wp2_with fail
  go_loopw [5] (fun i wr => ∃ k : Nat, k ≤ l.length ∧ i = .int .i64 k ∧ Hid (Below w1.heap.size w1 wr)) (fun i _ => l.length - (intOf i).toNat)
  case atStart => exact ⟨0, Nat.zero_le _, rfl, Below.refl _ _⟩
  case round =>
    clear f0 g0 lf lg
    obtain ⟨k, hk, rfl, HBr⟩ := hrel
    have HB := hide (HB1.out.trans (HBr.out.mono HB1.out.size))
    have A5 := HBA.out.below HBr.out HBA.out.lt
    have C5 := HBC.out.below HBr.out HBC.out.lt
    have f0 := blk_free_cell A5 0 rfl
    have g0 := blk_free_cell C5 0 rfl
    have lf := A5.lt
    have lg := C5.lt
    by_cases hlt : k < l.length
    · obtain ⟨ax, cx, hax, HA⟩ := (HV.out.below HB.out (Nat.le_refl _)).open_
      cases hax
      obtain ⟨bx, dx, hbx, HA2⟩ := (HU.out.below HB.out (Nat.le_refl _)).open_
      cases hbx
      obtain ⟨g, off, x3, x4, x5, rfl, hg, hc⟩ := HA k hlt
      obtain ⟨g', off', y3, y4, y5, rfl, hg', hd⟩ := HA2 k hlt
      clear HA HA2
      have hsm := HSM.out l[k] (List.getElem_mem hlt)
      generalize l[k] = q at *
      have i3 := hc.behind
      have i4 := hc.fingers
      have i5 := hc.shelves
      have j3 := hd.behind
      have j4 := hd.fingers
      have j5 := hd.shelves
      have HC := hide (fun p : Near wr.heap.size wr => samePeer_calls p.w q x3 x4 x5 y3 y4 y5 (i3.below p.h (Nat.le_refl _)) (i4.below p.h (Nat.le_refl _)) (i5.below p.h (Nat.le_refl _)) (j3.below p.h (Nat.le_refl _)) (j4.below p.h (Nat.le_refl _)) (j5.below p.h (Nat.le_refl _)) hsm)
      obtain ⟨a3, c3, e3, -⟩ := i3
      obtain ⟨a4, c4, e4, -⟩ := i4
      obtain ⟨a5, c5, e5, -⟩ := i5.open_
      obtain ⟨b3, d3, e6, -⟩ := j3
      obtain ⟨b4, d4, e7, -⟩ := j4
      obtain ⟨b5, d5, e8, -⟩ := j5.open_
      subst e3 e4 e5 e6 e7 e8
      have n0 : ∀ p : Near wr.heap.size wr, p.w.cell? ⟨g, off + k * 6, none⟩ = some (.int .i64 q.id) := fun p => (p.h.cell (p := ⟨g, off + k * 6, none⟩) hg).trans hc.id
      have n1 : ∀ p : Near wr.heap.size wr, p.w.cell? ⟨g, off + k * 6 + 1, none⟩ = some (.bool q.here) := fun p => (p.h.cell (p := ⟨g, off + k * 6 + 1, none⟩) hg).trans hc.here
      have n2 : ∀ p : Near wr.heap.size wr, p.w.cell? ⟨g, off + k * 6 + 2, none⟩ = some (.int .i64 q.ahead) := fun p => (p.h.cell (p := ⟨g, off + k * 6 + 2, none⟩) hg).trans hc.ahead
      have n3 : ∀ p : Near wr.heap.size wr, p.w.cell? ⟨g, off + k * 6 + 3, none⟩ = some (.slice a3 q.behind.length c3) := fun p => (p.h.cell (p := ⟨g, off + k * 6 + 3, none⟩) hg).trans hc.c3
      have n4 : ∀ p : Near wr.heap.size wr, p.w.cell? ⟨g, off + k * 6 + 4, none⟩ = some (.slice a4 q.fingers.length c4) := fun p => (p.h.cell (p := ⟨g, off + k * 6 + 4, none⟩) hg).trans hc.c4
      have n5 : ∀ p : Near wr.heap.size wr, p.w.cell? ⟨g, off + k * 6 + 5, none⟩ = some (.slice a5 q.shelves.length c5) := fun p => (p.h.cell (p := ⟨g, off + k * 6 + 5, none⟩) hg).trans hc.c5
      have m0 : ∀ p : Near wr.heap.size wr, p.w.cell? ⟨g', off' + k * 6, none⟩ = some (.int .i64 q.id) := fun p => (p.h.cell (p := ⟨g', off' + k * 6, none⟩) hg').trans hd.id
      have m1 : ∀ p : Near wr.heap.size wr, p.w.cell? ⟨g', off' + k * 6 + 1, none⟩ = some (.bool q.here) := fun p => (p.h.cell (p := ⟨g', off' + k * 6 + 1, none⟩) hg').trans hd.here
      have m2 : ∀ p : Near wr.heap.size wr, p.w.cell? ⟨g', off' + k * 6 + 2, none⟩ = some (.int .i64 q.ahead) := fun p => (p.h.cell (p := ⟨g', off' + k * 6 + 2, none⟩) hg').trans hd.ahead
      have m3 : ∀ p : Near wr.heap.size wr, p.w.cell? ⟨g', off' + k * 6 + 3, none⟩ = some (.slice b3 q.behind.length d3) := fun p => (p.h.cell (p := ⟨g', off' + k * 6 + 3, none⟩) hg').trans hd.c3
      have m4 : ∀ p : Near wr.heap.size wr, p.w.cell? ⟨g', off' + k * 6 + 4, none⟩ = some (.slice b4 q.fingers.length d4) := fun p => (p.h.cell (p := ⟨g', off' + k * 6 + 4, none⟩) hg').trans hd.c4
      have m5 : ∀ p : Near wr.heap.size wr, p.w.cell? ⟨g', off' + k * 6 + 5, none⟩ = some (.slice b5 q.shelves.length d5) := fun p => (p.h.cell (p := ⟨g', off' + k * 6 + 5, none⟩) hg').trans hd.c5
      clear hc hd i5 j5 hsm
      obtain ⟨id, here, ahead, be, fi, sh⟩ := q
      dsimp only [prV] at n0 n1 n2 n3 n4 n5 m0 m1 m2 m3 m4 m5 HC
      have r0 : ∀ p : Near wr.heap.size wr, p.w.cell? ⟨x, 0, none⟩ = some (.slice (some ⟨g, off, none⟩) l.length ca) := fun p => blk_free_cell (A5.below p.h A5.lt) 0 rfl
      have s0 : ∀ p : Near wr.heap.size wr, p.w.cell? ⟨x + 1, 0, none⟩ = some (.slice (some ⟨g', off', none⟩) l.length cb) := fun p => blk_free_cell (C5.below p.h C5.lt) 0 rfl
      have hnn := Near.some wr.heap.size wr
      go_upto_region 6 with fail
      refine wp_region_near wr.heap.size wr (Below.refl _ _) (by kernel_rfl) (by kernel_rfl) ?_
      repeat (go_big_quiet_step (fail))
      go_big_quiet_step (exact calls_near (Nat.le_refl _) (HC.out _))
      repeat (go_big_quiet_step (fail))
      refine wpQuiet_nil ?_
      rintro w3 ⟨pq, rfl⟩
      have hqb := pq.h
      obtain ⟨w3, hq⟩ := pq
      simp only at hqb ⊢
      have HB3 := hide (HBr.out.trans (hqb.mono HBr.out.size))
      clear hq hnn HC hqb HB r0 s0 f0 g0 lf lg A5 C5 n0 m0 n1 m1 n2 m2 n3 m3 n4 m4 n5 m5
      go_wp2_with fail
      go_roundw
      case rel => exact ⟨k + 1, by omega, by go_num, HB3.out⟩
      case measure => simp [intOf]; omega
    · go_wp2_with fail
      go_ret
      exact ⟨rfl, HB.out⟩
end Go.Proofs.YteladljgnbfcnaaGreat.P9
namespace Go.Proofs.YteladljgnbfcnaaGreat.P9
open Go.RowKit P1 P8 Da Cu

def headIs (x : Int) : List Int → Bool
  | [] => false
  | y :: _ => decide (y = x)

def ringFacts (R : List Pr) (H : List Int) : Bool :=
  decide (H.length = 4) && ringOk R && (List.range 4).all fun j => decide (0 ≤ peerAt R (H.getD j 0)) && (decide (j = 0) || decide (H.getD (j - 1) 0 < H.getD j 0)) && headIs (nextOf R (H.getD j 0)) (ordered (H.getD j 0) H)

theorem starts_facts : starts.all (fun l => ringFacts (ringNew l) (hereOf (ringNew l))) = true := by decide +kernel

theorem headIs_cons {x : Int} {l : List Int} (h : headIs x l = true) : ∃ t, l = x :: t := by
  cases l with
  | nil => cases h
  | cons y t =>
    unfold headIs at h
    exact ⟨t, by rw [of_decide_eq_true h]⟩

theorem ring_facts {R : List Pr} {H : List Int} (h1 : ringFacts R H = true) : H.length = 4 ∧ ringOk R = true ∧ ∀ j (hj : j < H.length), 0 ≤ peerAt R H[j] ∧ (∀ (_ : 0 < j) (h : j - 1 < H.length), H[j - 1]'h < H[j]) ∧ ∃ t, ordered H[j] H = nextOf R H[j] :: t := by
  unfold ringFacts at h1
  simp only [Bool.and_eq_true, decide_eq_true_eq, List.all_eq_true, List.mem_range, Bool.or_eq_true] at h1
  obtain ⟨⟨h2, h3⟩, h4⟩ := h1
  refine ⟨h2, h3, fun j hj => ?_⟩
  obtain ⟨⟨h5, h6⟩, h7⟩ := h4 j (by omega)
  have e : H.getD j 0 = H[j] := by rw [List.getD_eq_getElem?_getD, List.getElem?_eq_getElem hj]; rfl
  rw [e] at h5 h6 h7
  refine ⟨h5, fun h0 h => ?_, headIs_cons h7⟩
  have e1 : H.getD (j - 1) 0 = H[j - 1] := by rw [List.getD_eq_getElem?_getD, List.getElem?_eq_getElem h]; rfl
  rw [e1] at h6
  exact h6.resolve_left (by omega)

theorem start_ring {l : List Int} (h : l ∈ starts) : ringFacts (ringNew l) (hereOf (ringNew l)) = true := List.all_eq_true.1 starts_facts l h

theorem ringNew_small (ids : List Int) : (ringNew ids).length ≤ 8 ∧ ∀ p ∈ ringNew ids, p.behind.length ≤ 3 ∧ p.fingers.length ≤ 8 ∧ p.shelves = [] := by
  have h8 := keep8_length (nub ids)
  change (kept ids).length ≤ 8 at h8
  unfold ringNew
  by_cases h4 : (kept ids).length < 4
  · rw [if_pos h4]
    exact ⟨by simp, by simp⟩
  · rw [if_neg h4]
    refine ⟨by simp; omega, fun p hp => ?_⟩
    rcases List.mem_append.1 hp with h | h
    · obtain ⟨x, _, rfl⟩ := List.mem_map.1 h
      exact ⟨by simp [knows]; omega, by simp [knows, fingers], rfl⟩
    · obtain ⟨x, _, rfl⟩ := List.mem_map.1 h
      exact ⟨by simp [away], by simp [away], rfl⟩

theorem ringNew_fits (ids : List Int) : (ringNew ids).length ≤ 8 ∧ ∀ p ∈ ringNew ids, Small p := by
  obtain ⟨h1, h2⟩ := ringNew_small ids
  refine ⟨h1, fun p hp => ?_⟩
  obtain ⟨hb, hf, hs⟩ := h2 p hp
  exact ⟨Nat.le_trans hb (by decide), Nat.le_trans hf (by decide), by rw [hs]; exact Nat.zero_le _, fun x hx => by rw [hs] at hx; cases hx⟩
end Go.Proofs.YteladljgnbfcnaaGreat.P9
