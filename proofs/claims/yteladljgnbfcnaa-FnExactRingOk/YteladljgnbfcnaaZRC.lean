/- The laws' eqPeer, eqPeerS, eqRing at equal data; condition: lists of at most 2^20.
The laws' toItem, toItemS: copies in memory of their own; condition: at most 2^20 items.
The laws' toShelf, toShelfS: copies in memory of their own; condition: lists of at most 2^20.
The laws' toShelfS: a copy in memory of its own; condition: lists of at most 2^20.
The laws' toPeer: a copy in memory of its own; condition: lists of at most 2^20.
The laws' toPeerS, toRing: copies in memory of their own; condition: lists of at most 2^20.
The laws' toRing: a copy in memory of its own; condition: lists of at most 2^20.
The laws' szItem, szItemS, szShelf, szShelfS: how much there is; no condition but that lengths are ints.
The laws' szShelf, szShelfS, szIntS, szPeer, szPeerS, szRing: how much there is; no condition but that lengths are ints.
The laws' szPeer, szPeerS, szRing: how much there is; no condition but that lengths are ints.
Marks on data that a call owns: every leaf of a tree written over by its number, in order; no condition.
The laws' markIntS, markItemS: marks on rows that the call owns; conditions: at most 2^20 elements, marks of at most 5 * 10^8.
The laws' markShelfS, markPeerS, markRing: marks on rings that the call owns; conditions: rows of at most 2^20, marks of at most 5 * 10^8.
The laws' heldItemS, heldShelfS, heldPeerS, heldRing over marked rings; conditions: rows of at most 2^20, marks of at most 4 * 10^8. -/
import Derived.Test.YteladljgnbfcnaaZRB
import Derived.Test.YteladljgnbfcnaaZV
import Derived.Test.YteladljgnbfcnaaZD
import Derived.Deep.CutRange
namespace Go.Proofs.Yteladljgnbfcnaa.P9
set_option maxRecDepth 8000
open Go.RowKit P1 P8 Da

set_option maxHeartbeats 2000000 in
theorem eqPeer_calls (w : World) (p : Pr) (v3 v4 v5 u3 u4 u5 : Value) (h3 : IntsAt w v3 p.behind) (h4 : IntsAt w v4 p.fingers) (h5 : ShelvesAt w v5 p.shelves) (k3 : IntsAt w u3 p.behind) (k4 : IntsAt w u4 p.fingers) (k5 : ShelvesAt w u5 p.shelves) (hp : Small p) :
    Calls Try.prog 46 #[prV p v3 v4 v5, prV p u3 u4 u5] w fun e w' => e = .returned (.bool true) ∧ Below w.heap.size w w' := by
  obtain ⟨id, here, ahead, be, fi, sh⟩ := p
  have hs3 := hp.b
  have hs4 := hp.f
  have hs5 := hp.s
  have hs6 := hp.i
  dsimp only at h3 h4 h5 k3 k4 k5 hs3 hs4 hs5 hs6
  dsimp only [prV]
  have H3 := hide h3
  have H4 := hide h4
  have H5 := hide h5
  have K3 := hide k3
  have K4 := hide k4
  have K5 := hide k5
  have HS := hide hs6
  obtain ⟨a3, c3, rfl, -⟩ := h3
  obtain ⟨a4, c4, rfl, -⟩ := h4
  obtain ⟨a5, c5, e5, -⟩ := h5.open_
  obtain ⟨b3, d3, rfl, -⟩ := k3
  obtain ⟨b4, d4, rfl, -⟩ := k4
  obtain ⟨b5, d5, e6, -⟩ := k5.open_
  subst e5 e6
  clear h5 k5 hp hs6
  have q1 : (id != id) = false := by simp
  have q2 : (here != here) = false := by cases here <;> rfl
  have q3 : (ahead != ahead) = false := by simp
  go_enter Try.func46, Try.ntmps46
  go_upto_region 1 with fail
  have h1 := (Below.refl w.heap.size w).alloc (Nat.le_refl _) (.cells #[.int .i64 id, .bool here, .int .i64 ahead, .slice a3 be.length c3, .slice a4 fi.length c4, .slice a5 sh.length c5] 44)
  have h2 := h1.alloc h1.size (.cells #[.int .i64 id, .bool here, .int .i64 ahead, .slice b3 be.length d3, .slice b4 fi.length d4, .slice b5 sh.length d5] 44)
  have A := (Blk.new w #[.int .i64 id, .bool here, .int .i64 ahead, .slice a3 be.length c3, .slice a4 fi.length c4, .slice a5 sh.length c5] 44)
  have A2 := A.below ((Below.refl _ _).alloc (Nat.le_refl _) (.cells #[.int .i64 id, .bool here, .int .i64 ahead, .slice b3 be.length d3, .slice b4 fi.length d4, .slice b5 sh.length d5] 44)) A.lt
  have C := Blk.new (w.alloc (.cells #[.int .i64 id, .bool here, .int .i64 ahead, .slice a3 be.length c3, .slice a4 fi.length c4, .slice a5 sh.length c5] 44)) #[.int .i64 id, .bool here, .int .i64 ahead, .slice b3 be.length d3, .slice b4 fi.length d4, .slice b5 sh.length d5] 44
  rw [show (w.alloc (.cells #[.int .i64 id, .bool here, .int .i64 ahead, .slice a3 be.length c3, .slice a4 fi.length c4, .slice a5 sh.length c5] 44)).heap.size = w.heap.size + 1 from by simp [go_sem]] at C
  have HB := hide h2
  obtain ⟨x, ex⟩ : ∃ x, x = w.heap.size := ⟨_, rfl⟩
  rw [← ex] at A2 C ⊢
  clear ex h1 h2 A
  generalize (w.alloc (.cells #[.int .i64 id, .bool here, .int .i64 ahead, .slice a3 be.length c3, .slice a4 fi.length c4, .slice a5 sh.length c5] 44)).alloc (.cells #[.int .i64 id, .bool here, .int .i64 ahead, .slice b3 be.length d3, .slice b4 fi.length d4, .slice b5 sh.length d5] 44) = w1 at *
  have f0 : w1.cell? ⟨x, 0, none⟩ = some (.int .i64 id) := by rw [A2.cell 0]; rfl
  have f1 : w1.cell? ⟨x, 1, none⟩ = some (.bool here) := by rw [A2.cell 1]; rfl
  have f2 : w1.cell? ⟨x, 2, none⟩ = some (.int .i64 ahead) := by rw [A2.cell 2]; rfl
  have f3 : w1.cell? ⟨x, 3, none⟩ = some (.slice a3 be.length c3) := by rw [A2.cell 3]; rfl
  have f4 : w1.cell? ⟨x, 4, none⟩ = some (.slice a4 fi.length c4) := by rw [A2.cell 4]; rfl
  have f5 : w1.cell? ⟨x, 5, none⟩ = some (.slice a5 sh.length c5) := by rw [A2.cell 5]; rfl
  have g0 : w1.cell? ⟨x + 1, 0, none⟩ = some (.int .i64 id) := by rw [C.cell 0]; rfl
  have g1 : w1.cell? ⟨x + 1, 1, none⟩ = some (.bool here) := by rw [C.cell 1]; rfl
  have g2 : w1.cell? ⟨x + 1, 2, none⟩ = some (.int .i64 ahead) := by rw [C.cell 2]; rfl
  have g3 : w1.cell? ⟨x + 1, 3, none⟩ = some (.slice b3 be.length d3) := by rw [C.cell 3]; rfl
  have g4 : w1.cell? ⟨x + 1, 4, none⟩ = some (.slice b4 fi.length d4) := by rw [C.cell 4]; rfl
  have g5 : w1.cell? ⟨x + 1, 5, none⟩ = some (.slice b5 sh.length d5) := by rw [C.cell 5]; rfl
  have lf := A2.lt
  have lg := C.lt
  have E3 := hide (eqInts_calls w1 _ _ be be (H3.out.below HB.out (Nat.le_refl _)) (K3.out.below HB.out (Nat.le_refl _)) (by omega) (by omega))
  rw [decide_eq_true (rfl : be = be)] at E3
  go_wp2_with fail
  refine E3.out.mono ?_
  rintro e w2 ⟨rfl, n2, rfl⟩
  have HB2 : Hid (Below w.heap.size w (w1.drewN n2)) := below_drewN HB.out n2
  have A3 : Blk (w1.drewN n2) x _ _ := A2
  have C3 : Blk (w1.drewN n2) (x + 1) _ _ := C
  clear E3 f0 f1 f2 f3 f4 f5 g0 g1 g2 g3 g4 g5 lf lg A2 C HB
  generalize w1.drewN n2 = w2 at *
  have f0 : w2.cell? ⟨x, 0, none⟩ = some (.int .i64 id) := by rw [A3.cell 0]; rfl
  have f1 : w2.cell? ⟨x, 1, none⟩ = some (.bool here) := by rw [A3.cell 1]; rfl
  have f2 : w2.cell? ⟨x, 2, none⟩ = some (.int .i64 ahead) := by rw [A3.cell 2]; rfl
  have f3 : w2.cell? ⟨x, 3, none⟩ = some (.slice a3 be.length c3) := by rw [A3.cell 3]; rfl
  have f4 : w2.cell? ⟨x, 4, none⟩ = some (.slice a4 fi.length c4) := by rw [A3.cell 4]; rfl
  have f5 : w2.cell? ⟨x, 5, none⟩ = some (.slice a5 sh.length c5) := by rw [A3.cell 5]; rfl
  have g0 : w2.cell? ⟨x + 1, 0, none⟩ = some (.int .i64 id) := by rw [C3.cell 0]; rfl
  have g1 : w2.cell? ⟨x + 1, 1, none⟩ = some (.bool here) := by rw [C3.cell 1]; rfl
  have g2 : w2.cell? ⟨x + 1, 2, none⟩ = some (.int .i64 ahead) := by rw [C3.cell 2]; rfl
  have g3 : w2.cell? ⟨x + 1, 3, none⟩ = some (.slice b3 be.length d3) := by rw [C3.cell 3]; rfl
  have g4 : w2.cell? ⟨x + 1, 4, none⟩ = some (.slice b4 fi.length d4) := by rw [C3.cell 4]; rfl
  have g5 : w2.cell? ⟨x + 1, 5, none⟩ = some (.slice b5 sh.length d5) := by rw [C3.cell 5]; rfl
  have lf := A3.lt
  have lg := C3.lt
  have E4 := hide (eqInts_calls w2 _ _ fi fi (H4.out.below HB2.out (Nat.le_refl _)) (K4.out.below HB2.out (Nat.le_refl _)) (by omega) (by omega))
  rw [decide_eq_true (rfl : fi = fi)] at E4
  go_wp2_with fail
  refine E4.out.mono ?_
  rintro e w3 ⟨rfl, n3, rfl⟩
  have HB3 : Hid (Below w.heap.size w (w2.drewN n3)) := below_drewN HB2.out n3
  have A4 : Blk (w2.drewN n3) x _ _ := A3
  have C4 : Blk (w2.drewN n3) (x + 1) _ _ := C3
  clear E4 f0 f1 f2 f3 f4 f5 g0 g1 g2 g3 g4 g5 lf lg A3 C3 HB2
  generalize w2.drewN n3 = w3 at *
  have f0 : w3.cell? ⟨x, 0, none⟩ = some (.int .i64 id) := by rw [A4.cell 0]; rfl
  have f1 : w3.cell? ⟨x, 1, none⟩ = some (.bool here) := by rw [A4.cell 1]; rfl
  have f2 : w3.cell? ⟨x, 2, none⟩ = some (.int .i64 ahead) := by rw [A4.cell 2]; rfl
  have f3 : w3.cell? ⟨x, 3, none⟩ = some (.slice a3 be.length c3) := by rw [A4.cell 3]; rfl
  have f4 : w3.cell? ⟨x, 4, none⟩ = some (.slice a4 fi.length c4) := by rw [A4.cell 4]; rfl
  have f5 : w3.cell? ⟨x, 5, none⟩ = some (.slice a5 sh.length c5) := by rw [A4.cell 5]; rfl
  have g0 : w3.cell? ⟨x + 1, 0, none⟩ = some (.int .i64 id) := by rw [C4.cell 0]; rfl
  have g1 : w3.cell? ⟨x + 1, 1, none⟩ = some (.bool here) := by rw [C4.cell 1]; rfl
  have g2 : w3.cell? ⟨x + 1, 2, none⟩ = some (.int .i64 ahead) := by rw [C4.cell 2]; rfl
  have g3 : w3.cell? ⟨x + 1, 3, none⟩ = some (.slice b3 be.length d3) := by rw [C4.cell 3]; rfl
  have g4 : w3.cell? ⟨x + 1, 4, none⟩ = some (.slice b4 fi.length d4) := by rw [C4.cell 4]; rfl
  have g5 : w3.cell? ⟨x + 1, 5, none⟩ = some (.slice b5 sh.length d5) := by rw [C4.cell 5]; rfl
  have lf := A4.lt
  have lg := C4.lt
  have E5 := hide (eqShelves_calls w3 _ _ sh (H5.out.below HB3.out (Nat.le_refl _)) (K5.out.below HB3.out (Nat.le_refl _)) hs5 (fun x hx => (HS.out x hx).1))
  go_wp2_with fail
  refine E5.out.mono ?_
  rintro e w4 ⟨rfl, hb4⟩
  have HB4 := hide (HB3.out.trans (hb4.mono HB3.out.size))
  clear hb4 HB3 E5
  go_wp2_with fail
  go_ret
  exact ⟨rfl, HB4.out⟩

set_option maxHeartbeats 1000000 in
theorem eqPeers_calls (w : World) (v u : Value) (l : List Pr) (hv : PeersAt w v l) (hu : PeersAt w u l) (hl : l.length ≤ 1048576) (hs0 : ∀ x ∈ l, Small x) :
    Calls Try.prog 25 #[v, u] w fun e w' => e = .returned (.bool true) ∧ Below w.heap.size w w' := by
  have HV := hide hv
  have HU := hide hu
  obtain ⟨a, ca, rfl, -⟩ := hv.open_
  obtain ⟨b, cb, rfl, -⟩ := hu.open_
  have HSM := hide hs0
  clear hv hu hs0
  go_enter Try.func25, Try.ntmps25
  go_wp2_with fail
  go_loopw [5] (fun i wr => ∃ k : Nat, k ≤ l.length ∧ i = .int .i64 k ∧ Hid (Below w.heap.size w wr)) (fun i _ => l.length - (intOf i).toNat)
  case atStart => exact ⟨0, Nat.zero_le _, rfl, Below.refl _ _⟩
  case round =>
    obtain ⟨k, hk, rfl, HB⟩ := hrel
    by_cases hlt : k < l.length
    · obtain ⟨ax, cx, hax, HA⟩ := (HV.out.below HB.out (Nat.le_refl _)).open_
      cases hax
      obtain ⟨bx, dx, hbx, HA2⟩ := (HU.out.below HB.out (Nat.le_refl _)).open_
      cases hbx
      obtain ⟨g, off, x3, x4, x5, rfl, hg, hc⟩ := HA k hlt
      obtain ⟨g', off', y3, y4, y5, rfl, hg', hd⟩ := HA2 k hlt
      clear HA HA2
      have hsm := HSM.out l[k] (List.getElem_mem hlt)
      generalize l[k] = q at *
      have i3 := hc.behind
      have i4 := hc.fingers
      have i5 := hc.shelves
      have j3 := hd.behind
      have j4 := hd.fingers
      have j5 := hd.shelves
      have HC := hide (fun p : Near wr.heap.size wr => eqPeer_calls p.w q x3 x4 x5 y3 y4 y5 (i3.below p.h (Nat.le_refl _)) (i4.below p.h (Nat.le_refl _)) (i5.below p.h (Nat.le_refl _)) (j3.below p.h (Nat.le_refl _)) (j4.below p.h (Nat.le_refl _)) (j5.below p.h (Nat.le_refl _)) hsm)
      obtain ⟨a3, c3, e3, -⟩ := i3
      obtain ⟨a4, c4, e4, -⟩ := i4
      obtain ⟨a5, c5, e5, -⟩ := i5.open_
      obtain ⟨b3, d3, e6, -⟩ := j3
      obtain ⟨b4, d4, e7, -⟩ := j4
      obtain ⟨b5, d5, e8, -⟩ := j5.open_
      subst e3 e4 e5 e6 e7 e8
      have n0 : ∀ p : Near wr.heap.size wr, p.w.cell? ⟨g, off + k * 6, none⟩ = some (.int .i64 q.id) := fun p => (p.h.cell (p := ⟨g, off + k * 6, none⟩) hg).trans hc.id
      have n1 : ∀ p : Near wr.heap.size wr, p.w.cell? ⟨g, off + k * 6 + 1, none⟩ = some (.bool q.here) := fun p => (p.h.cell (p := ⟨g, off + k * 6 + 1, none⟩) hg).trans hc.here
      have n2 : ∀ p : Near wr.heap.size wr, p.w.cell? ⟨g, off + k * 6 + 2, none⟩ = some (.int .i64 q.ahead) := fun p => (p.h.cell (p := ⟨g, off + k * 6 + 2, none⟩) hg).trans hc.ahead
      have n3 : ∀ p : Near wr.heap.size wr, p.w.cell? ⟨g, off + k * 6 + 3, none⟩ = some (.slice a3 q.behind.length c3) := fun p => (p.h.cell (p := ⟨g, off + k * 6 + 3, none⟩) hg).trans hc.c3
      have n4 : ∀ p : Near wr.heap.size wr, p.w.cell? ⟨g, off + k * 6 + 4, none⟩ = some (.slice a4 q.fingers.length c4) := fun p => (p.h.cell (p := ⟨g, off + k * 6 + 4, none⟩) hg).trans hc.c4
      have n5 : ∀ p : Near wr.heap.size wr, p.w.cell? ⟨g, off + k * 6 + 5, none⟩ = some (.slice a5 q.shelves.length c5) := fun p => (p.h.cell (p := ⟨g, off + k * 6 + 5, none⟩) hg).trans hc.c5
      have m0 : ∀ p : Near wr.heap.size wr, p.w.cell? ⟨g', off' + k * 6, none⟩ = some (.int .i64 q.id) := fun p => (p.h.cell (p := ⟨g', off' + k * 6, none⟩) hg').trans hd.id
      have m1 : ∀ p : Near wr.heap.size wr, p.w.cell? ⟨g', off' + k * 6 + 1, none⟩ = some (.bool q.here) := fun p => (p.h.cell (p := ⟨g', off' + k * 6 + 1, none⟩) hg').trans hd.here
      have m2 : ∀ p : Near wr.heap.size wr, p.w.cell? ⟨g', off' + k * 6 + 2, none⟩ = some (.int .i64 q.ahead) := fun p => (p.h.cell (p := ⟨g', off' + k * 6 + 2, none⟩) hg').trans hd.ahead
      have m3 : ∀ p : Near wr.heap.size wr, p.w.cell? ⟨g', off' + k * 6 + 3, none⟩ = some (.slice b3 q.behind.length d3) := fun p => (p.h.cell (p := ⟨g', off' + k * 6 + 3, none⟩) hg').trans hd.c3
      have m4 : ∀ p : Near wr.heap.size wr, p.w.cell? ⟨g', off' + k * 6 + 4, none⟩ = some (.slice b4 q.fingers.length d4) := fun p => (p.h.cell (p := ⟨g', off' + k * 6 + 4, none⟩) hg').trans hd.c4
      have m5 : ∀ p : Near wr.heap.size wr, p.w.cell? ⟨g', off' + k * 6 + 5, none⟩ = some (.slice b5 q.shelves.length d5) := fun p => (p.h.cell (p := ⟨g', off' + k * 6 + 5, none⟩) hg').trans hd.c5
      clear hc hd i5 j5 hsm
      obtain ⟨id, here, ahead, be, fi, sh⟩ := q
      dsimp only [prV] at n0 n1 n2 n3 n4 n5 m0 m1 m2 m3 m4 m5 HC
      have hnn := Near.some wr.heap.size wr
      go_wp2_with fail
      refine wp_region_near wr.heap.size wr (Below.refl _ _) (by kernel_rfl) (by kernel_rfl) ?_
      repeat (go_big_quiet_step (fail))
      go_big_quiet_step (exact calls_near (Nat.le_refl _) (HC.out _))
      repeat (go_big_quiet_step (fail))
      refine wpQuiet_nil ?_
      rintro w3 ⟨pq, rfl⟩
      have hqb := pq.h
      obtain ⟨w3, hq⟩ := pq
      simp only at hqb ⊢
      have HB3 := hide (HB.out.trans (hqb.mono HB.out.size))
      clear hq hnn HC hqb HB n0 m0 n1 m1 n2 m2 n3 m3 n4 m4 n5 m5
      go_wp2_with fail
      go_roundw
      case rel => exact ⟨k + 1, by omega, by go_num, HB3.out⟩
      case measure => simp [intOf]; omega
    · go_wp2_with fail
      go_ret
      exact ⟨rfl, HB.out⟩

set_option maxHeartbeats 1000000 in
theorem eqRing_calls (w : World) (l : List Pr) (v u : Value) (hv : PeersAt w v l) (hu : PeersAt w u l) (hl : l.length ≤ 1048576) (hs : ∀ x ∈ l, Small x) :
    Calls Try.prog 9 #[.agg #[v], .agg #[u]] w fun e w' => e = .returned (.bool true) ∧ Below w.heap.size w w' := by
  obtain ⟨a, ca, hsa, -⟩ := hv.open_
  obtain ⟨b, cb, hsb, -⟩ := hu.open_
  subst hsa hsb
  have h1 := (Below.refl w.heap.size w).alloc (Nat.le_refl _) (.cells #[.slice a l.length ca] 29)
  have h2 := h1.alloc h1.size (.cells #[.slice b l.length cb] 29)
  have HC := hide (eqPeers_calls _ _ _ l (hv.below h2 (Nat.le_refl _)) (hu.below h2 (Nat.le_refl _)) hl hs)
  have HB := hide h2
  clear h1 h2 hv hu
  go_enter Try.func9, Try.ntmps9
  go_wp2_with fail
  refine HC.out.mono ?_
  rintro e w3 ⟨rfl, hb3⟩
  have HB3 := hide (HB.out.trans (hb3.mono HB.out.size))
  clear hb3 HB HC
  go_wp2_with fail
  go_ret
  exact ⟨rfl, HB3.out⟩
end Go.Proofs.Yteladljgnbfcnaa.P9
namespace Go.Proofs.Yteladljgnbfcnaa.P9
set_option maxRecDepth 8000
open Go.RowKit P1 P8 Da Rr

set_option maxHeartbeats 400000 in
theorem toItem_calls (w : World) (t : List UInt8) (b : Bool) :
    Calls Try.prog 80 #[.agg #[.string ⟨t.toArray⟩, .bool b]] w fun e w' => e = .returned (.agg #[.string ⟨t.toArray⟩, .bool b]) ∧ Below w.heap.size w w' := by
  have h1 := (Below.refl w.heap.size w).alloc (Nat.le_refl _) (.cells #[.string ⟨t.toArray⟩, .bool b] 107)
  have h2 := h1.alloc h1.size (.cells #[.string ⟨t.toArray⟩, .bool b] 81)
  have HB := hide (h2.alloc h2.size (.cells #[.string ⟨t.toArray⟩, .bool b] 81))
  clear h1 h2
  go_enter Try.func80, Try.ntmps80
  go_wp2_with fail
  refine bodyPost_ret (v := .agg #[.string ⟨t.toArray⟩, .bool b]) (by simp [results, Try.results80, go_sem]) rfl ⟨rfl, HB.out⟩

/-- An item's two cells. -/
def itV (x : It) : List Value := [.string ⟨x.t.toArray⟩, .bool x.gone]
def itZ : List Value := [.string ByteArray.empty, .bool false]

/-- The first k copied, the others still nothing. -/
def halfI (l : List It) (k : Nat) : List (List Value) := (l.take k).map itV ++ List.replicate (l.length - k) itZ

theorem halfI_all (l : List It) (k : Nat) : ∀ r ∈ halfI l k, r.length = 2 := by
  intro r hr
  rcases List.mem_append.1 hr with hr | hr
  · obtain ⟨x, _, rfl⟩ := List.mem_map.1 hr
    rfl
  · rw [List.eq_of_mem_replicate hr]
    rfl

theorem halfI_length (l : List It) (k : Nat) (hk : k ≤ l.length) : (halfI l k).length = l.length := by
  simp [halfI]
  omega

theorem halfI_set (l : List It) (k : Nat) (hk : k < l.length) : (halfI l k).set k (itV l[k]) = halfI l (k + 1) := by
  unfold halfI
  have h1 : ((l.take k).map itV).length = k := by simp; omega
  rw [List.set_append_right _ _ (by omega), h1, Nat.sub_self, show l.length - k = (l.length - (k + 1)) + 1 by omega, List.replicate_succ, List.set_cons_zero, List.take_succ_eq_append_getElem hk, List.map_append, List.append_assoc]
  rfl

theorem info_item : (Try.prog.info? 81).map (fun i => (i.zero, i.size, i.bytes)) = some (some (.agg #[.string ByteArray.empty, .bool false]), 2, 24) := by kernel_rfl

set_option maxHeartbeats 1000000 in
theorem toItems_calls (w : World) (v : Value) (l : List It) (hv : ItemsAt w v l) (hl : l.length ≤ 1048576) :
    Calls Try.prog 76 #[v] w fun e w' => ∃ v', e = .returned v' ∧ w'.ownsRow w.heap.size 81 2 v' l.length (l.map itV).flatten ∧ Below w.heap.size w w' := by
  have HV := hide hv
  obtain ⟨a, ca, rfl, -⟩ := hv.open_
  clear hv
  obtain ⟨i0, hi, hz0, hz1, hz2⟩ := info_parts info_item
  go_enter Try.func76, Try.ntmps76
  go_wp2_with (at_make; refine wpList_make_full _ rfl (.tmp 6) (.tmp 6) 60 rfl w.heap.size 81 i0 (.agg #[.string ByteArray.empty, .bool false]) 2 Try.underlying60 hi hz0 hz1 .i64 .i64 _ _ l.length rfl rfl (by omega) (by omega) (by rw [hz2]; omega) (by unfold maxLen; omega) (Nat.le_refl _) ?_)
  intro w2 hown2 hgr2
  have hown3 : w2.ownsRow w.heap.size 81 2 (.slice (some ⟨w.heap.size, 0, none⟩) l.length l.length) l.length (halfI l 0).flatten := by
    have h1 := madeCells_recs #[.string ByteArray.empty, .bool false] 2 rfl (by decide) l.length
    have h2 : (madeCells #[.string ByteArray.empty, .bool false] (l.length * 2)).toList = (halfI l 0).flatten := by rw [h1]; simp [halfI, itZ]
    rw [← h2]
    exact hown2
  have hb2 : Below w.heap.size w w2 := (Below.refl _ _).grown hgr2 (Nat.le_refl _) (by intro k hk; cases hk)
  have HO2 := hide hown3
  have HB2 := hide hb2
  clear hown2 hown3 hgr2 hb2
  obtain ⟨g, hg⟩ : ∃ g, g = w.heap.size := ⟨_, rfl⟩
  go_wp2_with fail
  rw [← hg] at HO2 ⊢
  have hgw : w.heap.size ≤ g := by omega
  have HG := hide hg
  clear hg
  go_loopw [4] (fun i wr => ∃ k : Nat, k ≤ l.length ∧ i = .int .i64 k ∧ Hid (wr.ownsRow g 81 2 (.slice (some ⟨g, 0, none⟩) l.length l.length) l.length (halfI l k).flatten) ∧ Hid (Below w.heap.size w wr)) (fun i _ => l.length - (intOf i).toNat)
  case atStart => exact ⟨0, Nat.zero_le _, rfl, HO2.out, HB2.out⟩
  case round =>
    clear HO2 HB2
    obtain ⟨k, hk, rfl, HO, HB⟩ := hrel
    by_cases hlt : k < l.length
    · obtain ⟨ax, cx, hax, HA⟩ := (HV.out.below HB.out (Nat.le_refl _)).open_
      cases hax
      obtain ⟨gb, off, rfl, hgb, f0, f1⟩ := HA k hlt
      have HS := hide (halfI_set l k hlt)
      have HFS := hide (flatten_set (halfI l k) k (itV l[k]) (halfI_all l k) rfl (by rw [halfI_length l k hk]; exact hlt))
      have HC := hide (fun wx => toItem_calls wx l[k].t l[k].gone)
      have HIV : Hid (itV l[k] = [.string ⟨l[k].t.toArray⟩, .bool l[k].gone]) := rfl
      clear HA
      generalize itV l[k] = iv at *
      generalize l[k].t = xt at *
      generalize l[k].gone = xb at *
      go_wp2_with fail
      refine (HC.out _).mono ?_
      rintro e w5 ⟨rfl, hb5⟩
      have HO5 := hide (own_below HO.out hb5)
      have HB5 := hide (HB.out.trans (hb5.mono HB.out.size))
      have hm : (halfI l k).flatten.length = l.length * 2 := by rw [flatten_length (n := 2) _ (halfI_all l k), halfI_length l k hk]
      have hc0 : ∃ x, w5.cell? ⟨g, k * 2, none⟩ = some x := by rw [HO5.out.cellAt (k * 2) (by omega)]; exact ⟨_, List.getElem?_eq_getElem (by omega)⟩
      have hc1 : ∃ x, w5.cell? ⟨g, k * 2 + 1, none⟩ = some x := by rw [HO5.out.cellAt (k * 2 + 1) (by omega)]; exact ⟨_, List.getElem?_eq_getElem (by omega)⟩
      obtain ⟨x0, hc0⟩ := hc0
      obtain ⟨x1, hc1⟩ := hc1
      have hf0 := HO5.out.frozenAt (k * 2)
      have hf1 := HO5.out.frozenAt (k * 2 + 1)
      have hl5 : g < w5.heap.size := cell_lt' hc0
      clear hb5 HO HB hm f0 f1 hgb HC
      go_wp2_with fail
      go_roundw
      case rel =>
        refine ⟨k + 1, by omega, by go_num, ?_, (HB5.out.setCell (p := ⟨g, k * 2, none⟩) hgw _).setCell (p := ⟨g, k * 2 + 1, none⟩) hgw _⟩
        have h1 := (HO5.out.stored (k * 2) (.string ⟨xt.toArray⟩)).1
        have h2 := (h1.stored (k * 2 + 1) (.bool xb)).1
        have h3 := HFS.out
        rw [HIV.out] at h3
        have h4 : (halfI l (k + 1)).flatten = (((halfI l k).flatten.set (k * 2) (.string ⟨xt.toArray⟩)).set (k * 2 + 1) (.bool xb)) := by
          rw [← HS.out, HIV.out, ← h3]
          rfl
        show World.ownsRow _ _ _ _ _ _ _
        rw [h4]
        exact h2
      case measure => simp [intOf]; omega
    · have hkl : k = l.length := by omega
      subst hkl
      have HE : Hid (halfI l l.length = l.map itV) := by show _ = _; simp [halfI]
      rw [HE.out] at HO
      go_wp2_with fail
      go_ret
      exact ⟨_, rfl, own_mono HO.out hgw, HB.out⟩
end Go.Proofs.Yteladljgnbfcnaa.P9
namespace Go.Proofs.Yteladljgnbfcnaa.P9
set_option maxRecDepth 8000
open Go.RowKit P1 P8 Da Rr

/-- The program's own types. -/
def T0 : Tys := ⟨81, 62, 44⟩

theorem items_owns {W : World} {B : Nat} {v : Value} {l : List It} (h : W.ownsRow B 81 2 v l.length (l.map itV).flatten) : ∃ fp, Owns W v (itemsD T0 l) fp ∧ ∀ q ∈ fp, B ≤ q := by
  have hall : ∀ r ∈ l.map itV, r.length = 2 := fun r hr => by
    obtain ⟨x, _, rfl⟩ := List.mem_map.1 hr
    rfl
  obtain ⟨fp, h1, h2⟩ := owns_of_cells h (l.flatMap itC) (flatMap_length _ 2 (fun _ => rfl) l) (fun i d hi => by
    have hlt : i < l.length * 2 := by
      have := (List.getElem?_eq_some_iff.1 hi).1
      rw [flatMap_length _ 2 (fun _ => rfl)] at this
      exact this
    have h1 : i / 2 < l.length := by omega
    have h2 : i % 2 < 2 := by omega
    have h3 : i / 2 * 2 + i % 2 = i := by omega
    rw [← h3, flatMap_get itC 2 (fun _ => rfl) l (i / 2) (i % 2) h1 h2] at hi
    rw [← h3, flatten_get _ (i / 2) (i % 2) (itV l[i / 2]) hall (by simp [h1]) h2]
    generalize i % 2 = m at *
    match m, h2 with
    | 0, _ =>
      obtain rfl : textD l[i / 2].t = d := by simpa [itC] using hi
      exact ⟨_, rfl, owns_leaf _⟩
    | 1, _ =>
      obtain rfl : boolD l[i / 2].gone = d := by simpa [itC] using hi
      exact ⟨_, rfl, owns_leaf _⟩)
  exact ⟨fp, h1, fun q hq => (h.lt q ((h2 q).1 hq)).1⟩

theorem blk_free_cell {W : World} {b : Nat} {cs : List Value} {t : TypeId} (h : Blk W b cs t) (i : Nat) {c : Value} (hc : cs[i]? = some c) : W.cell? ⟨b, i, none⟩ = some c := by rw [h.cell i]; exact hc

set_option maxHeartbeats 1000000 in
theorem toShelf_calls (w : World) (k : Int) (l : List It) (v : Value) (hv : ItemsAt w v l) (hl : l.length ≤ 1048576) :
    Calls Try.prog 69 #[.agg #[.int .i64 k, v]] w fun e w' => ∃ a c fp, e = .returned (.agg #[.int .i64 k, .slice a l.length c]) ∧ Owns w' (.slice a l.length c) (itemsD T0 l) fp ∧ (∀ q ∈ fp, w.heap.size ≤ q) ∧ Below w.heap.size w w' := by
  have HV := hide hv
  obtain ⟨a, ca, rfl, -⟩ := hv.open_
  clear hv
  go_enter Try.func69, Try.ntmps69
  go_upto_region 3 with fail
  have h1 := (Below.refl w.heap.size w).alloc (Nat.le_refl _) (.cells #[.int .i64 k, .slice a l.length ca] 97)
  have h2 := h1.alloc h1.size (.cells #[.int .i64 0, .slice none 0 0] 62)
  have h3 := h2.alloc h2.size (.cells #[.int .i64 k, .slice none 0 0] 62)
  have A := Blk.new w #[.int .i64 k, .slice a l.length ca] 97
  have A := A.below ((Below.refl _ _).alloc (Nat.le_refl _) (.cells #[.int .i64 0, .slice none 0 0] 62)) A.lt
  have A := A.below ((Below.refl _ _).alloc (Nat.le_refl _) (.cells #[.int .i64 k, .slice none 0 0] 62)) A.lt
  have R := Blk.new (w.alloc (.cells #[.int .i64 k, .slice a l.length ca] 97)) #[.int .i64 0, .slice none 0 0] 62
  have R := R.below ((Below.refl _ _).alloc (Nat.le_refl _) (.cells #[.int .i64 k, .slice none 0 0] 62)) R.lt
  rw [show (w.alloc (.cells #[.int .i64 k, .slice a l.length ca] 97)).heap.size = w.heap.size + 1 from by simp [go_sem]] at R
  have O := Blk.new ((w.alloc (.cells #[.int .i64 k, .slice a l.length ca] 97)).alloc (.cells #[.int .i64 0, .slice none 0 0] 62)) #[.int .i64 k, .slice none 0 0] 62
  rw [show ((w.alloc (.cells #[.int .i64 k, .slice a l.length ca] 97)).alloc (.cells #[.int .i64 0, .slice none 0 0] 62)).heap.size = w.heap.size + 1 + 1 from by simp [go_sem]] at O
  have HV1 := hide (HV.out.below h3 (Nat.le_refl _))
  have HB1 := hide h3
  have ha := A.lt
  have hr := R.lt
  have ho := O.lt
  obtain ⟨b3, e3⟩ : ∃ b, b = w.heap.size + 1 + 1 := ⟨_, rfl⟩
  obtain ⟨b2, e2⟩ : ∃ b, b = w.heap.size + 1 := ⟨_, rfl⟩
  obtain ⟨b1, e1⟩ : ∃ b, b = w.heap.size := ⟨_, rfl⟩
  rw [← e3] at O ⊢
  rw [← e2] at R ⊢
  rw [← e1] at A ⊢
  have hb2 : w.heap.size ≤ b2 := by omega
  have hb3 : w.heap.size ≤ b3 := by omega
  have hn : b2 ≠ b3 := by omega
  clear h1 h2 h3 e1 e2 e3 HV ha hr ho
  generalize ((w.alloc (.cells #[.int .i64 k, .slice a l.length ca] 97)).alloc (.cells #[.int .i64 0, .slice none 0 0] 62)).alloc (.cells #[.int .i64 k, .slice none 0 0] 62) = wa at *
  have A1 := blk_free_cell A 1 rfl
  have la := A.lt
  have HC := hide (toItems_calls wa _ l HV1.out hl)
  have O1 := blk_free_cell O 1 rfl
  have Of := O.free 1
  have lo := O.lt
  go_wp2_with fail
  refine HC.out.mono ?_
  rintro e wb ⟨v', rfl, hown, hbb⟩
  obtain ⟨fp, hfp, hfb⟩ := items_owns hown
  obtain ⟨a', c', hsh⟩ := own_sh hown
  subst hsh
  have Ob := O.below hbb O.lt
  have Rb := R.below hbb R.lt
  have hr1 := R.lt
  have hfa : ∀ q ∈ fp, wa.heap.size ≤ q := hfb
  have HF := hide hfp
  have HFb := hide hfa
  have HBb := hide (HB1.out.trans (hbb.mono HB1.out.size))
  have sz1 := HB1.out.size
  clear hown hbb hfp hfb hfa A1 la HC O1 Of A HV1 HB1
  have o1 := blk_free_cell Ob 1 rfl
  have of1 := Ob.free 1
  have ol := Ob.lt
  go_upto_region 4 with fail
  have Oc := Ob.set 1 (.slice a' l.length c')
  have Rc' := Rb.other (p := ⟨b3, 1, none⟩) hn (.slice a' l.length c')
  have HFc := hide (HF.out.stay (W' := wb.setCell ⟨b3, 1, none⟩ (.slice a' l.length c')) (fun q hq => Below.heap_setCell _ _ _ _ (by have := HFb.out q hq; show q ≠ b3; omega)))
  have HBc := hide (HBb.out.setCell (p := ⟨b3, 1, none⟩) hb3 (.slice a' l.length c'))
  clear Ob Rb HF HBb o1 of1 ol O R
  generalize wb.setCell ⟨b3, 1, none⟩ (.slice a' l.length c') = wc at *
  have p0 := blk_free_cell Oc 0 rfl
  have p1 := blk_free_cell Oc 1 rfl
  have pl := Oc.lt
  have r0 := blk_free_cell Rc' 0 rfl
  have r1 := blk_free_cell Rc' 1 rfl
  have rf0 := Rc'.free 0
  have rf1 := Rc'.free 1
  have rl := Rc'.lt
  go_wp2_with fail
  have Rd := (Rc'.set 0 (.int .i64 k)).set 1 (.slice a' l.length c')
  have x0 := blk_free_cell Rd 0 rfl
  have x1 := blk_free_cell Rd 1 rfl
  refine bodyPost_ret (v := .agg #[.int .i64 k, .slice a' l.length c']) (by simp [results, Try.results69, go_sem, x0, x1]) rfl ⟨a', c', fp, rfl, ?_, fun q hq => by have := HFb.out q hq; omega, (HBc.out.setCell (p := ⟨b2, 0, none⟩) hb2 _).setCell (p := ⟨b2, 1, none⟩) hb2 _⟩
  refine Owns.stay (Owns.stay HFc.out (W' := wc.setCell ⟨b2, 0, none⟩ (.int .i64 k)) ?_) ?_
  · intro q hq
    exact Below.heap_setCell _ _ _ _ (by have := HFb.out q hq; show q ≠ b2; omega)
  · intro q hq
    exact Below.heap_setCell _ _ _ _ (by have := HFb.out q hq; show q ≠ b2; omega)
end Go.Proofs.Yteladljgnbfcnaa.P9
namespace Go.Proofs.Yteladljgnbfcnaa.P9
set_option maxRecDepth 8000
open Go.RowKit P1 P8 Da Rr

theorem Owns.head {W : World} {g n cap : Nat} {e : TypeId} {sz : Nat} {ds : List Dt} {fp : List Nat} (h : Owns W (.slice (some ⟨g, 0, none⟩) n cap) (.row e sz ds) fp) : ∃ fps, fp = g :: fps := by
  unfold Owns at h
  rcases h with ⟨h, _⟩ | ⟨g', n', cap', cur, fps', h1, h2, h3, h4, h5, h6, h7, h8, h9⟩
  · cases h
  · cases h1
    exact ⟨fps', h7⟩

theorem info_shelf : (Try.prog.info? 62).map (fun i => (i.zero, i.size, i.bytes)) = some (some (.agg #[.int .i64 0, .slice none 0 0]), 2, 32) := by kernel_rfl

def shZ : List Dt := [intD 0, .row T0.item 2 []]

theorem shZ_owns {W : World} (i : Nat) (d : Dt) (h : shZ[i]? = some d) : ∃ u, [Value.int .i64 0, .slice none 0 0][i]? = some u ∧ Owns W u d [] := by
  match i, h with
  | 0, h =>
    obtain rfl : intD 0 = d := by simpa [shZ] using h
    exact ⟨_, rfl, owns_leaf _⟩
  | 1, h =>
    obtain rfl : Dt.row T0.item 2 [] = d := by simpa [shZ] using h
    exact ⟨_, rfl, owns_nil _ _⟩

set_option maxHeartbeats 2000000 in
theorem toShelves_calls (w : World) (v : Value) (l : List Shf) (hv : ShelvesAt w v l) (hl : l.length ≤ 1048576) (hs0 : ∀ x ∈ l, x.items.length ≤ 1048576) :
    Calls Try.prog 58 #[v] w fun e w' => ∃ a c fp, e = .returned (.slice a l.length c) ∧ Owns w' (.slice a l.length c) (shelvesD T0 l) fp ∧ (∀ q ∈ fp, w.heap.size ≤ q) ∧ Below w.heap.size w w' := by
  have HV := hide hv
  have HSM := hide hs0
  obtain ⟨a, ca, rfl, -⟩ := hv.open_
  clear hv hs0
  obtain ⟨i0, hi, hz0, hz1, hz2⟩ := info_parts info_shelf
  go_enter Try.func58, Try.ntmps58
  go_wp2_with (at_make; refine wpList_make_full _ rfl (.tmp 6) (.tmp 6) 42 rfl w.heap.size 62 i0 (.agg #[.int .i64 0, .slice none 0 0]) 2 Try.underlying42 hi hz0 hz1 .i64 .i64 _ _ l.length rfl rfl (by omega) (by omega) (by rw [hz2]; omega) (by unfold maxLen; omega) (Nat.le_refl _) ?_)
  intro w2 hown2 hgr2
  have hown3 : w2.ownsRow w.heap.size 62 2 (.slice (some ⟨w.heap.size, 0, none⟩) l.length l.length) l.length (List.replicate l.length [Value.int .i64 0, .slice none 0 0]).flatten := by
    have h1 := madeCells_recs #[.int .i64 0, .slice none 0 0] 2 rfl (by decide) l.length
    rw [show [Value.int .i64 0, .slice none 0 0] = (#[Value.int .i64 0, .slice none 0 0] : Array Value).toList from rfl, ← h1]
    exact hown2
  obtain ⟨fp0, hfp0, hfb0⟩ := owns_made (zd := shZ) hown3 rfl rfl (by decide) shZ_owns
  obtain ⟨fps0, rfl⟩ := Owns.head hfp0
  have hfps0 : ∀ q ∈ fps0, w.heap.size ≤ q := fun q hq => (hown3.lt q ((hfb0 q).1 (by simp [hq]))).1
  have hown4 : Owns w2 (.slice (some ⟨w.heap.size, 0, none⟩) l.length l.length) (.row 62 2 (halfR (shC T0) shZ l 0).flatten) (w.heap.size :: fps0) := by
    have : (halfR (shC T0) shZ l 0).flatten = (List.replicate l.length shZ).flatten := by simp [halfR]
    rw [this]
    exact hfp0
  have hb2 : Below w.heap.size w w2 := (Below.refl _ _).grown hgr2 (Nat.le_refl _) (by intro k hk; cases hk)
  have HO2 := hide hown4
  have HF2 := hide hfps0
  have HB2 := hide hb2
  clear hown2 hown3 hown4 hgr2 hb2 hfp0 hfb0 hfps0
  obtain ⟨g, hg⟩ : ∃ g, g = w.heap.size := ⟨_, rfl⟩
  go_wp2_with fail
  rw [← hg] at HO2 ⊢
  have hgw : w.heap.size ≤ g := by omega
  clear hg
  go_loopw [4] (fun i wr => ∃ (k : Nat) (fps : List Nat), k ≤ l.length ∧ i = .int .i64 k ∧ Hid (Owns wr (.slice (some ⟨g, 0, none⟩) l.length l.length) (.row 62 2 (halfR (shC T0) shZ l k).flatten) (g :: fps)) ∧ Hid (∀ q ∈ fps, w.heap.size ≤ q) ∧ Hid (Below w.heap.size w wr)) (fun i _ => l.length - (intOf i).toNat)
  case atStart => exact ⟨0, fps0, Nat.zero_le _, rfl, HO2.out, HF2.out, HB2.out⟩
  case round =>
    clear HO2 HB2 HF2
    obtain ⟨k, fps, hk, rfl, HO, HF, HB⟩ := hrel
    by_cases hlt : k < l.length
    · obtain ⟨ax, cx, hax, HA⟩ := (HV.out.below HB.out (Nat.le_refl _)).open_
      cases hax
      obtain ⟨gb, off, u, rfl, hgb, f0, f1, hit⟩ := HA k hlt
      have HX := hide (halfR_next (f := shC T0) (z := shZ) (n := 2) (fun _ => rfl) rfl l k hlt)
      have hXl := halfR_flat (f := shC T0) (z := shZ) (n := 2) (fun _ => rfl) rfl l k hk
      have hsm := HSM.out l[k] (List.getElem_mem hlt)
      have HSC : Hid (shC T0 l[k] = [intD l[k].key, itemsD T0 l[k].items]) := rfl
      clear HA
      generalize shC T0 l[k] = sc at *
      generalize l[k].key = key at *
      generalize l[k].items = its at *
      have HC := hide (toShelf_calls wr key its u hit hsm)
      obtain ⟨ai, ci, rfl, -⟩ := hit.open_
      clear hit
      go_wp2_with fail
      refine HC.out.mono ?_
      rintro e w5 ⟨a', c', fp', rfl, ho', hf', hb5⟩
      have hlts := HO.out.lt
      have HO5 := hide (HO.out.stay (W' := w5) (fun q hq => hb5.block q (hlts q hq)))
      have HB5 := hide (HB.out.trans (hb5.mono HB.out.size))
      have HO' := hide ho'
      have HFF : Hid (∀ q ∈ fp', q ≠ g ∧ q ∉ fps) := fun q hq => by
        have h1 := hf' q hq
        refine ⟨fun e => ?_, fun h => ?_⟩
        · have := hlts g (by simp)
          omega
        · have := hlts q (by simp [h])
          omega
      have HFW : Hid (∀ q ∈ fp', w.heap.size ≤ q) := fun q hq => Nat.le_trans HB.out.size (hf' q hq)
      obtain ⟨⟨x0, hc0⟩, hf0, hl5⟩ := HO5.out.cell (i := k * 2) (by omega)
      obtain ⟨⟨x1, hc1⟩, hf1, -⟩ := HO5.out.cell (i := k * 2 + 1) (by omega)
      clear hb5 HO HB ho' hf' hlts f0 f1 hgb HC
      go_wp2_with fail
      go_roundw
      case rel =>
        obtain ⟨fps1, k1, k2⟩ := HO5.out.put (i := k * 2) (by omega) (owns_leaf (.int .i64 key)) (by simp)
        have h3 := HO'.out.stay (W' := w5.setCell ⟨g, k * 2, none⟩ (.int .i64 key)) (fun q hq => Below.heap_setCell _ _ _ _ (HFF.out q hq).1)
        obtain ⟨fps2, k3, k4⟩ := k1.put (i := k * 2 + 1) (by rw [List.length_set]; omega) h3 (fun q hq => ⟨(HFF.out q hq).1, fun h => by
          rcases k2 q h with h4 | h4
          · exact (HFF.out q hq).2 h4
          · cases h4⟩)
        refine ⟨k + 1, fps2, by omega, by go_num, ?_, ?_, (HB5.out.setCell (p := ⟨g, k * 2, none⟩) hgw _).setCell (p := ⟨g, k * 2 + 1, none⟩) hgw _⟩
        · show Owns _ _ _ _
          rw [← HX.out, HSC.out]
          exact k3
        · intro q hq
          rcases k4 q hq with h4 | h4
          · rcases k2 q h4 with h5 | h5
            · exact HF.out q h5
            · cases h5
          · exact HFW.out q h4
      case measure => simp [intOf]; omega
    · have hkl : k = l.length := by omega
      subst hkl
      have HE : Hid ((halfR (shC T0) shZ l l.length).flatten = l.flatMap (shC T0)) := halfR_end l
      rw [HE.out] at HO
      go_wp2_with fail
      go_ret
      exact ⟨_, _, _, rfl, HO.out, fun q hq => (List.mem_cons.1 hq).elim (fun e => e ▸ hgw) (HF.out q), HB.out⟩
end Go.Proofs.Yteladljgnbfcnaa.P9
namespace Go.Proofs.Yteladljgnbfcnaa.P9
set_option maxRecDepth 8000
open Go.RowKit P1 P8 Da Rr

theorem ints_owns {W : World} {B : Nat} {v : Value} {l : List Int} (h : W.ownsRow B 3 1 v l.length (cellsI l)) : ∃ fp, Owns W v (intsD l) fp ∧ ∀ q ∈ fp, B ≤ q := by
  obtain ⟨fp, h1, h2⟩ := owns_of_row h
  have e : (cellsI l).map Dt.leaf = l.map intD := by simp [cellsI, intD]
  rw [e] at h1
  exact ⟨fp, h1, fun q hq => (h.lt q ((h2 q).1 hq)).1⟩

/-- A peer that a call owns: the blocks of its three lists. -/
structure PeerOwn (W : World) (B : Nat) (p : Pr) (v3 v4 v5 : Value) (f3 f4 f5 : List Nat) : Prop where
  o3 : Owns W v3 (intsD p.behind) f3
  o4 : Owns W v4 (intsD p.fingers) f4
  o5 : Owns W v5 (shelvesD T0 p.shelves) f5
  b3 : ∀ q ∈ f3, B ≤ q
  b4 : ∀ q ∈ f4, B ≤ q
  b5 : ∀ q ∈ f5, B ≤ q
  d34 : ∀ q ∈ f3, q ∉ f4
  d35 : ∀ q ∈ f3, q ∉ f5
  d45 : ∀ q ∈ f4, q ∉ f5

theorem owns_set {W : World} {v : Value} {d : Dt} {fp : List Nat} (h : Owns W v d fp) {b i : Nat} (hb : ∀ q ∈ fp, q ≠ b) (u : Value) : Owns (W.setCell ⟨b, i, none⟩ u) v d fp :=
  h.stay (fun q hq => Below.heap_setCell _ _ _ _ (hb q hq))

theorem owns_below {W W' : World} {v : Value} {d : Dt} {fp : List Nat} (h : Owns W v d fp) (hb : Below W.heap.size W W') : Owns W' v d fp :=
  h.stay (fun q hq => hb.block q (h.lt q hq))

set_option maxHeartbeats 2000000 in
theorem toPeer_calls (w : World) (p : Pr) (u3 u4 u5 : Value) (h3 : IntsAt w u3 p.behind) (h4 : IntsAt w u4 p.fingers) (h5 : ShelvesAt w u5 p.shelves) (hp : Small p) :
    Calls Try.prog 37 #[prV p u3 u4 u5] w fun e w' => ∃ a3 c3 a4 c4 a5 c5 f3 f4 f5, e = .returned (prV p (.slice a3 p.behind.length c3) (.slice a4 p.fingers.length c4) (.slice a5 p.shelves.length c5)) ∧ PeerOwn w' w.heap.size p (.slice a3 p.behind.length c3) (.slice a4 p.fingers.length c4) (.slice a5 p.shelves.length c5) f3 f4 f5 ∧ Below w.heap.size w w' := by
  obtain ⟨id, here, ahead, be, fi, sh⟩ := p
  have hs3 := hp.b
  have hs4 := hp.f
  have hs5 := hp.s
  have hs6 := hp.i
  dsimp only at h3 h4 h5 hs3 hs4 hs5 hs6
  dsimp only [prV]
  have H3 := hide h3
  have H4 := hide h4
  have H5 := hide h5
  have HS := hide hs6
  obtain ⟨a3, c3, rfl, -⟩ := h3
  obtain ⟨a4, c4, rfl, -⟩ := h4
  obtain ⟨a5, c5, e5, -⟩ := h5.open_
  subst e5
  clear h5 hp hs6
  go_enter Try.func37, Try.ntmps37
  go_upto_region 5 with fail
  have h1 := (Below.refl w.heap.size w).alloc (Nat.le_refl _) (.cells #[.int .i64 id, .bool here, .int .i64 ahead, .slice a3 be.length c3, .slice a4 fi.length c4, .slice a5 sh.length c5] 59)
  have h2 := h1.alloc h1.size (.cells #[.int .i64 0, .bool false, .int .i64 0, .slice none 0 0, .slice none 0 0, .slice none 0 0] 44)
  have h3 := h2.alloc h2.size (.cells #[.int .i64 id, .bool here, .int .i64 ahead, .slice none 0 0, .slice none 0 0, .slice none 0 0] 44)
  have A := Blk.new w #[.int .i64 id, .bool here, .int .i64 ahead, .slice a3 be.length c3, .slice a4 fi.length c4, .slice a5 sh.length c5] 59
  have A := A.below ((Below.refl _ _).alloc (Nat.le_refl _) (.cells #[.int .i64 0, .bool false, .int .i64 0, .slice none 0 0, .slice none 0 0, .slice none 0 0] 44)) A.lt
  have A := A.below ((Below.refl _ _).alloc (Nat.le_refl _) (.cells #[.int .i64 id, .bool here, .int .i64 ahead, .slice none 0 0, .slice none 0 0, .slice none 0 0] 44)) A.lt
  have R := Blk.new (w.alloc (.cells #[.int .i64 id, .bool here, .int .i64 ahead, .slice a3 be.length c3, .slice a4 fi.length c4, .slice a5 sh.length c5] 59)) #[.int .i64 0, .bool false, .int .i64 0, .slice none 0 0, .slice none 0 0, .slice none 0 0] 44
  have R := R.below ((Below.refl _ _).alloc (Nat.le_refl _) (.cells #[.int .i64 id, .bool here, .int .i64 ahead, .slice none 0 0, .slice none 0 0, .slice none 0 0] 44)) R.lt
  rw [show (w.alloc (.cells #[.int .i64 id, .bool here, .int .i64 ahead, .slice a3 be.length c3, .slice a4 fi.length c4, .slice a5 sh.length c5] 59)).heap.size = w.heap.size + 1 from by simp [go_sem]] at R
  have O := Blk.new ((w.alloc (.cells #[.int .i64 id, .bool here, .int .i64 ahead, .slice a3 be.length c3, .slice a4 fi.length c4, .slice a5 sh.length c5] 59)).alloc (.cells #[.int .i64 0, .bool false, .int .i64 0, .slice none 0 0, .slice none 0 0, .slice none 0 0] 44)) #[.int .i64 id, .bool here, .int .i64 ahead, .slice none 0 0, .slice none 0 0, .slice none 0 0] 44
  rw [show ((w.alloc (.cells #[.int .i64 id, .bool here, .int .i64 ahead, .slice a3 be.length c3, .slice a4 fi.length c4, .slice a5 sh.length c5] 59)).alloc (.cells #[.int .i64 0, .bool false, .int .i64 0, .slice none 0 0, .slice none 0 0, .slice none 0 0] 44)).heap.size = w.heap.size + 1 + 1 from by simp [go_sem]] at O
  have HB := hide h3
  have hsz : (((w.alloc (.cells #[.int .i64 id, .bool here, .int .i64 ahead, .slice a3 be.length c3, .slice a4 fi.length c4, .slice a5 sh.length c5] 59)).alloc (.cells #[.int .i64 0, .bool false, .int .i64 0, .slice none 0 0, .slice none 0 0, .slice none 0 0] 44)).alloc (.cells #[.int .i64 id, .bool here, .int .i64 ahead, .slice none 0 0, .slice none 0 0, .slice none 0 0] 44)).heap.size = w.heap.size + 1 + 1 + 1 := by simp [go_sem]
  obtain ⟨b3, e3⟩ : ∃ b, b = w.heap.size + 1 + 1 := ⟨_, rfl⟩
  obtain ⟨b2, e2⟩ : ∃ b, b = w.heap.size + 1 := ⟨_, rfl⟩
  obtain ⟨b1, e1⟩ : ∃ b, b = w.heap.size := ⟨_, rfl⟩
  rw [← e3] at O ⊢
  rw [← e2] at R ⊢
  rw [← e1] at A ⊢
  have hb2 : w.heap.size ≤ b2 := by omega
  have hb3 : w.heap.size ≤ b3 := by omega
  have hn : b2 ≠ b3 := by omega
  have hn1 : b1 ≠ b3 := by omega
  have HZ : Hid (b2 < (((w.alloc (.cells #[.int .i64 id, .bool here, .int .i64 ahead, .slice a3 be.length c3, .slice a4 fi.length c4, .slice a5 sh.length c5] 59)).alloc (.cells #[.int .i64 0, .bool false, .int .i64 0, .slice none 0 0, .slice none 0 0, .slice none 0 0] 44)).alloc (.cells #[.int .i64 id, .bool here, .int .i64 ahead, .slice none 0 0, .slice none 0 0, .slice none 0 0] 44)).heap.size ∧ b3 < (((w.alloc (.cells #[.int .i64 id, .bool here, .int .i64 ahead, .slice a3 be.length c3, .slice a4 fi.length c4, .slice a5 sh.length c5] 59)).alloc (.cells #[.int .i64 0, .bool false, .int .i64 0, .slice none 0 0, .slice none 0 0, .slice none 0 0] 44)).alloc (.cells #[.int .i64 id, .bool here, .int .i64 ahead, .slice none 0 0, .slice none 0 0, .slice none 0 0] 44)).heap.size) := ⟨by omega, by omega⟩
  clear h1 h2 h3 e1 e2 e3 hsz
  generalize ((w.alloc (.cells #[.int .i64 id, .bool here, .int .i64 ahead, .slice a3 be.length c3, .slice a4 fi.length c4, .slice a5 sh.length c5] 59)).alloc (.cells #[.int .i64 0, .bool false, .int .i64 0, .slice none 0 0, .slice none 0 0, .slice none 0 0] 44)).alloc (.cells #[.int .i64 id, .bool here, .int .i64 ahead, .slice none 0 0, .slice none 0 0, .slice none 0 0] 44) = wa at *
  have A3 := blk_free_cell A 3 rfl
  have la := A.lt
  have o1 := blk_free_cell O 3 rfl
  have of1 := O.free 3
  have lo := O.lt
  have HC := hide (toInts_calls wa _ be (H3.out.below HB.out (Nat.le_refl _)) (by omega))
  go_wp2_with fail
  refine HC.out.mono ?_
  rintro e wb ⟨v3, rfl, hown, hbb⟩
  obtain ⟨f3, hfp, hfb⟩ := ints_owns hown
  obtain ⟨x3, y3, hsh⟩ := own_sh hown
  subst hsh
  clear hown
  have Ob := O.below hbb O.lt
  have Rb := R.below hbb R.lt
  have Ab := A.below hbb A.lt
  have HBb := hide (HB.out.trans (hbb.mono HB.out.size))
  have hsz := hbb.size
  have HZb : Hid (b2 < wb.heap.size ∧ b3 < wb.heap.size) := ⟨Nat.lt_of_lt_of_le HZ.out.1 hsz, Nat.lt_of_lt_of_le HZ.out.2 hsz⟩
  have HQb : Hid (∀ q ∈ f3, q ≠ b2 ∧ q ≠ b3) := fun q hq => by
    have h1 := hfb q hq
    have h2 := HZ.out
    omega
  have HLb : Hid (∀ q ∈ f3, w.heap.size ≤ q) := fun q hq => Nat.le_trans HB.out.size (hfb q hq)
  have K3 := hide hfp
  clear hbb hfp hfb A3 la o1 of1 lo HC HB O R A hsz HZ
  have o1 := blk_free_cell Ob 3 rfl
  have of1 := Ob.free 3
  have ol := Ob.lt
  go_upto_region 6 with fail
  have O := Ob.set 3 (.slice x3 be.length y3)
  have R := Rb.other (p := ⟨b3, 3, none⟩) hn (.slice x3 be.length y3)
  have A := Ab.other (p := ⟨b3, 3, none⟩) hn1 (.slice x3 be.length y3)
  have HB := hide (HBb.out.setCell (p := ⟨b3, 3, none⟩) hb3 (.slice x3 be.length y3))
  have HZ : Hid (b2 < (wb.setCell ⟨b3, 3, none⟩ (.slice x3 be.length y3)).heap.size ∧ b3 < (wb.setCell ⟨b3, 3, none⟩ (.slice x3 be.length y3)).heap.size) := by
    show _ ∧ _
    have := HZb.out
    simpa [World.setCell] using this
  have K3 := hide (owns_set K3.out (b := b3) (i := 3) (fun q hq => (HQb.out q hq).2) (.slice x3 be.length y3))
  have Q3 := HQb
  have L3 := HLb
  clear Ob Rb Ab HBb HZb HQb HLb o1 of1 ol
  generalize wb.setCell ⟨b3, 3, none⟩ (.slice x3 be.length y3) = wa at *
  have A4 := blk_free_cell A 4 rfl
  have la := A.lt
  have o1 := blk_free_cell O 4 rfl
  have of1 := O.free 4
  have lo := O.lt
  have HC := hide (toInts_calls wa _ fi (H4.out.below HB.out (Nat.le_refl _)) (by omega))
  go_wp2_with fail
  refine HC.out.mono ?_
  rintro e wb ⟨v4, rfl, hown, hbb⟩
  obtain ⟨f4, hfp, hfb⟩ := ints_owns hown
  obtain ⟨x4, y4, hsh⟩ := own_sh hown
  subst hsh
  clear hown
  have Ob := O.below hbb O.lt
  have Rb := R.below hbb R.lt
  have Ab := A.below hbb A.lt
  have HBb := hide (HB.out.trans (hbb.mono HB.out.size))
  have hsz := hbb.size
  have HZb : Hid (b2 < wb.heap.size ∧ b3 < wb.heap.size) := ⟨Nat.lt_of_lt_of_le HZ.out.1 hsz, Nat.lt_of_lt_of_le HZ.out.2 hsz⟩
  have HQb : Hid (∀ q ∈ f4, q ≠ b2 ∧ q ≠ b3) := fun q hq => by
    have h1 := hfb q hq
    have h2 := HZ.out
    omega
  have HLb : Hid (∀ q ∈ f4, w.heap.size ≤ q) := fun q hq => Nat.le_trans HB.out.size (hfb q hq)
  have K4 := hide hfp
  have D34 : Hid (∀ q ∈ f3, q ∉ f4) := fun q hq h => by
    have h1 := hfb q h
    have h2 := K3.out.lt q hq
    omega
  have K3 := hide (owns_below K3.out hbb)
  clear hbb hfp hfb A4 la o1 of1 lo HC HB O R A hsz HZ
  have o1 := blk_free_cell Ob 4 rfl
  have of1 := Ob.free 4
  have ol := Ob.lt
  go_upto_region 7 with fail
  have O := Ob.set 4 (.slice x4 fi.length y4)
  have R := Rb.other (p := ⟨b3, 4, none⟩) hn (.slice x4 fi.length y4)
  have A := Ab.other (p := ⟨b3, 4, none⟩) hn1 (.slice x4 fi.length y4)
  have HB := hide (HBb.out.setCell (p := ⟨b3, 4, none⟩) hb3 (.slice x4 fi.length y4))
  have HZ : Hid (b2 < (wb.setCell ⟨b3, 4, none⟩ (.slice x4 fi.length y4)).heap.size ∧ b3 < (wb.setCell ⟨b3, 4, none⟩ (.slice x4 fi.length y4)).heap.size) := by
    show _ ∧ _
    have := HZb.out
    simpa [World.setCell] using this
  have K3 := hide (owns_set K3.out (b := b3) (i := 4) (fun q hq => (Q3.out q hq).2) (.slice x4 fi.length y4))
  have K4 := hide (owns_set K4.out (b := b3) (i := 4) (fun q hq => (HQb.out q hq).2) (.slice x4 fi.length y4))
  have Q4 := HQb
  have L4 := HLb
  clear Ob Rb Ab HBb HZb HQb HLb o1 of1 ol
  generalize wb.setCell ⟨b3, 4, none⟩ (.slice x4 fi.length y4) = wa at *
  have A5 := blk_free_cell A 5 rfl
  have la := A.lt
  have o1 := blk_free_cell O 5 rfl
  have of1 := O.free 5
  have lo := O.lt
  have HC := hide (toShelves_calls wa _ sh (H5.out.below HB.out (Nat.le_refl _)) hs5 (fun x hx => (HS.out x hx).1))
  go_wp2_with fail
  refine HC.out.mono ?_
  rintro e wb ⟨x5, y5, f5, rfl, hfp, hfb, hbb⟩
  have Ob := O.below hbb O.lt
  have Rb := R.below hbb R.lt
  have Ab := A.below hbb A.lt
  have HBb := hide (HB.out.trans (hbb.mono HB.out.size))
  have hsz := hbb.size
  have HZb : Hid (b2 < wb.heap.size ∧ b3 < wb.heap.size) := ⟨Nat.lt_of_lt_of_le HZ.out.1 hsz, Nat.lt_of_lt_of_le HZ.out.2 hsz⟩
  have HQb : Hid (∀ q ∈ f5, q ≠ b2 ∧ q ≠ b3) := fun q hq => by
    have h1 := hfb q hq
    have h2 := HZ.out
    omega
  have HLb : Hid (∀ q ∈ f5, w.heap.size ≤ q) := fun q hq => Nat.le_trans HB.out.size (hfb q hq)
  have K5 := hide hfp
  have D35 : Hid (∀ q ∈ f3, q ∉ f5) := fun q hq h => by
    have h1 := hfb q h
    have h2 := K3.out.lt q hq
    omega
  have K3 := hide (owns_below K3.out hbb)
  have D45 : Hid (∀ q ∈ f4, q ∉ f5) := fun q hq h => by
    have h1 := hfb q h
    have h2 := K4.out.lt q hq
    omega
  have K4 := hide (owns_below K4.out hbb)
  clear hbb hfp hfb A5 la o1 of1 lo HC HB O R A hsz HZ
  have o1 := blk_free_cell Ob 5 rfl
  have of1 := Ob.free 5
  have ol := Ob.lt
  go_upto_region 8 with fail
  have O := Ob.set 5 (.slice x5 sh.length y5)
  have R := Rb.other (p := ⟨b3, 5, none⟩) hn (.slice x5 sh.length y5)
  have A := Ab.other (p := ⟨b3, 5, none⟩) hn1 (.slice x5 sh.length y5)
  have HB := hide (HBb.out.setCell (p := ⟨b3, 5, none⟩) hb3 (.slice x5 sh.length y5))
  have HZ : Hid (b2 < (wb.setCell ⟨b3, 5, none⟩ (.slice x5 sh.length y5)).heap.size ∧ b3 < (wb.setCell ⟨b3, 5, none⟩ (.slice x5 sh.length y5)).heap.size) := by
    show _ ∧ _
    have := HZb.out
    simpa [World.setCell] using this
  have K3 := hide (owns_set K3.out (b := b3) (i := 5) (fun q hq => (Q3.out q hq).2) (.slice x5 sh.length y5))
  have K4 := hide (owns_set K4.out (b := b3) (i := 5) (fun q hq => (Q4.out q hq).2) (.slice x5 sh.length y5))
  have K5 := hide (owns_set K5.out (b := b3) (i := 5) (fun q hq => (HQb.out q hq).2) (.slice x5 sh.length y5))
  have Q5 := HQb
  have L5 := HLb
  clear Ob Rb Ab HBb HZb HQb HLb o1 of1 ol
  generalize wb.setCell ⟨b3, 5, none⟩ (.slice x5 sh.length y5) = wa at *
  have p0 := blk_free_cell O 0 rfl
  have r0 := blk_free_cell R 0 rfl
  have rf0 := R.free 0
  have p1 := blk_free_cell O 1 rfl
  have r1 := blk_free_cell R 1 rfl
  have rf1 := R.free 1
  have p2 := blk_free_cell O 2 rfl
  have r2 := blk_free_cell R 2 rfl
  have rf2 := R.free 2
  have p3 := blk_free_cell O 3 rfl
  have r3 := blk_free_cell R 3 rfl
  have rf3 := R.free 3
  have p4 := blk_free_cell O 4 rfl
  have r4 := blk_free_cell R 4 rfl
  have rf4 := R.free 4
  have p5 := blk_free_cell O 5 rfl
  have r5 := blk_free_cell R 5 rfl
  have rf5 := R.free 5
  have pl := O.lt
  have rl := R.lt
  go_wp2_with fail
  have Rd := ((((((R.set 0 (.int .i64 id)).set 1 (.bool here)).set 2 (.int .i64 ahead)).set 3 (.slice x3 be.length y3)).set 4 (.slice x4 fi.length y4)).set 5 (.slice x5 sh.length y5))
  have z0 := blk_free_cell Rd 0 rfl
  have z1 := blk_free_cell Rd 1 rfl
  have z2 := blk_free_cell Rd 2 rfl
  have z3 := blk_free_cell Rd 3 rfl
  have z4 := blk_free_cell Rd 4 rfl
  have z5 := blk_free_cell Rd 5 rfl
  refine bodyPost_ret (v := .agg #[.int .i64 id, .bool here, .int .i64 ahead, .slice x3 be.length y3, .slice x4 fi.length y4, .slice x5 sh.length y5]) (by simp [results, Try.results37, go_sem, z0, z1, z2, z3, z4, z5]) rfl ⟨x3, y3, x4, y4, x5, y5, f3, f4, f5, rfl, ⟨(owns_set (owns_set (owns_set (owns_set (owns_set (owns_set K3.out (b := b2) (i := 0) (fun q hq => (Q3.out q hq).1) (.int .i64 id)) (b := b2) (i := 1) (fun q hq => (Q3.out q hq).1) (.bool here)) (b := b2) (i := 2) (fun q hq => (Q3.out q hq).1) (.int .i64 ahead)) (b := b2) (i := 3) (fun q hq => (Q3.out q hq).1) (.slice x3 be.length y3)) (b := b2) (i := 4) (fun q hq => (Q3.out q hq).1) (.slice x4 fi.length y4)) (b := b2) (i := 5) (fun q hq => (Q3.out q hq).1) (.slice x5 sh.length y5)), (owns_set (owns_set (owns_set (owns_set (owns_set (owns_set K4.out (b := b2) (i := 0) (fun q hq => (Q4.out q hq).1) (.int .i64 id)) (b := b2) (i := 1) (fun q hq => (Q4.out q hq).1) (.bool here)) (b := b2) (i := 2) (fun q hq => (Q4.out q hq).1) (.int .i64 ahead)) (b := b2) (i := 3) (fun q hq => (Q4.out q hq).1) (.slice x3 be.length y3)) (b := b2) (i := 4) (fun q hq => (Q4.out q hq).1) (.slice x4 fi.length y4)) (b := b2) (i := 5) (fun q hq => (Q4.out q hq).1) (.slice x5 sh.length y5)), (owns_set (owns_set (owns_set (owns_set (owns_set (owns_set K5.out (b := b2) (i := 0) (fun q hq => (Q5.out q hq).1) (.int .i64 id)) (b := b2) (i := 1) (fun q hq => (Q5.out q hq).1) (.bool here)) (b := b2) (i := 2) (fun q hq => (Q5.out q hq).1) (.int .i64 ahead)) (b := b2) (i := 3) (fun q hq => (Q5.out q hq).1) (.slice x3 be.length y3)) (b := b2) (i := 4) (fun q hq => (Q5.out q hq).1) (.slice x4 fi.length y4)) (b := b2) (i := 5) (fun q hq => (Q5.out q hq).1) (.slice x5 sh.length y5)), L3.out, L4.out, L5.out, D34.out, D35.out, D45.out⟩, ((((((HB.out.setCell (p := ⟨b2, 0, none⟩) hb2 _).setCell (p := ⟨b2, 1, none⟩) hb2 _).setCell (p := ⟨b2, 2, none⟩) hb2 _).setCell (p := ⟨b2, 3, none⟩) hb2 _).setCell (p := ⟨b2, 4, none⟩) hb2 _).setCell (p := ⟨b2, 5, none⟩) hb2 _)⟩
end Go.Proofs.Yteladljgnbfcnaa.P9
namespace Go.Proofs.Yteladljgnbfcnaa.P9
set_option maxRecDepth 8000
open Go.RowKit P1 P8 Da Rr

theorem info_peer : (Try.prog.info? 44).map (fun i => (i.zero, i.size, i.bytes)) = some (some (.agg #[.int .i64 0, .bool false, .int .i64 0, .slice none 0 0, .slice none 0 0, .slice none 0 0]), 6, 96) := by kernel_rfl

def prZ : List Dt := [intD 0, boolD false, intD 0, .row 3 1 [], .row 3 1 [], .row T0.shelf 2 []]

theorem prZ_owns {W : World} (i : Nat) (d : Dt) (h : prZ[i]? = some d) : ∃ u, [Value.int .i64 0, .bool false, .int .i64 0, .slice none 0 0, .slice none 0 0, .slice none 0 0][i]? = some u ∧ Owns W u d [] := by
  match i, h with
  | 0, h =>
    obtain rfl : intD 0 = d := by simpa [prZ] using h
    exact ⟨_, rfl, owns_leaf _⟩
  | 1, h =>
    obtain rfl : boolD false = d := by simpa [prZ] using h
    exact ⟨_, rfl, owns_leaf _⟩
  | 2, h =>
    obtain rfl : intD 0 = d := by simpa [prZ] using h
    exact ⟨_, rfl, owns_leaf _⟩
  | 3, h =>
    obtain rfl : Dt.row 3 1 [] = d := by simpa [prZ] using h
    exact ⟨_, rfl, owns_nil _ _⟩
  | 4, h =>
    obtain rfl : Dt.row 3 1 [] = d := by simpa [prZ] using h
    exact ⟨_, rfl, owns_nil _ _⟩
  | 5, h =>
    obtain rfl : Dt.row T0.shelf 2 [] = d := by simpa [prZ] using h
    exact ⟨_, rfl, owns_nil _ _⟩

set_option maxHeartbeats 4000000 in
theorem toPeers_calls (w : World) (v : Value) (l : List Pr) (hv : PeersAt w v l) (hl : l.length ≤ 1048576) (hs0 : ∀ x ∈ l, Small x) :
    Calls Try.prog 21 #[v] w fun e w' => ∃ a c fp, e = .returned (.slice a l.length c) ∧ Owns w' (.slice a l.length c) (peersD T0 l) fp ∧ (∀ q ∈ fp, w.heap.size ≤ q) ∧ Below w.heap.size w w' := by
  have HV := hide hv
  have HSM := hide hs0
  obtain ⟨a, ca, rfl, -⟩ := hv.open_
  clear hv hs0
  obtain ⟨i0, hi, hz0, hz1, hz2⟩ := info_parts info_peer
  go_enter Try.func21, Try.ntmps21
  go_wp2_with (at_make; refine wpList_make_full _ rfl (.tmp 6) (.tmp 6) 27 rfl w.heap.size 44 i0 (.agg #[.int .i64 0, .bool false, .int .i64 0, .slice none 0 0, .slice none 0 0, .slice none 0 0]) 6 Try.underlying27 hi hz0 hz1 .i64 .i64 _ _ l.length rfl rfl (by omega) (by omega) (by rw [hz2]; omega) (by unfold maxLen; omega) (Nat.le_refl _) ?_)
  intro w2 hown2 hgr2
  have hown3 : w2.ownsRow w.heap.size 44 6 (.slice (some ⟨w.heap.size, 0, none⟩) l.length l.length) l.length (List.replicate l.length [Value.int .i64 0, .bool false, .int .i64 0, .slice none 0 0, .slice none 0 0, .slice none 0 0]).flatten := by
    have h1 := madeCells_recs #[.int .i64 0, .bool false, .int .i64 0, .slice none 0 0, .slice none 0 0, .slice none 0 0] 6 rfl (by decide) l.length
    rw [show [Value.int .i64 0, .bool false, .int .i64 0, .slice none 0 0, .slice none 0 0, .slice none 0 0] = (#[.int .i64 0, .bool false, .int .i64 0, .slice none 0 0, .slice none 0 0, .slice none 0 0] : Array Value).toList from rfl, ← h1]
    exact hown2
  obtain ⟨fp0, hfp0, hfb0⟩ := owns_made (zd := prZ) hown3 rfl rfl (by decide) prZ_owns
  obtain ⟨fps0, rfl⟩ := Owns.head hfp0
  have hfps0 : ∀ q ∈ fps0, w.heap.size ≤ q := fun q hq => (hown3.lt q ((hfb0 q).1 (by simp [hq]))).1
  have hown4 : Owns w2 (.slice (some ⟨w.heap.size, 0, none⟩) l.length l.length) (.row 44 6 (halfR (prC T0) prZ l 0).flatten) (w.heap.size :: fps0) := by
    have : (halfR (prC T0) prZ l 0).flatten = (List.replicate l.length prZ).flatten := by simp [halfR]
    rw [this]
    exact hfp0
  have hb2 : Below w.heap.size w w2 := (Below.refl _ _).grown hgr2 (Nat.le_refl _) (by intro k hk; cases hk)
  have HO2 := hide hown4
  have HF2 := hide hfps0
  have HB2 := hide hb2
  clear hown2 hown3 hown4 hgr2 hb2 hfp0 hfb0 hfps0
  obtain ⟨g, hg⟩ : ∃ g, g = w.heap.size := ⟨_, rfl⟩
  go_wp2_with fail
  rw [← hg] at HO2 ⊢
  have hgw : w.heap.size ≤ g := by omega
  clear hg
  go_loopw [4] (fun i wr => ∃ (k : Nat) (fps : List Nat), k ≤ l.length ∧ i = .int .i64 k ∧ Hid (Owns wr (.slice (some ⟨g, 0, none⟩) l.length l.length) (.row 44 6 (halfR (prC T0) prZ l k).flatten) (g :: fps)) ∧ Hid (∀ q ∈ fps, w.heap.size ≤ q) ∧ Hid (Below w.heap.size w wr)) (fun i _ => l.length - (intOf i).toNat)
  case atStart => exact ⟨0, fps0, Nat.zero_le _, rfl, HO2.out, HF2.out, HB2.out⟩
  case round =>
    clear HO2 HB2 HF2
    obtain ⟨k, fps, hk, rfl, HO, HF, HB⟩ := hrel
    by_cases hlt : k < l.length
    · obtain ⟨ax, cx, hax, HA⟩ := (HV.out.below HB.out (Nat.le_refl _)).open_
      cases hax
      obtain ⟨gb, off, u3, u4, u5, rfl, hgb, hc⟩ := HA k hlt
      have HX := hide (halfR_next (f := prC T0) (z := prZ) (n := 6) (fun _ => rfl) rfl l k hlt)
      have hXl := halfR_flat (f := prC T0) (z := prZ) (n := 6) (fun _ => rfl) rfl l k hk
      have hsm := HSM.out l[k] (List.getElem_mem hlt)
      have HSC : Hid (prC T0 l[k] = [intD l[k].id, boolD l[k].here, intD l[k].ahead, intsD l[k].behind, intsD l[k].fingers, shelvesD T0 l[k].shelves]) := rfl
      clear HA
      generalize prC T0 l[k] = sc at *
      generalize l[k] = q at *
      have HC := hide (toPeer_calls wr q u3 u4 u5 hc.behind hc.fingers hc.shelves hsm)
      obtain ⟨e3, d3, h3, -⟩ := hc.behind
      obtain ⟨e4, d4, h4, -⟩ := hc.fingers
      obtain ⟨e5, d5, h5, -⟩ := hc.shelves.open_
      have f0 := hc.id
      have f1 := hc.here
      have f2 := hc.ahead
      have f3 := hc.c3
      have f4 := hc.c4
      have f5 := hc.c5
      subst h3 h4 h5
      obtain ⟨id, here, ahead, be, fi, sh⟩ := q
      dsimp only at f0 f1 f2 f3 f4 f5 HC HSC
      dsimp only [prV] at HC
      clear hc hsm
      go_wp2_with fail
      refine HC.out.mono ?_
      rintro e w5 ⟨x3, y3, x4, y4, x5, y5, p3, p4, p5, rfl, hpo, hb5⟩
      have hlts := HO.out.lt
      have HO5 := hide (HO.out.stay (W' := w5) (fun q hq => hb5.block q (hlts q hq)))
      have HB5 := hide (HB.out.trans (hb5.mono HB.out.size))
      have ap : ∀ q, wr.heap.size ≤ q → q ≠ g ∧ q ∉ fps := fun q h1 => by
        refine ⟨fun e => ?_, fun h => ?_⟩
        · have := hlts g (by simp)
          omega
        · have := hlts q (by simp [h])
          omega
      have HP := hide hpo
      have HA3 : Hid (∀ q ∈ p3, q ≠ g ∧ q ∉ fps) := fun q hq => ap q (hpo.b3 q hq)
      have HA4 : Hid (∀ q ∈ p4, q ≠ g ∧ q ∉ fps) := fun q hq => ap q (hpo.b4 q hq)
      have HA5 : Hid (∀ q ∈ p5, q ≠ g ∧ q ∉ fps) := fun q hq => ap q (hpo.b5 q hq)
      have HFW : Hid (∀ q, q ∈ p3 ∨ q ∈ p4 ∨ q ∈ p5 → w.heap.size ≤ q) := fun q hq => Nat.le_trans HB.out.size (by
        rcases hq with hq | hq | hq
        · exact hpo.b3 q hq
        · exact hpo.b4 q hq
        · exact hpo.b5 q hq)
      obtain ⟨⟨s0, hc0⟩, hf0, hl5⟩ := HO5.out.cell (i := k * 6) (by omega)
      obtain ⟨⟨s1, hc1⟩, hf1, -⟩ := HO5.out.cell (i := k * 6 + 1) (by omega)
      obtain ⟨⟨s2, hc2⟩, hf2, -⟩ := HO5.out.cell (i := k * 6 + 2) (by omega)
      obtain ⟨⟨s3, hc3⟩, hf3, -⟩ := HO5.out.cell (i := k * 6 + 3) (by omega)
      obtain ⟨⟨s4, hc4⟩, hf4, -⟩ := HO5.out.cell (i := k * 6 + 4) (by omega)
      obtain ⟨⟨s5, hc5⟩, hf5, -⟩ := HO5.out.cell (i := k * 6 + 5) (by omega)
      clear hb5 HO HB hpo hlts ap f0 f1 f2 f3 f4 f5 hgb HC
      go_wp2_with fail
      go_roundw
      case rel =>
        have K3 := HP.out.o3
        have K4 := HP.out.o4
        have K5 := HP.out.o5
        obtain ⟨g0, k0, j0⟩ := HO5.out.put (i := k * 6) (by omega) (owns_leaf (.int .i64 id)) (by simp)
        have n3_1 : ∀ q ∈ p3, q ∉ g0 := fun q hq h => (j0 q h).elim ((HA3.out q hq).2) (by simp)
        have K3 := owns_set K3 (b := g) (i := k * 6) (fun q hq => (HA3.out q hq).1) (.int .i64 id)
        have n4_1 : ∀ q ∈ p4, q ∉ g0 := fun q hq h => (j0 q h).elim ((HA4.out q hq).2) (by simp)
        have K4 := owns_set K4 (b := g) (i := k * 6) (fun q hq => (HA4.out q hq).1) (.int .i64 id)
        have n5_1 : ∀ q ∈ p5, q ∉ g0 := fun q hq h => (j0 q h).elim ((HA5.out q hq).2) (by simp)
        have K5 := owns_set K5 (b := g) (i := k * 6) (fun q hq => (HA5.out q hq).1) (.int .i64 id)
        obtain ⟨g1, k1, j1⟩ := k0.put (i := k * 6 + 1) (by simp only [List.length_set]; omega) (owns_leaf (.bool here)) (by simp)
        have n3_2 : ∀ q ∈ p3, q ∉ g1 := fun q hq h => (j1 q h).elim (n3_1 q hq) (by simp)
        have K3 := owns_set K3 (b := g) (i := k * 6 + 1) (fun q hq => (HA3.out q hq).1) (.bool here)
        have n4_2 : ∀ q ∈ p4, q ∉ g1 := fun q hq h => (j1 q h).elim (n4_1 q hq) (by simp)
        have K4 := owns_set K4 (b := g) (i := k * 6 + 1) (fun q hq => (HA4.out q hq).1) (.bool here)
        have n5_2 : ∀ q ∈ p5, q ∉ g1 := fun q hq h => (j1 q h).elim (n5_1 q hq) (by simp)
        have K5 := owns_set K5 (b := g) (i := k * 6 + 1) (fun q hq => (HA5.out q hq).1) (.bool here)
        obtain ⟨g2, k2, j2⟩ := k1.put (i := k * 6 + 2) (by simp only [List.length_set]; omega) (owns_leaf (.int .i64 ahead)) (by simp)
        have n3_3 : ∀ q ∈ p3, q ∉ g2 := fun q hq h => (j2 q h).elim (n3_2 q hq) (by simp)
        have K3 := owns_set K3 (b := g) (i := k * 6 + 2) (fun q hq => (HA3.out q hq).1) (.int .i64 ahead)
        have n4_3 : ∀ q ∈ p4, q ∉ g2 := fun q hq h => (j2 q h).elim (n4_2 q hq) (by simp)
        have K4 := owns_set K4 (b := g) (i := k * 6 + 2) (fun q hq => (HA4.out q hq).1) (.int .i64 ahead)
        have n5_3 : ∀ q ∈ p5, q ∉ g2 := fun q hq h => (j2 q h).elim (n5_2 q hq) (by simp)
        have K5 := owns_set K5 (b := g) (i := k * 6 + 2) (fun q hq => (HA5.out q hq).1) (.int .i64 ahead)
        obtain ⟨g3, k3, j3⟩ := k2.put (i := k * 6 + 3) (by simp only [List.length_set]; omega) K3 (fun q hq => ⟨(HA3.out q hq).1, n3_3 q hq⟩)
        have n4_4 : ∀ q ∈ p4, q ∉ g3 := fun q hq h => (j3 q h).elim (n4_3 q hq) (fun h' => HP.out.d34 q h' hq)
        have K4 := owns_set K4 (b := g) (i := k * 6 + 3) (fun q hq => (HA4.out q hq).1) (.slice x3 be.length y3)
        have n5_4 : ∀ q ∈ p5, q ∉ g3 := fun q hq h => (j3 q h).elim (n5_3 q hq) (fun h' => HP.out.d35 q h' hq)
        have K5 := owns_set K5 (b := g) (i := k * 6 + 3) (fun q hq => (HA5.out q hq).1) (.slice x3 be.length y3)
        obtain ⟨g4, k4, j4⟩ := k3.put (i := k * 6 + 4) (by simp only [List.length_set]; omega) K4 (fun q hq => ⟨(HA4.out q hq).1, n4_4 q hq⟩)
        have n5_5 : ∀ q ∈ p5, q ∉ g4 := fun q hq h => (j4 q h).elim (n5_4 q hq) (fun h' => HP.out.d45 q h' hq)
        have K5 := owns_set K5 (b := g) (i := k * 6 + 4) (fun q hq => (HA5.out q hq).1) (.slice x4 fi.length y4)
        obtain ⟨g5, k5, j5⟩ := k4.put (i := k * 6 + 5) (by simp only [List.length_set]; omega) K5 (fun q hq => ⟨(HA5.out q hq).1, n5_5 q hq⟩)
        refine ⟨k + 1, g5, by omega, by go_num, ?_, ?_, ((((((HB5.out.setCell (p := ⟨g, k * 6, none⟩) hgw _).setCell (p := ⟨g, k * 6 + 1, none⟩) hgw _).setCell (p := ⟨g, k * 6 + 2, none⟩) hgw _).setCell (p := ⟨g, k * 6 + 3, none⟩) hgw _).setCell (p := ⟨g, k * 6 + 4, none⟩) hgw _).setCell (p := ⟨g, k * 6 + 5, none⟩) hgw _)⟩
        · show Owns _ _ _ _
          rw [← HX.out, HSC.out]
          exact k5
        · intro q hq
          rcases j5 q hq with h | h
          · rcases j4 q h with h | h
            · rcases j3 q h with h | h
              · rcases j2 q h with h | h
                · rcases j1 q h with h | h
                  · rcases j0 q h with h | h
                    · exact HF.out q h
                    · cases h
                  · cases h
                · cases h
              · exact HFW.out q (.inl h)
            · exact HFW.out q (.inr (.inl h))
          · exact HFW.out q (.inr (.inr h))
      case measure => simp [intOf]; omega
    · have hkl : k = l.length := by omega
      subst hkl
      have HE : Hid ((halfR (prC T0) prZ l l.length).flatten = l.flatMap (prC T0)) := halfR_end l
      rw [HE.out] at HO
      go_wp2_with fail
      go_ret
      exact ⟨_, _, _, rfl, HO.out, fun q hq => (List.mem_cons.1 hq).elim (fun e => e ▸ hgw) (HF.out q), HB.out⟩
end Go.Proofs.Yteladljgnbfcnaa.P9
namespace Go.Proofs.Yteladljgnbfcnaa.P9
set_option maxRecDepth 8000
open Go.RowKit P1 P8 Da Rr

set_option maxHeartbeats 1000000 in
theorem toRing_calls (w : World) (v : Value) (l : List Pr) (hv : PeersAt w v l) (hl : l.length ≤ 1048576) (hs0 : ∀ x ∈ l, Small x) :
    Calls Try.prog 7 #[.agg #[v]] w fun e w' => ∃ a c fp, e = .returned (.agg #[.slice a l.length c]) ∧ Owns w' (.slice a l.length c) (peersD T0 l) fp ∧ (∀ q ∈ fp, w.heap.size ≤ q) ∧ Below w.heap.size w w' := by
  have HV := hide hv
  obtain ⟨a, ca, rfl, -⟩ := hv.open_
  have HSM := hide hs0
  clear hv hs0
  go_enter Try.func7, Try.ntmps7
  go_upto_region 2 with fail
  have h1 := (Below.refl w.heap.size w).alloc (Nat.le_refl _) (.cells #[.slice a l.length ca] 24)
  have h2 := h1.alloc h1.size (.cells #[.slice none 0 0] 29)
  have h3 := h2.alloc h2.size (.cells #[.slice none 0 0] 29)
  have A := Blk.new w #[.slice a l.length ca] 24
  have A := A.below ((Below.refl _ _).alloc (Nat.le_refl _) (.cells #[.slice none 0 0] 29)) A.lt
  have A := A.below ((Below.refl _ _).alloc (Nat.le_refl _) (.cells #[.slice none 0 0] 29)) A.lt
  have R := Blk.new (w.alloc (.cells #[.slice a l.length ca] 24)) #[.slice none 0 0] 29
  have R := R.below ((Below.refl _ _).alloc (Nat.le_refl _) (.cells #[.slice none 0 0] 29)) R.lt
  rw [show (w.alloc (.cells #[.slice a l.length ca] 24)).heap.size = w.heap.size + 1 from by simp [go_sem]] at R
  have O := Blk.new ((w.alloc (.cells #[.slice a l.length ca] 24)).alloc (.cells #[.slice none 0 0] 29)) #[.slice none 0 0] 29
  rw [show ((w.alloc (.cells #[.slice a l.length ca] 24)).alloc (.cells #[.slice none 0 0] 29)).heap.size = w.heap.size + 1 + 1 from by simp [go_sem]] at O
  have HV1 := hide (HV.out.below h3 (Nat.le_refl _))
  have HB1 := hide h3
  obtain ⟨b3, e3⟩ : ∃ b, b = w.heap.size + 1 + 1 := ⟨_, rfl⟩
  obtain ⟨b2, e2⟩ : ∃ b, b = w.heap.size + 1 := ⟨_, rfl⟩
  obtain ⟨b1, e1⟩ : ∃ b, b = w.heap.size := ⟨_, rfl⟩
  rw [← e3] at O ⊢
  rw [← e2] at R ⊢
  rw [← e1] at A ⊢
  have hb2 : w.heap.size ≤ b2 := by omega
  have hb3 : w.heap.size ≤ b3 := by omega
  have hn : b2 ≠ b3 := by omega
  clear h1 h2 h3 e1 e2 e3 HV
  generalize ((w.alloc (.cells #[.slice a l.length ca] 24)).alloc (.cells #[.slice none 0 0] 29)).alloc (.cells #[.slice none 0 0] 29) = wa at *
  have A1 := blk_free_cell A 0 rfl
  have la := A.lt
  have HC := hide (toPeers_calls wa _ l HV1.out hl HSM.out)
  have O1 := blk_free_cell O 0 rfl
  have Of := O.free 0
  have lo := O.lt
  go_wp2_with fail
  refine HC.out.mono ?_
  rintro e wb ⟨a', c', fp, rfl, hfp, hfb, hbb⟩
  have Ob := O.below hbb O.lt
  have Rb := R.below hbb R.lt
  have hr1 := R.lt
  have HF := hide hfp
  have HFb := hide hfb
  have HBb := hide (HB1.out.trans (hbb.mono HB1.out.size))
  have sz1 := HB1.out.size
  clear hbb hfp hfb A1 la HC O1 Of A HV1 HB1
  have o1 := blk_free_cell Ob 0 rfl
  have of1 := Ob.free 0
  have ol := Ob.lt
  go_upto_region 3 with fail
  have Oc := Ob.set 0 (.slice a' l.length c')
  have Rc' := Rb.other (p := ⟨b3, 0, none⟩) hn (.slice a' l.length c')
  have HFc := hide (owns_set HF.out (b := b3) (i := 0) (fun q hq => by have := HFb.out q hq; omega) (.slice a' l.length c'))
  have HBc := hide (HBb.out.setCell (p := ⟨b3, 0, none⟩) hb3 (.slice a' l.length c'))
  clear Ob Rb HF HBb o1 of1 ol O R
  generalize wb.setCell ⟨b3, 0, none⟩ (.slice a' l.length c') = wc at *
  have p0 := blk_free_cell Oc 0 rfl
  have pl := Oc.lt
  have r0 := blk_free_cell Rc' 0 rfl
  have rf0 := Rc'.free 0
  have rl := Rc'.lt
  go_wp2_with fail
  have Rd := Rc'.set 0 (.slice a' l.length c')
  have x0 := blk_free_cell Rd 0 rfl
  refine bodyPost_ret (v := .agg #[.slice a' l.length c']) (by simp [results, Try.results7, go_sem, x0]) rfl ⟨a', c', fp, rfl, owns_set HFc.out (b := b2) (i := 0) (fun q hq => by have := HFb.out q hq; omega) _, fun q hq => by have := HFb.out q hq; omega, HBc.out.setCell (p := ⟨b2, 0, none⟩) hb2 _⟩
end Go.Proofs.Yteladljgnbfcnaa.P9
namespace Go.Proofs.Yteladljgnbfcnaa.P9
set_option maxRecDepth 8000
open Go.RowKit P1 P8 Da

/-- What is left when s are taken of m: -1 when there are not so many. -/
def szRes (m s : Nat) : Int := if s ≤ m then (m : Int) - (s : Int) else -1

set_option maxHeartbeats 400000 in
theorem szItem_calls (w : World) (t : List UInt8) (b : Bool) (left : Nat) (hl : t.length ≤ 9223372036854775807) (hm : left ≤ 1048576) :
    Calls Try.prog 79 #[.agg #[.string ⟨t.toArray⟩, .bool b], .int .i64 left] w fun e w' => e = .returned (.int .i64 (szRes left t.length)) ∧ Below w.heap.size w w' := by
  have HB := hide ((Below.refl w.heap.size w).alloc (Nat.le_refl _) (.cells #[.string ⟨t.toArray⟩, .bool b] 107))
  have hsz : (⟨t.toArray⟩ : ByteArray).size = t.length := rfl
  by_cases h0 : t.length ≤ left
  · have HR : Hid (szRes left t.length = (left : Int) - (t.length : Int)) := by show _ = _; unfold szRes; rw [if_pos h0]
    have q0 : ¬ ((left : Int) - (t.length : Int)) < 0 := by omega
    have q1 : 0 ≤ ((left : Int) - (t.length : Int)) := by omega
    go_enter Try.func79, Try.ntmps79
    go_wp2_with fail
    go_ret
    exact ⟨by rw [HR.out]; rfl, HB.out⟩
  · have HR : Hid (szRes left t.length = -1) := by show _ = _; unfold szRes; rw [if_neg h0]
    have q0 : ((left : Int) - (t.length : Int)) < 0 := by omega
    go_enter Try.func79, Try.ntmps79
    go_wp2_with fail
    go_ret
    exact ⟨by rw [HR.out]; rfl, HB.out⟩

def szT (x : It) : Nat := x.t.length

def szItL (l : List It) : Nat := l.length + (l.map szT).sum

set_option maxHeartbeats 1000000 in
theorem szItems_calls (w : World) (v : Value) (l : List It) (left : Nat) (hv : ItemsAt w v l) (hl : l.length ≤ 9223372036854775807) (hw : ∀ x ∈ l, x.t.length ≤ 9223372036854775807) (hm : left ≤ 1048576) :
    Calls Try.prog 75 #[v, .int .i64 left] w fun e w' => e = .returned (.int .i64 (szRes left (szItL l))) ∧ Below w.heap.size w w' := by
  have HV := hide hv
  have HWi := hide hw
  obtain ⟨a, ca, rfl, -⟩ := hv.open_
  have HZ : Hid (szItL l = l.length + (l.map szT).sum) := rfl
  clear hv hw
  by_cases h0 : l.length ≤ left
  · obtain ⟨m0, e0⟩ : ∃ m, left = m + l.length := ⟨left - l.length, by omega⟩
    have q0 : ((left : Int) - (l.length : Int)) = (m0 : Int) := by omega
    have HE0 := hide e0
    have hm0 : m0 ≤ 1048576 := by omega
    clear e0
    go_enter Try.func75, Try.ntmps75
    go_wp2_with fail
    clear q0
    go_loopw [1, 5] (fun r i wr => ∃ (k m : Nat), k ≤ l.length ∧ i = .int .i64 k ∧ r = .int .i64 m ∧ Hid (m + ((l.take k).map szT).sum = m0) ∧ Hid (Below w.heap.size w wr)) (fun _ i _ => l.length - (intOf i).toNat)
    case atStart => exact ⟨0, m0, Nat.zero_le _, rfl, rfl, by show _ = _; simp, Below.refl _ _⟩
    case round =>
      obtain ⟨k, m, hk, rfl, rfl, HM, HB⟩ := hrel
      have hmle : m ≤ 1048576 := by have := HM.out; omega
      by_cases hlt : k < l.length
      · obtain ⟨ax, cx, hax, HA⟩ := (HV.out.below HB.out (Nat.le_refl _)).open_
        cases hax
        obtain ⟨g, off, rfl, hg, f0, f1⟩ := HA k hlt
        have hwi := HWi.out l[k] (List.getElem_mem hlt)
        have HT : Hid (((l.take (k + 1)).map szT).sum = ((l.take k).map szT).sum + szT l[k]) := by show _ = _; rw [List.take_succ_eq_append_getElem hlt, List.map_append, List.sum_append, List.map_cons, List.map_nil, List.sum_cons, List.sum_nil, Nat.add_zero]
        have HL : Hid (((l.take (k + 1)).map szT).sum ≤ (l.map szT).sum) := by
          show _ ≤ _
          conv => rhs; rw [← List.take_append_drop (k + 1) l]
          rw [List.map_append, List.sum_append]
          omega
        clear HA
        have HC := hide (szItem_calls wr l[k].t l[k].gone m hwi hmle)
        change Hid (Calls _ _ _ _ fun e w' => e = .returned (.int .i64 (szRes m (szT l[k]))) ∧ _) at HC
        generalize l[k].t = xt at *
        generalize l[k].gone = xb at *
        generalize szT l[k] = s at *
        by_cases hs : s ≤ m
        · have hr : szRes m s = ((m - s : Nat) : Int) := by unfold szRes; rw [if_pos hs]; omega
          rw [hr] at HC
          have HM2 : Hid ((m - s) + ((l.take (k + 1)).map szT).sum = m0) := by show _ = _; rw [HT.out]; have := HM.out; omega
          clear HT HL hr hwi
          go_wp2_with fail
          refine HC.out.mono ?_
          rintro e w5 ⟨rfl, hb5⟩
          have HB5 := hide (HB.out.trans (hb5.mono HB.out.size))
          clear hb5 HB HC HM
          have hnn : decide (((m - s : Nat) : Int) < 0) = false := decide_eq_false (by omega)
          generalize m - s = m2 at *
          go_wp2_with fail
          go_roundw
          case rel => exact ⟨k + 1, m2, by omega, by go_num, rfl, HM2.out, HB5.out⟩
          case measure => simp [intOf]; omega
        · have hr : szRes m s = -1 := by unfold szRes; rw [if_neg hs]
          rw [hr] at HC
          have HR : Hid (szRes left (szItL l) = -1) := by
            show _ = _
            unfold szRes
            rw [if_neg (by rw [HZ.out]; have h1 := HM.out; have h2 := HT.out; have h3 := HL.out; have h4 := HE0.out; omega)]
          clear HT HL hr hwi
          go_wp2_with fail
          refine HC.out.mono ?_
          rintro e w5 ⟨rfl, hb5⟩
          have HB5 := hide (HB.out.trans (hb5.mono HB.out.size))
          clear hb5 HB HC HM
          go_wp2_with fail
          go_ret
          exact ⟨by rw [HR.out]; rfl, HB5.out⟩
      · have hkl : k = l.length := by omega
        subst hkl
        have HR : Hid (szRes left (szItL l) = (m : Int)) := by
          show _ = _
          have h1 := HM.out
          rw [List.take_length] at h1
          have h4 := HE0.out
          unfold szRes
          rw [HZ.out, if_pos (by omega)]
          omega
        clear HM
        go_wp2_with fail
        go_ret
        exact ⟨by rw [HR.out]; rfl, HB.out⟩
  · have HR : Hid (szRes left (szItL l) = -1) := by show _ = _; unfold szRes; rw [if_neg (by rw [HZ.out]; omega)]
    have q0 : ((left : Int) - (l.length : Int)) < 0 := by omega
    go_enter Try.func75, Try.ntmps75
    go_wp2_with fail
    go_ret
    exact ⟨by rw [HR.out]; rfl, Below.refl _ _⟩
end Go.Proofs.Yteladljgnbfcnaa.P9
namespace Go.Proofs.Yteladljgnbfcnaa.P9
set_option maxRecDepth 8000
open Go.RowKit P1 P8 Da

theorem szRes_neg {m s : Nat} (h : ¬ s ≤ m) : szRes m s = -1 := by unfold szRes; rw [if_neg h]
theorem szRes_pos {m s : Nat} (h : s ≤ m) : szRes m s = ((m - s : Nat) : Int) := by unfold szRes; rw [if_pos h]; omega

/-- Lengths that are ints. -/
def FitsI (l : List It) : Prop := l.length ≤ 9223372036854775807 ∧ ∀ y ∈ l, y.t.length ≤ 9223372036854775807
def FitsS (l : List Shf) : Prop := l.length ≤ 9223372036854775807 ∧ ∀ x ∈ l, FitsI x.items
def FitsP (p : Pr) : Prop := p.behind.length ≤ 9223372036854775807 ∧ p.fingers.length ≤ 9223372036854775807 ∧ FitsS p.shelves

set_option maxHeartbeats 400000 in
theorem szShelf_calls (w : World) (key : Int) (l : List It) (v : Value) (left : Nat) (hv : ItemsAt w v l) (hf : FitsI l) (hm : left ≤ 1048576) :
    Calls Try.prog 68 #[.agg #[.int .i64 key, v], .int .i64 left] w fun e w' => e = .returned (.int .i64 (szRes left (szItL l))) ∧ Below w.heap.size w w' := by
  obtain ⟨a, ca, hsa, -⟩ := hv.open_
  subst hsa
  have h1 := (Below.refl w.heap.size w).alloc (Nat.le_refl _) (.cells #[.int .i64 key, .slice a l.length ca] 97)
  have HC := hide (szItems_calls _ _ l left (hv.below h1 (Nat.le_refl _)) hf.1 hf.2 hm)
  have HB := hide h1
  clear h1 hv hf
  by_cases hs : szItL l ≤ left
  · rw [szRes_pos hs] at HC ⊢
    have hnn : decide (((left - szItL l : Nat) : Int) < 0) = false := decide_eq_false (by omega)
    generalize left - szItL l = r at *
    go_enter Try.func68, Try.ntmps68
    go_wp2_with fail
    refine HC.out.mono ?_
    rintro e w3 ⟨rfl, hb3⟩
    have HB3 := hide (HB.out.trans (hb3.mono HB.out.size))
    clear hb3 HB HC
    go_wp2_with fail
    go_ret
    exact ⟨rfl, HB3.out⟩
  · rw [szRes_neg hs] at HC ⊢
    go_enter Try.func68, Try.ntmps68
    go_wp2_with fail
    refine HC.out.mono ?_
    rintro e w3 ⟨rfl, hb3⟩
    have HB3 := hide (HB.out.trans (hb3.mono HB.out.size))
    clear hb3 HB HC
    go_wp2_with fail
    go_ret
    exact ⟨rfl, HB3.out⟩

def szSh (x : Shf) : Nat := szItL x.items

def szShL (l : List Shf) : Nat := l.length + (l.map szSh).sum

set_option maxHeartbeats 1000000 in
theorem szShelves_calls (w : World) (v : Value) (l : List Shf) (left : Nat) (hv : ShelvesAt w v l) (hl : l.length ≤ 9223372036854775807) (hw : ∀ x ∈ l, FitsI x.items) (hm : left ≤ 1048576) :
    Calls Try.prog 57 #[v, .int .i64 left] w fun e w' => e = .returned (.int .i64 (szRes left (szShL l))) ∧ Below w.heap.size w w' := by
  have HV := hide hv
  have HWi := hide hw
  obtain ⟨a, ca, rfl, -⟩ := hv.open_
  have HZ : Hid (szShL l = l.length + (l.map szSh).sum) := rfl
  clear hv hw
  by_cases h0 : l.length ≤ left
  · obtain ⟨m0, e0⟩ : ∃ m, left = m + l.length := ⟨left - l.length, by omega⟩
    have q0 : ((left : Int) - (l.length : Int)) = (m0 : Int) := by omega
    have HE0 := hide e0
    have hm0 : m0 ≤ 1048576 := by omega
    clear e0
    go_enter Try.func57, Try.ntmps57
    go_wp2_with fail
    clear q0
    go_loopw [1, 5] (fun r i wr => ∃ (k m : Nat), k ≤ l.length ∧ i = .int .i64 k ∧ r = .int .i64 m ∧ Hid (m + ((l.take k).map szSh).sum = m0) ∧ Hid (Below w.heap.size w wr)) (fun _ i _ => l.length - (intOf i).toNat)
    case atStart => exact ⟨0, m0, Nat.zero_le _, rfl, rfl, by show _ = _; simp, Below.refl _ _⟩
    case round =>
      obtain ⟨k, m, hk, rfl, rfl, HM, HB⟩ := hrel
      have hmle : m ≤ 1048576 := by have := HM.out; omega
      by_cases hlt : k < l.length
      · obtain ⟨ax, cx, hax, HA⟩ := (HV.out.below HB.out (Nat.le_refl _)).open_
        cases hax
        obtain ⟨g, off, u, rfl, hg, f0, f1, hit⟩ := HA k hlt
        have hwi := HWi.out l[k] (List.getElem_mem hlt)
        have HT : Hid (((l.take (k + 1)).map szSh).sum = ((l.take k).map szSh).sum + szSh l[k]) := by show _ = _; rw [List.take_succ_eq_append_getElem hlt, List.map_append, List.sum_append, List.map_cons, List.map_nil, List.sum_cons, List.sum_nil, Nat.add_zero]
        have HL : Hid (((l.take (k + 1)).map szSh).sum ≤ (l.map szSh).sum) := by
          show _ ≤ _
          conv => rhs; rw [← List.take_append_drop (k + 1) l]
          rw [List.map_append, List.sum_append]
          omega
        clear HA
        have HC := hide (szShelf_calls wr l[k].key l[k].items u m hit hwi hmle)
        change Hid (Calls _ _ _ _ fun e w' => e = .returned (.int .i64 (szRes m (szSh l[k]))) ∧ _) at HC
        obtain ⟨ai, ci, eu, -⟩ := hit.open_
        subst eu
        clear hit
        generalize l[k].key = xk at *
        generalize l[k].items = xi at *
        generalize szSh l[k] = s at *
        by_cases hs : s ≤ m
        · have hr : szRes m s = ((m - s : Nat) : Int) := by unfold szRes; rw [if_pos hs]; omega
          rw [hr] at HC
          have HM2 : Hid ((m - s) + ((l.take (k + 1)).map szSh).sum = m0) := by show _ = _; rw [HT.out]; have := HM.out; omega
          clear HT HL hr hwi
          go_wp2_with fail
          refine HC.out.mono ?_
          rintro e w5 ⟨rfl, hb5⟩
          have HB5 := hide (HB.out.trans (hb5.mono HB.out.size))
          clear hb5 HB HC HM
          have hnn : decide (((m - s : Nat) : Int) < 0) = false := decide_eq_false (by omega)
          generalize m - s = m2 at *
          go_wp2_with fail
          go_roundw
          case rel => exact ⟨k + 1, m2, by omega, by go_num, rfl, HM2.out, HB5.out⟩
          case measure => simp [intOf]; omega
        · have hr : szRes m s = -1 := by unfold szRes; rw [if_neg hs]
          rw [hr] at HC
          have HR : Hid (szRes left (szShL l) = -1) := by
            show _ = _
            unfold szRes
            rw [if_neg (by rw [HZ.out]; have h1 := HM.out; have h2 := HT.out; have h3 := HL.out; have h4 := HE0.out; omega)]
          clear HT HL hr hwi
          go_wp2_with fail
          refine HC.out.mono ?_
          rintro e w5 ⟨rfl, hb5⟩
          have HB5 := hide (HB.out.trans (hb5.mono HB.out.size))
          clear hb5 HB HC HM
          go_wp2_with fail
          go_ret
          exact ⟨by rw [HR.out]; rfl, HB5.out⟩
      · have hkl : k = l.length := by omega
        subst hkl
        have HR : Hid (szRes left (szShL l) = (m : Int)) := by
          show _ = _
          have h1 := HM.out
          rw [List.take_length] at h1
          have h4 := HE0.out
          unfold szRes
          rw [HZ.out, if_pos (by omega)]
          omega
        clear HM
        go_wp2_with fail
        go_ret
        exact ⟨by rw [HR.out]; rfl, HB.out⟩
  · have HR : Hid (szRes left (szShL l) = -1) := by show _ = _; unfold szRes; rw [if_neg (by rw [HZ.out]; omega)]
    have q0 : ((left : Int) - (l.length : Int)) < 0 := by omega
    go_enter Try.func57, Try.ntmps57
    go_wp2_with fail
    go_ret
    exact ⟨by rw [HR.out]; rfl, Below.refl _ _⟩

set_option maxHeartbeats 400000 in
theorem szInts_calls (w : World) (l : List Int) (v : Value) (left : Nat) (hv : IntsAt w v l) (hl : l.length ≤ 9223372036854775807) (hm : left ≤ 1048576) :
    Calls Try.prog 56 #[v, .int .i64 left] w fun e w' => e = .returned (.int .i64 (szRes left l.length)) ∧ w' = w := by
  obtain ⟨a, ca, rfl, -⟩ := hv
  by_cases h0 : l.length ≤ left
  · have q0 : ((left : Int) - (l.length : Int)) = ((left - l.length : Nat) : Int) := by omega
    rw [szRes_pos h0]
    generalize left - l.length = r at *
    go_enter Try.func56, Try.ntmps56
    go_wp2_with fail
    go_ret
    exact ⟨rfl, rfl⟩
  · rw [szRes_neg h0]
    have q0 : ((left : Int) - (l.length : Int)) < 0 := by omega
    go_enter Try.func56, Try.ntmps56
    go_wp2_with fail
    go_ret
    exact ⟨rfl, rfl⟩
end Go.Proofs.Yteladljgnbfcnaa.P9
namespace Go.Proofs.Yteladljgnbfcnaa.P9
set_option maxRecDepth 8000
open Go.RowKit P1 P8 Da

def szP (p : Pr) : Nat := p.behind.length + p.fingers.length + szShL p.shelves

set_option maxHeartbeats 1000000 in
theorem szPeer_calls (w : World) (p : Pr) (u3 u4 u5 : Value) (left : Nat) (h3 : IntsAt w u3 p.behind) (h4 : IntsAt w u4 p.fingers) (h5 : ShelvesAt w u5 p.shelves) (hf : FitsP p) (hm : left ≤ 1048576) :
    Calls Try.prog 34 #[prV p u3 u4 u5, .int .i64 left] w fun e w' => e = .returned (.int .i64 (szRes left (szP p))) ∧ Below w.heap.size w w' := by
  obtain ⟨id, here, ahead, be, fi, sh⟩ := p
  obtain ⟨f3, f4, f5⟩ := hf
  have HZ : Hid (szP ⟨id, here, ahead, be, fi, sh⟩ = be.length + fi.length + szShL sh) := rfl
  dsimp only at h3 h4 h5 f3 f4 f5
  dsimp only [prV]
  have H3 := hide h3
  have H4 := hide h4
  have H5 := hide h5
  have F5 := hide f5
  obtain ⟨a3, c3, rfl, -⟩ := h3
  obtain ⟨a4, c4, rfl, -⟩ := h4
  obtain ⟨a5, c5, e5, -⟩ := h5.open_
  subst e5
  clear h5 f5
  generalize szP ⟨id, here, ahead, be, fi, sh⟩ = tot at *
  go_enter Try.func34, Try.ntmps34
  go_upto_region 1 with fail
  have h1 := (Below.refl w.heap.size w).alloc (Nat.le_refl _) (.cells #[.int .i64 id, .bool here, .int .i64 ahead, .slice a3 be.length c3, .slice a4 fi.length c4, .slice a5 sh.length c5] 59)
  have A := Blk.new w #[.int .i64 id, .bool here, .int .i64 ahead, .slice a3 be.length c3, .slice a4 fi.length c4, .slice a5 sh.length c5] 59
  have HB := hide h1
  obtain ⟨b1, e1⟩ : ∃ b, b = w.heap.size := ⟨_, rfl⟩
  rw [← e1] at A ⊢
  clear e1 h1
  generalize w.alloc (.cells #[.int .i64 id, .bool here, .int .i64 ahead, .slice a3 be.length c3, .slice a4 fi.length c4, .slice a5 sh.length c5] 59) = wa at *
  have d3 : wa.cell? ⟨b1, 3, none⟩ = some (.slice a3 be.length c3) := by rw [A.cell 3]; rfl
  have d4 : wa.cell? ⟨b1, 4, none⟩ = some (.slice a4 fi.length c4) := by rw [A.cell 4]; rfl
  have d5 : wa.cell? ⟨b1, 5, none⟩ = some (.slice a5 sh.length c5) := by rw [A.cell 5]; rfl
  have la := A.lt
  clear A
  have C3 := hide (szInts_calls wa be _ left (H3.out.below HB.out (Nat.le_refl _)) f3 hm)
  by_cases q3 : be.length ≤ left
  · rw [szRes_pos q3] at C3
    have hn3 : decide (((left - be.length : Nat) : Int) < 0) = false := decide_eq_false (by omega)
    obtain ⟨m3, em3⟩ : ∃ m, m = left - be.length := ⟨_, rfl⟩
    rw [← em3] at C3 hn3
    have E3 := hide em3
    have hm3 : m3 ≤ 1048576 := by omega
    clear em3
    go_wp2_with fail
    refine C3.out.mono ?_
    rintro e wb ⟨rfl, rfl⟩
    clear C3
    have C4 := hide (szInts_calls wb fi _ m3 (H4.out.below HB.out (Nat.le_refl _)) f4 hm3)
    by_cases q4 : fi.length ≤ m3
    · rw [szRes_pos q4] at C4
      have hn4 : decide (((m3 - fi.length : Nat) : Int) < 0) = false := decide_eq_false (by omega)
      obtain ⟨m4, em4⟩ : ∃ m, m = m3 - fi.length := ⟨_, rfl⟩
      rw [← em4] at C4 hn4
      have E4 := hide em4
      have hm4 : m4 ≤ 1048576 := by omega
      clear em4
      go_wp2_with fail
      refine C4.out.mono ?_
      rintro e wc ⟨rfl, rfl⟩
      clear C4
      have C5 := hide (szShelves_calls wc _ sh m4 (H5.out.below HB.out (Nat.le_refl _)) F5.out.1 F5.out.2 hm4)
      by_cases q5 : szShL sh ≤ m4
      · rw [szRes_pos q5] at C5
        have hn5 : decide (((m4 - szShL sh : Nat) : Int) < 0) = false := decide_eq_false (by omega)
        have HR : Hid (szRes left tot = ((m4 - szShL sh : Nat) : Int)) := by
          show _ = _
          have h1 := HZ.out
          have h2 := E3.out
          have h3 := E4.out
          rw [szRes_pos (by omega)]
          omega
        generalize m4 - szShL sh = r at *
        go_wp2_with fail
        refine C5.out.mono ?_
        rintro e wd ⟨rfl, hbd⟩
        have HBd := hide (HB.out.trans (hbd.mono HB.out.size))
        clear hbd HB C5 d3 d4 d5
        go_wp2_with fail
        go_ret
        exact ⟨by rw [HR.out]; rfl, HBd.out⟩
      · rw [szRes_neg q5] at C5
        have HR : Hid (szRes left tot = -1) := by
          show _ = _
          have h1 := HZ.out
          have h2 := E3.out
          have h3 := E4.out
          rw [szRes_neg (by omega)]
        go_wp2_with fail
        refine C5.out.mono ?_
        rintro e wd ⟨rfl, hbd⟩
        have HBd := hide (HB.out.trans (hbd.mono HB.out.size))
        clear hbd HB C5 d3 d4 d5
        go_wp2_with fail
        go_ret
        exact ⟨by rw [HR.out]; rfl, HBd.out⟩
    · rw [szRes_neg q4] at C4
      have HR : Hid (szRes left tot = -1) := by
        show _ = _
        have h1 := HZ.out
        have h2 := E3.out
        rw [szRes_neg (by omega)]
      go_wp2_with fail
      refine C4.out.mono ?_
      rintro e wc ⟨rfl, rfl⟩
      go_wp2_with fail
      go_ret
      exact ⟨by rw [HR.out]; rfl, HB.out⟩
  · rw [szRes_neg q3] at C3
    have HR : Hid (szRes left tot = -1) := by
      show _ = _
      have h1 := HZ.out
      rw [szRes_neg (by omega)]
    go_wp2_with fail
    refine C3.out.mono ?_
    rintro e wb ⟨rfl, rfl⟩
    go_wp2_with fail
    go_ret
    exact ⟨by rw [HR.out]; rfl, HB.out⟩

def szPrL (l : List Pr) : Nat := l.length + (l.map szP).sum

set_option maxHeartbeats 1000000 in
theorem szPeers_calls (w : World) (v : Value) (l : List Pr) (left : Nat) (hv : PeersAt w v l) (hl : l.length ≤ 9223372036854775807) (hw : ∀ x ∈ l, FitsP x) (hm : left ≤ 1048576) :
    Calls Try.prog 17 #[v, .int .i64 left] w fun e w' => e = .returned (.int .i64 (szRes left (szPrL l))) ∧ Below w.heap.size w w' := by
  have HV := hide hv
  have HWi := hide hw
  obtain ⟨a, ca, rfl, -⟩ := hv.open_
  have HZ : Hid (szPrL l = l.length + (l.map szP).sum) := rfl
  clear hv hw
  by_cases h0 : l.length ≤ left
  · obtain ⟨m0, e0⟩ : ∃ m, left = m + l.length := ⟨left - l.length, by omega⟩
    have q0 : ((left : Int) - (l.length : Int)) = (m0 : Int) := by omega
    have HE0 := hide e0
    have hm0 : m0 ≤ 1048576 := by omega
    clear e0
    go_enter Try.func17, Try.ntmps17
    go_wp2_with fail
    clear q0
    go_loopw [1, 5] (fun r i wr => ∃ (k m : Nat), k ≤ l.length ∧ i = .int .i64 k ∧ r = .int .i64 m ∧ Hid (m + ((l.take k).map szP).sum = m0) ∧ Hid (Below w.heap.size w wr)) (fun _ i _ => l.length - (intOf i).toNat)
    case atStart => exact ⟨0, m0, Nat.zero_le _, rfl, rfl, by show _ = _; simp, Below.refl _ _⟩
    case round =>
      obtain ⟨k, m, hk, rfl, rfl, HM, HB⟩ := hrel
      have hmle : m ≤ 1048576 := by have := HM.out; omega
      by_cases hlt : k < l.length
      · obtain ⟨ax, cx, hax, HA⟩ := (HV.out.below HB.out (Nat.le_refl _)).open_
        cases hax
        obtain ⟨g, off, u3, u4, u5, rfl, hg, hc⟩ := HA k hlt
        have hwi := HWi.out l[k] (List.getElem_mem hlt)
        have HT : Hid (((l.take (k + 1)).map szP).sum = ((l.take k).map szP).sum + szP l[k]) := by show _ = _; rw [List.take_succ_eq_append_getElem hlt, List.map_append, List.sum_append, List.map_cons, List.map_nil, List.sum_cons, List.sum_nil, Nat.add_zero]
        have HL : Hid (((l.take (k + 1)).map szP).sum ≤ (l.map szP).sum) := by
          show _ ≤ _
          conv => rhs; rw [← List.take_append_drop (k + 1) l]
          rw [List.map_append, List.sum_append]
          omega
        clear HA
        have HC := hide (szPeer_calls wr l[k] u3 u4 u5 m hc.behind hc.fingers hc.shelves hwi hmle)
        obtain ⟨a3, c3, e3, -⟩ := hc.behind
        obtain ⟨a4, c4, e4, -⟩ := hc.fingers
        obtain ⟨a5, c5, e5, -⟩ := hc.shelves.open_
        have f0 := hc.id
        have f1 := hc.here
        have f2 := hc.ahead
        have f3 := hc.c3
        have f4 := hc.c4
        have f5 := hc.c5
        clear hc hwi
        subst e3 e4 e5
        dsimp only [prV] at HC
        generalize szP l[k] = s at *
        generalize l[k] = q at *
        obtain ⟨id, here, ahead, be, fi, sh⟩ := q
        dsimp only at f0 f1 f2 f3 f4 f5 HC
        by_cases hs : s ≤ m
        · have hr : szRes m s = ((m - s : Nat) : Int) := by unfold szRes; rw [if_pos hs]; omega
          rw [hr] at HC
          have HM2 : Hid ((m - s) + ((l.take (k + 1)).map szP).sum = m0) := by show _ = _; rw [HT.out]; have := HM.out; omega
          clear HT HL hr
          go_wp2_with fail
          refine HC.out.mono ?_
          rintro e w5 ⟨rfl, hb5⟩
          have HB5 := hide (HB.out.trans (hb5.mono HB.out.size))
          clear hb5 HB HC HM
          have hnn : decide (((m - s : Nat) : Int) < 0) = false := decide_eq_false (by omega)
          generalize m - s = m2 at *
          go_wp2_with fail
          go_roundw
          case rel => exact ⟨k + 1, m2, by omega, by go_num, rfl, HM2.out, HB5.out⟩
          case measure => simp [intOf]; omega
        · have hr : szRes m s = -1 := by unfold szRes; rw [if_neg hs]
          rw [hr] at HC
          have HR : Hid (szRes left (szPrL l) = -1) := by
            show _ = _
            unfold szRes
            rw [if_neg (by rw [HZ.out]; have h1 := HM.out; have h2 := HT.out; have h3 := HL.out; have h4 := HE0.out; omega)]
          clear HT HL hr
          go_wp2_with fail
          refine HC.out.mono ?_
          rintro e w5 ⟨rfl, hb5⟩
          have HB5 := hide (HB.out.trans (hb5.mono HB.out.size))
          clear hb5 HB HC HM
          go_wp2_with fail
          go_ret
          exact ⟨by rw [HR.out]; rfl, HB5.out⟩
      · have hkl : k = l.length := by omega
        subst hkl
        have HR : Hid (szRes left (szPrL l) = (m : Int)) := by
          show _ = _
          have h1 := HM.out
          rw [List.take_length] at h1
          have h4 := HE0.out
          unfold szRes
          rw [HZ.out, if_pos (by omega)]
          omega
        clear HM
        go_wp2_with fail
        go_ret
        exact ⟨by rw [HR.out]; rfl, HB.out⟩
  · have HR : Hid (szRes left (szPrL l) = -1) := by show _ = _; unfold szRes; rw [if_neg (by rw [HZ.out]; omega)]
    have q0 : ((left : Int) - (l.length : Int)) < 0 := by omega
    go_enter Try.func17, Try.ntmps17
    go_wp2_with fail
    go_ret
    exact ⟨by rw [HR.out]; rfl, Below.refl _ _⟩

set_option maxHeartbeats 400000 in
theorem szRing_calls (w : World) (l : List Pr) (v : Value) (left : Nat) (hv : PeersAt w v l) (hl : l.length ≤ 9223372036854775807) (hf : ∀ x ∈ l, FitsP x) (hm : left ≤ 1048576) :
    Calls Try.prog 5 #[.agg #[v], .int .i64 left] w fun e w' => e = .returned (.int .i64 (szRes left (szPrL l))) ∧ Below w.heap.size w w' := by
  obtain ⟨a, ca, hsa, -⟩ := hv.open_
  subst hsa
  have h1 := (Below.refl w.heap.size w).alloc (Nat.le_refl _) (.cells #[.slice a l.length ca] 24)
  have HC := hide (szPeers_calls _ _ l left (hv.below h1 (Nat.le_refl _)) hl hf hm)
  have HB := hide h1
  clear h1 hv hf
  by_cases hs : szPrL l ≤ left
  · rw [szRes_pos hs] at HC ⊢
    have hnn : decide (((left - szPrL l : Nat) : Int) < 0) = false := decide_eq_false (by omega)
    generalize left - szPrL l = r at *
    go_enter Try.func5, Try.ntmps5
    go_wp2_with fail
    refine HC.out.mono ?_
    rintro e w3 ⟨rfl, hb3⟩
    have HB3 := hide (HB.out.trans (hb3.mono HB.out.size))
    clear hb3 HB HC
    go_wp2_with fail
    go_ret
    exact ⟨rfl, HB3.out⟩
  · rw [szRes_neg hs] at HC ⊢
    go_enter Try.func5, Try.ntmps5
    go_wp2_with fail
    refine HC.out.mono ?_
    rintro e w3 ⟨rfl, hb3⟩
    have HB3 := hide (HB.out.trans (hb3.mono HB.out.size))
    clear hb3 HB HC
    go_wp2_with fail
    go_ret
    exact ⟨rfl, HB3.out⟩

/-- What is within the bounds is small. -/
theorem small_of_sz {l : List Pr} (h : szPrL l ≤ 1048576) : l.length ≤ 1048576 ∧ ∀ p ∈ l, Small p := by
  have sum_mem : ∀ {α : Type} (f : α → Nat) (l : List α) (x : α), x ∈ l → f x ≤ (l.map f).sum := by
    intro α f l
    induction l with
    | nil => intro x hx; cases hx
    | cons y l ih =>
      intro x hx
      rw [List.map_cons, List.sum_cons]
      rcases List.mem_cons.1 hx with rfl | hx
      · omega
      · have := ih x hx
        omega
  unfold szPrL at h
  refine ⟨by omega, fun p hp => ?_⟩
  have h1 : p.behind.length + p.fingers.length + szShL p.shelves ≤ (l.map szP).sum := sum_mem szP l p hp
  have e1 : szShL p.shelves = p.shelves.length + (p.shelves.map szSh).sum := rfl
  refine ⟨by omega, by omega, by omega, fun x hx => ?_⟩
  have h2 : szItL x.items ≤ (p.shelves.map szSh).sum := sum_mem szSh p.shelves x hx
  have e2 : szItL x.items = x.items.length + (x.items.map szT).sum := rfl
  refine ⟨by omega, fun y hy => ?_⟩
  have h3 : y.t.length ≤ (x.items.map szT).sum := sum_mem szT x.items y hy
  omega
end Go.Proofs.Yteladljgnbfcnaa.P9
namespace Go.Proofs.Yteladljgnbfcnaa.Da
open Go.RowKit P1 Rc

mutual
def leaves : Dt → Nat
  | .leaf _ => 1
  | .row _ _ ds => leavesAll ds
def leavesAll : List Dt → Nat
  | [] => 0
  | d :: ds => leaves d + leavesAll ds
end

/-- The k-th mrk of a cell's kind. -/
def mrkV (v : Value) (k : Nat) : Value :=
  match v with
  | .bool _ => .bool ((k : Int) % 3 == 0)
  | .string _ => .string ⟨(Sr.mtext k).toArray⟩
  | .int ty _ => .int ty (k : Int)
  | v => v

mutual
def mrk : Dt → Nat → Dt
  | .leaf v, k => .leaf (mrkV v k)
  | .row e sz ds, k => .row e sz (mrkAll ds k)
def mrkAll : List Dt → Nat → List Dt
  | [], _ => []
  | d :: ds, k => mrk d k :: mrkAll ds (k + leaves d)
end

theorem leavesAll_append (a b : List Dt) : leavesAll (a ++ b) = leavesAll a + leavesAll b := by
  induction a with
  | nil => simp [leavesAll]
  | cons x a ih => simp only [List.cons_append, leavesAll, ih]; omega

theorem mrkAll_length : ∀ (ds : List Dt) (k : Nat), (mrkAll ds k).length = ds.length
  | [], _ => by simp [mrkAll]
  | d :: ds, k => by simp [mrkAll, mrkAll_length ds]

theorem mrkAll_append (a b : List Dt) (k : Nat) : mrkAll (a ++ b) k = mrkAll a k ++ mrkAll b (k + leavesAll a) := by
  induction a generalizing k with
  | nil => simp [mrkAll, leavesAll]
  | cons x a ih =>
    simp only [List.cons_append, mrkAll, leavesAll, ih]
    rw [Nat.add_assoc]

theorem leaves_take {ds : List Dt} {n : Nat} {d : Dt} (h : ds[n]? = some d) : leavesAll (ds.take (n + 1)) = leavesAll (ds.take n) + leaves d := by
  obtain ⟨hn, rfl⟩ := List.getElem?_eq_some_iff.1 h
  rw [List.take_succ_eq_append_getElem hn, leavesAll_append]
  simp [leavesAll]

theorem leaves_take_le (ds : List Dt) (n : Nat) : leavesAll (ds.take n) ≤ leavesAll ds := by
  have := leavesAll_append (ds.take n) (ds.drop n)
  rw [List.take_append_drop] at this
  omega

theorem mrkAll_get {ds : List Dt} {n : Nat} {d : Dt} (k : Nat) (h : ds[n]? = some d) : (mrkAll ds k)[n]? = some (mrk d (k + leavesAll (ds.take n))) := by
  obtain ⟨hn, rfl⟩ := List.getElem?_eq_some_iff.1 h
  have h1 := mrkAll_append (ds.take n) (ds.drop n) k
  rw [List.take_append_drop] at h1
  rw [h1, List.getElem?_append_right (by rw [mrkAll_length, List.length_take]; omega), mrkAll_length, List.length_take, show n - min n ds.length = 0 by omega, List.drop_eq_getElem_cons hn]
  simp [mrkAll]

/-- The first n as they should be, the others as they were. -/
def halfM (ds : List Dt) (k n : Nat) : List Dt := mrkAll (ds.take n) k ++ ds.drop n

theorem halfM_zero (ds : List Dt) (k : Nat) : halfM ds k 0 = ds := by simp [halfM, mrkAll]

theorem halfM_end (ds : List Dt) (k n : Nat) (hn : ds.length ≤ n) : halfM ds k n = mrkAll ds k := by
  simp [halfM, List.take_of_length_le hn, List.drop_eq_nil_of_le hn]

theorem halfM_get (ds : List Dt) (k n i : Nat) (hi : n ≤ i) (hn : n ≤ ds.length) : (halfM ds k n)[i]? = ds[i]? := by
  unfold halfM
  have h1 : (mrkAll (ds.take n) k).length = n := by rw [mrkAll_length, List.length_take]; omega
  rw [List.getElem?_append_right (by omega), h1, List.getElem?_drop]
  congr 1
  omega

theorem halfM_next {ds : List Dt} {n : Nat} {d : Dt} (k : Nat) (h : ds[n]? = some d) : (halfM ds k n).set n (mrk d (k + leavesAll (ds.take n))) = halfM ds k (n + 1) := by
  obtain ⟨hn, rfl⟩ := List.getElem?_eq_some_iff.1 h
  unfold halfM
  have h1 : (mrkAll (ds.take n) k).length = n := by rw [mrkAll_length, List.length_take]; omega
  rw [List.set_append_right _ _ (by omega), h1, Nat.sub_self, List.drop_eq_getElem_cons hn, List.set_cons_zero, List.take_succ_eq_append_getElem hn, mrkAll_append, List.append_assoc]
  simp [mrkAll]

/-- Nothing but these blocks was written. -/
structure Only (fp : List Nat) (w w' : World) : Prop where
  os : w'.os = w.os
  tape : w'.tape = w.tape
  output : w'.output = w.output
  size : w.heap.size ≤ w'.heap.size
  block : ∀ g, g < w.heap.size → g ∉ fp → w'.heap[g]? = w.heap[g]?

theorem Only.refl (fp : List Nat) (w : World) : Only fp w w := ⟨rfl, rfl, rfl, Nat.le_refl _, fun _ _ _ => rfl⟩

theorem Only.trans {fp : List Nat} {a b c : World} (h : Only fp a b) (h' : Only fp b c) : Only fp a c :=
  ⟨h'.os.trans h.os, h'.tape.trans h.tape, h'.output.trans h.output, Nat.le_trans h.size h'.size, fun g hg hn => (h'.block g (Nat.lt_of_lt_of_le hg h.size) hn).trans (h.block g hg hn)⟩

theorem Only.mono {fp fp' : List Nat} {a b : World} (h : Only fp a b) (hs : ∀ g ∈ fp, g ∈ fp') : Only fp' a b :=
  ⟨h.os, h.tape, h.output, h.size, fun g hg hn => h.block g hg (fun e => hn (hs g e))⟩

theorem Only.of_below {fp : List Nat} {a b : World} (h : Below a.heap.size a b) : Only fp a b :=
  ⟨h.os, h.tape, h.output, h.size, fun g hg _ => h.block g hg⟩

theorem Only.below {fp : List Nat} {B : Nat} {a b : World} (h : Only fp a b) (hB : B ≤ a.heap.size) (hf : ∀ g ∈ fp, B ≤ g) : Below B a b :=
  ⟨h.os, h.tape, h.output, h.size, fun g hg => h.block g (by omega) (fun e => by have := hf g e; omega)⟩

theorem Only.setCell {fp : List Nat} {a b : World} (h : Only fp a b) {p : Addr} (hp : p.block ∈ fp) (v : Value) : Only fp a (b.setCell p v) :=
  ⟨h.os, h.tape, h.output, by show _ ≤ (b.heap.modify _ _).size; rw [Array.size_modify]; exact h.size, fun g hg hn => (Below.heap_setCell _ _ _ _ (by rintro rfl; exact hn hp)).trans (h.block g hg hn)⟩

theorem OwnsAll.part {W : World} {cur : Array Value} : ∀ {ds : List Dt} {k : Nat} {fp : List Nat} {i : Nat} {d : Dt}, OwnsAll W cur k ds fp → ds[i]? = some d →
    ∃ u f, cur[k + i]? = some u ∧ Owns W u d f ∧ (∀ q ∈ f, q ∈ fp) ∧ ∀ (W' : World) (d' : Dt), Owns W' u d' f → (∀ q ∈ fp, q ∉ f → W'.heap[q]? = W.heap[q]?) → OwnsAll W' cur k (ds.set i d') fp := by
  intro ds
  induction ds with
  | nil => intro k fp i d _ h; simp at h
  | cons x ds ih =>
    intro k fp i d h hi
    unfold OwnsAll at h
    obtain ⟨u0, f1, f2, h1, h2, h3, rfl, h5⟩ := h
    cases i with
    | zero =>
      obtain rfl : x = d := by simpa using hi
      refine ⟨u0, f1, h1, h2, fun q hq => by simp [hq], fun W' d' hd hk => ?_⟩
      rw [List.set_cons_zero]
      unfold OwnsAll
      exact ⟨u0, f1, f2, h1, hd, h3.stay (fun q hq => hk q (by simp [hq]) (fun e => h5 q e hq)), rfl, h5⟩
    | succ i =>
      obtain ⟨u, f, h6, h7, h8, h9⟩ := ih h3 (i := i) (d := d) (by simpa using hi)
      refine ⟨u, f, by rw [show k + (i + 1) = k + 1 + i by omega]; exact h6, h7, fun q hq => by simp [h8 q hq], fun W' d' hd hk => ?_⟩
      rw [List.set_cons_succ]
      unfold OwnsAll
      exact ⟨u0, f1, f2, h1, h2.stay (fun q hq => hk q (by simp [hq]) (fun e => h5 q hq (h8 q e))), h9 W' d' hd (fun q hq hn => hk q (by simp [hq]) hn), rfl, h5⟩

/-- One datum of a row, and the row with another one in its place. -/
theorem Owns.part {W : World} {g n cap : Nat} {e : TypeId} {sz : Nat} {ds : List Dt} {fp : List Nat} (h : Owns W (.slice (some ⟨g, 0, none⟩) n cap) (.row e sz ds) fp) {i : Nat} {d : Dt} (hi : ds[i]? = some d) :
    ∃ u f, W.cell? ⟨g, i, none⟩ = some u ∧ Owns W u d f ∧ (∀ q ∈ f, q ∈ fp) ∧ ∀ (W' : World) (d' : Dt), Owns W' u d' f → Only f W W' → Owns W' (.slice (some ⟨g, 0, none⟩) n cap) (.row e sz (ds.set i d')) fp := by
  have hlt := h.lt
  unfold Owns at h
  rcases h with ⟨h, _⟩ | ⟨g', n', cap', cur, fps, h1, h2, h3, h4, h5, h6, rfl, h8, h9⟩
  · cases h
  · cases h1
    obtain ⟨u, f, k1, k2, k3, k4⟩ := h9.part hi
    rw [Nat.zero_add] at k1
    refine ⟨u, f, by simp only [World.cell?, h2]; exact k1, k2, fun q hq => by simp [k3 q hq], fun W' d' hd ho => ?_⟩
    unfold Owns
    refine .inr ⟨g, n, cap, cur, fps, rfl, (ho.block g (hlt g (by simp)) (fun e => h8 (k3 g e))).trans h2, h3, h4, h5, by simpa using h6, rfl, h8, k4 W' d' hd (fun q hq hn => ho.block q (hlt q (by simp [hq])) hn)⟩

theorem OwnsAll.put_leaf {W W' : World} {cur : Array Value} {u v0 : Value} : ∀ {ds : List Dt} {k : Nat} {fp : List Nat} {i : Nat}, OwnsAll W cur k ds fp → ds[i]? = some (.leaf v0) → (∀ q ∈ fp, W'.heap[q]? = W.heap[q]?) → OwnsAll W' (cur.setIfInBounds (k + i) u) k (ds.set i (.leaf u)) fp := by
  intro ds
  induction ds with
  | nil => intro k fp i _ h; simp at h
  | cons x ds ih =>
    intro k fp i h hi hk
    unfold OwnsAll at h
    obtain ⟨u0, f1, f2, h1, h2, h3, rfl, h5⟩ := h
    have hlt : k < cur.size := (Array.getElem?_eq_some_iff.1 h1).1
    cases i with
    | zero =>
      obtain rfl : x = .leaf v0 := by simpa using hi
      unfold Owns at h2
      obtain ⟨rfl, rfl⟩ := h2
      rw [List.set_cons_zero]
      unfold OwnsAll
      exact ⟨u, [], f2, by rw [Nat.add_zero]; simp [hlt], owns_leaf u, by rw [Nat.add_zero]; exact OwnsAll.cur_ne _ (h3.stay (fun q hq => hk q (by simp [hq]))) (by omega), rfl, h5⟩
    | succ i =>
      rw [List.set_cons_succ]
      unfold OwnsAll
      refine ⟨u0, f1, f2, by rw [Array.getElem?_setIfInBounds_ne (by omega)]; exact h1, h2.stay (fun q hq => hk q (by simp [hq])), ?_, rfl, h5⟩
      rw [show k + (i + 1) = k + 1 + i by omega]
      exact ih h3 (by simpa using hi) (fun q hq => hk q (by simp [hq]))

/-- A plain cell of an owned row written over. -/
theorem Owns.put_leaf {W : World} {g n cap : Nat} {e : TypeId} {sz : Nat} {ds : List Dt} {fp : List Nat} (h : Owns W (.slice (some ⟨g, 0, none⟩) n cap) (.row e sz ds) fp) {i : Nat} {v0 : Value} (hi : ds[i]? = some (.leaf v0)) (u : Value) :
    Owns (W.setCell ⟨g, i, none⟩ u) (.slice (some ⟨g, 0, none⟩) n cap) (.row e sz (ds.set i (.leaf u))) fp ∧ g ∈ fp := by
  unfold Owns at h
  rcases h with ⟨h, _⟩ | ⟨g', n', cap', cur, fps, h1, h2, h3, h4, h5, h6, rfl, h8, h9⟩
  · cases h
  · cases h1
    have k1 := OwnsAll.put_leaf (u := u) (W' := W.setCell ⟨g, i, none⟩ u) h9 hi (fun q hq => Below.heap_setCell _ _ _ _ (by rintro rfl; exact h8 hq))
    rw [Nat.zero_add] at k1
    refine ⟨?_, by simp⟩
    unfold Owns
    exact .inr ⟨g, n, cap, cur.setIfInBounds i u, fps, rfl, heap_setCell_same h2 u, h3, h4, by simpa using h5, by simpa using h6, rfl, h8, k1⟩

/-- A cell of an owned row: it is there, and may be written. -/
theorem Owns.cellAt {W : World} {g n cap : Nat} {e : TypeId} {sz : Nat} {ds : List Dt} {fp : List Nat} (h : Owns W (.slice (some ⟨g, 0, none⟩) n cap) (.row e sz ds) fp) {i : Nat} {d : Dt} (hi : ds[i]? = some d) :
    (∃ u, W.cell? ⟨g, i, none⟩ = some u) ∧ W.frozen? ⟨g, i, none⟩ = false ∧ g < W.heap.size ∧ g ∈ fp := by
  obtain ⟨u, f, h1, _, _, _⟩ := h.part hi
  refine ⟨⟨u, h1⟩, ?_⟩
  unfold Owns at h
  rcases h with ⟨h, _⟩ | ⟨g', n', cap', cur, fps, k1, k2, k3, k4, k5, k6, rfl, _⟩
  · cases h
  · cases k1
    exact ⟨by simp [World.frozen?, k2], (Array.getElem?_eq_some_iff.1 k2).1, by simp⟩

/-- Plain cells own no block. -/
theorem OwnsAll.plain_fp {W : World} {cur : Array Value} : ∀ {ds : List Dt} {k : Nat} {fp : List Nat}, OwnsAll W cur k ds fp → (∀ d ∈ ds, ∃ v, d = .leaf v) → fp = [] := by
  intro ds
  induction ds with
  | nil => intro k fp h _; unfold OwnsAll at h; exact h
  | cons x ds ih =>
    intro k fp h hp
    unfold OwnsAll at h
    obtain ⟨u0, f1, f2, h1, h2, h3, rfl, h5⟩ := h
    obtain ⟨v, rfl⟩ := hp x (by simp)
    unfold Owns at h2
    rw [h2.2, ih h3 (fun d hd => hp d (by simp [hd]))]
    rfl

/-- An owned row is none, or lies at a block's beginning. -/
theorem Owns.shape {W : World} {v : Value} {e : TypeId} {sz : Nat} {ds : List Dt} {fp : List Nat} (h : Owns W v (.row e sz ds) fp) {n : Nat} (hn : ds.length = n * sz) (hs : 0 < sz) :
    (v = .slice none 0 0 ∧ ds = [] ∧ n = 0) ∨ ∃ g cap, v = .slice (some ⟨g, 0, none⟩) n cap := by
  unfold Owns at h
  rcases h with ⟨rfl, rfl, _⟩ | ⟨g, n', cap, cur, fps, rfl, h2, h3, h4, h5, h6, _⟩
  · refine .inl ⟨rfl, rfl, ?_⟩
    have : n * sz = 0 := by simpa using hn.symm
    rcases Nat.mul_eq_zero.1 this with h | h
    · exact h
    · omega
  · have : n' = n := Nat.eq_of_mul_eq_mul_right hs (h6.symm.trans hn)
    subst this
    exact .inr ⟨g, cap, rfl⟩
end Go.Proofs.Yteladljgnbfcnaa.Da
namespace Go.Proofs.Yteladljgnbfcnaa.P9
set_option maxRecDepth 8000
open Go.RowKit P1 P8 Da Sr

theorem leavesAll_plain : ∀ {ds : List Dt}, (∀ d ∈ ds, ∃ v, d = .leaf v) → leavesAll ds = ds.length
  | [], _ => by simp [leavesAll]
  | d :: ds, h => by
    obtain ⟨v, rfl⟩ := h d (by simp)
    have := leavesAll_plain (ds := ds) (fun d hd => h d (by simp [hd]))
    simp only [leavesAll, leaves, List.length_cons, this]
    omega

theorem itC_plain (l : List It) : ∀ d ∈ l.flatMap itC, ∃ v, d = .leaf v := by
  intro d hd
  obtain ⟨x, _, hx⟩ := List.mem_flatMap.1 hd
  simp only [itC, textD, boolD, List.mem_cons, List.not_mem_nil, or_false] at hx
  rcases hx with rfl | rfl <;> exact ⟨_, rfl⟩

theorem ints_plain (l : List Int) : ∀ d ∈ l.map intD, ∃ v, d = .leaf v := by
  intro d hd
  obtain ⟨x, _, rfl⟩ := List.mem_map.1 hd
  exact ⟨_, rfl⟩

theorem plain_take {ds : List Dt} (h : ∀ d ∈ ds, ∃ v, d = .leaf v) (n : Nat) (hn : n ≤ ds.length) : leavesAll (ds.take n) = n := by
  rw [leavesAll_plain (fun d hd => h d (List.mem_of_mem_take hd)), List.length_take]
  omega

theorem itC_len (l : List It) : (l.flatMap itC).length = l.length * 2 := flatMap_length _ 2 (fun _ => rfl) l

theorem leaves_ints (l : List Int) : leaves (intsD l) = l.length := by
  unfold intsD leaves
  rw [leavesAll_plain (ints_plain l), List.length_map]

theorem leaves_items (T : Tys) (l : List It) : leaves (itemsD T l) = l.length * 2 := by
  unfold itemsD leaves
  rw [leavesAll_plain (itC_plain l), itC_len]

set_option maxHeartbeats 1000000 in
theorem markIntsD_calls (w : World) (l : List Int) (k : Nat) (v : Value) (fp : List Nat) (hl : l.length ≤ 1048576) (hk : k ≤ 500000000) (h : Owns w v (intsD l) fp) :
    Calls Try.prog 14 #[v, .int .i64 k] w fun e w' => e = .returned (.int .i64 ((k + l.length : Nat) : Int)) ∧ Owns w' v (mrk (intsD l) k) fp ∧ Only fp w w' := by
  have hlen : (l.map intD).length = l.length * 1 := by simp
  obtain ⟨n, Hn⟩ : ∃ n, Hid (n = l.length) := ⟨_, hide rfl⟩
  have hn : n ≤ 1048576 := by rw [Hn.out]; exact hl
  rcases h.shape hlen (by decide) with ⟨rfl, hds, h0⟩ | ⟨g, cap, rfl⟩
  · have H := hide h
    clear h
    have hl0 : l = [] := List.eq_nil_of_length_eq_zero h0
    subst hl0
    go_enter Try.func14, Try.ntmps14
    go_wp2
    go_loop [1, 5] (fun q i => i = .int .i64 0 ∧ q = .int .i64 (k : Int)) (fun _ _ => 0)
    case atStart => exact ⟨rfl, rfl⟩
    case round =>
      obtain ⟨rfl, rfl⟩ := hrel
      go_wp2
      go_ret
      exact ⟨by simp, H.out, Only.refl _ _⟩
  · have H0 : Hid (Owns w (.slice (some ⟨g, 0, none⟩) n cap) (.row 3 1 (halfM (l.map intD) k 0)) fp) := by rw [halfM_zero, Hn.out]; exact h
    rw [← Hn.out]
    clear h hl hlen
    go_enter Try.func14, Try.ntmps14
    go_wp2
    go_loopw [1, 5] (fun q i wr => ∃ j : Nat, j ≤ n ∧ i = .int .i64 j ∧ q = .int .i64 ((k + j : Nat) : Int) ∧ Hid (Owns wr (.slice (some ⟨g, 0, none⟩) n cap) (.row 3 1 (halfM (l.map intD) k j)) fp) ∧ Hid (Only fp w wr)) (fun _ i _ => n - (intOf i).toNat)
    case atStart => exact ⟨0, Nat.zero_le _, rfl, rfl, H0.out, Only.refl _ _⟩
    case round =>
      clear H0
      obtain ⟨j, hj, rfl, rfl, HO, HF⟩ := hrel
      by_cases hlt : j < n
      · have hg0 : (l.map intD)[j]? = some (intD (l[j]'(by rw [← Hn.out]; exact hlt))) := by rw [List.getElem?_map, List.getElem?_eq_getElem (by rw [← Hn.out]; exact hlt)]; rfl
        have hd0 : (halfM (l.map intD) k j)[j]? = some (intD (l[j]'(by rw [← Hn.out]; exact hlt))) := by
          rw [halfM_get _ _ _ _ (Nat.le_refl _) (by rw [List.length_map, ← Hn.out]; exact hj)]
          exact hg0
        obtain ⟨⟨x0, c0⟩, f0, hgl, hgf⟩ := HO.out.cellAt hd0
        have hp := (HO.out.put_leaf hd0 (.int .i64 ((k + j : Nat) : Int))).1
        have hnx := halfM_next k hg0
        rw [plain_take (ints_plain l) j (by rw [List.length_map, ← Hn.out]; exact hj)] at hnx
        simp only [intD, mrk, mrkV] at hnx
        rw [hnx] at hp
        have HP := hide hp
        have HF2 := hide (HF.out.setCell (p := ⟨g, j, none⟩) hgf (.int .i64 ((k + j : Nat) : Int)))
        clear hd0 hp hnx HO HF hg0
        go_wp2
        go_roundw
        case rel => exact ⟨j + 1, by omega, by go_num, by go_num, HP.out, HF2.out⟩
        case measure => simp [intOf]; omega
      · obtain rfl : j = n := by omega
        have h1 := HO.out
        rw [halfM_end _ _ _ (by rw [List.length_map, ← Hn.out]; omega)] at h1
        have H1 := hide h1
        clear h1 HO
        go_wp2
        go_ret
        exact ⟨by rfl, H1.out, HF.out⟩

set_option maxHeartbeats 1000000 in
theorem markItems_calls (w : World) (T : Tys) (l : List It) (k : Nat) (v : Value) (fp : List Nat) (hl : l.length ≤ 1048576) (hk0 : 1 ≤ k) (hk : k ≤ 500000000) (h : Owns w v (itemsD T l) fp) :
    Calls Try.prog 66 #[v, .int .i64 k] w fun e w' => e = .returned (.int .i64 ((k + l.length * 2 : Nat) : Int)) ∧ Owns w' v (mrk (itemsD T l) k) fp ∧ Only fp w w' := by
  obtain ⟨n, Hn⟩ : ∃ n, Hid (n = l.length) := ⟨_, hide rfl⟩
  have hn : n ≤ 1048576 := by rw [Hn.out]; exact hl
  rcases h.shape (itC_len l) (by decide) with ⟨rfl, hds, h0⟩ | ⟨g, cap, rfl⟩
  · have H := hide h
    clear h
    have hl0 : l = [] := List.eq_nil_of_length_eq_zero h0
    subst hl0
    go_enter Try.func66, Try.ntmps66
    go_wp2
    go_loop [1, 5] (fun q i => i = .int .i64 0 ∧ q = .int .i64 (k : Int)) (fun _ _ => 0)
    case atStart => exact ⟨rfl, rfl⟩
    case round =>
      obtain ⟨rfl, rfl⟩ := hrel
      go_wp2
      go_ret
      exact ⟨by simp, H.out, Only.refl _ _⟩
  · have H0 : Hid (Owns w (.slice (some ⟨g, 0, none⟩) n cap) (.row T.item 2 (halfM (l.flatMap itC) k (0 * 2))) fp) := by rw [Nat.zero_mul, halfM_zero, Hn.out]; exact h
    rw [← Hn.out]
    clear h hl
    go_enter Try.func66, Try.ntmps66
    go_wp2
    go_loopw [1, 5] (fun q i wr => ∃ j : Nat, j ≤ n ∧ i = .int .i64 j ∧ q = .int .i64 ((k + j * 2 : Nat) : Int) ∧ Hid (Owns wr (.slice (some ⟨g, 0, none⟩) n cap) (.row T.item 2 (halfM (l.flatMap itC) k (j * 2))) fp) ∧ Hid (Only fp w wr)) (fun _ i _ => n - (intOf i).toNat)
    case atStart => exact ⟨0, Nat.zero_le _, rfl, rfl, H0.out, Only.refl _ _⟩
    case round =>
      clear H0
      obtain ⟨j, hj, rfl, rfl, HO, HF⟩ := hrel
      by_cases hlt : j < n
      · have hjl : j < l.length := by rw [← Hn.out]; exact hlt
        go_wp2_with fail
        refine (markText_calls (k + j * 2) (by omega) (by omega) _).mono ?_
        rintro e w1 ⟨rfl, hb1⟩
        have hg0 := flatMap_get itC 2 (fun _ => rfl) l j 0 hjl (by decide)
        have hg1 := flatMap_get itC 2 (fun _ => rfl) l j 1 hjl (by decide)
        simp only [Nat.add_zero, itC, List.getElem?_cons_zero, List.getElem?_cons_succ] at hg0 hg1
        have hlen := itC_len l
        have hO1 := HO.out.stay (fun q hq => hb1.block q (HO.out.lt q hq))
        have hF1 := HF.out.trans (Only.of_below hb1)
        have hd0 := (halfM_get (l.flatMap itC) k (j * 2) (j * 2) (Nat.le_refl _) (by omega)).trans hg0
        obtain ⟨⟨x0, c0⟩, f0, hgl, hgf⟩ := hO1.cellAt hd0
        have hp := (hO1.put_leaf hd0 (.string ⟨(mtext (k + j * 2)).toArray⟩)).1
        have hnx := halfM_next k hg0
        rw [plain_take (itC_plain l) (j * 2) (by omega)] at hnx
        simp only [textD, mrk, mrkV] at hnx
        rw [hnx] at hp
        have hd1 := (halfM_get (l.flatMap itC) k (j * 2 + 1) (j * 2 + 1) (Nat.le_refl _) (by omega)).trans hg1
        obtain ⟨⟨x1, c1⟩, f1, hgl1, -⟩ := hp.cellAt hd1
        have hp2 := (hp.put_leaf hd1 (.bool (((k : Int) + (j : Int) * 2 + 1) % 3 == 0))).1
        have hnx2 := halfM_next k hg1
        rw [plain_take (itC_plain l) (j * 2 + 1) (by omega)] at hnx2
        simp only [boolD, mrk, mrkV] at hnx2
        rw [show ((k + (j * 2 + 1) : Nat) : Int) = (k : Int) + (j : Int) * 2 + 1 by omega, show j * 2 + 1 + 1 = (j + 1) * 2 by omega] at hnx2
        rw [hnx2] at hp2
        have HP := hide hp2
        have HF2 := hide ((hF1.setCell (p := ⟨g, j * 2, none⟩) hgf (.string ⟨(mtext (k + j * 2)).toArray⟩)).setCell (p := ⟨g, j * 2 + 1, none⟩) hgf (.bool (((k : Int) + (j : Int) * 2 + 1) % 3 == 0)))
        clear hd0 hp hnx hnx2 HO HF hg0 hg1 hd1 hO1 hF1 hb1 hp2 hlen
        generalize (mtext (k + j * 2)).toArray = z at *
        go_wp2
        go_roundw
        case rel => exact ⟨j + 1, by omega, by go_num, by go_num, HP.out, HF2.out⟩
        case measure => simp [intOf]; omega
      · obtain rfl : j = n := by omega
        have h1 := HO.out
        rw [halfM_end _ _ _ (by rw [itC_len, ← Hn.out]; omega)] at h1
        have H1 := hide h1
        clear h1 HO
        go_wp2
        go_ret
        exact ⟨by rfl, H1.out, HF.out⟩
end Go.Proofs.Yteladljgnbfcnaa.P9
namespace Go.Proofs.Yteladljgnbfcnaa.P9
set_option maxRecDepth 8000
open Go.RowKit P1 P8 Da Sr

theorem shC_len (T : Tys) (l : List Shf) : (l.flatMap (shC T)).length = l.length * 2 := flatMap_length _ 2 (fun _ => rfl) l

theorem prC_len (T : Tys) (l : List Pr) : (l.flatMap (prC T)).length = l.length * 6 := flatMap_length _ 6 (fun _ => rfl) l

set_option maxHeartbeats 2000000 in
theorem markShelves_calls (w : World) (T : Tys) (l : List Shf) (k : Nat) (v : Value) (fp : List Nat) (hl : l.length ≤ 1048576) (hs : ∀ x ∈ l, x.items.length ≤ 1048576) (hk : k + leaves (shelvesD T l) ≤ 400000000) (h : Owns w v (shelvesD T l) fp) :
    Calls Try.prog 53 #[v, .int .i64 k] w fun e w' => e = .returned (.int .i64 ((k + leaves (shelvesD T l) : Nat) : Int)) ∧ Owns w' v (mrk (shelvesD T l) k) fp ∧ Only fp w w' := by
  obtain ⟨n, Hn⟩ : ∃ n, Hid (n = l.length) := ⟨_, hide rfl⟩
  have hn : n ≤ 1048576 := by rw [Hn.out]; exact hl
  rcases h.shape (shC_len T l) (by decide) with ⟨rfl, hds, h0⟩ | ⟨g, cap, rfl⟩
  · have H := hide h
    clear h hk
    have hl0 : l = [] := List.eq_nil_of_length_eq_zero h0
    subst hl0
    go_enter Try.func53, Try.ntmps53
    go_wp2
    go_loop [1, 5] (fun q i => i = .int .i64 0 ∧ q = .int .i64 (k : Int)) (fun _ _ => 0)
    case atStart => exact ⟨rfl, rfl⟩
    case round =>
      obtain ⟨rfl, rfl⟩ := hrel
      go_wp2
      go_ret
      exact ⟨by simp [shelvesD, leaves, leavesAll], H.out, Only.refl _ _⟩
  · have H0 : Hid (Owns w (.slice (some ⟨g, 0, none⟩) n cap) (.row T.shelf 2 (halfM (l.flatMap (shC T)) k (0 * 2))) fp) := by rw [Nat.zero_mul, halfM_zero, Hn.out]; exact h
    obtain ⟨L, HL⟩ : ∃ L, Hid (L = leaves (shelvesD T l)) := ⟨_, hide rfl⟩
    have hL : k + L ≤ 400000000 := by rw [HL.out]; exact hk
    rw [← Hn.out, ← HL.out]
    clear h hl hk
    go_enter Try.func53, Try.ntmps53
    go_wp2
    go_loopw [1, 5] (fun q i wr => ∃ j kj : Nat, j ≤ n ∧ i = .int .i64 j ∧ q = .int .i64 ((k : Int) + (kj : Int)) ∧ Hid (kj = leavesAll ((l.flatMap (shC T)).take (j * 2))) ∧ Hid (Owns wr (.slice (some ⟨g, 0, none⟩) n cap) (.row T.shelf 2 (halfM (l.flatMap (shC T)) k (j * 2))) fp) ∧ Hid (Only fp w wr)) (fun _ i _ => n - (intOf i).toNat)
    case atStart => exact ⟨0, 0, Nat.zero_le _, rfl, by simp, rfl, H0.out, Only.refl _ _⟩
    case round =>
      clear H0
      obtain ⟨j, kj, hj, rfl, rfl, HK, HO, HF⟩ := hrel
      have hkL : kj ≤ L := by
        rw [HK.out, HL.out]
        unfold shelvesD leaves
        exact leaves_take_le _ _
      by_cases hlt : j < n
      · have hjl : j < l.length := by rw [← Hn.out]; exact hlt
        have hg0 := flatMap_get (shC T) 2 (fun _ => rfl) l j 0 hjl (by decide)
        have hg1 := flatMap_get (shC T) 2 (fun _ => rfl) l j 1 hjl (by decide)
        simp only [Nat.add_zero, shC, List.getElem?_cons_zero, List.getElem?_cons_succ] at hg0 hg1
        have hlen := shC_len T l
        have hil := hs _ (List.getElem_mem hjl)
        have hd0 := (halfM_get (l.flatMap (shC T)) k (j * 2) (j * 2) (Nat.le_refl _) (by omega)).trans hg0
        obtain ⟨⟨x0, c0⟩, f0, hgl, hgf⟩ := HO.out.cellAt hd0
        have hd1' := (halfM_get (l.flatMap (shC T)) k (j * 2) (j * 2 + 1) (by omega) (by omega)).trans hg1
        obtain ⟨u1, -, c1, -⟩ := HO.out.part hd1'
        have hp := (HO.out.put_leaf hd0 (.int .i64 ((k : Int) + (kj : Int)))).1
        have hnx := halfM_next k hg0
        have hkj := HK.out
        rw [← hkj] at hnx
        simp only [intD, mrk, mrkV] at hnx
        rw [show ((k + kj : Nat) : Int) = (k : Int) + (kj : Int) by omega] at hnx
        rw [hnx] at hp
        have hd1 := (halfM_get (l.flatMap (shC T)) k (j * 2 + 1) (j * 2 + 1) (Nat.le_refl _) (by omega)).trans hg1
        have ht1 := leaves_take hg0
        rw [← hkj] at ht1
        simp only [intD, leaves] at ht1
        have ht2 := leaves_take hg1
        rw [ht1, leaves_items, show j * 2 + 1 + 1 = (j + 1) * 2 by omega] at ht2
        obtain ⟨u1', ff, c1', hu, hfs, hback⟩ := hp.part hd1
        have hc1 : (wr.setCell ⟨g, j * 2, none⟩ (.int .i64 ((k : Int) + (kj : Int)))).cell? ⟨g, j * 2 + 1, none⟩ = some u1 := by
          exact (World.cell?_setCell_other _ _ _ _ (by simp)).trans c1
        rw [hc1] at c1'
        obtain rfl : u1 = u1' := by simpa using c1'
        have hk2 : kj + 1 + l[j].items.length * 2 ≤ L := by
          rw [← ht2, HL.out]
          unfold shelvesD leaves
          exact leaves_take_le _ _
        have hcall := markItems_calls _ T l[j].items (k + kj + 1) u1 ff hil (by omega) (by omega) hu
        have hnx2 := halfM_next k hg1
        rw [ht1] at hnx2
        rw [show ((k + kj + 1 : Nat) : Int) = (k : Int) + (kj : Int) + 1 by omega] at hcall
        have HC := hide hcall
        have HN2 := hide hnx2
        have HT2 := hide ht2
        have HBk := hide hback
        have HF2 := hide (HF.out.setCell (p := ⟨g, j * 2, none⟩) hgf (.int .i64 ((k : Int) + (kj : Int))))
        have HFS := hide hfs
        clear hd0 hd1 hd1' hp hnx hnx2 HO HF hg0 hg1 hlen ht1 ht2 hcall hkj hu hback hfs HK c1'
        go_wp2_with fail
        refine HC.out.mono ?_
        rintro e w2 ⟨rfl, ho2, hf2⟩
        have hb := HBk.out _ _ ho2 hf2
        rw [Nat.add_assoc k kj 1, HN2.out, show j * 2 + 1 + 1 = (j + 1) * 2 by omega] at hb
        have HP := hide hb
        have HF3 := hide (HF2.out.trans (hf2.mono HFS.out))
        clear HC HN2 HBk HF2 HFS hb ho2 hf2
        go_wp2
        go_roundw
        case rel => exact ⟨j + 1, kj + 1 + l[j].items.length * 2, by omega, by go_num, by go_num, HT2.out.symm, HP.out, HF3.out⟩
        case measure => simp [intOf]; omega
      · obtain rfl : j = n := by omega
        have h1 := HO.out
        have h2 := HK.out
        have hlen := shC_len T l
        rw [halfM_end _ _ _ (by rw [hlen, ← Hn.out]; omega)] at h1
        rw [List.take_of_length_le (by rw [hlen, ← Hn.out]; omega)] at h2
        have h3 : kj = L := by rw [h2, HL.out]; unfold shelvesD leaves; rfl
        subst h3
        have H1 := hide h1
        clear h1 h2 HO hlen HK
        go_wp2
        go_ret
        exact ⟨by go_num, H1.out, HF.out⟩

def SmallM (p : Pr) : Prop := p.behind.length ≤ 1048576 ∧ p.fingers.length ≤ 1048576 ∧ p.shelves.length ≤ 1048576 ∧ ∀ x ∈ p.shelves, x.items.length ≤ 1048576

theorem leaves_peers (T : Tys) (l : List Pr) : leaves (peersD T l) = leavesAll (l.flatMap (prC T)) := by
  unfold peersD leaves
  rfl

set_option maxHeartbeats 4000000 in
theorem markPeers_calls (w : World) (T : Tys) (l : List Pr) (k : Nat) (v : Value) (fp : List Nat) (hl : l.length ≤ 1048576) (hs : ∀ x ∈ l, SmallM x) (hk : k + leaves (peersD T l) ≤ 300000000) (h : Owns w v (peersD T l) fp) :
    Calls Try.prog 32 #[v, .int .i64 k] w fun e w' => e = .returned (.int .i64 ((k + leaves (peersD T l) : Nat) : Int)) ∧ Owns w' v (mrk (peersD T l) k) fp ∧ Only fp w w' := by
  obtain ⟨n, Hn⟩ : ∃ n, Hid (n = l.length) := ⟨_, hide rfl⟩
  have hn : n ≤ 1048576 := by rw [Hn.out]; exact hl
  rcases h.shape (prC_len T l) (by decide) with ⟨rfl, hds, h0⟩ | ⟨g, cap, rfl⟩
  · have H := hide h
    clear h hk
    have hl0 : l = [] := List.eq_nil_of_length_eq_zero h0
    subst hl0
    go_enter Try.func32, Try.ntmps32
    go_wp2
    go_loop [1, 5] (fun q i => i = .int .i64 0 ∧ q = .int .i64 (k : Int)) (fun _ _ => 0)
    case atStart => exact ⟨rfl, rfl⟩
    case round =>
      obtain ⟨rfl, rfl⟩ := hrel
      go_wp2
      go_ret
      exact ⟨by simp [peersD, leaves, leavesAll], H.out, Only.refl _ _⟩
  · have H0 : Hid (Owns w (.slice (some ⟨g, 0, none⟩) n cap) (.row T.peer 6 (halfM (l.flatMap (prC T)) k (0 * 6))) fp) := by rw [Nat.zero_mul, halfM_zero, Hn.out]; exact h
    obtain ⟨L, HL⟩ : ∃ L, Hid (L = leaves (peersD T l)) := ⟨_, hide rfl⟩
    have hL : k + L ≤ 300000000 := by rw [HL.out]; exact hk
    have HSM := hide hs
    rw [← Hn.out, ← HL.out]
    clear h hl hk hs
    go_enter Try.func32, Try.ntmps32
    go_wp2
    go_loopw [1, 5] (fun q i wr => ∃ j kj : Nat, j ≤ n ∧ i = .int .i64 j ∧ q = .int .i64 ((k : Int) + (kj : Int)) ∧ Hid (kj = leavesAll ((l.flatMap (prC T)).take (j * 6))) ∧ Hid (Owns wr (.slice (some ⟨g, 0, none⟩) n cap) (.row T.peer 6 (halfM (l.flatMap (prC T)) k (j * 6))) fp) ∧ Hid (Only fp w wr)) (fun _ i _ => n - (intOf i).toNat)
    case atStart => exact ⟨0, 0, Nat.zero_le _, rfl, by simp, rfl, H0.out, Only.refl _ _⟩
    case round =>
      clear H0
      obtain ⟨j, kj, hj, rfl, rfl, HK, HO, HF⟩ := hrel
      have hkL : kj ≤ L := by
        rw [HK.out, HL.out, leaves_peers]
        exact leaves_take_le _ _
      by_cases hlt : j < n
      · have hjl : j < l.length := by rw [← Hn.out]; exact hlt
        have hg := fun i hi => flatMap_get (prC T) 6 (fun _ => rfl) l j i hjl hi
        have hg0 := hg 0 (by decide)
        have hg1 := hg 1 (by decide)
        have hg2 := hg 2 (by decide)
        have hg3 := hg 3 (by decide)
        have hg4 := hg 4 (by decide)
        have hg5 := hg 5 (by decide)
        simp only [Nat.add_zero, prC, List.getElem?_cons_zero, List.getElem?_cons_succ] at hg0 hg1 hg2 hg3 hg4 hg5
        have hlen := prC_len T l
        obtain ⟨lb, lf, ls, li⟩ := HSM.out _ (List.getElem_mem hjl)
        have hkj := HK.out
        -- how many marks there are ahead of each cell
        have t1 := leaves_take hg0
        rw [← hkj] at t1
        simp only [intD, leaves] at t1
        have t2 := leaves_take hg1
        rw [t1] at t2
        simp only [boolD, leaves] at t2
        have t3 := leaves_take hg2
        rw [t2] at t3
        simp only [intD, leaves] at t3
        have t4 := leaves_take hg3
        rw [t3, leaves_ints] at t4
        have t5 := leaves_take hg4
        rw [t4, leaves_ints] at t5
        have t6 := leaves_take hg5
        rw [t5] at t6
        have hk6 := leaves_take_le (l.flatMap (prC T)) (j * 6 + 5 + 1)
        rw [t6, ← leaves_peers, ← HL.out] at hk6
        rw [show j * 6 + 5 + 1 = (j + 1) * 6 by omega] at t6
        obtain ⟨M, eM⟩ : ∃ M, M = leaves (shelvesD T l[j].shelves) := ⟨_, rfl⟩
        rw [← eM] at t6 hk6
        -- three plain cells
        have hd0 := (halfM_get (l.flatMap (prC T)) k (j * 6) (j * 6) (Nat.le_refl _) (by omega)).trans hg0
        obtain ⟨⟨x0, c0⟩, f0, hgl, hgf⟩ := HO.out.cellAt hd0
        have p0 := (HO.out.put_leaf hd0 (.int .i64 ((k : Int) + (kj : Int)))).1
        have nx0 := halfM_next k hg0
        rw [← hkj] at nx0
        simp only [intD, mrk, mrkV] at nx0
        rw [show ((k + kj : Nat) : Int) = (k : Int) + (kj : Int) by omega] at nx0
        rw [nx0] at p0
        have hd1 := (halfM_get (l.flatMap (prC T)) k (j * 6 + 1) (j * 6 + 1) (Nat.le_refl _) (by omega)).trans hg1
        obtain ⟨⟨x1, c1⟩, f1, -, -⟩ := p0.cellAt hd1
        have p1 := (p0.put_leaf hd1 (.bool (((k : Int) + (kj : Int) + 1) % 3 == 0))).1
        have nx1 := halfM_next k hg1
        rw [t1] at nx1
        simp only [boolD, mrk, mrkV] at nx1
        rw [show ((k + (kj + 1) : Nat) : Int) = (k : Int) + (kj : Int) + 1 by omega] at nx1
        rw [nx1] at p1
        have hd2 := (halfM_get (l.flatMap (prC T)) k (j * 6 + 2) (j * 6 + 2) (Nat.le_refl _) (by omega)).trans hg2
        obtain ⟨⟨x2, c2⟩, f2, -, -⟩ := p1.cellAt hd2
        have p2 := (p1.put_leaf hd2 (.int .i64 ((k : Int) + (kj : Int) + 1 + 1))).1
        have nx2 := halfM_next k hg2
        rw [t2] at nx2
        simp only [intD, mrk, mrkV] at nx2
        rw [show ((k + (kj + 1 + 1) : Nat) : Int) = (k : Int) + (kj : Int) + 1 + 1 by omega] at nx2
        rw [nx2] at p2
        have hF2 := ((HF.out.setCell (p := ⟨g, j * 6, none⟩) hgf (.int .i64 ((k : Int) + (kj : Int)))).setCell (p := ⟨g, j * 6 + 1, none⟩) hgf (.bool (((k : Int) + (kj : Int) + 1) % 3 == 0))).setCell (p := ⟨g, j * 6 + 2, none⟩) hgf (.int .i64 ((k : Int) + (kj : Int) + 1 + 1))
        clear hd0 hd1 hd2 nx0 nx1 nx2 p0 p1 HO HF hg hg0 hg1 hg2 t1 t2 hkj HK
        have HP2 := hide p2
        have HF2 := hide hF2
        have H3 := hide hg3
        have H4 := hide hg4
        have H5 := hide hg5
        have HT3 := hide t3
        have HT4 := hide t4
        have HT5 := hide t5
        have HT6 := hide t6
        clear p2 hF2 hg3 hg4 hg5 t3 t4 t5 t6
        go_upto_region 10 with fail
        generalize ((wr.setCell ⟨g, j * 6, none⟩ (.int .i64 ((k : Int) + (kj : Int)))).setCell ⟨g, j * 6 + 1, none⟩ (.bool (((k : Int) + (kj : Int) + 1) % 3 == 0))).setCell ⟨g, j * 6 + 2, none⟩ (.int .i64 ((k : Int) + (kj : Int) + 1 + 1)) = w2 at *
        clear c0 f0 c1 f1 c2 f2
        -- Behind
        have hd3 := (halfM_get (l.flatMap (prC T)) k (j * 6 + 3) (j * 6 + 3) (Nat.le_refl _) (by omega)).trans H3.out
        obtain ⟨u3, s3, c3, o3, hs3, back3⟩ := HP2.out.part hd3
        have hc3 := markIntsD_calls w2 l[j].behind (k + (kj + 1 + 1 + 1)) u3 s3 lb (by omega) o3
        rw [show ((k + (kj + 1 + 1 + 1) : Nat) : Int) = (k : Int) + (kj : Int) + 1 + 1 + 1 by omega] at hc3
        have nx3 := halfM_next k H3.out
        rw [HT3.out] at nx3
        have HC := hide hc3
        have HB3 := hide back3
        have HN3 := hide nx3
        have HS3 := hide hs3
        have hgl2 := (HP2.out.cellAt hd3).2.2.1
        clear hd3 o3 back3 hc3 nx3 hs3 hgl
        go_wp2_with fail
        refine HC.out.mono ?_
        rintro e w3 ⟨rfl, o3', q3⟩
        have p3 := HB3.out _ _ o3' q3
        rw [HN3.out] at p3
        have HP3 := hide p3
        have HF3 := hide (HF2.out.trans (q3.mono HS3.out))
        clear HC HB3 HN3 HS3 HP2 HF2 o3' q3 p3 c3
        -- Fingers
        have hd4 := (halfM_get (l.flatMap (prC T)) k (j * 6 + 4) (j * 6 + 4) (Nat.le_refl _) (by omega)).trans H4.out
        obtain ⟨u4, s4, c4, o4, hs4, back4⟩ := HP3.out.part hd4
        have hc4 := markIntsD_calls w3 l[j].fingers (k + (kj + 1 + 1 + 1 + l[j].behind.length)) u4 s4 lf (by omega) o4
        have nx4 := halfM_next k H4.out
        rw [HT4.out] at nx4
        have hcast : ((k + (kj + 1 + 1 + 1) + l[j].behind.length : Nat) : Int) = ((k + (kj + 1 + 1 + 1 + l[j].behind.length) : Nat) : Int) := by omega
        have HC := hide hc4
        have HB4 := hide back4
        have HN4 := hide nx4
        have HS4 := hide hs4
        have hgl3 := (HP3.out.cellAt hd4).2.2.1
        rw [hcast]
        clear hd4 o4 back4 hc4 nx4 hs4 hgl2 hcast
        generalize hm4 : k + (kj + 1 + 1 + 1 + l[j].behind.length) = m4 at *
        replace hm4 := hide hm4
        go_wp2_with fail
        refine HC.out.mono ?_
        rintro e w4 ⟨rfl, o4', q4⟩
        have p4 := HB4.out _ _ o4' q4
        rw [HN4.out] at p4
        have HP4 := hide p4
        have HF4 := hide (HF3.out.trans (q4.mono HS4.out))
        clear HC HB4 HN4 HS4 HP3 HF3 o4' q4 p4 c4
        -- Shelves
        have hd5 := (halfM_get (l.flatMap (prC T)) k (j * 6 + 5) (j * 6 + 5) (Nat.le_refl _) (by omega)).trans H5.out
        obtain ⟨u5, s5, c5, o5, hs5, back5⟩ := HP4.out.part hd5
        have hm4' := hm4.out
        have hc5 := markShelves_calls w4 T l[j].shelves (m4 + l[j].fingers.length) u5 s5 ls li (by rw [← eM]; omega) o5
        have nx5 := halfM_next k H5.out
        rw [HT5.out, show k + (kj + 1 + 1 + 1 + l[j].behind.length + l[j].fingers.length) = m4 + l[j].fingers.length by omega, show j * 6 + 5 + 1 = (j + 1) * 6 by omega] at nx5
        rw [← eM] at hc5
        have HC := hide hc5
        have HB5 := hide back5
        have HN5 := hide nx5
        have HS5 := hide hs5
        have hgl4 := (HP4.out.cellAt hd5).2.2.1
        clear hd5 o5 back5 hc5 nx5 hs5 hgl3 eM hm4'
        generalize hm5 : m4 + l[j].fingers.length = m5 at *
        replace hm5 := hide hm5
        go_wp2_with fail
        refine HC.out.mono ?_
        rintro e w5 ⟨rfl, o5', q5⟩
        have p5 := HB5.out _ _ o5' q5
        rw [HN5.out] at p5
        have HP5 := hide p5
        have HF5 := hide (HF4.out.trans (q5.mono HS5.out))
        clear HC HB5 HN5 HS5 HP4 HF4 o5' q5 p5 c5
        go_wp2
        go_roundw
        case rel => exact ⟨j + 1, kj + 1 + 1 + 1 + l[j].behind.length + l[j].fingers.length + M, by omega, by go_num, by have := hm4.out; have := hm5.out; congr 1; omega, HT6.out.symm, HP5.out, HF5.out⟩
        case measure => simp [intOf]; omega
      · obtain rfl : j = n := by omega
        have h1 := HO.out
        have h2 := HK.out
        have hlen := prC_len T l
        rw [halfM_end _ _ _ (by rw [hlen, ← Hn.out]; omega)] at h1
        rw [List.take_of_length_le (by rw [hlen, ← Hn.out]; omega)] at h2
        have h3 : kj = L := by rw [h2, HL.out, leaves_peers]
        subst h3
        have H1 := hide h1
        clear h1 h2 HO hlen HK
        go_wp2
        go_ret
        exact ⟨by go_num, H1.out, HF.out⟩

set_option maxHeartbeats 1000000 in
theorem markRing_calls (w : World) (T : Tys) (l : List Pr) (k : Nat) (v : Value) (fp : List Nat) (hl : l.length ≤ 1048576) (hs : ∀ x ∈ l, SmallM x) (hk : k + leaves (peersD T l) ≤ 300000000) (h : Owns w v (peersD T l) fp) :
    Calls Try.prog 15 #[.agg #[v], .int .i64 k] w fun e w' => e = .returned (.int .i64 ((k + leaves (peersD T l) : Nat) : Int)) ∧ Owns w' v (mrk (peersD T l) k) fp ∧ Only fp w w' := by
  have hb1 := (Below.refl w.heap.size w).alloc (Nat.le_refl _) (.cells #[v] 29)
  have HO := hide (h.stay (fun q hq => hb1.block q (h.lt q hq)))
  have HF1 : Hid (Only fp w (w.alloc (.cells #[v] 29))) := Only.of_below hb1
  have hsh : ∃ a n c, v = .slice a n c := by
    rcases h.shape (prC_len T l) (by decide) with ⟨rfl, _, _⟩ | ⟨g, cap, rfl⟩
    · exact ⟨_, _, _, rfl⟩
    · exact ⟨_, _, _, rfl⟩
  obtain ⟨a, n, c, rfl⟩ := hsh
  have G := Blk.new w #[.slice a n c] 29
  have HSM := hide hs
  clear h hb1 hs
  go_enter Try.func15, Try.ntmps15
  go_upto_region 1 with fail
  obtain ⟨b0, e0⟩ : ∃ b, b = w.heap.size := ⟨_, rfl⟩
  rw [← e0] at G ⊢
  clear e0
  generalize w.alloc (.cells #[.slice a n c] 29) = w1 at *
  have c0 := blk_free_cell G 0 rfl
  have l0 := G.lt
  have HC := hide (markPeers_calls w1 T l k _ fp hl HSM.out hk HO.out)
  clear G HO
  go_wp2_with fail
  refine HC.out.mono ?_
  rintro e w2 ⟨rfl, ho, hf⟩
  have HO2 := hide ho
  have HF2 := hide (HF1.out.trans hf)
  clear ho hf HC HF1 c0 l0
  go_wp2
  go_ret
  exact ⟨rfl, HO2.out, HF2.out⟩
end Go.Proofs.Yteladljgnbfcnaa.P9
namespace Go.Proofs.Yteladljgnbfcnaa.P9
set_option maxRecDepth 8000
open Go.RowKit P1 P8 Da Sr

theorem marked_cells {W : World} {v : Value} {e : TypeId} {sz : Nat} {ds : List Dt} {k : Nat} (h : Reads W v (.row e sz (mrkAll ds k))) {n : Nat} (hn : ds.length = n * sz) (hs : 0 < sz) :
    ∃ a cap, v = .slice a n cap ∧ ∀ (j i : Nat) (d : Dt), ds[j * sz + i]? = some d → ∃ g off u, a = some ⟨g, off, none⟩ ∧ g < W.heap.size ∧ W.cell? ⟨g, off + (j * sz + i), none⟩ = some u ∧ Reads W u (mrk d (k + leavesAll (ds.take (j * sz + i)))) := by
  obtain ⟨a, cap, h1, h2⟩ := Reads.open_ h (n := n) (by rw [mrkAll_length]; exact hn) hs
  exact ⟨a, cap, h1, fun j i d hd => h2 j i _ (mrkAll_get k hd)⟩

theorem mrk_ints (l : List Int) (k : Nat) : mrk (intsD l) k = intsD (P1.marks (k : Int) l.length) := by
  unfold intsD
  simp only [mrk]
  congr 1
  refine List.ext_getElem? (fun i => ?_)
  by_cases hi : i < l.length
  · have h1 : (l.map intD)[i]? = some (intD l[i]) := by rw [List.getElem?_map, List.getElem?_eq_getElem hi]; rfl
    rw [mrkAll_get k h1, plain_take (ints_plain l) i (by rw [List.length_map]; omega), List.getElem?_map, List.getElem?_eq_getElem (by rw [P1.marks_length]; exact hi), Option.map_some, P1.marks_get]
    simp [intD, mrk, mrkV]
  · rw [List.getElem?_eq_none (by rw [mrkAll_length, List.length_map]; omega), List.getElem?_eq_none (by rw [List.length_map, P1.marks_length]; omega)]

set_option maxHeartbeats 1000000 in
theorem heldItems_calls (w : World) (T : Tys) (l : List It) (k : Nat) (v : Value) (hl : l.length ≤ 1048576) (hk0 : 1 ≤ k) (hk : k ≤ 500000000) (h : Reads w v (mrk (itemsD T l) k)) :
    Calls Try.prog 67 #[v, .int .i64 k] w fun e w' => e = .returned (.int .i64 ((k + l.length * 2 : Nat) : Int)) ∧ Below w.heap.size w w' := by
  unfold itemsD at h
  simp only [mrk] at h
  obtain ⟨a, cap, rfl, hc⟩ := marked_cells h (itC_len l) (by decide)
  have HC := hide hc
  obtain ⟨n, Hn⟩ : ∃ n, Hid (n = l.length) := ⟨_, hide rfl⟩
  have hn : n ≤ 1048576 := by rw [Hn.out]; exact hl
  rw [← Hn.out]
  clear h hc hl
  go_enter Try.func67, Try.ntmps67
  go_wp2
  go_loopw [1, 5] (fun q i wr => ∃ j : Nat, j ≤ n ∧ i = .int .i64 j ∧ q = .int .i64 ((k + j * 2 : Nat) : Int) ∧ Below w.heap.size w wr) (fun _ i _ => n - (intOf i).toNat)
  case atStart => exact ⟨0, Nat.zero_le _, rfl, rfl, Below.refl _ _⟩
  case round =>
    obtain ⟨j, hj, rfl, rfl, hbel⟩ := hrel
    by_cases hlt : j < n
    · have hjl : j < l.length := by rw [← Hn.out]; exact hlt
      have hg0 := flatMap_get itC 2 (fun _ => rfl) l j 0 hjl (by decide)
      have hg1 := flatMap_get itC 2 (fun _ => rfl) l j 1 hjl (by decide)
      simp only [itC, List.getElem?_cons_zero, List.getElem?_cons_succ] at hg0 hg1
      obtain ⟨g, off, u0, rfl, hg, c0, r0⟩ := HC.out j 0 _ hg0
      obtain ⟨g', off', u1, e1, -, c1, r1⟩ := HC.out j 1 _ hg1
      cases e1
      have hlen := itC_len l
      rw [plain_take (itC_plain l) (j * 2 + 0) (by omega)] at r0
      rw [plain_take (itC_plain l) (j * 2 + 1) (by omega)] at r1
      simp only [textD, boolD, mrk, mrkV, Reads, Nat.add_zero] at r0 r1 c0
      subst r0 r1
      rw [← Nat.add_assoc] at c1
      rw [show ((k + (j * 2 + 1) : Nat) : Int) = (k : Int) + (j : Int) * 2 + 1 by omega] at c1
      have hmt := fun (wx : World) => markText_calls (k + j * 2) (by omega) (by omega) wx
      rw [show ((k + j * 2 : Nat) : Int) = (k : Int) + (j : Int) * 2 by omega] at hmt
      obtain ⟨z, Hz⟩ : ∃ z, Hid (z = (mtext (k + j * 2)).toArray) := ⟨_, hide rfl⟩
      rw [← Hz.out] at hmt c0
      have hce : ∀ p : Near w.heap.size w, p.w.cell? ⟨g, off + j * 2, none⟩ = some (.string ⟨z⟩) := fun p => (p.h.cell hg).trans c0
      have HC1 := hide (fun (p : Near w.heap.size w) => (p.h.cell (p := ⟨g, off + j * 2 + 1, none⟩) hg).trans c1)
      have Hmt := hide hmt
      clear hmt c0 c1 hg0 hg1 hlen
      have hne := Near.some w.heap.size w
      go_wp2
      refine wp_region_near w.heap.size w hbel (by kernel_rfl) (by kernel_rfl) ?_
      repeat (go_big_quiet_step (exact calls_near (Nat.le_refl _) (Hmt.out _)))
      refine wpQuiet_nil ?_
      rintro wx ⟨q, rfl⟩
      have hqb := q.h
      have c1 := HC1.out q
      obtain ⟨wx, hq⟩ := q
      simp only at hqb c1 ⊢
      clear hq hce hne HC1
      go_wp2
      go_roundw
      case rel => exact ⟨j + 1, by omega, by go_num, by go_num, hqb⟩
      case measure => simp [intOf]; omega
    · obtain rfl : j = n := by omega
      go_wp2
      go_ret
      exact ⟨by rfl, hbel⟩

set_option maxHeartbeats 1000000 in
theorem heldShelves_calls (w : World) (T : Tys) (l : List Shf) (k : Nat) (v : Value) (hl : l.length ≤ 1048576) (hs : ∀ x ∈ l, x.items.length ≤ 1048576) (hk : k + leaves (shelvesD T l) ≤ 400000000) (h : Reads w v (mrk (shelvesD T l) k)) :
    Calls Try.prog 55 #[v, .int .i64 k] w fun e w' => e = .returned (.int .i64 ((k + leaves (shelvesD T l) : Nat) : Int)) ∧ Below w.heap.size w w' := by
  unfold shelvesD at h
  simp only [mrk] at h
  obtain ⟨a, cap, rfl, hc⟩ := marked_cells h (shC_len T l) (by decide)
  have HC := hide hc
  obtain ⟨n, Hn⟩ : ∃ n, Hid (n = l.length) := ⟨_, hide rfl⟩
  obtain ⟨L, HL⟩ : ∃ L, Hid (L = leaves (shelvesD T l)) := ⟨_, hide rfl⟩
  have hn : n ≤ 1048576 := by rw [Hn.out]; exact hl
  have hL : k + L ≤ 400000000 := by rw [HL.out]; exact hk
  rw [← Hn.out, ← HL.out]
  clear h hc hl hk
  go_enter Try.func55, Try.ntmps55
  go_wp2
  go_loopw [1, 5] (fun q i wr => ∃ j kj : Nat, j ≤ n ∧ i = .int .i64 j ∧ q = .int .i64 ((k : Int) + (kj : Int)) ∧ Hid (kj = leavesAll ((l.flatMap (shC T)).take (j * 2))) ∧ Hid (Below w.heap.size w wr)) (fun _ i _ => n - (intOf i).toNat)
  case atStart => exact ⟨0, 0, Nat.zero_le _, rfl, by simp, rfl, Below.refl _ _⟩
  case round =>
    obtain ⟨j, kj, hj, rfl, rfl, HK, HB⟩ := hrel
    have hkL : kj ≤ L := by
      rw [HK.out, HL.out]
      unfold shelvesD leaves
      exact leaves_take_le _ _
    by_cases hlt : j < n
    · have hjl : j < l.length := by rw [← Hn.out]; exact hlt
      have hg0 := flatMap_get (shC T) 2 (fun _ => rfl) l j 0 hjl (by decide)
      have hg1 := flatMap_get (shC T) 2 (fun _ => rfl) l j 1 hjl (by decide)
      simp only [shC, List.getElem?_cons_zero, List.getElem?_cons_succ] at hg0 hg1
      obtain ⟨g, off, u0, rfl, hg, c0, r0⟩ := HC.out j 0 _ hg0
      obtain ⟨g', off', u1, e1, -, c1, r1⟩ := HC.out j 1 _ hg1
      cases e1
      have hil := hs _ (List.getElem_mem hjl)
      have hkj := HK.out
      rw [Nat.add_zero] at hg0
      have ht1 := leaves_take hg0
      rw [← hkj] at ht1
      simp only [intD, leaves] at ht1
      have ht2 := leaves_take hg1
      rw [ht1, leaves_items, show j * 2 + 1 + 1 = (j + 1) * 2 by omega] at ht2
      have hk2 : kj + 1 + l[j].items.length * 2 ≤ L := by
        rw [← ht2, HL.out]
        unfold shelvesD leaves
        exact leaves_take_le _ _
      rw [Nat.add_zero, ← hkj] at r0
      rw [ht1] at r1
      simp only [intD, mrk, mrkV, Reads, Nat.add_zero] at r0 c0
      subst r0
      rw [← Nat.add_assoc] at c1
      rw [show ((k + kj : Nat) : Int) = (k : Int) + (kj : Int) by omega] at c0
      replace c0 := (HB.out.cell (p := ⟨g, off + j * 2, none⟩) hg).trans c0
      replace c1 := (HB.out.cell (p := ⟨g, off + j * 2 + 1, none⟩) hg).trans c1
      have r1' := r1.below HB.out (Nat.le_refl _)
      have hcall := heldItems_calls wr T l[j].items (k + (kj + 1)) u1 hil (by omega) (by omega) r1'
      rw [show ((k + (kj + 1) : Nat) : Int) = (k : Int) + (kj : Int) + 1 by omega] at hcall
      have HCL := hide hcall
      have HT2 := hide ht2
      clear hg0 hg1 ht1 ht2 r1 r1' hcall hkj HK
      go_wp2_with fail
      refine HCL.out.mono ?_
      rintro e w2 ⟨rfl, hb2⟩
      have HB2 := hide (HB.out.trans (hb2.mono HB.out.size))
      clear hb2 HB HCL c0 c1
      go_wp2
      go_roundw
      case rel => exact ⟨j + 1, kj + 1 + l[j].items.length * 2, by omega, by go_num, by go_num, HT2.out.symm, HB2.out⟩
      case measure => simp [intOf]; omega
    · obtain rfl : j = n := by omega
      have h2 := HK.out
      have hlen := shC_len T l
      rw [List.take_of_length_le (by rw [hlen, ← Hn.out]; omega)] at h2
      have h3 : kj = L := by rw [h2, HL.out]; unfold shelvesD leaves; rfl
      subst h3
      clear h2 hlen HK
      go_wp2
      go_ret
      exact ⟨by go_num, HB.out⟩

set_option maxHeartbeats 4000000 in
theorem heldPeers_calls (w : World) (T : Tys) (l : List Pr) (k : Nat) (v : Value) (hl : l.length ≤ 1048576) (hs : ∀ x ∈ l, SmallM x) (hk : k + leaves (peersD T l) ≤ 300000000) (h : Reads w v (mrk (peersD T l) k)) :
    Calls Try.prog 33 #[v, .int .i64 k] w fun e w' => e = .returned (.int .i64 ((k + leaves (peersD T l) : Nat) : Int)) ∧ Below w.heap.size w w' := by
  unfold peersD at h
  simp only [mrk] at h
  obtain ⟨a, cap, rfl, hc⟩ := marked_cells h (prC_len T l) (by decide)
  have HC := hide hc
  obtain ⟨n, Hn⟩ : ∃ n, Hid (n = l.length) := ⟨_, hide rfl⟩
  obtain ⟨L, HL⟩ : ∃ L, Hid (L = leaves (peersD T l)) := ⟨_, hide rfl⟩
  have hn : n ≤ 1048576 := by rw [Hn.out]; exact hl
  have hL : k + L ≤ 300000000 := by rw [HL.out]; exact hk
  have HSM := hide hs
  rw [← Hn.out, ← HL.out]
  clear h hc hl hk hs
  go_enter Try.func33, Try.ntmps33
  go_wp2
  go_loopw [1, 5] (fun q i wr => ∃ j kj : Nat, j ≤ n ∧ i = .int .i64 j ∧ q = .int .i64 ((k : Int) + (kj : Int)) ∧ Hid (kj = leavesAll ((l.flatMap (prC T)).take (j * 6))) ∧ Hid (Below w.heap.size w wr)) (fun _ i _ => n - (intOf i).toNat)
  case atStart => exact ⟨0, 0, Nat.zero_le _, rfl, by simp, rfl, Below.refl _ _⟩
  case round =>
    obtain ⟨j, kj, hj, rfl, rfl, HK, HB⟩ := hrel
    have hkL : kj ≤ L := by
      rw [HK.out, HL.out, leaves_peers]
      exact leaves_take_le _ _
    by_cases hlt : j < n
    · have hjl : j < l.length := by rw [← Hn.out]; exact hlt
      have hg := fun i hi => flatMap_get (prC T) 6 (fun _ => rfl) l j i hjl hi
      have hg0 := hg 0 (by decide)
      have hg1 := hg 1 (by decide)
      have hg2 := hg 2 (by decide)
      have hg3 := hg 3 (by decide)
      have hg4 := hg 4 (by decide)
      have hg5 := hg 5 (by decide)
      simp only [prC, List.getElem?_cons_zero, List.getElem?_cons_succ] at hg0 hg1 hg2 hg3 hg4 hg5
      obtain ⟨g, off, u0, rfl, hgw, c0, r0⟩ := HC.out j 0 _ hg0
      obtain ⟨_, _, u1, e1, -, c1, r1⟩ := HC.out j 1 _ hg1
      cases e1
      obtain ⟨_, _, u2, e1, -, c2, r2⟩ := HC.out j 2 _ hg2
      cases e1
      obtain ⟨_, _, u3, e1, -, c3, r3⟩ := HC.out j 3 _ hg3
      cases e1
      obtain ⟨_, _, u4, e1, -, c4, r4⟩ := HC.out j 4 _ hg4
      cases e1
      obtain ⟨_, _, u5, e1, -, c5, r5⟩ := HC.out j 5 _ hg5
      cases e1
      obtain ⟨lb, lf, ls, li⟩ := HSM.out _ (List.getElem_mem hjl)
      have hkj := HK.out
      rw [Nat.add_zero] at hg0
      have t1 := leaves_take hg0
      rw [← hkj] at t1
      simp only [intD, leaves] at t1
      have t2 := leaves_take hg1
      rw [t1] at t2
      simp only [boolD, leaves] at t2
      have t3 := leaves_take hg2
      rw [t2] at t3
      simp only [intD, leaves] at t3
      have t4 := leaves_take hg3
      rw [t3, leaves_ints] at t4
      have t5 := leaves_take hg4
      rw [t4, leaves_ints] at t5
      have t6 := leaves_take hg5
      rw [t5] at t6
      have hk6 := leaves_take_le (l.flatMap (prC T)) (j * 6 + 5 + 1)
      rw [t6, ← leaves_peers, ← HL.out] at hk6
      rw [show j * 6 + 5 + 1 = (j + 1) * 6 by omega] at t6
      obtain ⟨M, eM⟩ : ∃ M, M = leaves (shelvesD T l[j].shelves) := ⟨_, rfl⟩
      rw [← eM] at t6 hk6
      rw [Nat.add_zero, ← hkj] at r0
      rw [t1] at r1
      rw [t2] at r2
      rw [t3, mrk_ints] at r3
      rw [t4, mrk_ints] at r4
      rw [t5] at r5
      simp only [intD, mrk, mrkV, Reads, Nat.add_zero] at r0 r2 c0
      simp only [boolD, mrk, mrkV, Reads] at r1
      subst r0 r1 r2
      rw [show ((k + kj : Nat) : Int) = (k : Int) + (kj : Int) by omega] at c0
      rw [show ((k + (kj + 1) : Nat) : Int) = (k : Int) + (kj : Int) + 1 by omega] at c1
      rw [show ((k + (kj + 1 + 1) : Nat) : Int) = (k : Int) + (kj : Int) + 1 + 1 by omega] at c2
      rw [← Nat.add_assoc] at c1 c2 c3 c4 c5
      have hw := fun (wx : World) (hb : Below w.heap.size w wx) (i : Nat) => hb.cell (p := ⟨g, i, none⟩) hgw
      have K := HB.out
      replace c0 := (hw _ K _).trans c0
      replace c1 := (hw _ K _).trans c1
      replace c2 := (hw _ K _).trans c2
      have HC3 := hide (fun wx hb => (hw wx hb _).trans c3)
      have HC4 := hide (fun wx hb => (hw wx hb _).trans c4)
      have HC5 := hide (fun wx hb => (hw wx hb _).trans c5)
      replace c3 := HC3.out _ K
      have H3 := hide (fun (wx : World) (hb : Below w.heap.size w wx) => heldInts_calls wx u3 (k + (kj + 1 + 1 + 1)) l[j].behind.length ((ints_of r3).below hb (Nat.le_refl _)) (by omega) (by omega))
      have H4 := hide (fun (wx : World) (hb : Below w.heap.size w wx) => heldInts_calls wx u4 (k + (kj + 1 + 1 + 1 + l[j].behind.length)) l[j].fingers.length ((ints_of r4).below hb (Nat.le_refl _)) (by omega) (by omega))
      have H5 := hide (fun (wx : World) (hb : Below w.heap.size w wx) => heldShelves_calls wx T l[j].shelves (k + (kj + 1 + 1 + 1 + l[j].behind.length + l[j].fingers.length)) u5 ls li (by rw [← eM]; omega) (r5.below hb (Nat.le_refl _)))
      rw [← eM] at H5
      have h3 := H3.out _ K
      rw [show ((k + (kj + 1 + 1 + 1) : Nat) : Int) = (k : Int) + (kj : Int) + 1 + 1 + 1 by omega] at h3
      replace H3 := hide h3
      have HT6 := hide t6
      clear hg hg0 hg1 hg2 hg3 hg4 hg5 t1 t2 t3 t4 t5 t6 r3 r4 r5 c4 c5 hw K hkj HK h3 eM
      go_wp2_with fail
      refine H3.out.mono ?_
      rintro e w3 ⟨rfl, rfl⟩
      clear c0 c1 c2 c3 HC3 H3
      have c4 := HC4.out _ HB.out
      have h4 := H4.out _ HB.out
      have hcast : ((k + (kj + 1 + 1 + 1) + l[j].behind.length : Nat) : Int) = ((k + (kj + 1 + 1 + 1 + l[j].behind.length) : Nat) : Int) := by omega
      rw [hcast]
      clear hcast
      generalize hm4 : k + (kj + 1 + 1 + 1 + l[j].behind.length) = m4 at *
      replace hm4 := hide hm4
      replace H4 := hide h4
      clear h4
      go_wp2_with fail
      refine H4.out.mono ?_
      rintro e w4 ⟨rfl, rfl⟩
      clear c4 HC4 H4
      have c5 := HC5.out _ HB.out
      have h5 := H5.out _ HB.out
      have hm4' := hm4.out
      have hcast : ((m4 + l[j].fingers.length : Nat) : Int) = ((k + (kj + 1 + 1 + 1 + l[j].behind.length + l[j].fingers.length) : Nat) : Int) := by omega
      rw [hcast]
      clear hcast hm4'
      generalize hm5 : k + (kj + 1 + 1 + 1 + l[j].behind.length + l[j].fingers.length) = m5 at *
      replace hm5 := hide hm5
      replace H5 := hide h5
      clear h5
      go_wp2_with fail
      refine H5.out.mono ?_
      rintro e w5 ⟨rfl, hb5⟩
      have HB5 := hide (HB.out.trans (hb5.mono HB.out.size))
      clear hb5 HB H5 c5 HC5
      go_wp2
      go_roundw
      case rel => exact ⟨j + 1, kj + 1 + 1 + 1 + l[j].behind.length + l[j].fingers.length + M, by omega, by go_num, by have := hm5.out; congr 1; omega, HT6.out.symm, HB5.out⟩
      case measure => simp [intOf]; omega
    · obtain rfl : j = n := by omega
      have h2 := HK.out
      have hlen := prC_len T l
      rw [List.take_of_length_le (by rw [hlen, ← Hn.out]; omega)] at h2
      have h3 : kj = L := by rw [h2, HL.out, leaves_peers]
      subst h3
      clear h2 hlen HK
      go_wp2
      go_ret
      exact ⟨by go_num, HB.out⟩

set_option maxHeartbeats 1000000 in
theorem heldRing_calls (w : World) (T : Tys) (l : List Pr) (k : Nat) (v : Value) (hl : l.length ≤ 1048576) (hs : ∀ x ∈ l, SmallM x) (hk : k + leaves (peersD T l) ≤ 300000000) (h : Reads w v (mrk (peersD T l) k)) :
    Calls Try.prog 16 #[.agg #[v], .int .i64 k] w fun e w' => e = .returned (.int .i64 ((k + leaves (peersD T l) : Nat) : Int)) ∧ Below w.heap.size w w' := by
  have hb1 := (Below.refl w.heap.size w).alloc (Nat.le_refl _) (.cells #[v] 29)
  have HO := hide (h.below hb1 (Nat.le_refl _))
  have HF1 := hide hb1
  obtain ⟨a, n, c, rfl⟩ : ∃ a n c, v = .slice a n c := by
    unfold peersD at h
    simp only [mrk] at h
    obtain ⟨a, cap, rfl, -⟩ := marked_cells h (prC_len T l) (by decide)
    exact ⟨_, _, _, rfl⟩
  have G := Blk.new w #[.slice a n c] 29
  have HSM := hide hs
  clear h hb1 hs
  go_enter Try.func16, Try.ntmps16
  go_upto_region 1 with fail
  obtain ⟨b0, e0⟩ : ∃ b, b = w.heap.size := ⟨_, rfl⟩
  rw [← e0] at G ⊢
  clear e0
  generalize w.alloc (.cells #[.slice a n c] 29) = w1 at *
  have c0 := blk_free_cell G 0 rfl
  have l0 := G.lt
  have HC := hide (heldPeers_calls w1 T l k _ hl HSM.out hk HO.out)
  clear G HO
  go_wp2_with fail
  refine HC.out.mono ?_
  rintro e w2 ⟨rfl, hb⟩
  have HF2 := hide (HF1.out.trans (hb.mono HF1.out.size))
  clear hb HC HF1 c0 l0
  go_wp2
  go_ret
  exact ⟨rfl, HF2.out⟩
end Go.Proofs.Yteladljgnbfcnaa.P9
