/- The laws' szIntS, szStep, szStepS and toStep; condition: slices of at most the greatest length.
The laws' toStepS: steps of its own memory; condition: at most 2^20 of them, and of their places.
The laws' eqStep, eqStepS and sameSteps over steps that are the same; condition: at most 2^30 of them, and of their places.
The laws' markStepS and heldStepS; condition: at most 2^20 steps and places.
The laws' heldStepS; condition: at most 2^20 steps and places.
Small facts on rows of steps that a call made; no condition. -/
import Derived.Test.YthafpkpmnhgmaaaZV
import Derived.Test.YthafpkpmnhgmaaaZS
import Derived.Test.YthafpkpmnhgmaaaZLate4
namespace Go.Proofs.Ythafpkpmnhgmaaa.P7
set_option maxRecDepth 8000
open Go.RowKit P1 P5 P6 Rc Rr

theorem szInts_calls (w : World) (a : Option Addr) (n cap : Nat) (left : Int) (hn : n ≤ 9223372036854775807) (h0 : 0 ≤ left) (h1 : left ≤ 1048576) :
    Calls Try.prog 111 #[.slice a n cap, .int .i64 left] w fun e w' => e = .returned (.int .i64 (if left < n then -1 else left - (n : Int))) ∧ w' = w := by
  by_cases h : left < n
  · rw [if_pos h]
    have hd : decide (left - (n : Int) < 0) = true := by simp; omega
    go_enter Try.func111, Try.ntmps111
    go_wp2
    go_ret
    exact ⟨rfl, rfl⟩
  · rw [if_neg h]
    have hd : decide (left - (n : Int) < 0) = false := by simp; omega
    go_enter Try.func111, Try.ntmps111
    go_wp2
    go_ret
    exact ⟨rfl, rfl⟩

set_option maxHeartbeats 400000 in
theorem szStep_calls (w : World) (s : St) (a : Option Addr) (m cap : Nat) (left : Int) (hn : m ≤ 9223372036854775807) (h0 : 0 ≤ left) (h1 : left ≤ 1048576) :
    Calls Try.prog 89 #[stepV s (.slice a m cap), .int .i64 left] w fun e w' => e = .returned (.int .i64 (if left < m then -1 else left - (m : Int))) ∧ Below w.heap.size w w' := by
  obtain ⟨⟨k, ow, on, wh, aw, an, bw, bn, u, n⟩, ⟨fa, fb, fw⟩, fr⟩ := s
  simp only [stepV]
  have HB := hide ((Below.refl w.heap.size w).alloc (Nat.le_refl _) (.cells #[.int .i64 k, .int .i64 ow, .int .i64 on, .int .i64 wh, .int .i64 aw, .int .i64 an, .int .i64 bw, .int .i64 bn, .int .i64 u, .int .i64 n, .int .i64 fa, .int .i64 fb, .int .i64 fw, .slice a m cap] 120))
  have HS := hide (fun wx => szInts_calls wx a m cap left hn h0 h1)
  generalize hr : (if left < m then -1 else left - (m : Int)) = r at *
  have hr1 : r = -1 ∨ 0 ≤ r := by
    rw [← hr]
    split
    · exact .inl rfl
    · exact .inr (by omega)
  clear hr
  go_enter Try.func89, Try.ntmps89
  go_wp2_with fail
  refine (HS.out _).mono ?_
  rintro e w2 ⟨rfl, rfl⟩
  rcases hr1 with rfl | hr1
  · go_wp2_with fail
    go_ret
    exact ⟨rfl, HB.out⟩
  · have hd : decide (r < 0) = false := by simp; omega
    go_wp2_with fail
    go_ret
    exact ⟨rfl, HB.out⟩

/-- How much steps take: each one, and each of their places. -/
def size (l : List St) : Nat := l.length + (l.map (·.fr.length)).sum

theorem sum_take_le (l : List Nat) : ∀ k, (l.take k).sum ≤ l.sum := by
  intro k
  have := List.take_append_drop k l
  have h2 := congrArg List.sum this
  rw [List.sum_append] at h2
  omega

theorem fr_le {l : List St} {s : St} (h : s ∈ l) : s.fr.length ≤ size l := by
  obtain ⟨i, hi, rfl⟩ := List.getElem_of_mem h
  have h1 := sum_take_le (l.map (·.fr.length)) (i + 1)
  rw [List.take_succ_eq_append_getElem (by simpa using hi), List.sum_append] at h1
  simp only [List.getElem_map, List.sum_cons, List.sum_nil] at h1
  unfold size
  omega

set_option maxHeartbeats 1000000 in
theorem szSteps_calls (w : World) (v : Value) (l : List St) (hv : StepsAt w v l) (hl : l.length ≤ 9223372036854775807) (hfr : ∀ s ∈ l, s.fr.length ≤ 9223372036854775807) :
    Calls Try.prog 34 #[v, .int .i64 1048576] w fun e w' => (∃ r : Int, e = .returned (.int .i64 r) ∧ (r = -1 ∨ (0 ≤ r ∧ size l ≤ 1048576))) ∧ Below w.heap.size w w' := by
  obtain ⟨a, ca, rfl, HA⟩ := hv
  replace HA := hide HA
  by_cases hbig : (1048576 : Int) < l.length
  · have hd : decide ((1048576 : Int) - (l.length : Int) < 0) = true := by simp; omega
    go_enter Try.func34, Try.ntmps34
    go_wp2_with fail
    go_ret
    exact ⟨⟨_, rfl, .inl rfl⟩, Below.refl _ _⟩
  have hd : decide ((1048576 : Int) - (l.length : Int) < 0) = false := by simp; omega
  obtain ⟨M, HM⟩ : ∃ M : Nat → Nat, Hid (M 0 = 0 ∧ (∀ i (hi : i < l.length), M (i + 1) = M i + l[i].fr.length) ∧ M l.length = (l.map (·.fr.length)).sum) := by
    refine ⟨fun i => ((l.map (·.fr.length)).take i).sum, rfl, fun i hi => ?_, ?_⟩
    · show ((l.map (·.fr.length)).take (i + 1)).sum = _
      rw [List.take_succ_eq_append_getElem (by simpa using hi), List.sum_append]
      simp
    · show ((l.map (·.fr.length)).take l.length).sum = _
      rw [List.take_of_length_le (by simp)]
  go_enter Try.func34, Try.ntmps34
  go_wp2_with fail
  clear hd
  go_loopw [1, 5] (fun q i wr => ∃ j : Nat, j ≤ l.length ∧ i = .int .i64 j ∧ q = .int .i64 (1048576 - (l.length : Int) - (M j : Nat)) ∧ (l.length + M j ≤ 1048576) ∧ Hid (Below w.heap.size w wr)) (fun _ i _ => l.length - (intOf i).toNat)
  case atStart => exact ⟨0, Nat.zero_le _, rfl, by rw [HM.out.1]; simp, by rw [HM.out.1]; omega, Below.refl _ _⟩
  case round =>
    obtain ⟨j, hj, rfl, rfl, hle, HB⟩ := hrel
    by_cases hlt : j < l.length
    · obtain ⟨g, off, rfl, hg, hc, u, hu, hI⟩ := HA.out j hlt
      have hs := HM.out.2.1 j hlt
      have hfl := hfr l[j] (List.getElem_mem hlt)
      obtain ⟨au, cu, rfl, -⟩ := hI
      generalize l[j] = s at *
      have HZ := hide (szStep_calls wr s au s.fr.length cu (1048576 - (l.length : Int) - (M j : Nat)) hfl (by omega) (by omega))
      obtain ⟨⟨k, ow, on, wh, aw, an, bw, bn, u, n⟩, ⟨fa, fb, fw⟩, fr⟩ := s
      simp only [stepV] at HZ
      have hgr : g < wr.heap.size := Nat.lt_of_lt_of_le hg HB.out.size
      have f0 : wr.cell? ⟨g, off + j * 14, none⟩ = some (.int .i64 k) := (HB.out.cell (p := ⟨g, off + j * 14, none⟩) hg).trans (hc 0 (by decide))
      have f1 : wr.cell? ⟨g, off + j * 14 + 1, none⟩ = some (.int .i64 ow) := (HB.out.cell (p := ⟨g, off + j * 14 + 1, none⟩) hg).trans (hc 1 (by decide))
      have f2 : wr.cell? ⟨g, off + j * 14 + 2, none⟩ = some (.int .i64 on) := (HB.out.cell (p := ⟨g, off + j * 14 + 2, none⟩) hg).trans (hc 2 (by decide))
      have f3 : wr.cell? ⟨g, off + j * 14 + 3, none⟩ = some (.int .i64 wh) := (HB.out.cell (p := ⟨g, off + j * 14 + 3, none⟩) hg).trans (hc 3 (by decide))
      have f4 : wr.cell? ⟨g, off + j * 14 + 4, none⟩ = some (.int .i64 aw) := (HB.out.cell (p := ⟨g, off + j * 14 + 4, none⟩) hg).trans (hc 4 (by decide))
      have f5 : wr.cell? ⟨g, off + j * 14 + 5, none⟩ = some (.int .i64 an) := (HB.out.cell (p := ⟨g, off + j * 14 + 5, none⟩) hg).trans (hc 5 (by decide))
      have f6 : wr.cell? ⟨g, off + j * 14 + 6, none⟩ = some (.int .i64 bw) := (HB.out.cell (p := ⟨g, off + j * 14 + 6, none⟩) hg).trans (hc 6 (by decide))
      have f7 : wr.cell? ⟨g, off + j * 14 + 7, none⟩ = some (.int .i64 bn) := (HB.out.cell (p := ⟨g, off + j * 14 + 7, none⟩) hg).trans (hc 7 (by decide))
      have f8 : wr.cell? ⟨g, off + j * 14 + 8, none⟩ = some (.int .i64 u) := (HB.out.cell (p := ⟨g, off + j * 14 + 8, none⟩) hg).trans (hc 8 (by decide))
      have f9 : wr.cell? ⟨g, off + j * 14 + 9, none⟩ = some (.int .i64 n) := (HB.out.cell (p := ⟨g, off + j * 14 + 9, none⟩) hg).trans (hc 9 (by decide))
      have f10 : wr.cell? ⟨g, off + j * 14 + 10, none⟩ = some (.int .i64 fa) := (HB.out.cell (p := ⟨g, off + j * 14 + 10, none⟩) hg).trans (hc 10 (by decide))
      have f11 : wr.cell? ⟨g, off + j * 14 + 11, none⟩ = some (.int .i64 fb) := (HB.out.cell (p := ⟨g, off + j * 14 + 11, none⟩) hg).trans (hc 11 (by decide))
      have f12 : wr.cell? ⟨g, off + j * 14 + 12, none⟩ = some (.int .i64 fw) := (HB.out.cell (p := ⟨g, off + j * 14 + 12, none⟩) hg).trans (hc 12 (by decide))
      have f13 : wr.cell? ⟨g, off + j * 14 + 13, none⟩ = some (.slice au fr.length cu) := (HB.out.cell (p := ⟨g, off + j * 14 + 13, none⟩) hg).trans hu
      have HS := hide hs
      clear hs hc hu
      dsimp only at HS hfl HZ
      generalize fr.length = m at *
      generalize hMj : M j = mj at *
      go_wp2_with fail
      clear f0 f1 f2 f3 f4 f5 f6 f7 f8 f9 f10 f11 f12 f13
      refine HZ.out.mono ?_
      rintro e w5 ⟨rfl, hb⟩
      have HB5 := hide (HB.out.trans (hb.mono HB.out.size))
      clear hb HZ HB
      by_cases hneg : (1048576 : Int) - (l.length : Int) - (mj : Nat) < m
      · rw [if_pos hneg]
        go_wp2_with fail
        go_ret
        exact ⟨⟨_, rfl, .inl rfl⟩, HB5.out⟩
      · rw [if_neg hneg]
        have hd : decide ((1048576 : Int) - (l.length : Int) - (mj : Nat) - (m : Int) < 0) = false := by simp; omega
        go_wp2_with fail
        go_roundw
        case rel => exact ⟨j + 1, by omega, by go_num, by rw [HS.out]; simp; omega, by rw [HS.out]; omega, HB5.out⟩
        case measure => simp [intOf]; omega
    · have hjl : j = l.length := by omega
      have hsz : size l ≤ 1048576 := by
        unfold size
        rw [← HM.out.2.2, ← hjl]
        omega
      have HZ := hide hsz
      clear hsz
      go_wp2_with fail
      go_ret
      exact ⟨⟨_, rfl, .inr ⟨by omega, HZ.out⟩⟩, HB.out⟩

set_option maxHeartbeats 1000000 in
theorem toStep_calls (s : St) (v : Value) (w : World) (hI : IntsAt w v s.fr) (hl : s.fr.length ≤ 1073741824) :
    Calls Try.prog 90 #[stepV s v] w fun e w' => ∃ v', e = .returned (stepV s v') ∧ w'.ownsRow w.heap.size 3 1 v' s.fr.length (cellsI s.fr) ∧ Below w.heap.size w w' := by
  have HTC := hide (fun wx => toCred_calls s.c wx)
  have HTF := hide (fun wx => toFact_calls s.f wx)
  have HTI := hide (fun wx (h : IntsAt wx v s.fr) => toInts_calls wx v s.fr h hl)
  have HI := hide hI
  obtain ⟨av, cv, rfl, -⟩ := hI
  obtain ⟨⟨k, ow, on, wh, aw, an, bw, bn, u, n⟩, ⟨fa, fb, fw⟩, fr⟩ := s
  simp only [stepV, credV, faV] at HTC HTF HTI HI ⊢
  generalize hm : fr.length = m at HI HTI ⊢
  obtain ⟨v, ev⟩ : ∃ v, v = Value.slice av m cv := ⟨_, rfl⟩
  clear ev
  have h1 := (Below.refl w.heap.size w).alloc (Nat.le_refl _) (.cells #[.int .i64 k, .int .i64 ow, .int .i64 on, .int .i64 wh, .int .i64 aw, .int .i64 an, .int .i64 bw, .int .i64 bn, .int .i64 u, .int .i64 n, .int .i64 fa, .int .i64 fb, .int .i64 fw, .slice av m cv] 120)
  have h2 := h1.alloc h1.size (.cells #[.int .i64 0, .int .i64 0, .int .i64 0, .int .i64 0, .int .i64 0, .int .i64 0, .int .i64 0, .int .i64 0, .int .i64 0, .int .i64 0, .int .i64 0, .int .i64 0, .int .i64 0, .slice none 0 0] 95)
  have HBA := hide (h2.alloc h2.size (.cells #[.int .i64 0, .int .i64 0, .int .i64 0, .int .i64 0, .int .i64 0, .int .i64 0, .int .i64 0, .int .i64 0, .int .i64 0, .int .i64 0, .int .i64 0, .int .i64 0, .int .i64 0, .slice none 0 0] 95))
  have k1 : ∀ (x : World) (o : Obj), Below x.heap.size x (x.alloc o) := fun x o => (Below.refl _ _).alloc (Nat.le_refl _) o
  have g0 := Blk.new w #[.int .i64 k, .int .i64 ow, .int .i64 on, .int .i64 wh, .int .i64 aw, .int .i64 an, .int .i64 bw, .int .i64 bn, .int .i64 u, .int .i64 n, .int .i64 fa, .int .i64 fb, .int .i64 fw, .slice av m cv] 120
  have g0 := g0.below (k1 _ (.cells #[.int .i64 0, .int .i64 0, .int .i64 0, .int .i64 0, .int .i64 0, .int .i64 0, .int .i64 0, .int .i64 0, .int .i64 0, .int .i64 0, .int .i64 0, .int .i64 0, .int .i64 0, .slice none 0 0] 95)) g0.lt
  have G0 := hide (g0.below (k1 _ (.cells #[.int .i64 0, .int .i64 0, .int .i64 0, .int .i64 0, .int .i64 0, .int .i64 0, .int .i64 0, .int .i64 0, .int .i64 0, .int .i64 0, .int .i64 0, .int .i64 0, .int .i64 0, .slice none 0 0] 95)) g0.lt)
  have g1 := Blk.new (w.alloc (.cells #[.int .i64 k, .int .i64 ow, .int .i64 on, .int .i64 wh, .int .i64 aw, .int .i64 an, .int .i64 bw, .int .i64 bn, .int .i64 u, .int .i64 n, .int .i64 fa, .int .i64 fb, .int .i64 fw, .slice av m cv] 120)) #[.int .i64 0, .int .i64 0, .int .i64 0, .int .i64 0, .int .i64 0, .int .i64 0, .int .i64 0, .int .i64 0, .int .i64 0, .int .i64 0, .int .i64 0, .int .i64 0, .int .i64 0, .slice none 0 0] 95
  have g1 := g1.below (k1 _ (.cells #[.int .i64 0, .int .i64 0, .int .i64 0, .int .i64 0, .int .i64 0, .int .i64 0, .int .i64 0, .int .i64 0, .int .i64 0, .int .i64 0, .int .i64 0, .int .i64 0, .int .i64 0, .slice none 0 0] 95)) g1.lt
  have g2 := Blk.new ((w.alloc (.cells #[.int .i64 k, .int .i64 ow, .int .i64 on, .int .i64 wh, .int .i64 aw, .int .i64 an, .int .i64 bw, .int .i64 bn, .int .i64 u, .int .i64 n, .int .i64 fa, .int .i64 fb, .int .i64 fw, .slice av m cv] 120)).alloc (.cells #[.int .i64 0, .int .i64 0, .int .i64 0, .int .i64 0, .int .i64 0, .int .i64 0, .int .i64 0, .int .i64 0, .int .i64 0, .int .i64 0, .int .i64 0, .int .i64 0, .int .i64 0, .slice none 0 0] 95)) #[.int .i64 0, .int .i64 0, .int .i64 0, .int .i64 0, .int .i64 0, .int .i64 0, .int .i64 0, .int .i64 0, .int .i64 0, .int .i64 0, .int .i64 0, .int .i64 0, .int .i64 0, .slice none 0 0] 95
  rw [show (w.alloc (.cells #[.int .i64 k, .int .i64 ow, .int .i64 on, .int .i64 wh, .int .i64 aw, .int .i64 an, .int .i64 bw, .int .i64 bn, .int .i64 u, .int .i64 n, .int .i64 fa, .int .i64 fb, .int .i64 fw, .slice av m cv] 120)).heap.size = w.heap.size + 1 from by simp [go_sem]] at g1
  rw [show ((w.alloc (.cells #[.int .i64 k, .int .i64 ow, .int .i64 on, .int .i64 wh, .int .i64 aw, .int .i64 an, .int .i64 bw, .int .i64 bn, .int .i64 u, .int .i64 n, .int .i64 fa, .int .i64 fb, .int .i64 fw, .slice av m cv] 120)).alloc (.cells #[.int .i64 0, .int .i64 0, .int .i64 0, .int .i64 0, .int .i64 0, .int .i64 0, .int .i64 0, .int .i64 0, .int .i64 0, .int .i64 0, .int .i64 0, .int .i64 0, .int .i64 0, .slice none 0 0] 95)).heap.size = w.heap.size + 1 + 1 from by simp [go_sem]] at g2
  have G1 := hide g1
  have G2 := hide g2
  clear h1 h2 g0 g1 g2 k1
  go_enter Try.func90, Try.ntmps90
  go_wp2_with fail
  obtain ⟨b2, e2⟩ : ∃ b, b = w.heap.size + 1 + 1 := ⟨_, rfl⟩
  obtain ⟨b1, e1⟩ : ∃ b, b = w.heap.size + 1 := ⟨_, rfl⟩
  obtain ⟨b0, e0⟩ : ∃ b, b = w.heap.size := ⟨_, rfl⟩
  have HN : Hid (b0 ≠ b2 ∧ b1 ≠ b2 ∧ b0 ≠ b1 ∧ w.heap.size ≤ b2 ∧ w.heap.size ≤ b1) := ⟨by omega, by omega, by omega, by omega, by omega⟩
  rw [← e2] at G2 ⊢
  rw [← e1] at G1 ⊢
  rw [← e0] at G0 ⊢
  clear e0 e1 e2
  generalize ((w.alloc (.cells #[.int .i64 k, .int .i64 ow, .int .i64 on, .int .i64 wh, .int .i64 aw, .int .i64 an, .int .i64 bw, .int .i64 bn, .int .i64 u, .int .i64 n, .int .i64 fa, .int .i64 fb, .int .i64 fw, .slice av m cv] 120)).alloc (.cells #[.int .i64 0, .int .i64 0, .int .i64 0, .int .i64 0, .int .i64 0, .int .i64 0, .int .i64 0, .int .i64 0, .int .i64 0, .int .i64 0, .int .i64 0, .int .i64 0, .int .i64 0, .slice none 0 0] 95)).alloc (.cells #[.int .i64 0, .int .i64 0, .int .i64 0, .int .i64 0, .int .i64 0, .int .i64 0, .int .i64 0, .int .i64 0, .int .i64 0, .int .i64 0, .int .i64 0, .int .i64 0, .int .i64 0, .slice none 0 0] 95) = w1 at *
  obtain ⟨n02, n12, n01, hw2, hw1⟩ := HN.out
  have m02 : b2 ≠ b0 := Ne.symm n02
  have m12 : b2 ≠ b1 := Ne.symm n12
  have m01 : b1 ≠ b0 := Ne.symm n01
  refine (HTC.out w1).mono ?_
  rintro e w2 ⟨rfl, hb⟩
  have G0 := hide (G0.out.below hb G0.out.lt)
  have G1 := hide (G1.out.below hb G1.out.lt)
  have G2 := hide (G2.out.below hb G2.out.lt)
  have HB := hide (HBA.out.trans (hb.mono HBA.out.size))
  clear hb HBA
  have r0 : w2.cell? ⟨b2, 0, none⟩ = some (.int .i64 0) := by rw [G2.out.cell 0]; rfl
  have r1 : w2.cell? ⟨b2, 1, none⟩ = some (.int .i64 0) := by rw [G2.out.cell 1]; rfl
  have r2 : w2.cell? ⟨b2, 2, none⟩ = some (.int .i64 0) := by rw [G2.out.cell 2]; rfl
  have r3 : w2.cell? ⟨b2, 3, none⟩ = some (.int .i64 0) := by rw [G2.out.cell 3]; rfl
  have r4 : w2.cell? ⟨b2, 4, none⟩ = some (.int .i64 0) := by rw [G2.out.cell 4]; rfl
  have r5 : w2.cell? ⟨b2, 5, none⟩ = some (.int .i64 0) := by rw [G2.out.cell 5]; rfl
  have r6 : w2.cell? ⟨b2, 6, none⟩ = some (.int .i64 0) := by rw [G2.out.cell 6]; rfl
  have r7 : w2.cell? ⟨b2, 7, none⟩ = some (.int .i64 0) := by rw [G2.out.cell 7]; rfl
  have r8 : w2.cell? ⟨b2, 8, none⟩ = some (.int .i64 0) := by rw [G2.out.cell 8]; rfl
  have r9 : w2.cell? ⟨b2, 9, none⟩ = some (.int .i64 0) := by rw [G2.out.cell 9]; rfl
  have q0 : w2.frozen? ⟨b2, 0, none⟩ = false := G2.out.free 0
  have q1 : w2.frozen? ⟨b2, 1, none⟩ = false := G2.out.free 1
  have q2 : w2.frozen? ⟨b2, 2, none⟩ = false := G2.out.free 2
  have q3 : w2.frozen? ⟨b2, 3, none⟩ = false := G2.out.free 3
  have q4 : w2.frozen? ⟨b2, 4, none⟩ = false := G2.out.free 4
  have q5 : w2.frozen? ⟨b2, 5, none⟩ = false := G2.out.free 5
  have q6 : w2.frozen? ⟨b2, 6, none⟩ = false := G2.out.free 6
  have q7 : w2.frozen? ⟨b2, 7, none⟩ = false := G2.out.free 7
  have q8 : w2.frozen? ⟨b2, 8, none⟩ = false := G2.out.free 8
  have q9 : w2.frozen? ⟨b2, 9, none⟩ = false := G2.out.free 9
  have a10 : w2.cell? ⟨b0, 10, none⟩ = some (.int .i64 fa) := by rw [G0.out.cell 10]; rfl
  have a11 : w2.cell? ⟨b0, 11, none⟩ = some (.int .i64 fb) := by rw [G0.out.cell 11]; rfl
  have a12 : w2.cell? ⟨b0, 12, none⟩ = some (.int .i64 fw) := by rw [G0.out.cell 12]; rfl
  have l0 := G0.out.lt
  have l2 := G2.out.lt
  go_wp2_with fail
  have hF := ((((((((((G2.out.set 0 (.int .i64 k)).set 1 (.int .i64 ow)).set 2 (.int .i64 on)).set 3 (.int .i64 wh)).set 4 (.int .i64 aw)).set 5 (.int .i64 an)).set 6 (.int .i64 bw)).set 7 (.int .i64 bn)).set 8 (.int .i64 u)).set 9 (.int .i64 n))
  have hO := ((((((((((G0.out.other (p := ⟨b2, 0, none⟩) n02 (.int .i64 k)).other (p := ⟨b2, 1, none⟩) n02 (.int .i64 ow)).other (p := ⟨b2, 2, none⟩) n02 (.int .i64 on)).other (p := ⟨b2, 3, none⟩) n02 (.int .i64 wh)).other (p := ⟨b2, 4, none⟩) n02 (.int .i64 aw)).other (p := ⟨b2, 5, none⟩) n02 (.int .i64 an)).other (p := ⟨b2, 6, none⟩) n02 (.int .i64 bw)).other (p := ⟨b2, 7, none⟩) n02 (.int .i64 bn)).other (p := ⟨b2, 8, none⟩) n02 (.int .i64 u)).other (p := ⟨b2, 9, none⟩) n02 (.int .i64 n))
  have hP := ((((((((((G1.out.other (p := ⟨b2, 0, none⟩) n12 (.int .i64 k)).other (p := ⟨b2, 1, none⟩) n12 (.int .i64 ow)).other (p := ⟨b2, 2, none⟩) n12 (.int .i64 on)).other (p := ⟨b2, 3, none⟩) n12 (.int .i64 wh)).other (p := ⟨b2, 4, none⟩) n12 (.int .i64 aw)).other (p := ⟨b2, 5, none⟩) n12 (.int .i64 an)).other (p := ⟨b2, 6, none⟩) n12 (.int .i64 bw)).other (p := ⟨b2, 7, none⟩) n12 (.int .i64 bn)).other (p := ⟨b2, 8, none⟩) n12 (.int .i64 u)).other (p := ⟨b2, 9, none⟩) n12 (.int .i64 n))
  have hbF := ((((((((((HB.out.setCell (p := ⟨b2, 0, none⟩) hw2 (.int .i64 k)).setCell (p := ⟨b2, 1, none⟩) hw2 (.int .i64 ow)).setCell (p := ⟨b2, 2, none⟩) hw2 (.int .i64 on)).setCell (p := ⟨b2, 3, none⟩) hw2 (.int .i64 wh)).setCell (p := ⟨b2, 4, none⟩) hw2 (.int .i64 aw)).setCell (p := ⟨b2, 5, none⟩) hw2 (.int .i64 an)).setCell (p := ⟨b2, 6, none⟩) hw2 (.int .i64 bw)).setCell (p := ⟨b2, 7, none⟩) hw2 (.int .i64 bn)).setCell (p := ⟨b2, 8, none⟩) hw2 (.int .i64 u)).setCell (p := ⟨b2, 9, none⟩) hw2 (.int .i64 n))
  refine (HTF.out _).mono ?_
  rintro e w3 ⟨rfl, hb⟩
  have G2 := hide (hF.below hb hF.lt)
  have G0 := hide (hO.below hb hO.lt)
  have G1 := hide (hP.below hb hP.lt)
  have HB := hide (hbF.trans (hb.mono hbF.size))
  clear hb hF hO hP hbF r0 q0 r1 q1 r2 q2 r3 q3 r4 q4 r5 q5 r6 q6 r7 q7 r8 q8 r9 q9 a10 a11 a12 l0 l2
  have r10 : w3.cell? ⟨b2, 10, none⟩ = some (.int .i64 0) := by rw [G2.out.cell 10]; rfl
  have r11 : w3.cell? ⟨b2, 11, none⟩ = some (.int .i64 0) := by rw [G2.out.cell 11]; rfl
  have r12 : w3.cell? ⟨b2, 12, none⟩ = some (.int .i64 0) := by rw [G2.out.cell 12]; rfl
  have q10 : w3.frozen? ⟨b2, 10, none⟩ = false := G2.out.free 10
  have q11 : w3.frozen? ⟨b2, 11, none⟩ = false := G2.out.free 11
  have q12 : w3.frozen? ⟨b2, 12, none⟩ = false := G2.out.free 12
  have a13 : w3.cell? ⟨b0, 13, none⟩ = some (.slice av m cv) := by rw [G0.out.cell 13]; rfl
  have l0 := G0.out.lt
  have l2 := G2.out.lt
  go_wp2_with fail
  have hF := (((G2.out.set 10 (.int .i64 fa)).set 11 (.int .i64 fb)).set 12 (.int .i64 fw))
  have hP := (((G1.out.other (p := ⟨b2, 10, none⟩) n12 (.int .i64 fa)).other (p := ⟨b2, 11, none⟩) n12 (.int .i64 fb)).other (p := ⟨b2, 12, none⟩) n12 (.int .i64 fw))
  have hbF := (((HB.out.setCell (p := ⟨b2, 10, none⟩) hw2 (.int .i64 fa)).setCell (p := ⟨b2, 11, none⟩) hw2 (.int .i64 fb)).setCell (p := ⟨b2, 12, none⟩) hw2 (.int .i64 fw))
  refine (HTI.out _ (HI.out.below hbF (Nat.le_refl _))).mono ?_
  rintro e w4 ⟨v', rfl, ho, hb⟩
  obtain ⟨av', cv', hsh⟩ := own_shape ho
  have G2 := hide (hF.below hb hF.lt)
  have G1 := hide (hP.below hb hP.lt)
  have HB := hide (hbF.trans (hb.mono hbF.size))
  have HOf := hide (show w4.ownsRow w.heap.size 3 1 v' m (cellsI fr) from own_mono ho hbF.size)
  have HV : Hid (∀ g, v'.ownBlock = some g → b2 < g ∧ b1 < g) := fun g hg => by
    have := hF.lt
    have := hP.lt
    rcases ho.2 with ⟨rfl, _⟩ | ⟨g', cap, cur, rfl, h2, _⟩
    · cases hg
    · have : g' = g := by simpa [Value.ownBlock] using hg
      omega
  clear hb hF hP hbF ho r10 r11 r12 q10 q11 q12 a13 l0 l2 G0
  subst hsh
  have r0 : w4.cell? ⟨b2, 0, none⟩ = some (.int .i64 k) := by rw [G2.out.cell 0]; rfl
  have r1 : w4.cell? ⟨b2, 1, none⟩ = some (.int .i64 ow) := by rw [G2.out.cell 1]; rfl
  have r2 : w4.cell? ⟨b2, 2, none⟩ = some (.int .i64 on) := by rw [G2.out.cell 2]; rfl
  have r3 : w4.cell? ⟨b2, 3, none⟩ = some (.int .i64 wh) := by rw [G2.out.cell 3]; rfl
  have r4 : w4.cell? ⟨b2, 4, none⟩ = some (.int .i64 aw) := by rw [G2.out.cell 4]; rfl
  have r5 : w4.cell? ⟨b2, 5, none⟩ = some (.int .i64 an) := by rw [G2.out.cell 5]; rfl
  have r6 : w4.cell? ⟨b2, 6, none⟩ = some (.int .i64 bw) := by rw [G2.out.cell 6]; rfl
  have r7 : w4.cell? ⟨b2, 7, none⟩ = some (.int .i64 bn) := by rw [G2.out.cell 7]; rfl
  have r8 : w4.cell? ⟨b2, 8, none⟩ = some (.int .i64 u) := by rw [G2.out.cell 8]; rfl
  have r9 : w4.cell? ⟨b2, 9, none⟩ = some (.int .i64 n) := by rw [G2.out.cell 9]; rfl
  have r10 : w4.cell? ⟨b2, 10, none⟩ = some (.int .i64 fa) := by rw [G2.out.cell 10]; rfl
  have r11 : w4.cell? ⟨b2, 11, none⟩ = some (.int .i64 fb) := by rw [G2.out.cell 11]; rfl
  have r12 : w4.cell? ⟨b2, 12, none⟩ = some (.int .i64 fw) := by rw [G2.out.cell 12]; rfl
  have r13 : w4.cell? ⟨b2, 13, none⟩ = some (.slice none 0 0) := by rw [G2.out.cell 13]; rfl
  have q13 : w4.frozen? ⟨b2, 13, none⟩ = false := G2.out.free 13
  have p0 : w4.cell? ⟨b1, 0, none⟩ = some (.int .i64 0) := by rw [G1.out.cell 0]; rfl
  have p1 : w4.cell? ⟨b1, 1, none⟩ = some (.int .i64 0) := by rw [G1.out.cell 1]; rfl
  have p2 : w4.cell? ⟨b1, 2, none⟩ = some (.int .i64 0) := by rw [G1.out.cell 2]; rfl
  have p3 : w4.cell? ⟨b1, 3, none⟩ = some (.int .i64 0) := by rw [G1.out.cell 3]; rfl
  have p4 : w4.cell? ⟨b1, 4, none⟩ = some (.int .i64 0) := by rw [G1.out.cell 4]; rfl
  have p5 : w4.cell? ⟨b1, 5, none⟩ = some (.int .i64 0) := by rw [G1.out.cell 5]; rfl
  have p6 : w4.cell? ⟨b1, 6, none⟩ = some (.int .i64 0) := by rw [G1.out.cell 6]; rfl
  have p7 : w4.cell? ⟨b1, 7, none⟩ = some (.int .i64 0) := by rw [G1.out.cell 7]; rfl
  have p8 : w4.cell? ⟨b1, 8, none⟩ = some (.int .i64 0) := by rw [G1.out.cell 8]; rfl
  have p9 : w4.cell? ⟨b1, 9, none⟩ = some (.int .i64 0) := by rw [G1.out.cell 9]; rfl
  have p10 : w4.cell? ⟨b1, 10, none⟩ = some (.int .i64 0) := by rw [G1.out.cell 10]; rfl
  have p11 : w4.cell? ⟨b1, 11, none⟩ = some (.int .i64 0) := by rw [G1.out.cell 11]; rfl
  have p12 : w4.cell? ⟨b1, 12, none⟩ = some (.int .i64 0) := by rw [G1.out.cell 12]; rfl
  have p13 : w4.cell? ⟨b1, 13, none⟩ = some (.slice none 0 0) := by rw [G1.out.cell 13]; rfl
  have t0 : w4.frozen? ⟨b1, 0, none⟩ = false := G1.out.free 0
  have t1 : w4.frozen? ⟨b1, 1, none⟩ = false := G1.out.free 1
  have t2 : w4.frozen? ⟨b1, 2, none⟩ = false := G1.out.free 2
  have t3 : w4.frozen? ⟨b1, 3, none⟩ = false := G1.out.free 3
  have t4 : w4.frozen? ⟨b1, 4, none⟩ = false := G1.out.free 4
  have t5 : w4.frozen? ⟨b1, 5, none⟩ = false := G1.out.free 5
  have t6 : w4.frozen? ⟨b1, 6, none⟩ = false := G1.out.free 6
  have t7 : w4.frozen? ⟨b1, 7, none⟩ = false := G1.out.free 7
  have t8 : w4.frozen? ⟨b1, 8, none⟩ = false := G1.out.free 8
  have t9 : w4.frozen? ⟨b1, 9, none⟩ = false := G1.out.free 9
  have t10 : w4.frozen? ⟨b1, 10, none⟩ = false := G1.out.free 10
  have t11 : w4.frozen? ⟨b1, 11, none⟩ = false := G1.out.free 11
  have t12 : w4.frozen? ⟨b1, 12, none⟩ = false := G1.out.free 12
  have t13 : w4.frozen? ⟨b1, 13, none⟩ = false := G1.out.free 13
  have l1 := G1.out.lt
  have l2 := G2.out.lt
  go_wp2_with fail
  have hP := (((((((((((((((G1.out.other (p := ⟨b2, 13, none⟩) n12 (.slice av' m cv')).set 0 (.int .i64 k)).set 1 (.int .i64 ow)).set 2 (.int .i64 on)).set 3 (.int .i64 wh)).set 4 (.int .i64 aw)).set 5 (.int .i64 an)).set 6 (.int .i64 bw)).set 7 (.int .i64 bn)).set 8 (.int .i64 u)).set 9 (.int .i64 n)).set 10 (.int .i64 fa)).set 11 (.int .i64 fb)).set 12 (.int .i64 fw)).set 13 (.slice av' m cv'))
  have hbF := (((((((((((((((HB.out.setCell (p := ⟨b2, 13, none⟩) hw2 (.slice av' m cv')).setCell (p := ⟨b1, 0, none⟩) hw1 (.int .i64 k)).setCell (p := ⟨b1, 1, none⟩) hw1 (.int .i64 ow)).setCell (p := ⟨b1, 2, none⟩) hw1 (.int .i64 on)).setCell (p := ⟨b1, 3, none⟩) hw1 (.int .i64 wh)).setCell (p := ⟨b1, 4, none⟩) hw1 (.int .i64 aw)).setCell (p := ⟨b1, 5, none⟩) hw1 (.int .i64 an)).setCell (p := ⟨b1, 6, none⟩) hw1 (.int .i64 bw)).setCell (p := ⟨b1, 7, none⟩) hw1 (.int .i64 bn)).setCell (p := ⟨b1, 8, none⟩) hw1 (.int .i64 u)).setCell (p := ⟨b1, 9, none⟩) hw1 (.int .i64 n)).setCell (p := ⟨b1, 10, none⟩) hw1 (.int .i64 fa)).setCell (p := ⟨b1, 11, none⟩) hw1 (.int .i64 fb)).setCell (p := ⟨b1, 12, none⟩) hw1 (.int .i64 fw)).setCell (p := ⟨b1, 13, none⟩) hw1 (.slice av' m cv'))
  have hO5 : (((((((((((((((w4.setCell ⟨b2, 13, none⟩ (.slice av' m cv')).setCell ⟨b1, 0, none⟩ (.int .i64 k)).setCell ⟨b1, 1, none⟩ (.int .i64 ow)).setCell ⟨b1, 2, none⟩ (.int .i64 on)).setCell ⟨b1, 3, none⟩ (.int .i64 wh)).setCell ⟨b1, 4, none⟩ (.int .i64 aw)).setCell ⟨b1, 5, none⟩ (.int .i64 an)).setCell ⟨b1, 6, none⟩ (.int .i64 bw)).setCell ⟨b1, 7, none⟩ (.int .i64 bn)).setCell ⟨b1, 8, none⟩ (.int .i64 u)).setCell ⟨b1, 9, none⟩ (.int .i64 n)).setCell ⟨b1, 10, none⟩ (.int .i64 fa)).setCell ⟨b1, 11, none⟩ (.int .i64 fb)).setCell ⟨b1, 12, none⟩ (.int .i64 fw)).setCell ⟨b1, 13, none⟩ (.slice av' m cv')).ownsRow w.heap.size 3 1 (.slice av' m cv') m (cellsI fr) := own_stay HOf.out (fun g hg => by
    obtain ⟨h1, h2⟩ := HV.out g hg
    have hx : g ≠ b1 := by omega
    have hy : g ≠ b2 := by omega
    rw [heap_other hx, heap_other hx, heap_other hx, heap_other hx, heap_other hx, heap_other hx, heap_other hx, heap_other hx, heap_other hx, heap_other hx, heap_other hx, heap_other hx, heap_other hx, heap_other hx, heap_other hy])
  clear r0 r1 r2 r3 r4 r5 r6 r7 r8 r9 r10 r11 r12 r13 q13 p0 t0 p1 t1 p2 t2 p3 t3 p4 t4 p5 t5 p6 t6 p7 t7 p8 t8 p9 t9 p10 t10 p11 t11 p12 t12 p13 t13 l1 l2 G1 G2 HB HV HOf
  generalize (((((((((((((((w4.setCell ⟨b2, 13, none⟩ (.slice av' m cv')).setCell ⟨b1, 0, none⟩ (.int .i64 k)).setCell ⟨b1, 1, none⟩ (.int .i64 ow)).setCell ⟨b1, 2, none⟩ (.int .i64 on)).setCell ⟨b1, 3, none⟩ (.int .i64 wh)).setCell ⟨b1, 4, none⟩ (.int .i64 aw)).setCell ⟨b1, 5, none⟩ (.int .i64 an)).setCell ⟨b1, 6, none⟩ (.int .i64 bw)).setCell ⟨b1, 7, none⟩ (.int .i64 bn)).setCell ⟨b1, 8, none⟩ (.int .i64 u)).setCell ⟨b1, 9, none⟩ (.int .i64 n)).setCell ⟨b1, 10, none⟩ (.int .i64 fa)).setCell ⟨b1, 11, none⟩ (.int .i64 fb)).setCell ⟨b1, 12, none⟩ (.int .i64 fw)).setCell ⟨b1, 13, none⟩ (.slice av' m cv')) = w5 at *
  have x0 : w5.cell? ⟨b1, 0, none⟩ = some (.int .i64 k) := by rw [hP.cell 0]; rfl
  have x1 : w5.cell? ⟨b1, 1, none⟩ = some (.int .i64 ow) := by rw [hP.cell 1]; rfl
  have x2 : w5.cell? ⟨b1, 2, none⟩ = some (.int .i64 on) := by rw [hP.cell 2]; rfl
  have x3 : w5.cell? ⟨b1, 3, none⟩ = some (.int .i64 wh) := by rw [hP.cell 3]; rfl
  have x4 : w5.cell? ⟨b1, 4, none⟩ = some (.int .i64 aw) := by rw [hP.cell 4]; rfl
  have x5 : w5.cell? ⟨b1, 5, none⟩ = some (.int .i64 an) := by rw [hP.cell 5]; rfl
  have x6 : w5.cell? ⟨b1, 6, none⟩ = some (.int .i64 bw) := by rw [hP.cell 6]; rfl
  have x7 : w5.cell? ⟨b1, 7, none⟩ = some (.int .i64 bn) := by rw [hP.cell 7]; rfl
  have x8 : w5.cell? ⟨b1, 8, none⟩ = some (.int .i64 u) := by rw [hP.cell 8]; rfl
  have x9 : w5.cell? ⟨b1, 9, none⟩ = some (.int .i64 n) := by rw [hP.cell 9]; rfl
  have x10 : w5.cell? ⟨b1, 10, none⟩ = some (.int .i64 fa) := by rw [hP.cell 10]; rfl
  have x11 : w5.cell? ⟨b1, 11, none⟩ = some (.int .i64 fb) := by rw [hP.cell 11]; rfl
  have x12 : w5.cell? ⟨b1, 12, none⟩ = some (.int .i64 fw) := by rw [hP.cell 12]; rfl
  have x13 : w5.cell? ⟨b1, 13, none⟩ = some (.slice av' m cv') := by rw [hP.cell 13]; rfl
  refine bodyPost_ret (v := .agg #[.int .i64 k, .int .i64 ow, .int .i64 on, .int .i64 wh, .int .i64 aw, .int .i64 an, .int .i64 bw, .int .i64 bn, .int .i64 u, .int .i64 n, .int .i64 fa, .int .i64 fb, .int .i64 fw, .slice av' m cv']) (by simp [results, Try.results90, go_sem, x0, x1, x2, x3, x4, x5, x6, x7, x8, x9, x10, x11, x12, x13]) rfl ⟨_, rfl, hO5, hbF⟩
end Go.Proofs.Ythafpkpmnhgmaaa.P7
namespace Go.Proofs.Ythafpkpmnhgmaaa.P7
set_option maxRecDepth 8000
open Go.RowKit P1 P5 P6 Rc Rr

/-- So many cells of a block written, from a place on. -/
def setsW : World → Nat → Nat → List Value → World
  | w, _, _, [] => w
  | w, g, p, c :: cs => setsW (w.setCell ⟨g, p, none⟩ c) g (p + 1) cs

theorem setsW_own {B : Nat} {e : TypeId} {size g n cap : Nat} : ∀ (cs : List Value) (p : Nat) {w : World} {xs : List Value}, w.ownsRow B e size (.slice (some ⟨g, 0, none⟩) n cap) n xs → (setsW w g p cs).ownsRow B e size (.slice (some ⟨g, 0, none⟩) n cap) n (setMany xs p cs)
  | [], _, _, _, h => h
  | c :: cs, p, _, _, h => setsW_own cs (p + 1) (h.stored p c).1

theorem setsW_other {g g' : Nat} (hg : g' ≠ g) : ∀ (cs : List Value) (p : Nat) (w : World), (setsW w g p cs).heap[g']? = w.heap[g']?
  | [], _, _ => rfl
  | _ :: cs, p, _ => (setsW_other hg cs (p + 1) _).trans (heap_other hg)

theorem setsW_size {g : Nat} : ∀ (cs : List Value) (p : Nat) (w : World), (setsW w g p cs).heap.size = w.heap.size
  | [], _, _ => rfl
  | _ :: cs, p, _ => (setsW_size cs (p + 1) _).trans (by simp [World.setCell])

theorem setsW_below {B g : Nat} (hg : B ≤ g) {a : World} : ∀ (cs : List Value) (p : Nat) {w : World}, Below B a w → Below B a (setsW w g p cs)
  | [], _, _, h => h
  | c :: cs, p, _, h => setsW_below hg cs (p + 1) (h.setCell (p := ⟨g, p, none⟩) hg c)

/-- The zero step's cells. -/
def zrec : List Value := [.int .i64 0, .int .i64 0, .int .i64 0, .int .i64 0, .int .i64 0, .int .i64 0, .int .i64 0, .int .i64 0, .int .i64 0, .int .i64 0, .int .i64 0, .int .i64 0, .int .i64 0, .slice none 0 0]

theorem zeroSteps (m : Nat) : (madeCells #[.int .i64 0, .int .i64 0, .int .i64 0, .int .i64 0, .int .i64 0, .int .i64 0, .int .i64 0, .int .i64 0, .int .i64 0, .int .i64 0, .int .i64 0, .int .i64 0, .int .i64 0, .slice none 0 0] (m * 14)).toList = (List.replicate m zrec).flatten := madeCells_recs #[.int .i64 0, .int .i64 0, .int .i64 0, .int .i64 0, .int .i64 0, .int .i64 0, .int .i64 0, .int .i64 0, .int .i64 0, .int .i64 0, .int .i64 0, .int .i64 0, .int .i64 0, .slice none 0 0] 14 rfl (by decide) m

/-- Some steps are laid, the others are zero. -/
def part (l : List St) (vs : List Value) (m : Nat) : List (List Value) := recs l vs ++ List.replicate m zrec

theorem part_all {l : List St} {vs : List Value} {m : Nat} : ∀ r ∈ part l vs m, r.length = 14 := by
  intro r hr
  rcases List.mem_append.1 hr with hr | hr
  · exact recs_all r hr
  · rw [List.eq_of_mem_replicate hr]
    rfl

theorem part_set {l : List St} {vs : List Value} (h : vs.length = l.length) (m : Nat) (s : St) (u : Value) : (part l vs (m + 1)).set l.length (stC s u) = part (l ++ [s]) (vs ++ [u]) m := by
  unfold part
  rw [List.set_append_right _ _ (by rw [recs_length h]; exact Nat.le_refl _), recs_length h, Nat.sub_self, List.replicate_succ, List.set_cons_zero, recs_snoc h, List.append_assoc]
  rfl

set_option maxHeartbeats 2000000 in
theorem toSteps_calls (w : World) (v : Value) (l : List St) (hv : StepsAt w v l) (hl : size l ≤ 1048576) :
    Calls Try.prog 35 #[v] w fun e w' => ∃ v' vs, e = .returned v' ∧ StepsOwn w' w.heap.size w'.heap.size v' l vs ∧ Below w.heap.size w w' := by
  have HV := hide hv
  obtain ⟨a, ca, rfl, HA⟩ := hv
  replace HA := hide HA
  have hll : l.length ≤ 1048576 := by unfold size at hl; omega
  have HFR : Hid (∀ s ∈ l, s.fr.length ≤ 1048576) := fun s hs => Nat.le_trans (fr_le hs) hl
  obtain ⟨i0, hi, hz0, hz1, hz2⟩ := info_parts info_step
  go_enter Try.func35, Try.ntmps35
  go_wp2_with (at_make; refine wpList_make_full _ rfl (.tmp 6) (.tmp 6) 30 rfl w.heap.size 95 i0 (.agg #[.int .i64 0, .int .i64 0, .int .i64 0, .int .i64 0, .int .i64 0, .int .i64 0, .int .i64 0, .int .i64 0, .int .i64 0, .int .i64 0, .int .i64 0, .int .i64 0, .int .i64 0, .slice none 0 0]) 14 Try.underlying30 hi hz0 hz1 .i64 .i64 _ _ l.length rfl rfl (by omega) (by omega) (by rw [hz2]; omega) (by unfold maxLen; omega) (Nat.le_refl _) ?_)
  intro w2 hown2 hgr2
  change w2.ownsRow _ _ _ _ _ (madeCells #[.int .i64 0, .int .i64 0, .int .i64 0, .int .i64 0, .int .i64 0, .int .i64 0, .int .i64 0, .int .i64 0, .int .i64 0, .int .i64 0, .int .i64 0, .int .i64 0, .int .i64 0, .slice none 0 0] (l.length * 14)).toList at hown2
  rw [zeroSteps] at hown2
  have hb2 : Below w.heap.size w w2 := (Below.refl _ _).grown hgr2 (Nat.le_refl _) (by intro k hk; cases hk)
  have HO2 := hide hown2
  have HB2 := hide hb2
  clear hown2 hgr2 hb2
  obtain ⟨g, hg⟩ : ∃ g, g = w.heap.size := ⟨_, rfl⟩
  obtain ⟨B, hB⟩ : ∃ B, B = w.heap.size := ⟨_, rfl⟩
  go_wp2
  rw [← hg]
  have HO2 : Hid (w2.ownsRow B 95 14 (.slice (some ⟨g, 0, none⟩) l.length l.length) l.length (List.replicate l.length zrec).flatten) := by show World.ownsRow _ _ _ _ _ _ _; rw [hg, hB]; exact HO2.out
  rw [← hB] at HB2
  have hgB : g = B := by omega
  have HG := hide hgB
  have hwB : w.heap.size ≤ B := by omega
  have hBw : B ≤ w.heap.size := by omega
  have Hfin : Hid (∀ wx v' vs, StepsOwn wx B wx.heap.size v' l vs → Below B w wx → ∃ v'' vs', Ending.returned v' = Ending.returned v'' ∧ StepsOwn wx w.heap.size wx.heap.size v'' l vs' ∧ Below w.heap.size w wx) := fun wx v' vs h1 h2 => ⟨v', vs, rfl, by rw [← hB]; exact h1, by rw [← hB]; exact h2⟩
  clear hg hB hgB
  go_loopw [4] (fun i wr => ∃ (k : Nat) (vs : List Value), k ≤ l.length ∧ i = .int .i64 k ∧ Hid (vs.length = k) ∧ Hid (wr.ownsRow B 95 14 (.slice (some ⟨g, 0, none⟩) l.length l.length) l.length (part (l.take k) vs (l.length - k)).flatten) ∧
      Hid (∀ (j : Nat) (u : Value) (s : St), vs[j]? = some u → l[j]? = some s → wr.ownsRow B 3 1 u s.fr.length (cellsI s.fr)) ∧ Hid (∀ (i j : Nat) (u u' : Value) (g : Nat), i ≠ j → vs[i]? = some u → vs[j]? = some u' → u.ownBlock = some g → u'.ownBlock ≠ some g) ∧ Hid (Below B w wr)) (fun i _ => l.length - (intOf i).toNat)
  case atStart => exact ⟨0, [], Nat.zero_le _, rfl, rfl, HO2.out, (by intro j u s h; simp at h), (by intro i j u u' g _ h; simp at h), HB2.out⟩
  case round =>
    clear HO2 HB2
    obtain ⟨k, vs, hk, rfl, HVL, HO, HFs, HAp, HB⟩ := hrel
    by_cases hlt : k < l.length
    · obtain ⟨ga, oa, rfl, ha, hca, u, hu, hI⟩ := HA.out k hlt
      have hsz := HB.out.size
      have hsk : l[k]? = some l[k] := by simp [hlt]
      have HT := hide (toStep_calls l[k] u wr (hI.below HB.out hwB) (Nat.le_trans (HFR.out _ (List.getElem_mem hlt)) (by decide)))
      have HTK := hide (List.take_succ_eq_append_getElem hlt)
      obtain ⟨au, cu, rfl, -⟩ := hI
      have HSK := hide hsk
      clear hsk
      generalize l[k] = s at *
      have HT' := hide HT.out
      have hga : ga < wr.heap.size := by omega
      have haB : ga < B := by omega
      obtain ⟨⟨k0, ow, on, wh, aw, an, bw, bn, u, n⟩, ⟨fa, fb, fw⟩, fr⟩ := s
      simp only [stepV] at HT'
      have f0 : wr.cell? ⟨ga, oa + k * 14, none⟩ = some (.int .i64 k0) := (HB.out.cell (p := ⟨ga, oa + k * 14, none⟩) haB).trans (hca 0 (by decide))
      have f1 : wr.cell? ⟨ga, oa + k * 14 + 1, none⟩ = some (.int .i64 ow) := (HB.out.cell (p := ⟨ga, oa + k * 14 + 1, none⟩) haB).trans (hca 1 (by decide))
      have f2 : wr.cell? ⟨ga, oa + k * 14 + 2, none⟩ = some (.int .i64 on) := (HB.out.cell (p := ⟨ga, oa + k * 14 + 2, none⟩) haB).trans (hca 2 (by decide))
      have f3 : wr.cell? ⟨ga, oa + k * 14 + 3, none⟩ = some (.int .i64 wh) := (HB.out.cell (p := ⟨ga, oa + k * 14 + 3, none⟩) haB).trans (hca 3 (by decide))
      have f4 : wr.cell? ⟨ga, oa + k * 14 + 4, none⟩ = some (.int .i64 aw) := (HB.out.cell (p := ⟨ga, oa + k * 14 + 4, none⟩) haB).trans (hca 4 (by decide))
      have f5 : wr.cell? ⟨ga, oa + k * 14 + 5, none⟩ = some (.int .i64 an) := (HB.out.cell (p := ⟨ga, oa + k * 14 + 5, none⟩) haB).trans (hca 5 (by decide))
      have f6 : wr.cell? ⟨ga, oa + k * 14 + 6, none⟩ = some (.int .i64 bw) := (HB.out.cell (p := ⟨ga, oa + k * 14 + 6, none⟩) haB).trans (hca 6 (by decide))
      have f7 : wr.cell? ⟨ga, oa + k * 14 + 7, none⟩ = some (.int .i64 bn) := (HB.out.cell (p := ⟨ga, oa + k * 14 + 7, none⟩) haB).trans (hca 7 (by decide))
      have f8 : wr.cell? ⟨ga, oa + k * 14 + 8, none⟩ = some (.int .i64 u) := (HB.out.cell (p := ⟨ga, oa + k * 14 + 8, none⟩) haB).trans (hca 8 (by decide))
      have f9 : wr.cell? ⟨ga, oa + k * 14 + 9, none⟩ = some (.int .i64 n) := (HB.out.cell (p := ⟨ga, oa + k * 14 + 9, none⟩) haB).trans (hca 9 (by decide))
      have f10 : wr.cell? ⟨ga, oa + k * 14 + 10, none⟩ = some (.int .i64 fa) := (HB.out.cell (p := ⟨ga, oa + k * 14 + 10, none⟩) haB).trans (hca 10 (by decide))
      have f11 : wr.cell? ⟨ga, oa + k * 14 + 11, none⟩ = some (.int .i64 fb) := (HB.out.cell (p := ⟨ga, oa + k * 14 + 11, none⟩) haB).trans (hca 11 (by decide))
      have f12 : wr.cell? ⟨ga, oa + k * 14 + 12, none⟩ = some (.int .i64 fw) := (HB.out.cell (p := ⟨ga, oa + k * 14 + 12, none⟩) haB).trans (hca 12 (by decide))
      have f13 : wr.cell? ⟨ga, oa + k * 14 + 13, none⟩ = some (.slice au fr.length cu) := (HB.out.cell (p := ⟨ga, oa + k * 14 + 13, none⟩) haB).trans hu
      clear hca hu HT
      generalize hfr : fr.length = m at *
      go_wp2_with fail
      clear f0 f1 f2 f3 f4 f5 f6 f7 f8 f9 f10 f11 f12 f13
      refine HT'.out.mono ?_
      rintro e w5 ⟨v5, rfl, ho5, hb⟩
      have HO5 := hide (own_below HO.out hb)
      have HFs5 : Hid (∀ (j : Nat) (u : Value) (s : St), vs[j]? = some u → l[j]? = some s → w5.ownsRow B 3 1 u s.fr.length (cellsI s.fr) ∧ ∀ g, u.ownBlock = some g → g < wr.heap.size) := fun j u s h1 h2 => ⟨own_below (HFs.out j u s h1 h2) hb, fun g hg => (own_block (HFs.out j u s h1 h2) hg).choose_spec.2.2⟩
      have HB5 := hide (HB.out.trans (hb.mono (by omega)))
      have HV5 := hide ho5
      obtain ⟨a5, c5, hsh5⟩ := own_shape ho5
      have hlen : (part (l.take k) vs (l.length - k)).flatten.length = l.length * 14 := HO5.out.1
      have hc : ∀ i, i < 14 → ∃ x, w5.cell? ⟨g, k * 14 + i, none⟩ = some x := fun i hi => by
        have hb1 : (k + 1) * 14 ≤ l.length * 14 := Nat.mul_le_mul_right _ hlt
        rw [HO5.out.cellAt (k * 14 + i) (by omega)]
        exact ⟨_, List.getElem?_eq_getElem (by rw [hlen]; omega)⟩
      have hgw : B ≤ g := by rw [HG.out]; exact Nat.le_refl _
      have hgr : g < wr.heap.size := (own_block HO.out rfl).choose_spec.2.2
      clear ho5 hb HT' HO HFs HB
      subst hsh5
      obtain ⟨o0, p0⟩ := hc 0 (by decide)
      rw [Nat.add_zero] at p0
      obtain ⟨o1, p1⟩ := hc 1 (by decide)
      obtain ⟨o2, p2⟩ := hc 2 (by decide)
      obtain ⟨o3, p3⟩ := hc 3 (by decide)
      obtain ⟨o4, p4⟩ := hc 4 (by decide)
      obtain ⟨o5, p5⟩ := hc 5 (by decide)
      obtain ⟨o6, p6⟩ := hc 6 (by decide)
      obtain ⟨o7, p7⟩ := hc 7 (by decide)
      obtain ⟨o8, p8⟩ := hc 8 (by decide)
      obtain ⟨o9, p9⟩ := hc 9 (by decide)
      obtain ⟨o10, p10⟩ := hc 10 (by decide)
      obtain ⟨o11, p11⟩ := hc 11 (by decide)
      obtain ⟨o12, p12⟩ := hc 12 (by decide)
      obtain ⟨o13, p13⟩ := hc 13 (by decide)
      have hf := fun i => HO5.out.frozenAt i
      have hgs : g < w5.heap.size := (HO5.out.lt g rfl).2
      clear hc hlen
      go_wp2
      go_roundw
      case rel =>
        have hkl : (l.take k).length = k := by rw [List.length_take]; omega
        have hrow := setsW_own [.int .i64 k0, .int .i64 ow, .int .i64 on, .int .i64 wh, .int .i64 aw, .int .i64 an, .int .i64 bw, .int .i64 bn, .int .i64 u, .int .i64 n, .int .i64 fa, .int .i64 fb, .int .i64 fw, .slice a5 m c5] (k * 14) HO5.out
        rw [flatten_set _ k _ part_all rfl (by simp only [part, List.length_append, List.length_replicate, recs_length (show vs.length = (l.take k).length by rw [hkl]; exact HVL.out), hkl]; omega)] at hrow
        have hset := part_set (l := l.take k) (vs := vs) (by rw [hkl]; exact HVL.out) (l.length - (k + 1)) ⟨⟨k0, ow, on, wh, aw, an, bw, bn, u, n⟩, ⟨fa, fb, fw⟩, fr⟩ (.slice a5 m c5)
        rw [hkl, show l.length - (k + 1) + 1 = l.length - k by omega, ← HTK.out] at hset
        have hrow' : (setsW w5 g (k * 14) [.int .i64 k0, .int .i64 ow, .int .i64 on, .int .i64 wh, .int .i64 aw, .int .i64 an, .int .i64 bw, .int .i64 bn, .int .i64 u, .int .i64 n, .int .i64 fa, .int .i64 fb, .int .i64 fw, .slice a5 m c5]).ownsRow B 95 14 (.slice (some ⟨g, 0, none⟩) l.length l.length) l.length (part (l.take (k + 1)) (vs ++ [.slice a5 m c5]) (l.length - (k + 1))).flatten := by
          rw [← hset]
          exact hrow
        have hvk : ∀ (j : Nat) (u' : Value), (vs ++ [.slice a5 m c5])[j]? = some u' → (j < k ∧ vs[j]? = some u') ∨ (j = k ∧ u' = .slice a5 m c5) := fun j u' h => by
          have hl' := HVL.out
          rcases Nat.lt_or_ge j vs.length with h' | h'
          · rw [List.getElem?_append_left h'] at h
            exact .inl ⟨by omega, h⟩
          · rw [List.getElem?_append_right h'] at h
            have : j - vs.length = 0 := by
              rcases Nat.eq_zero_or_pos (j - vs.length) with h0 | h0
              · exact h0
              · rw [List.getElem?_eq_none (by simp; omega)] at h
                cases h
            rw [this] at h
            exact .inr ⟨by omega, by simpa using h.symm⟩
        have hne : ∀ g', g' ≠ g → (setsW w5 g (k * 14) [.int .i64 k0, .int .i64 ow, .int .i64 on, .int .i64 wh, .int .i64 aw, .int .i64 an, .int .i64 bw, .int .i64 bn, .int .i64 u, .int .i64 n, .int .i64 fa, .int .i64 fb, .int .i64 fw, .slice a5 m c5]).heap[g']? = w5.heap[g']? := fun g' h => setsW_other h _ _ _
        have hbel := setsW_below hgw [.int .i64 k0, .int .i64 ow, .int .i64 on, .int .i64 wh, .int .i64 aw, .int .i64 an, .int .i64 bw, .int .i64 bn, .int .i64 u, .int .i64 n, .int .i64 fa, .int .i64 fb, .int .i64 fw, .slice a5 m c5] (k * 14) HB5.out
        simp only [setsW, Nat.add_assoc, Nat.reduceAdd] at hrow' hne hbel
        have hV : ∀ g', (Value.slice a5 m c5).ownBlock = some g' → wr.heap.size ≤ g' := fun g' h => (own_block HV5.out h).choose_spec.2.1
        refine ⟨k + 1, vs ++ [Value.slice a5 m c5], by omega, by go_num, by show _ = _; rw [List.length_append, HVL.out]; rfl, hrow', ?_, ?_, hbel⟩
        · intro j u' s' h1 h2
          rcases hvk j u' h1 with ⟨_, h3⟩ | ⟨rfl, rfl⟩
          · obtain ⟨h4, h5⟩ := HFs5.out j u' s' h3 h2
            refine own_stay h4 (fun g' hg' => hne g' ?_)
            rintro rfl
            obtain ⟨c1, h6, _⟩ := own_block h4 hg'
            obtain ⟨c2, h7, _⟩ := own_block HO5.out rfl
            rw [h6] at h7
            simp only [Option.some.injEq, Obj.cells.injEq] at h7
            have := h7.2.1
            revert this
            decide
          · rw [HSK.out] at h2
            cases h2
            refine own_stay (own_mono (show w5.ownsRow wr.heap.size 3 1 (.slice a5 m c5) fr.length (cellsI fr) by rw [hfr]; exact HV5.out) (by omega)) (fun g' hg' => hne g' ?_)
            have := hV g' hg'
            omega
        · intro i j u1 u2 g' hij h1 h2 h3 h4
          rcases hvk i u1 h1 with ⟨hi', h5⟩ | ⟨rfl, rfl⟩
          · rcases hvk j u2 h2 with ⟨hj', h6⟩ | ⟨rfl, rfl⟩
            · exact HAp.out i j u1 u2 g' hij h5 h6 h3 h4
            · have h7 := hV g' h4
              have := (HFs5.out i u1 l[i] h5 (by simp [show i < l.length by omega])).2 g' h3
              omega
          · rcases hvk j u2 h2 with ⟨hj', h6⟩ | ⟨h6, _⟩
            · have h7 := hV g' h3
              have := (HFs5.out j u2 l[j] h6 (by simp [show j < l.length by omega])).2 g' h4
              omega
            · exact hij h6.symm
      case measure => simp [intOf]; omega
    · have hkl : k = l.length := by omega
      have hO : wr.ownsRow B 95 14 (.slice (some ⟨g, 0, none⟩) l.length l.length) l.length (recs l vs).flatten := by
        have := HO.out
        rw [hkl, List.take_length, Nat.sub_self] at this
        simpa [part] using this
      have hOwn : StepsOwn wr B wr.heap.size (.slice (some ⟨g, 0, none⟩) l.length l.length) l vs := ⟨by rw [HVL.out, hkl], hO, fun g' hg' => (own_block hO hg').choose_spec.2.2, fun j u s h1 h2 => ⟨HFs.out j u s h1 h2, fun g' hg' => (own_block (HFs.out j u s h1 h2) hg').choose_spec.2.2⟩, HAp.out⟩
      have HOwn := hide hOwn
      clear hO hOwn
      go_wp2_with fail
      go_ret
      exact Hfin.out wr _ vs HOwn.out HB.out
end Go.Proofs.Ythafpkpmnhgmaaa.P7
namespace Go.Proofs.Ythafpkpmnhgmaaa.P7
set_option maxRecDepth 8000
open Go.RowKit P1 P5 P6 Rc Rr

theorem eqInts_self (w : World) (v u : Value) (l : List Int) (hv : IntsAt w v l) (hu : IntsAt w u l) (hl : l.length ≤ 1073741824) :
    Calls Try.prog 57 #[v, u] w fun e w' => e = .returned (.bool true) ∧ Below w.heap.size w w' := by
  refine (eqInts_calls w v u l l hv hu hl hl).mono ?_
  rintro e w' ⟨rfl, n, rfl⟩
  exact ⟨by simp, below_drewN (Below.refl _ _) n⟩

theorem sameInts_self (w : World) (v u : Value) (l : List Int) (hv : IntsAt w v l) (hu : IntsAt w u l) (hl : l.length ≤ 1073741824) :
    Calls Try.prog 86 #[v, u] w fun e w' => e = .returned (.bool true) ∧ Below w.heap.size w w' := by
  refine (sameInts_calls w v u l l hv hu hl hl).mono ?_
  rintro e w' ⟨rfl, n, rfl⟩
  exact ⟨by simp, below_drewN (Below.refl _ _) n⟩

set_option maxHeartbeats 1000000 in
theorem eqStep_self (s : St) (v1 v2 : Value) (w : World) (h1 : IntsAt w v1 s.fr) (h2 : IntsAt w v2 s.fr) (hl : s.fr.length ≤ 1073741824) :
    Calls Try.prog 91 #[stepV s v1, stepV s v2] w fun e w' => e = .returned (.bool true) ∧ Below w.heap.size w w' := by
  have HTC := hide (fun wx => eqCred_self s.c wx)
  have HTF := hide (fun wx => eqFact_self s.f wx)
  have HTI := hide (fun wx (hb : Below w.heap.size w wx) => eqInts_self wx v1 v2 s.fr (h1.below hb (Nat.le_refl _)) (h2.below hb (Nat.le_refl _)) hl)
  obtain ⟨a1, c1, rfl, -⟩ := h1
  obtain ⟨a2, c2, rfl, -⟩ := h2
  obtain ⟨⟨k, ow, on, wh, aw, an, bw, bn, u, n⟩, ⟨fa, fb, fw⟩, fr⟩ := s
  simp only [stepV, credV, faV] at HTC HTF HTI ⊢
  generalize fr.length = m at *
  have hb1 := (Below.refl w.heap.size w).alloc (Nat.le_refl _) (.cells #[.int .i64 k, .int .i64 ow, .int .i64 on, .int .i64 wh, .int .i64 aw, .int .i64 an, .int .i64 bw, .int .i64 bn, .int .i64 u, .int .i64 n, .int .i64 fa, .int .i64 fb, .int .i64 fw, .slice a1 m c1] 95)
  have HBA := hide (hb1.alloc hb1.size (.cells #[.int .i64 k, .int .i64 ow, .int .i64 on, .int .i64 wh, .int .i64 aw, .int .i64 an, .int .i64 bw, .int .i64 bn, .int .i64 u, .int .i64 n, .int .i64 fa, .int .i64 fb, .int .i64 fw, .slice a2 m c2] 95))
  have g0 := Blk.new w #[.int .i64 k, .int .i64 ow, .int .i64 on, .int .i64 wh, .int .i64 aw, .int .i64 an, .int .i64 bw, .int .i64 bn, .int .i64 u, .int .i64 n, .int .i64 fa, .int .i64 fb, .int .i64 fw, .slice a1 m c1] 95
  have G0 := hide (g0.below ((Below.refl _ _).alloc (Nat.le_refl _) (.cells #[.int .i64 k, .int .i64 ow, .int .i64 on, .int .i64 wh, .int .i64 aw, .int .i64 an, .int .i64 bw, .int .i64 bn, .int .i64 u, .int .i64 n, .int .i64 fa, .int .i64 fb, .int .i64 fw, .slice a2 m c2] 95)) g0.lt)
  have g1 := Blk.new (w.alloc (.cells #[.int .i64 k, .int .i64 ow, .int .i64 on, .int .i64 wh, .int .i64 aw, .int .i64 an, .int .i64 bw, .int .i64 bn, .int .i64 u, .int .i64 n, .int .i64 fa, .int .i64 fb, .int .i64 fw, .slice a1 m c1] 95)) #[.int .i64 k, .int .i64 ow, .int .i64 on, .int .i64 wh, .int .i64 aw, .int .i64 an, .int .i64 bw, .int .i64 bn, .int .i64 u, .int .i64 n, .int .i64 fa, .int .i64 fb, .int .i64 fw, .slice a2 m c2] 95
  rw [show (w.alloc (.cells #[.int .i64 k, .int .i64 ow, .int .i64 on, .int .i64 wh, .int .i64 aw, .int .i64 an, .int .i64 bw, .int .i64 bn, .int .i64 u, .int .i64 n, .int .i64 fa, .int .i64 fb, .int .i64 fw, .slice a1 m c1] 95)).heap.size = w.heap.size + 1 from by simp [go_sem]] at g1
  have G1 := hide g1
  clear hb1 g0 g1
  go_enter Try.func91, Try.ntmps91
  go_wp2_with fail
  obtain ⟨b1, e1⟩ : ∃ b, b = w.heap.size + 1 := ⟨_, rfl⟩
  obtain ⟨b0, e0⟩ : ∃ b, b = w.heap.size := ⟨_, rfl⟩
  rw [← e1] at G1 ⊢
  rw [← e0] at G0 ⊢
  clear e0 e1
  generalize (w.alloc (.cells #[.int .i64 k, .int .i64 ow, .int .i64 on, .int .i64 wh, .int .i64 aw, .int .i64 an, .int .i64 bw, .int .i64 bn, .int .i64 u, .int .i64 n, .int .i64 fa, .int .i64 fb, .int .i64 fw, .slice a1 m c1] 95)).alloc (.cells #[.int .i64 k, .int .i64 ow, .int .i64 on, .int .i64 wh, .int .i64 aw, .int .i64 an, .int .i64 bw, .int .i64 bn, .int .i64 u, .int .i64 n, .int .i64 fa, .int .i64 fb, .int .i64 fw, .slice a2 m c2] 95) = w1 at *
  refine (HTC.out w1).mono ?_
  rintro e w2 ⟨rfl, hb⟩
  have G0 := hide (G0.out.below hb G0.out.lt)
  have G1 := hide (G1.out.below hb G1.out.lt)
  have HB := hide (HBA.out.trans (hb.mono HBA.out.size))
  clear hb HBA
  have x10 : w2.cell? ⟨b0, 10, none⟩ = some (.int .i64 fa) := by rw [G0.out.cell 10]; rfl
  have x11 : w2.cell? ⟨b0, 11, none⟩ = some (.int .i64 fb) := by rw [G0.out.cell 11]; rfl
  have x12 : w2.cell? ⟨b0, 12, none⟩ = some (.int .i64 fw) := by rw [G0.out.cell 12]; rfl
  have y10 : w2.cell? ⟨b1, 10, none⟩ = some (.int .i64 fa) := by rw [G1.out.cell 10]; rfl
  have y11 : w2.cell? ⟨b1, 11, none⟩ = some (.int .i64 fb) := by rw [G1.out.cell 11]; rfl
  have y12 : w2.cell? ⟨b1, 12, none⟩ = some (.int .i64 fw) := by rw [G1.out.cell 12]; rfl
  have l0 := G0.out.lt
  have l1 := G1.out.lt
  go_wp2_with fail
  refine (HTF.out w2).mono ?_
  rintro e w3 ⟨rfl, hb⟩
  clear x10 x11 x12 y10 y11 y12 l0 l1
  have G0 := hide (G0.out.below hb G0.out.lt)
  have G1 := hide (G1.out.below hb G1.out.lt)
  have HB := hide (HB.out.trans (hb.mono HB.out.size))
  clear hb
  have x13 : w3.cell? ⟨b0, 13, none⟩ = some (.slice a1 m c1) := by rw [G0.out.cell 13]; rfl
  have y13 : w3.cell? ⟨b1, 13, none⟩ = some (.slice a2 m c2) := by rw [G1.out.cell 13]; rfl
  have l0 := G0.out.lt
  have l1 := G1.out.lt
  go_wp2_with fail
  refine (HTI.out w3 HB.out).mono ?_
  rintro e w4 ⟨rfl, hb⟩
  have HB := hide (HB.out.trans (hb.mono HB.out.size))
  clear hb x13 y13 l0 l1
  go_wp2_with fail
  go_ret
  exact ⟨rfl, HB.out⟩

set_option maxHeartbeats 1000000 in
theorem eqSteps_calls (w : World) (v u : Value) (l : List St) (hv : StepsAt w v l) (hu : StepsAt w u l) (hl : l.length ≤ 1073741824) (hfr : ∀ s ∈ l, s.fr.length ≤ 1073741824) :
    Calls Try.prog 36 #[v, u] w fun e w' => e = .returned (.bool true) ∧ Below w.heap.size w w' := by
  obtain ⟨a, ca, rfl, HA⟩ := hv
  obtain ⟨b, cb, rfl, HB⟩ := hu
  replace HA := hide HA
  replace HB := hide HB
  have hd : (((l.length : Int)) != ((l.length : Int))) = false := by simp
  go_enter Try.func36, Try.ntmps36
  go_wp2
  clear hd
  go_loopw [5] (fun i wr => ∃ k : Nat, k ≤ l.length ∧ i = .int .i64 k ∧ Hid (Below w.heap.size w wr)) (fun i _ => l.length - (intOf i).toNat)
  case atStart => exact ⟨0, Nat.zero_le _, rfl, Below.refl _ _⟩
  case round =>
    obtain ⟨j, hk, rfl, HW⟩ := hrel
    by_cases hlt : j < l.length
    · obtain ⟨ga, oa, rfl, ha, hca, ua, hua, hia⟩ := HA.out j hlt
      obtain ⟨gb, ob, rfl, hb, hcb, ub, hub, hib⟩ := HB.out j hlt
      have hsz := HW.out.size
      have HE : Hid (∀ p : Near wr.heap.size wr, Calls Try.prog 91 #[stepV l[j] ua, stepV l[j] ub] p.w fun e w' => e = .returned (.bool true) ∧ Below p.w.heap.size p.w w') := fun p => eqStep_self l[j] ua ub p.w ((hia.below HW.out (Nat.le_refl _)).below p.h (Nat.le_refl _)) ((hib.below HW.out (Nat.le_refl _)).below p.h (Nat.le_refl _)) (hfr _ (List.getElem_mem hlt))
      obtain ⟨a1, c1, rfl, -⟩ := hia
      obtain ⟨a2, c2, rfl, -⟩ := hib
      generalize l[j] = s at *
      obtain ⟨⟨k, ow, on, wh, aw, an, bw, bn, u, n⟩, ⟨fa, fb, fw⟩, fr⟩ := s
      have hga : ga < wr.heap.size := by omega
      have hgb : gb < wr.heap.size := by omega
      simp only [stepV] at HE
      have na0 : ∀ p : Near wr.heap.size wr, p.w.cell? ⟨ga, oa + j * 14, none⟩ = some (.int .i64 k) := fun p => (p.h.cell (p := ⟨ga, oa + j * 14, none⟩) hga).trans ((HW.out.cell (p := ⟨ga, oa + j * 14, none⟩) ha).trans (hca 0 (by decide)))
      have na1 : ∀ p : Near wr.heap.size wr, p.w.cell? ⟨ga, oa + j * 14 + 1, none⟩ = some (.int .i64 ow) := fun p => (p.h.cell (p := ⟨ga, oa + j * 14 + 1, none⟩) hga).trans ((HW.out.cell (p := ⟨ga, oa + j * 14 + 1, none⟩) ha).trans (hca 1 (by decide)))
      have na2 : ∀ p : Near wr.heap.size wr, p.w.cell? ⟨ga, oa + j * 14 + 2, none⟩ = some (.int .i64 on) := fun p => (p.h.cell (p := ⟨ga, oa + j * 14 + 2, none⟩) hga).trans ((HW.out.cell (p := ⟨ga, oa + j * 14 + 2, none⟩) ha).trans (hca 2 (by decide)))
      have na3 : ∀ p : Near wr.heap.size wr, p.w.cell? ⟨ga, oa + j * 14 + 3, none⟩ = some (.int .i64 wh) := fun p => (p.h.cell (p := ⟨ga, oa + j * 14 + 3, none⟩) hga).trans ((HW.out.cell (p := ⟨ga, oa + j * 14 + 3, none⟩) ha).trans (hca 3 (by decide)))
      have na4 : ∀ p : Near wr.heap.size wr, p.w.cell? ⟨ga, oa + j * 14 + 4, none⟩ = some (.int .i64 aw) := fun p => (p.h.cell (p := ⟨ga, oa + j * 14 + 4, none⟩) hga).trans ((HW.out.cell (p := ⟨ga, oa + j * 14 + 4, none⟩) ha).trans (hca 4 (by decide)))
      have na5 : ∀ p : Near wr.heap.size wr, p.w.cell? ⟨ga, oa + j * 14 + 5, none⟩ = some (.int .i64 an) := fun p => (p.h.cell (p := ⟨ga, oa + j * 14 + 5, none⟩) hga).trans ((HW.out.cell (p := ⟨ga, oa + j * 14 + 5, none⟩) ha).trans (hca 5 (by decide)))
      have na6 : ∀ p : Near wr.heap.size wr, p.w.cell? ⟨ga, oa + j * 14 + 6, none⟩ = some (.int .i64 bw) := fun p => (p.h.cell (p := ⟨ga, oa + j * 14 + 6, none⟩) hga).trans ((HW.out.cell (p := ⟨ga, oa + j * 14 + 6, none⟩) ha).trans (hca 6 (by decide)))
      have na7 : ∀ p : Near wr.heap.size wr, p.w.cell? ⟨ga, oa + j * 14 + 7, none⟩ = some (.int .i64 bn) := fun p => (p.h.cell (p := ⟨ga, oa + j * 14 + 7, none⟩) hga).trans ((HW.out.cell (p := ⟨ga, oa + j * 14 + 7, none⟩) ha).trans (hca 7 (by decide)))
      have na8 : ∀ p : Near wr.heap.size wr, p.w.cell? ⟨ga, oa + j * 14 + 8, none⟩ = some (.int .i64 u) := fun p => (p.h.cell (p := ⟨ga, oa + j * 14 + 8, none⟩) hga).trans ((HW.out.cell (p := ⟨ga, oa + j * 14 + 8, none⟩) ha).trans (hca 8 (by decide)))
      have na9 : ∀ p : Near wr.heap.size wr, p.w.cell? ⟨ga, oa + j * 14 + 9, none⟩ = some (.int .i64 n) := fun p => (p.h.cell (p := ⟨ga, oa + j * 14 + 9, none⟩) hga).trans ((HW.out.cell (p := ⟨ga, oa + j * 14 + 9, none⟩) ha).trans (hca 9 (by decide)))
      have na10 : ∀ p : Near wr.heap.size wr, p.w.cell? ⟨ga, oa + j * 14 + 10, none⟩ = some (.int .i64 fa) := fun p => (p.h.cell (p := ⟨ga, oa + j * 14 + 10, none⟩) hga).trans ((HW.out.cell (p := ⟨ga, oa + j * 14 + 10, none⟩) ha).trans (hca 10 (by decide)))
      have na11 : ∀ p : Near wr.heap.size wr, p.w.cell? ⟨ga, oa + j * 14 + 11, none⟩ = some (.int .i64 fb) := fun p => (p.h.cell (p := ⟨ga, oa + j * 14 + 11, none⟩) hga).trans ((HW.out.cell (p := ⟨ga, oa + j * 14 + 11, none⟩) ha).trans (hca 11 (by decide)))
      have na12 : ∀ p : Near wr.heap.size wr, p.w.cell? ⟨ga, oa + j * 14 + 12, none⟩ = some (.int .i64 fw) := fun p => (p.h.cell (p := ⟨ga, oa + j * 14 + 12, none⟩) hga).trans ((HW.out.cell (p := ⟨ga, oa + j * 14 + 12, none⟩) ha).trans (hca 12 (by decide)))
      have na13 : ∀ p : Near wr.heap.size wr, p.w.cell? ⟨ga, oa + j * 14 + 13, none⟩ = some (.slice a1 fr.length c1) := fun p => (p.h.cell (p := ⟨ga, oa + j * 14 + 13, none⟩) hga).trans ((HW.out.cell (p := ⟨ga, oa + j * 14 + 13, none⟩) ha).trans hua)
      have nb0 : ∀ p : Near wr.heap.size wr, p.w.cell? ⟨gb, ob + j * 14, none⟩ = some (.int .i64 k) := fun p => (p.h.cell (p := ⟨gb, ob + j * 14, none⟩) hgb).trans ((HW.out.cell (p := ⟨gb, ob + j * 14, none⟩) hb).trans (hcb 0 (by decide)))
      have nb1 : ∀ p : Near wr.heap.size wr, p.w.cell? ⟨gb, ob + j * 14 + 1, none⟩ = some (.int .i64 ow) := fun p => (p.h.cell (p := ⟨gb, ob + j * 14 + 1, none⟩) hgb).trans ((HW.out.cell (p := ⟨gb, ob + j * 14 + 1, none⟩) hb).trans (hcb 1 (by decide)))
      have nb2 : ∀ p : Near wr.heap.size wr, p.w.cell? ⟨gb, ob + j * 14 + 2, none⟩ = some (.int .i64 on) := fun p => (p.h.cell (p := ⟨gb, ob + j * 14 + 2, none⟩) hgb).trans ((HW.out.cell (p := ⟨gb, ob + j * 14 + 2, none⟩) hb).trans (hcb 2 (by decide)))
      have nb3 : ∀ p : Near wr.heap.size wr, p.w.cell? ⟨gb, ob + j * 14 + 3, none⟩ = some (.int .i64 wh) := fun p => (p.h.cell (p := ⟨gb, ob + j * 14 + 3, none⟩) hgb).trans ((HW.out.cell (p := ⟨gb, ob + j * 14 + 3, none⟩) hb).trans (hcb 3 (by decide)))
      have nb4 : ∀ p : Near wr.heap.size wr, p.w.cell? ⟨gb, ob + j * 14 + 4, none⟩ = some (.int .i64 aw) := fun p => (p.h.cell (p := ⟨gb, ob + j * 14 + 4, none⟩) hgb).trans ((HW.out.cell (p := ⟨gb, ob + j * 14 + 4, none⟩) hb).trans (hcb 4 (by decide)))
      have nb5 : ∀ p : Near wr.heap.size wr, p.w.cell? ⟨gb, ob + j * 14 + 5, none⟩ = some (.int .i64 an) := fun p => (p.h.cell (p := ⟨gb, ob + j * 14 + 5, none⟩) hgb).trans ((HW.out.cell (p := ⟨gb, ob + j * 14 + 5, none⟩) hb).trans (hcb 5 (by decide)))
      have nb6 : ∀ p : Near wr.heap.size wr, p.w.cell? ⟨gb, ob + j * 14 + 6, none⟩ = some (.int .i64 bw) := fun p => (p.h.cell (p := ⟨gb, ob + j * 14 + 6, none⟩) hgb).trans ((HW.out.cell (p := ⟨gb, ob + j * 14 + 6, none⟩) hb).trans (hcb 6 (by decide)))
      have nb7 : ∀ p : Near wr.heap.size wr, p.w.cell? ⟨gb, ob + j * 14 + 7, none⟩ = some (.int .i64 bn) := fun p => (p.h.cell (p := ⟨gb, ob + j * 14 + 7, none⟩) hgb).trans ((HW.out.cell (p := ⟨gb, ob + j * 14 + 7, none⟩) hb).trans (hcb 7 (by decide)))
      have nb8 : ∀ p : Near wr.heap.size wr, p.w.cell? ⟨gb, ob + j * 14 + 8, none⟩ = some (.int .i64 u) := fun p => (p.h.cell (p := ⟨gb, ob + j * 14 + 8, none⟩) hgb).trans ((HW.out.cell (p := ⟨gb, ob + j * 14 + 8, none⟩) hb).trans (hcb 8 (by decide)))
      have nb9 : ∀ p : Near wr.heap.size wr, p.w.cell? ⟨gb, ob + j * 14 + 9, none⟩ = some (.int .i64 n) := fun p => (p.h.cell (p := ⟨gb, ob + j * 14 + 9, none⟩) hgb).trans ((HW.out.cell (p := ⟨gb, ob + j * 14 + 9, none⟩) hb).trans (hcb 9 (by decide)))
      have nb10 : ∀ p : Near wr.heap.size wr, p.w.cell? ⟨gb, ob + j * 14 + 10, none⟩ = some (.int .i64 fa) := fun p => (p.h.cell (p := ⟨gb, ob + j * 14 + 10, none⟩) hgb).trans ((HW.out.cell (p := ⟨gb, ob + j * 14 + 10, none⟩) hb).trans (hcb 10 (by decide)))
      have nb11 : ∀ p : Near wr.heap.size wr, p.w.cell? ⟨gb, ob + j * 14 + 11, none⟩ = some (.int .i64 fb) := fun p => (p.h.cell (p := ⟨gb, ob + j * 14 + 11, none⟩) hgb).trans ((HW.out.cell (p := ⟨gb, ob + j * 14 + 11, none⟩) hb).trans (hcb 11 (by decide)))
      have nb12 : ∀ p : Near wr.heap.size wr, p.w.cell? ⟨gb, ob + j * 14 + 12, none⟩ = some (.int .i64 fw) := fun p => (p.h.cell (p := ⟨gb, ob + j * 14 + 12, none⟩) hgb).trans ((HW.out.cell (p := ⟨gb, ob + j * 14 + 12, none⟩) hb).trans (hcb 12 (by decide)))
      have nb13 : ∀ p : Near wr.heap.size wr, p.w.cell? ⟨gb, ob + j * 14 + 13, none⟩ = some (.slice a2 fr.length c2) := fun p => (p.h.cell (p := ⟨gb, ob + j * 14 + 13, none⟩) hgb).trans ((HW.out.cell (p := ⟨gb, ob + j * 14 + 13, none⟩) hb).trans hub)
      have hnn := Near.some wr.heap.size wr
      clear hca hcb hua hub
      generalize fr.length = m at *
      go_wp2_with fail
      refine wp_region_near wr.heap.size wr (Below.refl _ _) (by kernel_rfl) (by kernel_rfl) ?_
      repeat (go_big_quiet_step (fail))
      go_big_quiet_step (exact calls_near (Nat.le_refl _) (HE.out _))
      repeat (go_big_quiet_step (fail))
      refine wpQuiet_nil ?_
      rintro w3 ⟨pq, rfl⟩
      have hqb := pq.h
      obtain ⟨w3, hq⟩ := pq
      simp only at hqb ⊢
      have HW3 := hide (HW.out.trans (hqb.mono hsz))
      clear hq hqb hnn na0 nb0 na1 nb1 na2 nb2 na3 nb3 na4 nb4 na5 nb5 na6 nb6 na7 nb7 na8 nb8 na9 nb9 na10 nb10 na11 nb11 na12 nb12 na13 nb13
      go_wp2
      go_roundw
      case rel => exact ⟨j + 1, by omega, by go_num, HW3.out⟩
      case measure => simp [intOf]; omega
    · go_wp2
      go_ret
      exact ⟨rfl, HW.out⟩

set_option maxHeartbeats 2000000 in
theorem sameSteps_calls (w : World) (v u : Value) (l : List St) (hv : StepsAt w v l) (hu : StepsAt w u l) (hl : l.length ≤ 1073741824) (hfr : ∀ s ∈ l, s.fr.length ≤ 1073741824) :
    Calls Try.prog 31 #[v, u] w fun e w' => e = .returned (.bool true) ∧ Below w.heap.size w w' := by
  obtain ⟨a, ca, rfl, HA⟩ := hv
  obtain ⟨b, cb, rfl, HB⟩ := hu
  replace HA := hide HA
  replace HB := hide HB
  have hd : (((l.length : Int)) != ((l.length : Int))) = false := by simp
  go_enter Try.func31, Try.ntmps31
  go_wp2
  clear hd
  go_loopw [5] (fun i wr => ∃ k : Nat, k ≤ l.length ∧ i = .int .i64 k ∧ Hid (Below w.heap.size w wr)) (fun i _ => l.length - (intOf i).toNat)
  case atStart => exact ⟨0, Nat.zero_le _, rfl, Below.refl _ _⟩
  case round =>
    obtain ⟨j, hk, rfl, HW⟩ := hrel
    by_cases hlt : j < l.length
    · obtain ⟨ga, oa, rfl, ha, hca, ua, hua, hia⟩ := HA.out j hlt
      obtain ⟨gb, ob, rfl, hb, hcb, ub, hub, hib⟩ := HB.out j hlt
      have hsz := HW.out.size
      have HE : Hid (∀ p : Near wr.heap.size wr, Calls Try.prog 86 #[ua, ub] p.w fun e w' => e = .returned (.bool true) ∧ Below p.w.heap.size p.w w') := fun p => sameInts_self p.w ua ub l[j].fr ((hia.below HW.out (Nat.le_refl _)).below p.h (Nat.le_refl _)) ((hib.below HW.out (Nat.le_refl _)).below p.h (Nat.le_refl _)) (hfr _ (List.getElem_mem hlt))
      obtain ⟨a1, c1, rfl, -⟩ := hia
      obtain ⟨a2, c2, rfl, -⟩ := hib
      generalize l[j] = s at *
      obtain ⟨⟨k, ow, on, wh, aw, an, bw, bn, u, n⟩, ⟨fa, fb, fw⟩, fr⟩ := s
      have hga : ga < wr.heap.size := by omega
      have hgb : gb < wr.heap.size := by omega
      have na0 : ∀ p : Near wr.heap.size wr, p.w.cell? ⟨ga, oa + j * 14, none⟩ = some (.int .i64 k) := fun p => (p.h.cell (p := ⟨ga, oa + j * 14, none⟩) hga).trans ((HW.out.cell (p := ⟨ga, oa + j * 14, none⟩) ha).trans (hca 0 (by decide)))
      have na1 : ∀ p : Near wr.heap.size wr, p.w.cell? ⟨ga, oa + j * 14 + 1, none⟩ = some (.int .i64 ow) := fun p => (p.h.cell (p := ⟨ga, oa + j * 14 + 1, none⟩) hga).trans ((HW.out.cell (p := ⟨ga, oa + j * 14 + 1, none⟩) ha).trans (hca 1 (by decide)))
      have na2 : ∀ p : Near wr.heap.size wr, p.w.cell? ⟨ga, oa + j * 14 + 2, none⟩ = some (.int .i64 on) := fun p => (p.h.cell (p := ⟨ga, oa + j * 14 + 2, none⟩) hga).trans ((HW.out.cell (p := ⟨ga, oa + j * 14 + 2, none⟩) ha).trans (hca 2 (by decide)))
      have na3 : ∀ p : Near wr.heap.size wr, p.w.cell? ⟨ga, oa + j * 14 + 3, none⟩ = some (.int .i64 wh) := fun p => (p.h.cell (p := ⟨ga, oa + j * 14 + 3, none⟩) hga).trans ((HW.out.cell (p := ⟨ga, oa + j * 14 + 3, none⟩) ha).trans (hca 3 (by decide)))
      have na4 : ∀ p : Near wr.heap.size wr, p.w.cell? ⟨ga, oa + j * 14 + 4, none⟩ = some (.int .i64 aw) := fun p => (p.h.cell (p := ⟨ga, oa + j * 14 + 4, none⟩) hga).trans ((HW.out.cell (p := ⟨ga, oa + j * 14 + 4, none⟩) ha).trans (hca 4 (by decide)))
      have na5 : ∀ p : Near wr.heap.size wr, p.w.cell? ⟨ga, oa + j * 14 + 5, none⟩ = some (.int .i64 an) := fun p => (p.h.cell (p := ⟨ga, oa + j * 14 + 5, none⟩) hga).trans ((HW.out.cell (p := ⟨ga, oa + j * 14 + 5, none⟩) ha).trans (hca 5 (by decide)))
      have na6 : ∀ p : Near wr.heap.size wr, p.w.cell? ⟨ga, oa + j * 14 + 6, none⟩ = some (.int .i64 bw) := fun p => (p.h.cell (p := ⟨ga, oa + j * 14 + 6, none⟩) hga).trans ((HW.out.cell (p := ⟨ga, oa + j * 14 + 6, none⟩) ha).trans (hca 6 (by decide)))
      have na7 : ∀ p : Near wr.heap.size wr, p.w.cell? ⟨ga, oa + j * 14 + 7, none⟩ = some (.int .i64 bn) := fun p => (p.h.cell (p := ⟨ga, oa + j * 14 + 7, none⟩) hga).trans ((HW.out.cell (p := ⟨ga, oa + j * 14 + 7, none⟩) ha).trans (hca 7 (by decide)))
      have na8 : ∀ p : Near wr.heap.size wr, p.w.cell? ⟨ga, oa + j * 14 + 8, none⟩ = some (.int .i64 u) := fun p => (p.h.cell (p := ⟨ga, oa + j * 14 + 8, none⟩) hga).trans ((HW.out.cell (p := ⟨ga, oa + j * 14 + 8, none⟩) ha).trans (hca 8 (by decide)))
      have na9 : ∀ p : Near wr.heap.size wr, p.w.cell? ⟨ga, oa + j * 14 + 9, none⟩ = some (.int .i64 n) := fun p => (p.h.cell (p := ⟨ga, oa + j * 14 + 9, none⟩) hga).trans ((HW.out.cell (p := ⟨ga, oa + j * 14 + 9, none⟩) ha).trans (hca 9 (by decide)))
      have na10 : ∀ p : Near wr.heap.size wr, p.w.cell? ⟨ga, oa + j * 14 + 10, none⟩ = some (.int .i64 fa) := fun p => (p.h.cell (p := ⟨ga, oa + j * 14 + 10, none⟩) hga).trans ((HW.out.cell (p := ⟨ga, oa + j * 14 + 10, none⟩) ha).trans (hca 10 (by decide)))
      have na11 : ∀ p : Near wr.heap.size wr, p.w.cell? ⟨ga, oa + j * 14 + 11, none⟩ = some (.int .i64 fb) := fun p => (p.h.cell (p := ⟨ga, oa + j * 14 + 11, none⟩) hga).trans ((HW.out.cell (p := ⟨ga, oa + j * 14 + 11, none⟩) ha).trans (hca 11 (by decide)))
      have na12 : ∀ p : Near wr.heap.size wr, p.w.cell? ⟨ga, oa + j * 14 + 12, none⟩ = some (.int .i64 fw) := fun p => (p.h.cell (p := ⟨ga, oa + j * 14 + 12, none⟩) hga).trans ((HW.out.cell (p := ⟨ga, oa + j * 14 + 12, none⟩) ha).trans (hca 12 (by decide)))
      have na13 : ∀ p : Near wr.heap.size wr, p.w.cell? ⟨ga, oa + j * 14 + 13, none⟩ = some (.slice a1 fr.length c1) := fun p => (p.h.cell (p := ⟨ga, oa + j * 14 + 13, none⟩) hga).trans ((HW.out.cell (p := ⟨ga, oa + j * 14 + 13, none⟩) ha).trans hua)
      have nb0 : ∀ p : Near wr.heap.size wr, p.w.cell? ⟨gb, ob + j * 14, none⟩ = some (.int .i64 k) := fun p => (p.h.cell (p := ⟨gb, ob + j * 14, none⟩) hgb).trans ((HW.out.cell (p := ⟨gb, ob + j * 14, none⟩) hb).trans (hcb 0 (by decide)))
      have nb1 : ∀ p : Near wr.heap.size wr, p.w.cell? ⟨gb, ob + j * 14 + 1, none⟩ = some (.int .i64 ow) := fun p => (p.h.cell (p := ⟨gb, ob + j * 14 + 1, none⟩) hgb).trans ((HW.out.cell (p := ⟨gb, ob + j * 14 + 1, none⟩) hb).trans (hcb 1 (by decide)))
      have nb2 : ∀ p : Near wr.heap.size wr, p.w.cell? ⟨gb, ob + j * 14 + 2, none⟩ = some (.int .i64 on) := fun p => (p.h.cell (p := ⟨gb, ob + j * 14 + 2, none⟩) hgb).trans ((HW.out.cell (p := ⟨gb, ob + j * 14 + 2, none⟩) hb).trans (hcb 2 (by decide)))
      have nb3 : ∀ p : Near wr.heap.size wr, p.w.cell? ⟨gb, ob + j * 14 + 3, none⟩ = some (.int .i64 wh) := fun p => (p.h.cell (p := ⟨gb, ob + j * 14 + 3, none⟩) hgb).trans ((HW.out.cell (p := ⟨gb, ob + j * 14 + 3, none⟩) hb).trans (hcb 3 (by decide)))
      have nb4 : ∀ p : Near wr.heap.size wr, p.w.cell? ⟨gb, ob + j * 14 + 4, none⟩ = some (.int .i64 aw) := fun p => (p.h.cell (p := ⟨gb, ob + j * 14 + 4, none⟩) hgb).trans ((HW.out.cell (p := ⟨gb, ob + j * 14 + 4, none⟩) hb).trans (hcb 4 (by decide)))
      have nb5 : ∀ p : Near wr.heap.size wr, p.w.cell? ⟨gb, ob + j * 14 + 5, none⟩ = some (.int .i64 an) := fun p => (p.h.cell (p := ⟨gb, ob + j * 14 + 5, none⟩) hgb).trans ((HW.out.cell (p := ⟨gb, ob + j * 14 + 5, none⟩) hb).trans (hcb 5 (by decide)))
      have nb6 : ∀ p : Near wr.heap.size wr, p.w.cell? ⟨gb, ob + j * 14 + 6, none⟩ = some (.int .i64 bw) := fun p => (p.h.cell (p := ⟨gb, ob + j * 14 + 6, none⟩) hgb).trans ((HW.out.cell (p := ⟨gb, ob + j * 14 + 6, none⟩) hb).trans (hcb 6 (by decide)))
      have nb7 : ∀ p : Near wr.heap.size wr, p.w.cell? ⟨gb, ob + j * 14 + 7, none⟩ = some (.int .i64 bn) := fun p => (p.h.cell (p := ⟨gb, ob + j * 14 + 7, none⟩) hgb).trans ((HW.out.cell (p := ⟨gb, ob + j * 14 + 7, none⟩) hb).trans (hcb 7 (by decide)))
      have nb8 : ∀ p : Near wr.heap.size wr, p.w.cell? ⟨gb, ob + j * 14 + 8, none⟩ = some (.int .i64 u) := fun p => (p.h.cell (p := ⟨gb, ob + j * 14 + 8, none⟩) hgb).trans ((HW.out.cell (p := ⟨gb, ob + j * 14 + 8, none⟩) hb).trans (hcb 8 (by decide)))
      have nb9 : ∀ p : Near wr.heap.size wr, p.w.cell? ⟨gb, ob + j * 14 + 9, none⟩ = some (.int .i64 n) := fun p => (p.h.cell (p := ⟨gb, ob + j * 14 + 9, none⟩) hgb).trans ((HW.out.cell (p := ⟨gb, ob + j * 14 + 9, none⟩) hb).trans (hcb 9 (by decide)))
      have nb10 : ∀ p : Near wr.heap.size wr, p.w.cell? ⟨gb, ob + j * 14 + 10, none⟩ = some (.int .i64 fa) := fun p => (p.h.cell (p := ⟨gb, ob + j * 14 + 10, none⟩) hgb).trans ((HW.out.cell (p := ⟨gb, ob + j * 14 + 10, none⟩) hb).trans (hcb 10 (by decide)))
      have nb11 : ∀ p : Near wr.heap.size wr, p.w.cell? ⟨gb, ob + j * 14 + 11, none⟩ = some (.int .i64 fb) := fun p => (p.h.cell (p := ⟨gb, ob + j * 14 + 11, none⟩) hgb).trans ((HW.out.cell (p := ⟨gb, ob + j * 14 + 11, none⟩) hb).trans (hcb 11 (by decide)))
      have nb12 : ∀ p : Near wr.heap.size wr, p.w.cell? ⟨gb, ob + j * 14 + 12, none⟩ = some (.int .i64 fw) := fun p => (p.h.cell (p := ⟨gb, ob + j * 14 + 12, none⟩) hgb).trans ((HW.out.cell (p := ⟨gb, ob + j * 14 + 12, none⟩) hb).trans (hcb 12 (by decide)))
      have nb13 : ∀ p : Near wr.heap.size wr, p.w.cell? ⟨gb, ob + j * 14 + 13, none⟩ = some (.slice a2 fr.length c2) := fun p => (p.h.cell (p := ⟨gb, ob + j * 14 + 13, none⟩) hgb).trans ((HW.out.cell (p := ⟨gb, ob + j * 14 + 13, none⟩) hb).trans hub)
      have hnn := Near.some wr.heap.size wr
      clear hca hcb hua hub
      dsimp only at HE
      generalize fr.length = m at *
      go_wp2_with fail
      refine wp_region_near wr.heap.size wr (Below.refl _ _) (by kernel_rfl) (by kernel_rfl) ?_
      repeat (go_big_quiet_step (fail))
      go_big_quiet_step (exact calls_near (Nat.le_refl _) (HE.out _))
      repeat (go_big_quiet_step (fail))
      refine wpQuiet_nil ?_
      rintro w3 ⟨pq, rfl⟩
      have hqb := pq.h
      obtain ⟨w3, hq⟩ := pq
      simp only at hqb ⊢
      have HW3 := hide (HW.out.trans (hqb.mono hsz))
      clear hq hqb hnn na0 nb0 na1 nb1 na2 nb2 na3 nb3 na4 nb4 na5 nb5 na6 nb6 na7 nb7 na8 nb8 na9 nb9 na10 nb10 na11 nb11 na12 nb12 na13 nb13
      go_wp2
      go_roundw
      case rel => exact ⟨j + 1, by omega, by go_num, HW3.out⟩
      case measure => simp [intOf]; omega
    · go_wp2
      go_ret
      exact ⟨rfl, HW.out⟩
end Go.Proofs.Ythafpkpmnhgmaaa.P7
namespace Go.Proofs.Ythafpkpmnhgmaaa.P7
set_option maxRecDepth 8000
open Go.RowKit P1 P5 P6 Rc Rr

/-- A step with marks in all its numbers. -/
def mk (s : St) (k : Nat) : St := ⟨⟨(k : Int), (k : Int) + 1, (k : Int) + 2, (k : Int) + 3, (k : Int) + 4, (k : Int) + 5, (k : Int) + 6, (k : Int) + 7, (k : Int) + 8, (k : Int) + 9⟩, ⟨(k : Int) + 10, (k : Int) + 11, (k : Int) + 12⟩, marks ((k + 13 : Nat) : Int) s.fr.length⟩

/-- The mark that the j-th step opens with. -/
def kA (l : List St) (k j : Nat) : Nat := k + 13 * j + ((l.take j).map (·.fr.length)).sum

theorem kA_succ (l : List St) (k j : Nat) (h : j < l.length) : kA l k (j + 1) = kA l k j + 13 + l[j].fr.length := by
  unfold kA
  rw [List.take_succ_eq_append_getElem h, List.map_append, List.sum_append]
  simp
  omega

theorem kA_le (l : List St) (k j : Nat) (hj : j ≤ l.length) : kA l k j ≤ k + 13 * size l := by
  have h1 := sum_take_le (l.map (·.fr.length)) j
  rw [← List.map_take] at h1
  unfold kA size
  omega

def markS (l : List St) (k : Nat) : List St := l.mapIdx fun j s => mk s (kA l k j)

theorem markS_length (l : List St) (k : Nat) : (markS l k).length = l.length := by simp [markS]

theorem markS_get (l : List St) (k j : Nat) (h : j < l.length) : (markS l k)[j]? = some (mk l[j] (kA l k j)) := by simp [markS, h]

/-- The first j steps are marked. -/
def half (l : List St) (k j : Nat) : List St := (markS l k).take j ++ l.drop j

theorem half_length (l : List St) (k j : Nat) (h : j ≤ l.length) : (half l k j).length = l.length := by
  simp [half, markS_length]
  omega

theorem half_at (l : List St) (k j : Nat) (h : j < l.length) : (half l k j)[j]? = some l[j] := by
  unfold half
  have hl : ((markS l k).take j).length = j := by rw [List.length_take, markS_length]; omega
  rw [List.getElem?_append_right (by omega), hl, Nat.sub_self, List.getElem?_drop]
  simp [h]

theorem half_set (l : List St) (k j : Nat) (h : j < l.length) : (half l k j).set j (mk l[j] (kA l k j)) = half l k (j + 1) := by
  have hl : ((markS l k).take j).length = j := by rw [List.length_take, markS_length]; omega
  have hg : (markS l k)[j]'(by rw [markS_length]; exact h) = mk l[j] (kA l k j) := by
    have := markS_get l k j h
    rw [List.getElem?_eq_getElem (by rw [markS_length]; exact h)] at this
    exact Option.some.inj this
  unfold half
  rw [List.set_append_right _ _ (by omega), hl, Nat.sub_self, List.drop_eq_getElem_cons h, List.set_cons_zero, List.take_succ_eq_append_getElem (by rw [markS_length]; exact h), List.append_assoc, hg]
  rfl

theorem half_all (l : List St) (k : Nat) : half l k l.length = markS l k := by
  unfold half
  rw [List.drop_length, List.append_nil, List.take_of_length_le (by rw [markS_length]; exact Nat.le_refl _)]

theorem recs_set {l : List St} {vs : List Value} {j : Nat} {u : Value} (h : vs[j]? = some u) (s : St) : recs (l.set j s) vs = (recs l vs).set j (stC s u) := by
  apply List.ext_getElem?
  intro i
  unfold recs
  rw [List.getElem?_zipWith, List.getElem?_set, List.getElem?_set, List.getElem?_zipWith, List.length_zipWith]
  by_cases hij : j = i
  · subst hij
    have hv : j < vs.length := (List.getElem?_eq_some_iff.1 h).1
    have hvu : vs[j] = u := by
      rw [List.getElem?_eq_getElem hv] at h
      exact Option.some.inj h
    by_cases hl : j < l.length
    · simp [hl, hv, hvu]
      omega
    · simp [hl]
      omega
  · simp [hij]

theorem setMany_append {α : Type} : ∀ (a b X : List α) (p : Nat), setMany X p (a ++ b) = setMany (setMany X p a) (p + a.length) b
  | [], _, _, _ => rfl
  | c :: a, b, X, p => by
    show setMany (X.set p c) (p + 1) (a ++ b) = setMany (setMany (X.set p c) (p + 1) a) (p + (a.length + 1)) b
    rw [setMany_append a b, show p + 1 + a.length = p + (a.length + 1) by omega]

theorem setMany_past {α : Type} : ∀ (a X : List α) (p q : Nat), p + a.length ≤ q → (setMany X p a)[q]? = X[q]?
  | [], _, _, _, _ => rfl
  | c :: a, X, p, q, h => by
    show (setMany (X.set p c) (p + 1) a)[q]? = _
    have h' : p + (a.length + 1) ≤ q := h
    rw [setMany_past a _ _ _ (by omega), List.getElem?_set_ne (by omega)]

theorem set_self {α : Type} {X : List α} {q : Nat} {x : α} (h : X[q]? = some x) : X.set q x = X := by
  obtain ⟨hlt, rfl⟩ := List.getElem?_eq_some_iff.1 h
  simp

/-- The thirteen numbers of a step written over. -/
theorem set13 {R : List (List Value)} {j : Nat} {cs : List Value} {s : St} {u : Value} (hall : ∀ r ∈ R, r.length = 14) (hj : R[j]? = some (stC s u)) (hc : cs.length = 13) : setMany R.flatten (j * 14) cs = (R.set j (cs ++ [u])).flatten := by
  have hlt := (List.getElem?_eq_some_iff.1 hj).1
  rw [← flatten_set R j (cs ++ [u]) hall (by rw [List.length_append, hc]; rfl) hlt, setMany_append, hc]
  have hu : (setMany R.flatten (j * 14) cs)[j * 14 + 13]? = some u := by
    rw [setMany_past _ _ _ _ (by omega), flatten_get R j 13 _ hall hj (by omega)]
    rfl
  exact (set_self hu).symm

/-- Only blocks B .. E - 1 have changed. -/
structure Within (B E : Nat) (w w' : World) : Prop where
  os : w'.os = w.os
  tape : w'.tape = w.tape
  output : w'.output = w.output
  size : w.heap.size ≤ w'.heap.size
  block : ∀ g, g < w.heap.size → g < B ∨ E ≤ g → w'.heap[g]? = w.heap[g]?

theorem Within.refl (B E : Nat) (w : World) : Within B E w w := ⟨rfl, rfl, rfl, Nat.le_refl _, fun _ _ _ => rfl⟩
theorem Within.trans {B E : Nat} {a b c : World} (h : Within B E a b) (k : Within B E b c) : Within B E a c :=
  ⟨k.os.trans h.os, k.tape.trans h.tape, k.output.trans h.output, Nat.le_trans h.size k.size, fun g hg hn => (k.block g (Nat.lt_of_lt_of_le hg h.size) hn).trans (h.block g hg hn)⟩
theorem Within.below {B E : Nat} {w w' : World} (h : Within B E w w') (hB : B ≤ w.heap.size) : Below B w w' := ⟨h.os, h.tape, h.output, h.size, fun g hg => h.block g (by omega) (.inl hg)⟩
theorem Within.grown {B E : Nat} {w w' : World} {r : Option Nat} (h : w.grownBy w' r) (hr : ∀ g, r = some g → B ≤ g ∧ g < E) : Within B E w w' :=
  ⟨h.os, h.tape, h.output, h.size, fun g hg hn => h.block g hg (fun e => by have := hr g e.symm; omega)⟩

theorem setsW_grown {B : Nat} {e : TypeId} {size g n cap : Nat} : ∀ (cs : List Value) (p : Nat) {w : World} {xs : List Value}, w.ownsRow B e size (.slice (some ⟨g, 0, none⟩) n cap) n xs → w.grownBy (setsW w g p cs) (some g)
  | [], _, _, _, _ => ⟨rfl, rfl, rfl, Nat.le_refl _, fun _ _ _ => rfl⟩
  | c :: cs, p, _, _, h => grown_then (h.stored p c).2 (setsW_grown cs (p + 1) (h.stored p c).1)

/-- The steps behind a step that was marked: its numbers, then its places. -/
theorem mark_next {w w5 : World} {B E g cap : Nat} {l : List St} {vs : List Value} {j K : Nat} {s : St} {u : Value} {n : Nat} (h : StepsOwn w B E (.slice (some ⟨g, 0, none⟩) n cap) l vs) (hs : l[j]? = some s) (hu : vs[j]? = some u)
    (hm : w5.ownsRow B 3 1 u s.fr.length (cellsI (marks ((K + 13 : Nat) : Int) s.fr.length))) (hg5 : (setsW w g (j * 14) [.int .i64 (K : Int), .int .i64 ((K : Int) + 1), .int .i64 ((K : Int) + 2), .int .i64 ((K : Int) + 3), .int .i64 ((K : Int) + 4), .int .i64 ((K : Int) + 5), .int .i64 ((K : Int) + 6), .int .i64 ((K : Int) + 7), .int .i64 ((K : Int) + 8), .int .i64 ((K : Int) + 9), .int .i64 ((K : Int) + 10), .int .i64 ((K : Int) + 11), .int .i64 ((K : Int) + 12)]).grownBy w5 u.ownBlock) :
    StepsOwn w5 B E (.slice (some ⟨g, 0, none⟩) n cap) (l.set j (mk s K)) vs ∧ Within B E w w5 := by
  have hn : n = l.length := by
    rcases h.row.2 with ⟨h1, _⟩ | ⟨_, _, _, h1, _⟩
    · simp at h1
    · simp only [Value.slice.injEq] at h1
      exact h1.2.1
  subst hn
  have hgb := own_block h.row rfl
  obtain ⟨curg, hcg, hBg, hlg⟩ := hgb
  have hEg := h.top g rfl
  have hjl : j < l.length := (List.getElem?_eq_some_iff.1 hs).1
  have hro := setsW_own [.int .i64 (K : Int), .int .i64 ((K : Int) + 1), .int .i64 ((K : Int) + 2), .int .i64 ((K : Int) + 3), .int .i64 ((K : Int) + 4), .int .i64 ((K : Int) + 5), .int .i64 ((K : Int) + 6), .int .i64 ((K : Int) + 7), .int .i64 ((K : Int) + 8), .int .i64 ((K : Int) + 9), .int .i64 ((K : Int) + 10), .int .i64 ((K : Int) + 11), .int .i64 ((K : Int) + 12)] (j * 14) h.row
  rw [set13 recs_all (recs_get hs hu) rfl] at hro
  have hro' : (setsW w g (j * 14) [.int .i64 (K : Int), .int .i64 ((K : Int) + 1), .int .i64 ((K : Int) + 2), .int .i64 ((K : Int) + 3), .int .i64 ((K : Int) + 4), .int .i64 ((K : Int) + 5), .int .i64 ((K : Int) + 6), .int .i64 ((K : Int) + 7), .int .i64 ((K : Int) + 8), .int .i64 ((K : Int) + 9), .int .i64 ((K : Int) + 10), .int .i64 ((K : Int) + 11), .int .i64 ((K : Int) + 12)]).ownsRow B 95 14 (.slice (some ⟨g, 0, none⟩) l.length cap) l.length (recs (l.set j (mk s K)) vs).flatten := by
    rw [recs_set hu]
    exact hro
  have hgr := setsW_grown (B := B) (e := 95) (size := 14) [.int .i64 (K : Int), .int .i64 ((K : Int) + 1), .int .i64 ((K : Int) + 2), .int .i64 ((K : Int) + 3), .int .i64 ((K : Int) + 4), .int .i64 ((K : Int) + 5), .int .i64 ((K : Int) + 6), .int .i64 ((K : Int) + 7), .int .i64 ((K : Int) + 8), .int .i64 ((K : Int) + 9), .int .i64 ((K : Int) + 10), .int .i64 ((K : Int) + 11), .int .i64 ((K : Int) + 12)] (j * 14) h.row
  have hty : ∀ (i : Nat) (u' : Value) (s' : St), vs[i]? = some u' → l[i]? = some s' → ∀ g', u'.ownBlock = some g' → g' ≠ g := fun i u' s' h1 h2 g' hg' e => by
    subst e
    obtain ⟨c1, h3, _⟩ := own_block (h.froms i u' s' h1 h2).1 hg'
    rw [hcg] at h3
    simp only [Option.some.injEq, Obj.cells.injEq] at h3
    have := h3.2.1
    revert this
    decide
  have hub : ∀ g', u.ownBlock = some g' → B ≤ g' ∧ g' < E ∧ g' ≠ g := fun g' hg' => by
    obtain ⟨_, _, h3, _⟩ := own_block (h.froms j u s hu hs).1 hg'
    exact ⟨h3, (h.froms j u s hu hs).2 g' hg', hty j u s hu hs g' hg'⟩
  refine ⟨⟨by rw [h.len, List.length_set], ?_, h.top, ?_, h.apart⟩, (Within.grown hgr (fun g' e => by cases e; exact ⟨hBg, hEg⟩)).trans (Within.grown hg5 (fun g' e => ⟨(hub g' e).1, (hub g' e).2.1⟩))⟩
  · rw [List.length_set]
    refine own_stay hro' (fun g' hg' => ?_)
    cases hg'
    exact hg5.block g (Nat.lt_of_lt_of_le hlg hgr.size) (fun e => (hub g e.symm).2.2 rfl)
  · intro i u' s' h1 h2
    by_cases hij : j = i
    · subst hij
      rw [List.getElem?_set_self hjl] at h2
      cases h2
      rw [hu] at h1
      cases h1
      refine ⟨?_, (h.froms j u s hu hs).2⟩
      show w5.ownsRow B 3 1 u (marks ((K + 13 : Nat) : Int) s.fr.length).length (cellsI (marks ((K + 13 : Nat) : Int) s.fr.length))
      rw [marks_length]
      exact hm
    · rw [List.getElem?_set_ne hij] at h2
      obtain ⟨h3, h4⟩ := h.froms i u' s' h1 h2
      refine ⟨own_stay h3 (fun g' hg' => ?_), h4⟩
      obtain ⟨_, _, _, hlt⟩ := own_block h3 hg'
      rw [hg5.block g' (Nat.lt_of_lt_of_le hlt hgr.size) (fun e => h.apart i j u' u g' (Ne.symm hij) h1 hu hg' e.symm)]
      exact hgr.block g' hlt (fun e => hty i u' s' h1 h2 g' hg' (by simpa using e))

set_option maxHeartbeats 2000000 in
theorem markSteps_calls (w : World) (B E : Nat) (v : Value) (l : List St) (vs : List Value) (k : Nat) (hv : StepsOwn w B E v l vs) (hk : k ≤ 16) (hl : size l ≤ 1048576) :
    Calls Try.prog 42 #[v, .int .i64 k] w fun e w' => e = .returned (.int .i64 ((kA l k l.length : Nat) : Int)) ∧ StepsOwn w' B E v (markS l k) vs ∧ Within B E w w' := by
  have HV := hide hv
  have hll : l.length ≤ 1048576 := by unfold size at hl; omega
  obtain ⟨KA, HK⟩ : ∃ KA : Nat → Nat, Hid (KA 0 = k ∧ (∀ j (hj : j < l.length), KA (j + 1) = KA j + 13 + l[j].fr.length) ∧ (∀ j, j ≤ l.length → KA j ≤ 16777216) ∧ (∀ j, KA j = kA l k j)) := ⟨kA l k, by simp [kA], fun j hj => kA_succ l k j hj, fun j hj => by have := kA_le l k j hj; omega, fun _ => rfl⟩
  rw [← HK.out.2.2.2]
  rcases hv.row.2 with ⟨rfl, h0⟩ | ⟨g, cap, cur, rfl, -⟩
  · have hl0 : l = [] := List.eq_nil_of_length_eq_zero h0
    subst hl0
    have hK0 : KA ([] : List St).length = k := HK.out.1
    rw [hK0]
    clear hv
    go_enter Try.func42, Try.ntmps42
    go_wp2
    go_loop [1, 5] (fun q i => i = .int .i64 0 ∧ q = .int .i64 (k : Int)) (fun _ _ => 0)
    case atStart => exact ⟨rfl, rfl⟩
    case round =>
      obtain ⟨rfl, rfl⟩ := hrel
      go_wp2
      go_ret
      exact ⟨by simp, HV.out, Within.refl _ _ _⟩
  · clear hv
    go_enter Try.func42, Try.ntmps42
    go_wp2
    go_loopw [1, 5] (fun q i wr => ∃ j : Nat, j ≤ l.length ∧ i = .int .i64 j ∧ q = .int .i64 ((KA j : Nat) : Int) ∧ Hid (StepsOwn wr B E (.slice (some ⟨g, 0, none⟩) l.length cap) (half l k j) vs) ∧ Hid (Within B E w wr)) (fun _ i _ => l.length - (intOf i).toNat)
    case atStart => exact ⟨0, Nat.zero_le _, rfl, by rw [HK.out.1], by show StepsOwn _ _ _ _ _ _; simpa [half] using HV.out, Within.refl _ _ _⟩
    case round =>
      clear HV
      obtain ⟨j, hj, rfl, rfl, HO, HW⟩ := hrel
      by_cases hlt : j < l.length
      · have hle := HK.out.2.2.1 j hj
        have hle2 := HK.out.2.2.1 (j + 1) hlt
        have hks := HK.out.2.1 j hlt
        have hkk := HK.out.2.2.2 j
        have hat := half_at l k j hlt
        have hset := half_set l k j hlt
        rw [← hkk] at hset
        have hvl : vs.length = l.length := by rw [HO.out.len, half_length l k j hj]
        obtain ⟨u, hu⟩ : ∃ u, vs[j]? = some u := ⟨_, List.getElem?_eq_getElem (by rw [hvl]; exact hlt)⟩
        have hfl : l[j].fr.length ≤ 1048576 := Nat.le_trans (fr_le (List.getElem_mem hlt)) hl
        have HFr := hide (HO.out.froms j u l[j] hu hat).1
        have HAT := hide hat
        have HSE := hide hset
        have HU := hide hu
        obtain ⟨au, cu, hshu⟩ := own_shape HFr.out
        clear hat hset hkk hu
        generalize l[j] = s at *
        generalize hm : s.fr.length = m at *
        generalize hK : KA j = K at *
        have HKS := hide hks
        have hlen : (recs (half l k j) vs).flatten.length = l.length * 14 := by have := HO.out.row.1; rw [half_length l k j hj] at this; exact this
        have hrw := HO.out.row
        rw [half_length l k j hj] at hrw
        have hb1 : (j + 1) * 14 ≤ l.length * 14 := Nat.mul_le_mul_right _ hlt
        have hc : ∀ i, i < 14 → ∃ x, wr.cell? ⟨g, j * 14 + i, none⟩ = some x := fun i hi => by
          rw [hrw.cellAt (j * 14 + i) (by omega)]
          exact ⟨_, List.getElem?_eq_getElem (by rw [hlen]; omega)⟩
        obtain ⟨o0, p0⟩ := hc 0 (by decide)
        rw [Nat.add_zero] at p0
        obtain ⟨o1, p1⟩ := hc 1 (by decide)
        obtain ⟨o2, p2⟩ := hc 2 (by decide)
        obtain ⟨o3, p3⟩ := hc 3 (by decide)
        obtain ⟨o4, p4⟩ := hc 4 (by decide)
        obtain ⟨o5, p5⟩ := hc 5 (by decide)
        obtain ⟨o6, p6⟩ := hc 6 (by decide)
        obtain ⟨o7, p7⟩ := hc 7 (by decide)
        obtain ⟨o8, p8⟩ := hc 8 (by decide)
        obtain ⟨o9, p9⟩ := hc 9 (by decide)
        obtain ⟨o10, p10⟩ := hc 10 (by decide)
        obtain ⟨o11, p11⟩ := hc 11 (by decide)
        obtain ⟨o12, p12⟩ := hc 12 (by decide)
        have p13 : wr.cell? ⟨g, j * 14 + 13, none⟩ = some (.slice au m cu) := by
          rw [hrw.cellAt (j * 14 + 13) (by omega), flatten_get _ j 13 _ recs_all (recs_get HAT.out HU.out) (by omega), ← hshu]
          rfl
        have hf := fun i => hrw.frozenAt i
        have hgs : g < wr.heap.size := (hrw.lt g rfl).2
        have HRW := hide hrw
        have HMK := hide (fun wx (h : wx.ownsRow B 3 1 u s.fr.length (cellsI s.fr)) => markInts_calls wx B u s.fr (K + 13) h (by omega) (by omega))
        rw [hshu, hm] at HMK
        simp only [show ((K + 13 : Nat) : Int) = (K : Int) + 13 by omega] at HMK
        have HN : Hid (∀ w5, w5.ownsRow B 3 1 u s.fr.length (cellsI (marks ((K + 13 : Nat) : Int) s.fr.length)) → (setsW wr g (j * 14) [.int .i64 (K : Int), .int .i64 ((K : Int) + 1), .int .i64 ((K : Int) + 2), .int .i64 ((K : Int) + 3), .int .i64 ((K : Int) + 4), .int .i64 ((K : Int) + 5), .int .i64 ((K : Int) + 6), .int .i64 ((K : Int) + 7), .int .i64 ((K : Int) + 8), .int .i64 ((K : Int) + 9), .int .i64 ((K : Int) + 10), .int .i64 ((K : Int) + 11), .int .i64 ((K : Int) + 12)]).grownBy w5 u.ownBlock → StepsOwn w5 B E (.slice (some ⟨g, 0, none⟩) l.length cap) (half l k (j + 1)) vs ∧ Within B E wr w5) := fun w5 h1 h2 => by
          have := mark_next (n := l.length) HO.out HAT.out HU.out h1 h2
          rw [HSE.out] at this
          exact this
        have HF2 : Hid ((setsW wr g (j * 14) [.int .i64 (K : Int), .int .i64 ((K : Int) + 1), .int .i64 ((K : Int) + 2), .int .i64 ((K : Int) + 3), .int .i64 ((K : Int) + 4), .int .i64 ((K : Int) + 5), .int .i64 ((K : Int) + 6), .int .i64 ((K : Int) + 7), .int .i64 ((K : Int) + 8), .int .i64 ((K : Int) + 9), .int .i64 ((K : Int) + 10), .int .i64 ((K : Int) + 11), .int .i64 ((K : Int) + 12)]).ownsRow B 3 1 u s.fr.length (cellsI s.fr)) := by
          show World.ownsRow _ _ _ _ _ _ _
          rw [hm]
          refine own_stay HFr.out (fun g' hg' => setsW_other ?_ _ _ _)
          rintro rfl
          obtain ⟨c1, h3, _⟩ := own_block HFr.out hg'
          obtain ⟨c2, h4, _⟩ := own_block HRW.out rfl
          rw [h3] at h4
          simp only [Option.some.injEq, Obj.cells.injEq] at h4
          have := h4.2.1
          revert this
          decide
        have HSW : Hid (setsW wr g (j * 14) [.int .i64 (K : Int), .int .i64 ((K : Int) + 1), .int .i64 ((K : Int) + 2), .int .i64 ((K : Int) + 3), .int .i64 ((K : Int) + 4), .int .i64 ((K : Int) + 5), .int .i64 ((K : Int) + 6), .int .i64 ((K : Int) + 7), .int .i64 ((K : Int) + 8), .int .i64 ((K : Int) + 9), .int .i64 ((K : Int) + 10), .int .i64 ((K : Int) + 11), .int .i64 ((K : Int) + 12)] = (((((((((((((wr.setCell ⟨g, j * 14, none⟩ (.int .i64 (K : Int))).setCell ⟨g, j * 14 + 1, none⟩ (.int .i64 ((K : Int) + 1))).setCell ⟨g, j * 14 + 2, none⟩ (.int .i64 ((K : Int) + 2))).setCell ⟨g, j * 14 + 3, none⟩ (.int .i64 ((K : Int) + 3))).setCell ⟨g, j * 14 + 4, none⟩ (.int .i64 ((K : Int) + 4))).setCell ⟨g, j * 14 + 5, none⟩ (.int .i64 ((K : Int) + 5))).setCell ⟨g, j * 14 + 6, none⟩ (.int .i64 ((K : Int) + 6))).setCell ⟨g, j * 14 + 7, none⟩ (.int .i64 ((K : Int) + 7))).setCell ⟨g, j * 14 + 8, none⟩ (.int .i64 ((K : Int) + 8))).setCell ⟨g, j * 14 + 9, none⟩ (.int .i64 ((K : Int) + 9))).setCell ⟨g, j * 14 + 10, none⟩ (.int .i64 ((K : Int) + 10))).setCell ⟨g, j * 14 + 11, none⟩ (.int .i64 ((K : Int) + 11))).setCell ⟨g, j * 14 + 12, none⟩ (.int .i64 ((K : Int) + 12)))) := by
          show _ = _
          simp only [setsW, Nat.add_assoc, Nat.reduceAdd]
        rw [HSW.out, hshu, hm] at HF2
        rw [HSW.out, hshu, hm] at HN
        simp only [show ((K + 13 : Nat) : Int) = (K : Int) + 13 by omega] at HN
        clear hc hlen hrw hks HSW HFr
        go_wp2_with fail
        clear p0 p1 p2 p3 p4 p5 p6 p7 p8 p9 p10 p11 p12 p13 hf
        refine (HMK.out _ (by have := HF2.out; rw [← hm] at this ⊢; exact this)).mono ?_
        rintro e w5 ⟨rfl, h1, h2⟩
        have hX := HN.out w5 (by rw [← hm] at h1 ⊢; exact h1) h2
        have HX1 := hide hX.1
        have HX2 := hide (HW.out.trans hX.2)
        clear hX h1 h2 HMK HN HF2
        go_wp2_with fail
        go_roundw
        case rel => exact ⟨j + 1, by omega, by go_num, by rw [HKS.out]; go_num, HX1.out, HX2.out⟩
        case measure => simp [intOf]; omega
      · have hjl : j = l.length := by omega
        subst hjl
        have HO2 : Hid (StepsOwn wr B E (.slice (some ⟨g, 0, none⟩) l.length cap) (markS l k) vs) := by
          have := HO.out
          rw [half_all] at this
          exact this
        go_wp2
        go_ret
        exact ⟨rfl, HO2.out, HW.out⟩
end Go.Proofs.Ythafpkpmnhgmaaa.P7
namespace Go.Proofs.Ythafpkpmnhgmaaa.P7
set_option maxRecDepth 8000
open Go.RowKit P1 P5 P6 Rc Rr

set_option maxHeartbeats 2000000 in
theorem heldSteps_calls (w : World) (v : Value) (l : List St) (k : Nat) (hv : StepsAt w v (markS l k)) (hk : k ≤ 16) (hl : size l ≤ 1048576) :
    Calls Try.prog 43 #[v, .int .i64 k] w fun e w' => e = .returned (.int .i64 ((kA l k l.length : Nat) : Int)) ∧ w' = w := by
  have hll : l.length ≤ 1048576 := by unfold size at hl; omega
  obtain ⟨KA, HK⟩ : ∃ KA : Nat → Nat, Hid (KA 0 = k ∧ (∀ j (hj : j < l.length), KA (j + 1) = KA j + 13 + l[j].fr.length) ∧ (∀ j, j ≤ l.length → KA j ≤ 16777216) ∧ (∀ j, KA j = kA l k j)) := ⟨kA l k, by simp [kA], fun j hj => kA_succ l k j hj, fun j hj => by have := kA_le l k j hj; omega, fun _ => rfl⟩
  rw [← HK.out.2.2.2]
  have HA0 := hide hv
  obtain ⟨a, ca, hsh, -⟩ := hv
  rw [markS_length] at hsh
  have HA : Hid (∀ j (hj : j < l.length), ∃ g off, a = some ⟨g, off, none⟩ ∧ g < w.heap.size ∧ (∀ i, i < 13 → w.cell? ⟨g, off + j * 14 + i, none⟩ = ((ints (mk l[j] (KA j)))[i]?).map (.int .i64 ·)) ∧ ∃ u, w.cell? ⟨g, off + j * 14 + 13, none⟩ = some u ∧ IntsAt w u (marks ((KA j + 13 : Nat) : Int) l[j].fr.length)) := fun j hj => by
    obtain ⟨a', ca', h1, h2⟩ := HA0.out
    rw [hsh, markS_length] at h1
    cases h1
    have hj' : j < (markS l k).length := by rw [markS_length]; exact hj
    have hg : (markS l k)[j] = mk l[j] (KA j) := by
      have := markS_get l k j hj
      rw [List.getElem?_eq_getElem hj'] at this
      rw [HK.out.2.2.2]
      exact Option.some.inj this
    have := h2 j hj'
    rw [hg] at this
    exact this
  subst hsh
  clear HA0
  go_enter Try.func43, Try.ntmps43
  go_wp2
  go_loop [1, 5] (fun q i => ∃ j : Nat, j ≤ l.length ∧ i = .int .i64 j ∧ q = .int .i64 ((KA j : Nat) : Int)) (fun _ i => l.length - (intOf i).toNat)
  case atStart => exact ⟨0, Nat.zero_le _, rfl, by rw [HK.out.1]⟩
  case round =>
    obtain ⟨j, hj, rfl, rfl⟩ := hrel
    by_cases hlt : j < l.length
    · obtain ⟨g, off, rfl, hg, hc, u, hu, hI⟩ := HA.out j hlt
      have hle := HK.out.2.2.1 j hj
      have hks := HK.out.2.1 j hlt
      have hfl : l[j].fr.length ≤ 1048576 := Nat.le_trans (fr_le (List.getElem_mem hlt)) hl
      generalize l[j] = s at *
      generalize hm : s.fr.length = m at *
      generalize hK : KA j = K at *
      have HH := hide (heldInts_calls w u (K + 13) m hI (by omega) (by omega))
      obtain ⟨au, cu, rfl, -⟩ := hI
      rw [marks_length] at HH hu
      simp only [show ((K + 13 : Nat) : Int) = (K : Int) + 13 by omega] at HH
      have c0 : w.cell? ⟨g, off + j * 14, none⟩ = some (.int .i64 ((K : Int))) := hc 0 (by decide)
      have c1 : w.cell? ⟨g, off + j * 14 + 1, none⟩ = some (.int .i64 ((K : Int) + 1)) := hc 1 (by decide)
      have c2 : w.cell? ⟨g, off + j * 14 + 2, none⟩ = some (.int .i64 ((K : Int) + 2)) := hc 2 (by decide)
      have c3 : w.cell? ⟨g, off + j * 14 + 3, none⟩ = some (.int .i64 ((K : Int) + 3)) := hc 3 (by decide)
      have c4 : w.cell? ⟨g, off + j * 14 + 4, none⟩ = some (.int .i64 ((K : Int) + 4)) := hc 4 (by decide)
      have c5 : w.cell? ⟨g, off + j * 14 + 5, none⟩ = some (.int .i64 ((K : Int) + 5)) := hc 5 (by decide)
      have c6 : w.cell? ⟨g, off + j * 14 + 6, none⟩ = some (.int .i64 ((K : Int) + 6)) := hc 6 (by decide)
      have c7 : w.cell? ⟨g, off + j * 14 + 7, none⟩ = some (.int .i64 ((K : Int) + 7)) := hc 7 (by decide)
      have c8 : w.cell? ⟨g, off + j * 14 + 8, none⟩ = some (.int .i64 ((K : Int) + 8)) := hc 8 (by decide)
      have c9 : w.cell? ⟨g, off + j * 14 + 9, none⟩ = some (.int .i64 ((K : Int) + 9)) := hc 9 (by decide)
      have c10 : w.cell? ⟨g, off + j * 14 + 10, none⟩ = some (.int .i64 ((K : Int) + 10)) := hc 10 (by decide)
      have c11 : w.cell? ⟨g, off + j * 14 + 11, none⟩ = some (.int .i64 ((K : Int) + 11)) := hc 11 (by decide)
      have c12 : w.cell? ⟨g, off + j * 14 + 12, none⟩ = some (.int .i64 ((K : Int) + 12)) := hc 12 (by decide)
      have HKS := hide hks
      clear hc hks
      go_wp2_with fail
      clear c0 c1 c2 c3 c4 c5 c6 c7 c8 c9 c10 c11 c12 hu
      refine HH.out.mono ?_
      rintro e w5 ⟨rfl, rfl⟩
      have hd : decide ((((K + 13 + m : Nat)) : Int) < 0) = false := by simp; omega
      clear HH
      go_wp2_with fail
      go_round
      case rel => exact ⟨j + 1, by omega, by go_num, by rw [HKS.out]; go_num⟩
      case measure => simp [intOf]; omega
    · have hjl : j = l.length := by omega
      subst hjl
      go_wp2
      go_ret
      exact ⟨rfl, rfl⟩
end Go.Proofs.Ythafpkpmnhgmaaa.P7
namespace Go.Proofs.Ythafpkpmnhgmaaa.P7
open Go.RowKit P1 P5 P6 Rc Rr

theorem enterTS : ∀ args w, (callFunc 35 args).run Try.prog w = .ok (.enter 35 args) w := run_enter Try.func35 (by kernel_rfl) (by kernel_rfl)

theorem len_le {l : List St} {n : Nat} (h : size l ≤ n) : l.length ≤ n := by unfold size at h; omega

theorem StepsOwn.cap_ {w : World} {B E : Nat} {v : Value} {l : List St} {vs : List Value} (h : StepsOwn w B E v l vs) : ∀ a c, v = .slice a l.length c → l.length ≤ c := by
  rintro a c rfl
  rcases h.row.2 with ⟨h1, h2⟩ | ⟨g, cap, cur, h1, _, _, h2, _⟩
  · omega
  · cases h1
    exact h2
end Go.Proofs.Ythafpkpmnhgmaaa.P7
