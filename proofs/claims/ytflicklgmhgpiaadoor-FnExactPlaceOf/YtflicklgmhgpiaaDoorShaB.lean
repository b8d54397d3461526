/- The contract of spec.l03Block: one block of SHA-256. -/
import Derived.Test.YtflicklgmhgpiaaDoorShaT
import Derived.Test.YtflicklgmhgpiaaDoorArrL
namespace Go.Proofs.YtflicklgmhgpiaaDoor.P3
set_option maxRecDepth 8000
open Go.RowKit P1

/-- Sixty-four noughts, eight noughts. -/
def nil64 : List Nat := List.replicate 64 0
def nil8 : List Nat := List.replicate 8 0

theorem zero64 : (Tryd.prog.info? 76).map (fun i => (i.zero, i.size)) = some (some (.agg (wordsV nil64)), 64) := by kernel_rfl
theorem zero8 : (Tryd.prog.info? 71).map (fun i => (i.zero, i.size)) = some (some (.agg (wordsV nil8)), 8) := by kernel_rfl
theorem built64 : Tryd.prog.built 76 [] = some (wordsV nil64) := by kernel_rfl

/-- The memory of a block's call: the state, the keys, the answer, the schedule. -/
structure Mem (w wr : World) (b0 b1 b2 b3 : Nat) (hs ks rs ws : List Nat) : Prop where
  h : Arr wr b0 hs
  k : Arr wr b1 ks
  r : Arr wr b2 rs
  x : Arr wr b3 ws
  bel : Below w.heap.size w wr
  o0 : w.heap.size ≤ b0
  o1 : b0 < b1
  o2 : b1 < b2
  o3 : b2 < b3

theorem Mem.start (w : World) (hs ks : List Nat) (t8 t64 : TypeId) :
    Mem w ((((w.alloc (.cells (wordsV hs) t8)).alloc (.cells (wordsV ks) t64)).alloc (.cells (wordsV nil8) t8)).alloc (.cells (wordsV nil64) t64)) w.heap.size (w.heap.size + 1) (w.heap.size + 1 + 1) (w.heap.size + 1 + 1 + 1) hs ks nil8 nil64 := by
  have e1 := Arr.new w t8 hs (wordsV hs) rfl
  have e2 := Arr.new (w.alloc (.cells (wordsV hs) t8)) t64 ks (wordsV ks) rfl
  have e3 := Arr.new ((w.alloc (.cells (wordsV hs) t8)).alloc (.cells (wordsV ks) t64)) t8 nil8 (wordsV nil8) rfl
  have e4 := Arr.new (((w.alloc (.cells (wordsV hs) t8)).alloc (.cells (wordsV ks) t64)).alloc (.cells (wordsV nil8) t8)) t64 nil64 (wordsV nil64) rfl
  have z : ∀ (u : World) (o : Obj), (u.alloc o).heap.size = u.heap.size + 1 := fun u o => by simp
  rw [z] at e2
  rw [z, z] at e3
  rw [z, z, z] at e4
  have k1 : ∀ (u : World) (o : Obj), Below u.heap.size u (u.alloc o) := fun u o => (Below.refl _ _).alloc (Nat.le_refl _) o
  refine ⟨((e1.below (k1 _ _) (by simp only [z]; omega)).below (k1 _ _) (by simp only [z]; omega)).below (k1 _ _) (by simp only [z]; omega), (e2.below (k1 _ _) (by simp only [z]; omega)).below (k1 _ _) (by simp only [z]; omega), e3.below (k1 _ _) (by simp only [z]; omega), e4, ?_, Nat.le_refl _, by omega, by omega, by omega⟩
  exact ((((Below.refl _ _).alloc (Nat.le_refl _) _).alloc (by simp only [z]; omega) _).alloc (by simp only [z]; omega) _).alloc (by simp only [z]; omega) _

theorem Mem.drew {w wr : World} {b0 b1 b2 b3 : Nat} {hs ks rs ws : List Nat} (m : Mem w wr b0 b1 b2 b3 hs ks rs ws) : Mem w wr.drew b0 b1 b2 b3 hs ks rs ws :=
  ⟨m.h.drew, m.k.drew, m.r.drew, m.x.drew, m.bel.drew, m.o0, m.o1, m.o2, m.o3⟩

/-- .. and the working state. -/
structure Mem5 (w wr : World) (b0 b1 b2 b3 b4 : Nat) (hs ks rs ws ss : List Nat) : Prop where
  m : Mem w wr b0 b1 b2 b3 hs ks rs ws
  s : Arr wr b4 ss
  o4 : b3 < b4

theorem Mem5.start {w wr : World} {b0 b1 b2 b3 : Nat} {hs ks rs ws : List Nat} (m : Mem w wr b0 b1 b2 b3 hs ks rs ws) (t : TypeId) (ss : List Nat) (cs : Array Value) (hcs : cs = wordsV ss) :
    Mem5 w (wr.alloc (.cells cs t)) b0 b1 b2 b3 wr.heap.size hs ks rs ws ss := by
  have k1 : Below wr.heap.size wr (wr.alloc (.cells cs t)) := (Below.refl _ _).alloc (Nat.le_refl _) _
  exact ⟨⟨m.h.below k1 m.h.lt, m.k.below k1 m.k.lt, m.r.below k1 m.r.lt, m.x.below k1 m.x.lt, m.bel.trans (k1.mono m.bel.size), m.o0, m.o1, m.o2, m.o3⟩, Arr.new wr t ss cs hcs, m.x.lt⟩

theorem Mem.drewN {w wr : World} {b0 b1 b2 b3 : Nat} {hs ks rs ws : List Nat} (m : Mem w wr b0 b1 b2 b3 hs ks rs ws) (n : Nat) : Mem w (wr.drewN n) b0 b1 b2 b3 hs ks rs ws :=
  ⟨m.h.drewN n, m.k.drewN n, m.r.drewN n, m.x.drewN n, ⟨m.bel.os, m.bel.tape, m.bel.output, m.bel.size, m.bel.block⟩, m.o0, m.o1, m.o2, m.o3⟩

theorem Mem5.drewN {w wr : World} {b0 b1 b2 b3 b4 : Nat} {hs ks rs ws ss : List Nat} (m : Mem5 w wr b0 b1 b2 b3 b4 hs ks rs ws ss) (n : Nat) : Mem5 w (wr.drewN n) b0 b1 b2 b3 b4 hs ks rs ws ss :=
  ⟨m.m.drewN n, m.s.drewN n, m.o4⟩

theorem Mem5.setS {w wr : World} {b0 b1 b2 b3 b4 : Nat} {hs ks rs ws ss : List Nat} (m : Mem5 w wr b0 b1 b2 b3 b4 hs ks rs ws ss) (i v : Nat) : Mem5 w (wr.setCell ⟨b4, i, none⟩ (.int .u32 (v : Nat))) b0 b1 b2 b3 b4 hs ks rs ws (ss.set i v) := by
  have o0 := m.m.o0
  have o1 := m.m.o1
  have o2 := m.m.o2
  have o3 := m.m.o3
  have o4 := m.o4
  exact ⟨⟨m.m.h.other (by omega) _, m.m.k.other (by omega) _, m.m.r.other (by omega) _, m.m.x.other (by omega) _, m.m.bel.setCell (by show w.heap.size ≤ b4; omega) _, m.m.o0, m.m.o1, m.m.o2, m.m.o3⟩, m.s.set v, m.o4⟩

theorem Mem5.drew {w wr : World} {b0 b1 b2 b3 b4 : Nat} {hs ks rs ws ss : List Nat} (m : Mem5 w wr b0 b1 b2 b3 b4 hs ks rs ws ss) : Mem5 w wr.drew b0 b1 b2 b3 b4 hs ks rs ws ss :=
  ⟨m.m.drew, m.s.drew, m.o4⟩

theorem Mem5.setH {w wr : World} {b0 b1 b2 b3 b4 : Nat} {hs ks rs ws ss : List Nat} (m : Mem5 w wr b0 b1 b2 b3 b4 hs ks rs ws ss) (i v : Nat) : Mem5 w (wr.setCell ⟨b0, i, none⟩ (.int .u32 (v : Nat))) b0 b1 b2 b3 b4 (hs.set i v) ks rs ws ss := by
  have o0 := m.m.o0
  have o1 := m.m.o1
  have o2 := m.m.o2
  have o3 := m.m.o3
  have o4 := m.o4
  exact ⟨⟨m.m.h.set v, m.m.k.other (by omega) _, m.m.r.other (by omega) _, m.m.x.other (by omega) _, m.m.bel.setCell (by show w.heap.size ≤ b0; omega) _, m.m.o0, m.m.o1, m.m.o2, m.m.o3⟩, m.s.other (by omega) _, m.o4⟩

theorem plus_getD (s t : St) (j : Nat) (hj : j < 8) : (s.plus t).list.getD j 0 = add (s.list.getD j 0) (t.list.getD j 0) := by
  match j, hj with
  | 0, _ => rfl
  | 1, _ => rfl
  | 2, _ => rfl
  | 3, _ => rfl
  | 4, _ => rfl
  | 5, _ => rfl
  | 6, _ => rfl
  | 7, _ => rfl

theorem Mem.setX {w wr : World} {b0 b1 b2 b3 : Nat} {hs ks rs ws : List Nat} (m : Mem w wr b0 b1 b2 b3 hs ks rs ws) (i v : Nat) : Mem w (wr.setCell ⟨b3, i, none⟩ (.int .u32 (v : Nat))) b0 b1 b2 b3 hs ks rs (ws.set i v) := by
  have o1 := m.o1
  have o2 := m.o2
  have o3 := m.o3
  have o0 := m.o0
  exact ⟨m.h.other (by omega) _, m.k.other (by omega) _, m.r.other (by omega) _, m.x.set v, m.bel.setCell (by show w.heap.size ≤ b3; omega) _, m.o0, m.o1, m.o2, m.o3⟩

set_option maxRecDepth 8000 in
set_option maxHeartbeats 1000000 in
theorem block_calls (st : St) (hst : st.ok) (ks : List Nat) (hks : ks.length = 64) (hkb : ∀ j, j < 64 → ks.getD j 0 < 4294967296) (b : List UInt8) (hb : b.length = 64) (w : World) :
    Calls Tryd.prog 51 #[.agg (wordsV st.list), .string ⟨b.toArray⟩, .agg (wordsV ks)] w fun e w' => e = .returned (.agg (wordsV (st.plus (roundsN ks (sched b) 64 st)).list)) ∧ Below w.heap.size w w' := by
  obtain ⟨hs, HS⟩ : ∃ hs, Hid (hs = st.list) := ⟨_, rfl⟩
  have hhs : hs.length = 8 := by rw [HS.out]; rfl
  rw [← HS.out]
  have HKB := hide hkb
  have HST := hide hst
  have HSX := hide (fun (xs : List Nat) (h : ∀ j, j < 64 → xs.getD j 0 = (sched b).getD j 0) => roundsN_congr ks xs (sched b) 64 st h)
  clear hkb hst
  obtain ⟨S, HSS, H1, H2, H3⟩ : ∃ S : Nat → Nat, Hid (∀ j, (sched b).getD j 0 = S j) ∧ Hid (∀ j, j < 16 → S j = word b j) ∧ Hid (∀ m, m < 48 → S (m + 16) = add (add (add (S m) (sig0 (S (m + 1)))) (S (m + 9))) (sig1 (S (m + 14)))) ∧ Hid (∀ j, j < 64 → S j < 4294967296) :=
    ⟨fun j => (sched b).getD j 0, fun _ => rfl, sched_first b, sched_next b, sched_lt b⟩
  have HSY := hide (fun (xs : List Nat) (h : ∀ j, j < 64 → xs.getD j 0 = S j) => HSX.out xs (fun j hj => (h j hj).trans (HSS.out j).symm))
  clear HSX HSS
  obtain ⟨R, HR⟩ : ∃ R, Hid (R = st.plus (roundsN ks (sched b) 64 st)) := ⟨_, rfl⟩
  rw [← HR.out]
  have HSZ := hide (fun (xs : List Nat) (h : ∀ j, j < 64 → xs.getD j 0 = S j) => (show st.plus (roundsN ks xs 64 st) = R by rw [HR.out, HSY.out xs h]))
  clear HSY HR
  have hz64 := (zero_of_info zero64).1
  have hz8 := (zero_of_info zero8).1
  obtain ⟨HV, hHV⟩ : ∃ HV, HV = wordsV hs := ⟨_, rfl⟩
  obtain ⟨KV, hKV⟩ : ∃ KV, KV = wordsV ks := ⟨_, rfl⟩
  obtain ⟨Z64, hZ64⟩ : ∃ Z, Z = wordsV nil64 := ⟨_, rfl⟩
  obtain ⟨Z8, hZ8⟩ : ∃ Z, Z = wordsV nil8 := ⟨_, rfl⟩
  have hb64 := built64
  rw [← hZ64] at hz64 hb64
  rw [← hZ8] at hz8
  rw [← hHV, ← hKV]
  have HH := hide hHV
  have HK := hide hKV
  have HZ := hide hZ64
  have HY := hide hZ8
  have Hz64 := hide hz64
  have Hz8 := hide hz8
  have Hb64 := hide hb64
  clear hHV hKV hZ64 hZ8 hz64 hz8 hb64
  go_enter Tryd.func51, Tryd.ntmps51
  go_wp2_with (first | (refine wpList_box_agg rfl 71 (.tmp 0) rfl HV rfl ?_) | (refine wpList_box_agg rfl 76 (.tmp 2) rfl KV rfl ?_) | (refine wpList_alloc_agg rfl 71 rfl Z8 Hz8.out ?_) | (refine wpList_alloc_agg rfl 76 rfl Z64 Hz64.out ?_) | (refine wpList_build_nil rfl 76 rfl Z64 Hb64.out ?_) | (refine wpList_store_last rfl 76 (.tmp 7) (.tmp 21) rfl Z64 Z64 rfl rfl (by rw [HZ.out]; exact (zero_of_info zero64).2) rfl (by rw [HZ.out]; exact wordsV_one _) ?_))
  have hm0 := Mem.start w hs ks 71 76
  rw [← HH.out, ← HK.out, ← HZ.out, ← HY.out] at hm0
  obtain ⟨b3, hb3⟩ : ∃ b3, b3 = w.heap.size + 1 + 1 + 1 := ⟨_, rfl⟩
  rw [← hb3] at hm0 ⊢
  obtain ⟨b2, hb2⟩ : ∃ b2, b2 = w.heap.size + 1 + 1 := ⟨_, rfl⟩
  rw [← hb2] at hm0 ⊢
  obtain ⟨b1, hb1⟩ : ∃ b1, b1 = w.heap.size + 1 := ⟨_, rfl⟩
  rw [← hb1] at hm0 ⊢
  obtain ⟨b0, hb0⟩ : ∃ b0, b0 = w.heap.size := ⟨_, rfl⟩
  rw [← hb0]
  have hm1 : Mem w ((((w.alloc (.cells HV 71)).alloc (.cells KV 76)).alloc (.cells Z8 71)).alloc (.cells Z64 76)) b0 b1 b2 b3 hs ks nil8 nil64 := by rw [hb0]; exact hm0
  clear hm0 hb0 hb1 hb2 hb3 HH HK HZ HY Hz64 Hz8 Hb64
  generalize (((w.alloc (.cells HV 71)).alloc (.cells KV 76)).alloc (.cells Z8 71)).alloc (.cells Z64 76) = w1 at hm1
  have HM := hide hm1
  clear hm1
  go_loopw [8] (fun i wr => ∃ k : Nat, ∃ xs : List Nat, k ≤ 16 ∧ i = .int .i64 k ∧ xs.length = 64 ∧ (∀ j, j < k → xs.getD j 0 = word b j) ∧ Mem w wr b0 b1 b2 b3 hs ks nil8 xs) (fun i _ => 16 - (intOf i).toNat)
  case atStart => exact ⟨0, nil64, by omega, rfl, rfl, by simp, HM.out⟩
  case round =>
    clear HM
    obtain ⟨k, xs, hk, rfl, hxl, hxs, hm⟩ := hrel
    have HM := hide hm
    have HX := hide hxs
    clear hm hxs
    by_cases hk16 : k < 16
    · go_wp2
      refine wp_region_tail 31 (fun wd => Mem w wd b0 b1 b2 b3 hs ks nil8 xs) HM.out.drew (by kernel_rfl) (by kernel_rfl) ?_
      clear HM
      intro wd hm
      have HM := hide hm
      clear hm
      simp only [List.take_succ_cons, List.take_zero, List.drop_succ_cons, List.drop_zero]
      have i0 := index_byte b (4 * (k : Int)) (4 * k) (by omega) (by omega)
      have i1 := index_byte b (4 * (k : Int) + 1) (4 * k + 1) (by omega) (by omega)
      have i2 := index_byte b (4 * (k : Int) + 2) (4 * k + 2) (by omega) (by omega)
      have i3 := index_byte b (4 * (k : Int) + 3) (4 * k + 3) (by omega) (by omega)
      have HW : Hid (word b k = (b.getD (4 * k) 0).toNat * 16777216 + (b.getD (4 * k + 1) 0).toNat * 65536 + (b.getD (4 * k + 2) 0).toNat * 256 + (b.getD (4 * k + 3) 0).toNat) := rfl
      have c0 := (b.getD (4 * k) 0).toNat_lt
      have c1 := (b.getD (4 * k + 1) 0).toNat_lt
      have c2 := (b.getD (4 * k + 2) 0).toNat_lt
      have c3 := (b.getD (4 * k + 3) 0).toNat_lt
      generalize (b.getD (4 * k) 0).toNat = y0 at *
      generalize (b.getD (4 * k + 1) 0).toNat = y1 at *
      generalize (b.getD (4 * k + 2) 0).toNat = y2 at *
      generalize (b.getD (4 * k + 3) 0).toNat = y3 at *
      repeat (go_big_quiet_step (fail))
      refine wpQuiet_nil ?_
      have hc := HM.out.x.cell k (by omega)
      have hf := HM.out.x.free k
      clear i0 i1 i2 i3
      go_wp2
      go_roundw
      case rel =>
        refine ⟨k + 1, xs.set k (word b k), by omega, by go_num, by simpa using hxl, ?_, ?_⟩
        · intro j hj
          by_cases e : k = j
          · subst e; exact P1.getD_set_eq _ _ _ (by omega)
          · rw [P1.getD_set_ne _ _ _ _ e]; exact HX.out j (by omega)
        · rw [or_word _ _ _ _ c0 c1 c2 c3, ← HW.out]
          exact HM.out.setX k (word b k)
      case measure => simp [intOf]; omega
    · have HX16 := hide (fun j (hj : j < 16) => (HX.out j (by omega)).trans (H1.out j hj).symm)
      clear HX
      go_wp2
      clear hk hk16
      go_loopw [9] (fun i wr => ∃ m : Nat, ∃ xs : List Nat, m ≤ 48 ∧ i = .int .i64 ((m : Int) + 16) ∧ xs.length = 64 ∧ (∀ j, j < m + 16 → xs.getD j 0 = S j) ∧ Mem w wr b0 b1 b2 b3 hs ks nil8 xs) (fun i _ => 64 - (intOf i).toNat)
      case atStart => exact ⟨0, xs, by omega, rfl, hxl, fun j hj => HX16.out j (by omega), HM.out⟩
      case round =>
        clear HM HX16 hxl
        obtain ⟨m, xs, hm48, rfl, hxl, hxs, hm⟩ := hrel
        have HM := hide hm
        have HX := hide hxs
        clear hm hxs
        by_cases hlt : m < 48
        · have hc1 := HM.out.x.cell (m + 1) (by omega)
          have hc14 := HM.out.x.cell (m + 14) (by omega)
          rw [HX.out (m + 1) (by omega)] at hc1
          rw [HX.out (m + 14) (by omega)] at hc14
          have hx1 := H3.out (m + 1) (by omega)
          have hx14 := H3.out (m + 14) (by omega)
          obtain ⟨x1, e1⟩ : ∃ x1, x1 = S (m + 1) := ⟨_, rfl⟩
          obtain ⟨x14, e14⟩ : ∃ x14, x14 = S (m + 14) := ⟨_, rfl⟩
          rw [← e1] at hc1 hx1
          rw [← e14] at hc14 hx14
          have E1 := hide e1
          have E14 := hide e14
          clear e1 e14
          go_wp2
          refine wp_region_quiet_lit (by kernel_rfl) (by kernel_rfl) ?_
          repeat (go_big_quiet_step (fail))
          go_big_quiet_step (exact Calls.quiet_of_same (turn_calls x1 hx1 7 (by decide) (by decide) _))
          repeat (go_big_quiet_step (fail))
          go_big_quiet_step (exact Calls.quiet_of_same (turn_calls x1 hx1 18 (by decide) (by decide) _))
          repeat (go_big_quiet_step (fail))
          refine wpQuiet_nil ?_
          intro _ hw'
          obtain ⟨nq, hw''⟩ := hw'
          subst hw''
          obtain ⟨s0, hs0e⟩ : ∃ s0, s0 = sig0 x1 := ⟨_, rfl⟩
          have hs0 := sig0_lt x1 hx1
          rw [sig0_bits x1 hx1, ← hs0e]
          rw [← hs0e] at hs0
          have ES0 := hide hs0e
          clear hs0e hc1 hc14
          obtain ⟨wr2, hwr2⟩ : ∃ wr2, wr2 = wr.drewN nq := ⟨_, rfl⟩
          have hm2 : Mem w wr2 b0 b1 b2 b3 hs ks nil8 xs := by rw [hwr2]; exact HM.out.drewN nq
          rw [← hwr2]
          clear HM hwr2
          have HM := hide hm2
          have hc14 := hm2.x.cell (m + 14) (by omega)
          rw [HX.out (m + 14) (by omega), ← E14.out] at hc14
          clear hm2
          go_wp2
          refine wp_region_quiet_lit (by kernel_rfl) (by kernel_rfl) ?_
          repeat (go_big_quiet_step (fail))
          go_big_quiet_step (exact Calls.quiet_of_same (turn_calls x14 hx14 17 (by decide) (by decide) _))
          repeat (go_big_quiet_step (fail))
          go_big_quiet_step (exact Calls.quiet_of_same (turn_calls x14 hx14 19 (by decide) (by decide) _))
          repeat (go_big_quiet_step (fail))
          refine wpQuiet_nil ?_
          intro _ hw'
          obtain ⟨nq, hw''⟩ := hw'
          subst hw''
          obtain ⟨s1, hs1e⟩ : ∃ s1, s1 = sig1 x14 := ⟨_, rfl⟩
          have hs1 := sig1_lt x14 hx14
          rw [sig1_bits x14 hx14, ← hs1e]
          rw [← hs1e] at hs1
          have ES1 := hide hs1e
          clear hs1e
          go_wp2
          refine wp_region_tail 15 (fun wd => Mem w wd b0 b1 b2 b3 hs ks nil8 xs) (HM.out.drewN _).drew (by kernel_rfl) (by kernel_rfl) ?_
          clear HM hc14
          intro wd hm
          have HM := hide hm
          clear hm
          have hc0 := HM.out.x.cell m (by omega)
          have hc9 := HM.out.x.cell (m + 9) (by omega)
          rw [HX.out m (by omega)] at hc0
          rw [HX.out (m + 9) (by omega)] at hc9
          have hx0 := H3.out m (by omega)
          have hx9 := H3.out (m + 9) (by omega)
          obtain ⟨x0, e0⟩ : ∃ x0, x0 = S m := ⟨_, rfl⟩
          obtain ⟨x9, e9⟩ : ∃ x9, x9 = S (m + 9) := ⟨_, rfl⟩
          rw [← e0] at hc0 hx0
          rw [← e9] at hc9 hx9
          have E0 := hide e0
          have E9 := hide e9
          clear e0 e9
          simp only [List.take_succ_cons, List.take_zero, List.drop_succ_cons, List.drop_zero]
          repeat (go_big_quiet_step (fail))
          refine wpQuiet_nil ?_
          have hcx := HM.out.x.cell (m + 16) (by omega)
          have hfx := HM.out.x.free (m + 16)
          go_wp2
          go_roundw
          case rel =>
            refine ⟨m + 1, xs.set (m + 16) (S (m + 16)), by omega, by go_num, by simpa using hxl, ?_, ?_⟩
            · intro j hj
              by_cases e : m + 16 = j
              · subst e; exact P1.getD_set_eq _ _ _ (by omega)
              · rw [P1.getD_set_ne _ _ _ _ e]; exact HX.out j (by omega)
            · have hv : (((x0 : Int) + (s0 : Int) + (x9 : Int) + (s1 : Int)) % 4294967296) = ((S (m + 16) : Nat) : Int) := by
                rw [H2.out m hlt, ← E1.out, ← E14.out, ← E0.out, ← E9.out, ← ES0.out, ← ES1.out, add4]
                omega
              rw [hv]
              exact HM.out.setX (m + 16) (S (m + 16))
          case measure => simp [intOf]; omega
        · have HX64 := hide (fun j (hj : j < 64) => HX.out j (by omega))
          clear HX
          have hh0 := HM.out.h.cell 0 (by omega)
          have hh1 := HM.out.h.cell 1 (by omega)
          have hh2 := HM.out.h.cell 2 (by omega)
          have hh3 := HM.out.h.cell 3 (by omega)
          have hh4 := HM.out.h.cell 4 (by omega)
          have hh5 := HM.out.h.cell 5 (by omega)
          have hh6 := HM.out.h.cell 6 (by omega)
          have hh7 := HM.out.h.cell 7 (by omega)
          rw [HS.out] at hh0 hh1 hh2 hh3 hh4 hh5 hh6 hh7
          simp only [St.list, List.getD_cons_zero, List.getD_cons_succ] at hh0 hh1 hh2 hh3 hh4 hh5 hh6 hh7
          go_wp2
          obtain ⟨w2, hw2⟩ : ∃ w2, w2 = wr.alloc (.cells #[.int .u32 (st.a : Int), .int .u32 (st.b : Int), .int .u32 (st.c : Int), .int .u32 (st.d : Int), .int .u32 (st.e : Int), .int .u32 (st.f : Int), .int .u32 (st.g : Int), .int .u32 (st.h : Int)] 71) := ⟨_, rfl⟩
          obtain ⟨b4, hb4⟩ : ∃ b4, b4 = wr.heap.size := ⟨_, rfl⟩
          rw [← hw2, ← hb4]
          have hm5 : Mem5 w w2 b0 b1 b2 b3 b4 hs ks nil8 xs st.list := by rw [hw2, hb4]; exact Mem5.start HM.out _ _ _ rfl
          have HM5 := hide hm5
          clear hm5 hw2 hb4 HM hh0 hh1 hh2 hh3 hh4 hh5 hh6 hh7 hlt hm48
          go_loopw [13] (fun i wr => ∃ n : Nat, n ≤ 64 ∧ i = .int .i64 n ∧ Mem5 w wr b0 b1 b2 b3 b4 hs ks nil8 xs (roundsN ks xs n st).list) (fun i _ => 64 - (intOf i).toNat)
          case atStart => exact ⟨0, by omega, rfl, HM5.out⟩
          case round =>
            clear HM5
            obtain ⟨n, hn, rfl, hm⟩ := hrel
            have HM := hide hm
            clear hm
            have HOK := hide (roundsN_ok ks xs n st HST.out)
            by_cases hlt : n < 64
            · have HRN : Hid (roundsN ks xs (n + 1) st = round1 (roundsN ks xs n st) (ks.getD n 0) (xs.getD n 0)) := rfl
              obtain ⟨t, Et⟩ : ∃ t, Hid (t = roundsN ks xs n st) := ⟨_, rfl⟩
              rw [← Et.out] at HM HOK HRN
              obtain ⟨kn, EK⟩ : ∃ kn, Hid (kn = ks.getD n 0) := ⟨_, rfl⟩
              obtain ⟨wn, EW⟩ : ∃ wn, Hid (wn = xs.getD n 0) := ⟨_, rfl⟩
              rw [← EK.out, ← EW.out] at HRN
              have hkn : kn < 4294967296 := by rw [EK.out]; exact HKB.out n hlt
              have hwn : wn < 4294967296 := by rw [EW.out, HX64.out n hlt]; exact H3.out n hlt
              obtain ⟨o0, o1, o2, o3, o4, o5, o6, o7⟩ := HOK.out
              have c0 := HM.out.s.cell 0 (by show 0 < 8; omega)
              have c1 := HM.out.s.cell 1 (by show 1 < 8; omega)
              have c2 := HM.out.s.cell 2 (by show 2 < 8; omega)
              have c3 := HM.out.s.cell 3 (by show 3 < 8; omega)
              have c4 := HM.out.s.cell 4 (by show 4 < 8; omega)
              have c5 := HM.out.s.cell 5 (by show 5 < 8; omega)
              have c6 := HM.out.s.cell 6 (by show 6 < 8; omega)
              have c7 := HM.out.s.cell 7 (by show 7 < 8; omega)
              simp only [St.list, List.getD_cons_zero, List.getD_cons_succ] at c0 c1 c2 c3 c4 c5 c6 c7
              have ck := HM.out.m.k.cell n (by omega)
              have cw := HM.out.m.x.cell n (by omega)
              rw [← EK.out] at ck
              rw [← EW.out] at cw
              clear Et
              go_wp2
              refine wp_region_quiet_lit (by kernel_rfl) (by kernel_rfl) ?_
              repeat (go_big_quiet_step (fail))
              go_big_quiet_step (exact Calls.quiet_of_same (turn_calls t.e o4 6 (by decide) (by decide) _))
              repeat (go_big_quiet_step (fail))
              go_big_quiet_step (exact Calls.quiet_of_same (turn_calls t.e o4 11 (by decide) (by decide) _))
              repeat (go_big_quiet_step (fail))
              go_big_quiet_step (exact Calls.quiet_of_same (turn_calls t.e o4 25 (by decide) (by decide) _))
              repeat (go_big_quiet_step (fail))
              refine wpQuiet_nil ?_
              intro _ hw'
              obtain ⟨nq, hw''⟩ := hw'
              subst hw''
              obtain ⟨w3, hwn⟩ : ∃ wn, wn = wr.drewN nq := ⟨_, rfl⟩
              have hmn : Mem5 w w3 b0 b1 b2 b3 b4 hs ks nil8 xs t.list := by rw [hwn]; exact HM.out.drewN nq
              rw [← hwn]
              clear HM hwn c0 c1 c2 c3 c4 c5 c6 c7 ck cw
              have HM := hide hmn
              clear hmn
              have c0 := HM.out.s.cell 0 (by show 0 < 8; omega)
              have c1 := HM.out.s.cell 1 (by show 1 < 8; omega)
              have c2 := HM.out.s.cell 2 (by show 2 < 8; omega)
              have c3 := HM.out.s.cell 3 (by show 3 < 8; omega)
              have c4 := HM.out.s.cell 4 (by show 4 < 8; omega)
              have c5 := HM.out.s.cell 5 (by show 5 < 8; omega)
              have c6 := HM.out.s.cell 6 (by show 6 < 8; omega)
              have c7 := HM.out.s.cell 7 (by show 7 < 8; omega)
              simp only [St.list, List.getD_cons_zero, List.getD_cons_succ] at c0 c1 c2 c3 c4 c5 c6 c7
              have ck := HM.out.m.k.cell n (by omega)
              have cw := HM.out.m.x.cell n (by omega)
              rw [← EK.out] at ck
              rw [← EW.out] at cw
              obtain ⟨y1, hne⟩ : ∃ z, z = Sig1 t.e := ⟨_, rfl⟩
              have hy1 := Sig1_lt t.e o4
              rw [Sig1_bits t.e o4, ← hne]
              rw [← hne] at hy1
              have Ey1 := hide hne
              clear hne
              go_wp2
              obtain ⟨y2, hne⟩ : ∃ z, z = ch t.e t.f t.g := ⟨_, rfl⟩
              have hy2 := ch_lt t.e t.f t.g o4
              rw [ch_bits t.e t.f t.g o4 o5 o6, ← hne]
              rw [← hne] at hy2
              have Ey2 := hide hne
              clear hne
              refine wp_region_quiet_lit (by kernel_rfl) (by kernel_rfl) ?_
              repeat (go_big_quiet_step (fail))
              refine wpQuiet_nil ?_
              intro _ hw'
              obtain ⟨nq, hw''⟩ := hw'
              subst hw''
              obtain ⟨w4, hwn⟩ : ∃ wn, wn = w3.drewN nq := ⟨_, rfl⟩
              have hmn : Mem5 w w4 b0 b1 b2 b3 b4 hs ks nil8 xs t.list := by rw [hwn]; exact HM.out.drewN nq
              rw [← hwn]
              clear HM hwn c0 c1 c2 c3 c4 c5 c6 c7 ck cw
              have HM := hide hmn
              clear hmn
              have c0 := HM.out.s.cell 0 (by show 0 < 8; omega)
              have c1 := HM.out.s.cell 1 (by show 1 < 8; omega)
              have c2 := HM.out.s.cell 2 (by show 2 < 8; omega)
              have c3 := HM.out.s.cell 3 (by show 3 < 8; omega)
              have c4 := HM.out.s.cell 4 (by show 4 < 8; omega)
              have c5 := HM.out.s.cell 5 (by show 5 < 8; omega)
              have c6 := HM.out.s.cell 6 (by show 6 < 8; omega)
              have c7 := HM.out.s.cell 7 (by show 7 < 8; omega)
              simp only [St.list, List.getD_cons_zero, List.getD_cons_succ] at c0 c1 c2 c3 c4 c5 c6 c7
              have ck := HM.out.m.k.cell n (by omega)
              have cw := HM.out.m.x.cell n (by omega)
              rw [← EK.out] at ck
              rw [← EW.out] at cw
              obtain ⟨y3, hy3e⟩ : ∃ z, z = add (add (add (add t.h y1) y2) kn) wn := ⟨_, rfl⟩
              have hy3 : y3 < 4294967296 := by rw [hy3e]; exact add_lt _ _
              have hv3 : ((((t.h : Int) + (y1 : Int) + (y2 : Int) + (kn : Int)) % 4294967296 + (wn : Int)) % 4294967296) = ((y3 : Nat) : Int) := by rw [hy3e, add5]; omega
              have Ey3 := hide hy3e
              clear hy3e
              go_wp2
              rw [hv3]
              clear hv3
              refine wp_region_quiet_lit (by kernel_rfl) (by kernel_rfl) ?_
              repeat (go_big_quiet_step (fail))
              go_big_quiet_step (exact Calls.quiet_of_same (turn_calls t.a o0 2 (by decide) (by decide) _))
              repeat (go_big_quiet_step (fail))
              go_big_quiet_step (exact Calls.quiet_of_same (turn_calls t.a o0 13 (by decide) (by decide) _))
              repeat (go_big_quiet_step (fail))
              go_big_quiet_step (exact Calls.quiet_of_same (turn_calls t.a o0 22 (by decide) (by decide) _))
              repeat (go_big_quiet_step (fail))
              refine wpQuiet_nil ?_
              intro _ hw'
              obtain ⟨nq, hw''⟩ := hw'
              subst hw''
              obtain ⟨w5, hwn⟩ : ∃ wn, wn = w4.drewN nq := ⟨_, rfl⟩
              have hmn : Mem5 w w5 b0 b1 b2 b3 b4 hs ks nil8 xs t.list := by rw [hwn]; exact HM.out.drewN nq
              rw [← hwn]
              clear HM hwn c0 c1 c2 c3 c4 c5 c6 c7 ck cw
              have HM := hide hmn
              clear hmn
              have c0 := HM.out.s.cell 0 (by show 0 < 8; omega)
              have c1 := HM.out.s.cell 1 (by show 1 < 8; omega)
              have c2 := HM.out.s.cell 2 (by show 2 < 8; omega)
              have c3 := HM.out.s.cell 3 (by show 3 < 8; omega)
              have c4 := HM.out.s.cell 4 (by show 4 < 8; omega)
              have c5 := HM.out.s.cell 5 (by show 5 < 8; omega)
              have c6 := HM.out.s.cell 6 (by show 6 < 8; omega)
              have c7 := HM.out.s.cell 7 (by show 7 < 8; omega)
              simp only [St.list, List.getD_cons_zero, List.getD_cons_succ] at c0 c1 c2 c3 c4 c5 c6 c7
              have ck := HM.out.m.k.cell n (by omega)
              have cw := HM.out.m.x.cell n (by omega)
              rw [← EK.out] at ck
              rw [← EW.out] at cw
              obtain ⟨y4, hne⟩ : ∃ z, z = Sig0 t.a := ⟨_, rfl⟩
              have hy4 := Sig0_lt t.a o0
              rw [Sig0_bits t.a o0, ← hne]
              rw [← hne] at hy4
              have Ey4 := hide hne
              clear hne
              have hmj := maj_bits t.a t.b t.c o0 o1 o2
              obtain ⟨y5, hy5e⟩ : ∃ z, z = maj t.a t.b t.c := ⟨_, rfl⟩
              have hy5 := maj_lt t.a t.b t.c o0 o1
              rw [← hy5e] at hmj hy5
              have Ey5 := hide hy5e
              clear hy5e
              have hf := HM.out.s.free
              go_wp2
              go_roundw
              case rel =>
                refine ⟨n + 1, by omega, by go_num, ?_⟩
                have e1 : (((t.d : Int) + (y3 : Int)) % 4294967296) = ((add t.d y3 : Nat) : Int) := by unfold add; omega
                have e2 : (((y3 : Int) + ((y4 : Int) + (y5 : Int))) % 4294967296) = ((add y3 (add y4 y5) : Nat) : Int) := by unfold add; omega
                rw [e1, e2]
                have hl : (round1 t kn wn).list = (((((((t.list.set 7 t.g).set 6 t.f).set 5 t.e).set 4 (add t.d y3)).set 3 t.c).set 2 t.b).set 1 t.a).set 0 (add y3 (add y4 y5)) := by
                  rw [Ey3.out, Ey1.out, Ey2.out, Ey4.out, Ey5.out]
                  rfl
                rw [HRN.out, hl]
                exact (((((((HM.out.setS 7 t.g).setS 6 t.f).setS 5 t.e).setS 4 (add t.d y3)).setS 3 t.c).setS 2 t.b).setS 1 t.a).setS 0 (add y3 (add y4 y5))
              case measure => simp [intOf]; omega
            · have hn64 : n = 64 := by omega
              rw [hn64] at HM HOK
              obtain ⟨t, Et⟩ : ∃ t, Hid (t = roundsN ks xs 64 st) := ⟨_, rfl⟩
              rw [← Et.out] at HM HOK
              have hpl : st.plus t = R := by rw [Et.out]; exact HSZ.out xs HX64.out
              have HPL := hide (fun j (hj : j < 8) => (show R.list.getD j 0 = add (st.list.getD j 0) (t.list.getD j 0) by rw [← hpl]; exact plus_getD st t j hj))
              clear hpl Et hn64
              go_wp2
              clear hlt hn
              go_loopw [20] (fun i wr => ∃ n : Nat, ∃ hl : List Nat, n ≤ 8 ∧ i = .int .i64 n ∧ hl.length = 8 ∧ (∀ j, j < n → hl.getD j 0 = R.list.getD j 0) ∧ (∀ j, n ≤ j → hl.getD j 0 = st.list.getD j 0) ∧ Mem5 w wr b0 b1 b2 b3 b4 hl ks nil8 xs t.list) (fun i _ => 8 - (intOf i).toNat)
              case atStart => exact ⟨0, hs, by omega, rfl, hhs, by simp, fun j _ => by rw [HS.out], HM.out⟩
              case round =>
                clear HM
                obtain ⟨n, hl, hn, rfl, hll, hdone, hleft, hm⟩ := hrel
                have HM := hide hm
                have HD := hide hdone
                have HL := hide hleft
                clear hm hdone hleft
                by_cases hlt : n < 8
                · go_wp2
                  refine wp_region_tail 9 (fun wd => Mem5 w wd b0 b1 b2 b3 b4 hl ks nil8 xs t.list) HM.out.drew (by kernel_rfl) (by kernel_rfl) ?_
                  clear HM
                  intro wd hm
                  have HM := hide hm
                  clear hm
                  have c0 := HM.out.m.h.cell n (by omega)
                  have c1 := HM.out.s.cell n (by show n < 8; omega)
                  rw [HL.out n (Nat.le_refl _)] at c0
                  have hp := HPL.out n hlt
                  obtain ⟨x0, e0⟩ : ∃ x0, x0 = st.list.getD n 0 := ⟨_, rfl⟩
                  obtain ⟨x1, e1⟩ : ∃ x1, x1 = t.list.getD n 0 := ⟨_, rfl⟩
                  obtain ⟨x2, e2⟩ : ∃ x2, x2 = R.list.getD n 0 := ⟨_, rfl⟩
                  rw [← e0] at c0 hp
                  rw [← e1] at c1 hp
                  rw [← e2] at hp
                  have HP := hide hp
                  have E2 := hide e2
                  clear hp e0 e1 e2
                  simp only [List.take_succ_cons, List.take_zero, List.drop_succ_cons, List.drop_zero]
                  repeat (go_big_quiet_step (fail))
                  refine wpQuiet_nil ?_
                  have hf := HM.out.m.h.free n
                  go_wp2
                  go_roundw
                  case rel =>
                    have ev : (((x0 : Int) + (x1 : Int)) % 4294967296) = ((x2 : Nat) : Int) := by rw [HP.out]; unfold add; omega
                    rw [ev]
                    refine ⟨n + 1, hl.set n x2, by omega, by go_num, by simpa using hll, ?_, ?_, HM.out.setH n x2⟩
                    · intro j hj
                      by_cases e : n = j
                      · subst e; rw [P1.getD_set_eq _ _ _ (by omega)]; exact E2.out
                      · rw [P1.getD_set_ne _ _ _ _ e]; exact HD.out j (by omega)
                    · intro j hj
                      rw [P1.getD_set_ne _ _ _ _ (by omega)]; exact HL.out j (by omega)
                  case measure => simp [intOf]; omega
                · have HR8 := hide (fun j (hj : j < 8) => HD.out j (by omega))
                  have d0 := HM.out.m.h.cell 0 (by omega)
                  have d1 := HM.out.m.h.cell 1 (by omega)
                  have d2 := HM.out.m.h.cell 2 (by omega)
                  have d3 := HM.out.m.h.cell 3 (by omega)
                  have d4 := HM.out.m.h.cell 4 (by omega)
                  have d5 := HM.out.m.h.cell 5 (by omega)
                  have d6 := HM.out.m.h.cell 6 (by omega)
                  have d7 := HM.out.m.h.cell 7 (by omega)
                  rw [HR8.out 0 (by omega)] at d0
                  rw [HR8.out 1 (by omega)] at d1
                  rw [HR8.out 2 (by omega)] at d2
                  rw [HR8.out 3 (by omega)] at d3
                  rw [HR8.out 4 (by omega)] at d4
                  rw [HR8.out 5 (by omega)] at d5
                  rw [HR8.out 6 (by omega)] at d6
                  rw [HR8.out 7 (by omega)] at d7
                  simp only [St.list, List.getD_cons_zero, List.getD_cons_succ] at d0 d1 d2 d3 d4 d5 d6 d7
                  have r0 := HM.out.m.r.cell 0 (by decide)
                  have r1 := HM.out.m.r.cell 1 (by decide)
                  have r2 := HM.out.m.r.cell 2 (by decide)
                  have r3 := HM.out.m.r.cell 3 (by decide)
                  have r4 := HM.out.m.r.cell 4 (by decide)
                  have r5 := HM.out.m.r.cell 5 (by decide)
                  have r6 := HM.out.m.r.cell 6 (by decide)
                  have r7 := HM.out.m.r.cell 7 (by decide)
                  have hf := HM.out.m.r.free
                  have hbl := HM.out.m.bel
                  have HBL := hide hbl
                  have hw2 : w.heap.size ≤ b2 := by have := HM.out.m.o0; have := HM.out.m.o1; have := HM.out.m.o2; omega
                  clear hbl HM HR8 HD HL
                  go_wp2
                  refine bodyPost_ret (v := .agg #[.int .u32 (R.a : Int), .int .u32 (R.b : Int), .int .u32 (R.c : Int), .int .u32 (R.d : Int), .int .u32 (R.e : Int), .int .u32 (R.f : Int), .int .u32 (R.g : Int), .int .u32 (R.h : Int)]) (by simp [results, Tryd.results51, go_sem, r0, r1, r2, r3, r4, r5, r6, r7]) rfl ⟨rfl, ?_⟩
                  exact (((((((HBL.out.setCell hw2 _).setCell hw2 _).setCell hw2 _).setCell hw2 _).setCell hw2 _).setCell hw2 _).setCell hw2 _).setCell hw2 _
end Go.Proofs.YtflicklgmhgpiaaDoor.P3
