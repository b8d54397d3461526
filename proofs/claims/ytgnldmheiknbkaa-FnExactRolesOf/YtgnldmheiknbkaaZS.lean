/- The laws' own helpers over slices of Facts; condition: at most 2^20 of them.
The laws' own helpers over slices of Creds; condition: at most 2^20 of them.
The laws' own helpers over slices of Roles; condition: at most 2^20 of them.
What the exact laws over a list of words share; no condition. -/
import Derived.Test.YtgnldmheiknbkaaZM
import Derived.Test.YtgnldmheiknbkaaZK
import Derived.Test.YtgnldmheiknbkaaZQ
namespace Go.Proofs.Ytgnldmheiknbkaa.P6
set_option maxRecDepth 8000
open Go.RowKit P1 P5 Rc

theorem szFact_calls (w : World) (a : Option Addr) (n cap : Nat) (hn : n ≤ 9223372036854775807) :
    Calls Try.prog 32 #[.slice a n cap, .int .i64 1048576] w fun e w' => e = .returned (.int .i64 (if 1048576 < n then -1 else 1048576 - (n : Int))) ∧ w' = w := by
  by_cases h : 1048576 < n
  · rw [if_pos h]
    have hd : decide ((1048576 : Int) - (n : Int) < 0) = true := by simp; omega
    go_enter Try.func32, Try.ntmps32
    go_wp2
    go_ret
    exact ⟨rfl, rfl⟩
  · rw [if_neg h]
    have hd : decide ((1048576 : Int) - (n : Int) < 0) = false := by simp; omega
    go_enter Try.func32, Try.ntmps32
    go_wp2
    go_ret
    exact ⟨rfl, rfl⟩

set_option maxHeartbeats 400000 in
theorem eqFact_self (f : Fa) (w : World) : Calls Try.prog 67 #[faV f, faV f] w fun e w' => e = .returned (.bool true) ∧ Below w.heap.size w w' := by
  obtain ⟨a, b, c⟩ := f
  simp only [faV]
  have HB := hide (Below.two w (.cells #[.int .i64 a, .int .i64 b, .int .i64 c] 36) (.cells #[.int .i64 a, .int .i64 b, .int .i64 c] 36))
  have g0 := Blk.new w #[.int .i64 a, .int .i64 b, .int .i64 c] 36
  have G0 := hide (g0.below ((Below.refl _ _).alloc (Nat.le_refl _) (.cells #[.int .i64 a, .int .i64 b, .int .i64 c] 36)) g0.lt)
  have g1 := Blk.new (w.alloc (.cells #[.int .i64 a, .int .i64 b, .int .i64 c] 36)) #[.int .i64 a, .int .i64 b, .int .i64 c] 36
  rw [show (w.alloc (.cells #[.int .i64 a, .int .i64 b, .int .i64 c] 36)).heap.size = w.heap.size + 1 from by simp [go_sem]] at g1
  have G1 := hide g1
  clear g0 g1
  have HE := hide (fun wx => eqRole_calls a b a b wx)
  simp only [and_self, decide_true] at HE
  go_enter Try.func67, Try.ntmps67
  go_wp2_with fail
  obtain ⟨b1, e1⟩ : ∃ b, b = w.heap.size + 1 := ⟨_, rfl⟩
  obtain ⟨b0, e0⟩ : ∃ b, b = w.heap.size := ⟨_, rfl⟩
  rw [← e1] at G1 ⊢
  rw [← e0] at G0 ⊢
  clear e0 e1
  generalize (w.alloc (.cells #[.int .i64 a, .int .i64 b, .int .i64 c] 36)).alloc (.cells #[.int .i64 a, .int .i64 b, .int .i64 c] 36) = w1 at *
  refine (HE.out _).mono ?_
  rintro e w2 ⟨rfl, hb⟩
  have HB := hide (HB.out.trans (hb.mono HB.out.size))
  have G0 := hide (G0.out.below hb G0.out.lt)
  have G1 := hide (G1.out.below hb G1.out.lt)
  clear hb HE
  have c2 : w2.cell? ⟨b0, 2, none⟩ = some (.int .i64 c) := by rw [G0.out.cell 2]; rfl
  have d2 : w2.cell? ⟨b1, 2, none⟩ = some (.int .i64 c) := by rw [G1.out.cell 2]; rfl
  have l0 := G0.out.lt
  have l1 := G1.out.lt
  have hne : (c != c) = false := by simp
  go_wp2_with fail
  go_ret
  exact ⟨rfl, HB.out⟩

set_option maxHeartbeats 1000000 in
theorem eqFactS_calls (w : World) (v u : Value) (l : List Fa) (hv : RowAt faR w v l) (hu : RowAt faR w u l) (hl : l.length ≤ 1073741824) :
    Calls Try.prog 35 #[v, u] w fun e w' => e = .returned (.bool true) ∧ Below w.heap.size w w' := by
  obtain ⟨a, ca, rfl, HA⟩ := hv.open_
  obtain ⟨b, cb, rfl, HB⟩ := hu.open_
  replace HA := hide HA
  replace HB := hide HB
  clear hv hu
  have hd : (((l.length : Int)) != ((l.length : Int))) = false := by simp
  go_enter Try.func35, Try.ntmps35
  go_wp2
  clear hd
  go_loopw [5] (fun i wr => ∃ k : Nat, k ≤ l.length ∧ i = .int .i64 k ∧ Hid (Below w.heap.size w wr)) (fun i _ => l.length - (intOf i).toNat)
  case atStart => exact ⟨0, Nat.zero_le _, rfl, Below.refl _ _⟩
  case round =>
    obtain ⟨k, hk, rfl, HW⟩ := hrel
    by_cases hlt : k < l.length
    · obtain ⟨ga, oa, rfl, ha, hca⟩ := HA.out k hlt
      obtain ⟨gb, ob, rfl, hb, hcb⟩ := HB.out k hlt
      have hsz := HW.out.size
      have HE := hide (fun wx => eqFact_self l[k] wx)
      generalize l[k] = x at *
      obtain ⟨x0, x1, x2⟩ := x
      have hga : ga < wr.heap.size := by omega
      have hgb : gb < wr.heap.size := by omega
      have na0 : ∀ p : Near wr.heap.size wr, p.w.cell? ⟨ga, oa + k * 3, none⟩ = some (.int .i64 x0) := fun p => (p.h.cell (p := ⟨ga, oa + k * 3, none⟩) hga).trans ((HW.out.cell (p := ⟨ga, oa + k * 3, none⟩) ha).trans (hca 0 (by decide)))
      have na1 : ∀ p : Near wr.heap.size wr, p.w.cell? ⟨ga, oa + k * 3 + 1, none⟩ = some (.int .i64 x1) := fun p => (p.h.cell (p := ⟨ga, oa + k * 3 + 1, none⟩) hga).trans ((HW.out.cell (p := ⟨ga, oa + k * 3 + 1, none⟩) ha).trans (hca 1 (by decide)))
      have na2 : ∀ p : Near wr.heap.size wr, p.w.cell? ⟨ga, oa + k * 3 + 2, none⟩ = some (.int .i64 x2) := fun p => (p.h.cell (p := ⟨ga, oa + k * 3 + 2, none⟩) hga).trans ((HW.out.cell (p := ⟨ga, oa + k * 3 + 2, none⟩) ha).trans (hca 2 (by decide)))
      have nb0 : ∀ p : Near wr.heap.size wr, p.w.cell? ⟨gb, ob + k * 3, none⟩ = some (.int .i64 x0) := fun p => (p.h.cell (p := ⟨gb, ob + k * 3, none⟩) hgb).trans ((HW.out.cell (p := ⟨gb, ob + k * 3, none⟩) hb).trans (hcb 0 (by decide)))
      have nb1 : ∀ p : Near wr.heap.size wr, p.w.cell? ⟨gb, ob + k * 3 + 1, none⟩ = some (.int .i64 x1) := fun p => (p.h.cell (p := ⟨gb, ob + k * 3 + 1, none⟩) hgb).trans ((HW.out.cell (p := ⟨gb, ob + k * 3 + 1, none⟩) hb).trans (hcb 1 (by decide)))
      have nb2 : ∀ p : Near wr.heap.size wr, p.w.cell? ⟨gb, ob + k * 3 + 2, none⟩ = some (.int .i64 x2) := fun p => (p.h.cell (p := ⟨gb, ob + k * 3 + 2, none⟩) hgb).trans ((HW.out.cell (p := ⟨gb, ob + k * 3 + 2, none⟩) hb).trans (hcb 2 (by decide)))
      simp only [faV] at HE
      have hnn := Near.some wr.heap.size wr
      clear hca hcb
      go_wp2_with fail
      refine wp_region_near wr.heap.size wr (Below.refl _ _) (by kernel_rfl) (by kernel_rfl) ?_
      repeat (go_big_quiet_step (fail))
      go_big_quiet_step (exact calls_near (Nat.le_refl _) (HE.out _))
      repeat (go_big_quiet_step (fail))
      refine wpQuiet_nil ?_
      rintro w3 ⟨pq, rfl⟩
      have hqb := pq.h
      obtain ⟨w3, hq⟩ := pq
      simp only at hqb ⊢
      have HW3 := hide (HW.out.trans (hqb.mono hsz))
      clear hq hqb hnn na0 nb0 na1 nb1 na2 nb2
      go_wp2
      go_roundw
      case rel => exact ⟨k + 1, by omega, by go_num, HW3.out⟩
      case measure => simp [intOf]; omega
    · go_wp2
      go_ret
      exact ⟨rfl, HW.out⟩

set_option maxHeartbeats 400000 in
theorem toFact_calls (f : Fa) (w : World) : Calls Try.prog 66 #[faV f] w fun e w' => e = .returned (faV f) ∧ Below w.heap.size w w' := by
  obtain ⟨a, b, c⟩ := f
  simp only [faV]
  go_enter Try.func66, Try.ntmps66
  go_wp2_with fail
  have HB := hide (Below.three w (.cells #[.int .i64 a, .int .i64 b, .int .i64 c] 97) (.cells #[.int .i64 0, .int .i64 0, .int .i64 0] 36) (.cells #[.int .i64 0, .int .i64 0, .int .i64 0] 36))
  have g0 := Blk.new w #[.int .i64 a, .int .i64 b, .int .i64 c] 97
  have g0 := g0.below ((Below.refl _ _).alloc (Nat.le_refl _) (.cells #[.int .i64 0, .int .i64 0, .int .i64 0] 36)) g0.lt
  have G0 := hide (g0.below ((Below.refl _ _).alloc (Nat.le_refl _) (.cells #[.int .i64 0, .int .i64 0, .int .i64 0] 36)) g0.lt)
  have g1 := Blk.new (w.alloc (.cells #[.int .i64 a, .int .i64 b, .int .i64 c] 97)) #[.int .i64 0, .int .i64 0, .int .i64 0] 36
  have g1 := g1.below ((Below.refl _ _).alloc (Nat.le_refl _) (.cells #[.int .i64 0, .int .i64 0, .int .i64 0] 36)) g1.lt
  have g2 := Blk.new ((w.alloc (.cells #[.int .i64 a, .int .i64 b, .int .i64 c] 97)).alloc (.cells #[.int .i64 0, .int .i64 0, .int .i64 0] 36)) #[.int .i64 0, .int .i64 0, .int .i64 0] 36
  rw [show (w.alloc (.cells #[.int .i64 a, .int .i64 b, .int .i64 c] 97)).heap.size = w.heap.size + 1 from by simp [go_sem]] at g1
  rw [show ((w.alloc (.cells #[.int .i64 a, .int .i64 b, .int .i64 c] 97)).alloc (.cells #[.int .i64 0, .int .i64 0, .int .i64 0] 36)).heap.size = w.heap.size + 1 + 1 from by simp [go_sem]] at g2
  have G1 := hide g1
  have G2 := hide g2
  clear g0 g1 g2
  obtain ⟨b2, e2⟩ : ∃ b, b = w.heap.size + 1 + 1 := ⟨_, rfl⟩
  obtain ⟨b1, e1⟩ : ∃ b, b = w.heap.size + 1 := ⟨_, rfl⟩
  obtain ⟨b0, e0⟩ : ∃ b, b = w.heap.size := ⟨_, rfl⟩
  rw [← e2] at G2 ⊢
  rw [← e1] at G1 ⊢
  rw [← e0] at G0 ⊢
  have h02 : b0 ≠ b2 := by omega
  have h12 : b1 ≠ b2 := by omega
  have h20 : b2 ≠ b0 := by omega
  have h21 : b2 ≠ b1 := by omega
  have h01 : b0 ≠ b1 := by omega
  have hw2 : w.heap.size ≤ b2 := by omega
  have hw1 : w.heap.size ≤ b1 := by omega
  clear e0 e1 e2
  generalize ((w.alloc (.cells #[.int .i64 a, .int .i64 b, .int .i64 c] 97)).alloc (.cells #[.int .i64 0, .int .i64 0, .int .i64 0] 36)).alloc (.cells #[.int .i64 0, .int .i64 0, .int .i64 0] 36) = w1 at *
  refine (toRole_calls a b _).mono ?_
  rintro e w2 ⟨rfl, hb⟩
  have HB := hide (HB.out.trans (hb.mono HB.out.size))
  have G0 := hide (G0.out.below hb G0.out.lt)
  have G1 := hide (G1.out.below hb G1.out.lt)
  have G2 := hide (G2.out.below hb G2.out.lt)
  clear hb
  have a2 : w2.cell? ⟨b0, 2, none⟩ = some (.int .i64 c) := by rw [G0.out.cell 2]; rfl
  have d0 : w2.cell? ⟨b2, 0, none⟩ = some (.int .i64 0) := by rw [G2.out.cell 0]; rfl
  have d1 : w2.cell? ⟨b2, 1, none⟩ = some (.int .i64 0) := by rw [G2.out.cell 1]; rfl
  have d2 : w2.cell? ⟨b2, 2, none⟩ = some (.int .i64 0) := by rw [G2.out.cell 2]; rfl
  have r0 : w2.cell? ⟨b1, 0, none⟩ = some (.int .i64 0) := by rw [G1.out.cell 0]; rfl
  have r1 : w2.cell? ⟨b1, 1, none⟩ = some (.int .i64 0) := by rw [G1.out.cell 1]; rfl
  have r2 : w2.cell? ⟨b1, 2, none⟩ = some (.int .i64 0) := by rw [G1.out.cell 2]; rfl
  have f1 := G1.out.free
  have f2 := G2.out.free
  go_wp2_with fail
  have hF := ((((((G1.out.other (p := ⟨b2, 0, none⟩) h12 (.int .i64 a)).other (p := ⟨b2, 1, none⟩) h12 (.int .i64 b)).other (p := ⟨b2, 2, none⟩) h12 (.int .i64 c)).set 0 (.int .i64 a)).set 1 (.int .i64 b)).set 2 (.int .i64 c))
  have hbF := ((((((HB.out.setCell (p := ⟨b2, 0, none⟩) hw2 (.int .i64 a)).setCell (p := ⟨b2, 1, none⟩) hw2 (.int .i64 b)).setCell (p := ⟨b2, 2, none⟩) hw2 (.int .i64 c)).setCell (p := ⟨b1, 0, none⟩) hw1 (.int .i64 a)).setCell (p := ⟨b1, 1, none⟩) hw1 (.int .i64 b)).setCell (p := ⟨b1, 2, none⟩) hw1 (.int .i64 c))
  clear a2 d0 d1 d2 r0 r1 r2 f1 f2 G0 G1 G2 HB
  generalize ((((((w2.setCell ⟨b2, 0, none⟩ (.int .i64 a)).setCell ⟨b2, 1, none⟩ (.int .i64 b)).setCell ⟨b2, 2, none⟩ (.int .i64 c)).setCell ⟨b1, 0, none⟩ (.int .i64 a)).setCell ⟨b1, 1, none⟩ (.int .i64 b)).setCell ⟨b1, 2, none⟩ (.int .i64 c)) = wF at *
  have x0 : wF.cell? ⟨b1, 0, none⟩ = some (.int .i64 a) := by rw [hF.cell 0]; rfl
  have x1 : wF.cell? ⟨b1, 1, none⟩ = some (.int .i64 b) := by rw [hF.cell 1]; rfl
  have x2 : wF.cell? ⟨b1, 2, none⟩ = some (.int .i64 c) := by rw [hF.cell 2]; rfl
  refine bodyPost_ret (v := .agg #[.int .i64 a, .int .i64 b, .int .i64 c]) (by simp [results, Try.results66, go_sem, x0, x1, x2]) rfl ⟨rfl, hbF⟩

theorem zerosFact (m : Nat) : (madeCells #[Value.int .i64 0, Value.int .i64 0, Value.int .i64 0] m).toList = cellsI (List.replicate m 0) := by
  rw [madeCells_all _ (.int .i64 0) (by decide) (fun i hi => ?_) m]
  · simp [cellsI]
  · have hi' : i < 3 := hi
    match i, hi' with
    | 0, _ => rfl
    | 1, _ => rfl
    | 2, _ => rfl

set_option maxHeartbeats 1000000 in
theorem toFactS_calls (w : World) (v : Value) (l : List Fa) (hv : RowAt faR w v l) (hl : l.length ≤ 1048576) :
    Calls Try.prog 33 #[v] w fun e w' => ∃ v', e = .returned v' ∧ w'.ownsRow w.heap.size 36 3 v' l.length (cellsI (flat faR l)) ∧ Below w.heap.size w w' := by
  obtain ⟨a, ca, rfl, HA⟩ := hv.open_
  replace HA := hide HA
  clear hv
  obtain ⟨i0, hi, hz0, hz1, hz2⟩ := info_parts info_fact
  have hFl := flat_length faR l
  obtain ⟨F, EF⟩ : ∃ F, F = flat faR l := ⟨_, rfl⟩
  have HFG : Hid (∀ j i (hj : j < l.length), i < 3 → F[j * 3 + i]? = (faR.ints l[j])[i]?) := fun j i hj hi => by rw [EF]; exact flat_get faR l j i hj hi
  rw [← EF] at hFl ⊢
  have hFl2 : F.length = l.length * 3 := hFl
  have HFL := hide hFl2
  clear EF hFl hFl2
  go_enter Try.func33, Try.ntmps33
  go_wp2_with (at_make; refine wpList_make_full _ rfl (.tmp 6) (.tmp 6) 31 rfl w.heap.size 36 i0 (.agg #[.int .i64 0, .int .i64 0, .int .i64 0]) 3 Try.underlying31 hi hz0 hz1 .i64 .i64 _ _ l.length rfl rfl (by omega) (by omega) (by rw [hz2]; omega) (by unfold maxLen; omega) (Nat.le_refl _) ?_)
  intro w2 hown2 hgr2
  rw [zerosFact] at hown2
  have hb2 : Below w.heap.size w w2 := (Below.refl _ _).grown hgr2 (Nat.le_refl _) (by intro k hk; cases hk)
  have HO2 : Hid (w2.ownsRow w.heap.size 36 3 (.slice (some ⟨w.heap.size, 0, none⟩) l.length l.length) l.length (cellsI (half F (0 * 3)))) := by
    show World.ownsRow _ _ _ _ _ _ _
    rw [Nat.zero_mul]
    unfold half
    rw [HFL.out, List.take_zero, List.nil_append, Nat.sub_zero]
    exact hown2
  have HB2 := hide hb2
  clear hown2 hgr2 hb2
  obtain ⟨g, hg⟩ : ∃ g, g = w.heap.size := ⟨_, rfl⟩
  go_wp2
  rw [← hg]
  have hgw : w.heap.size ≤ g := by omega
  have HG := hide hg
  clear hg
  go_loopw [4] (fun i wr => ∃ k : Nat, k ≤ l.length ∧ i = .int .i64 k ∧ Hid (wr.ownsRow w.heap.size 36 3 (.slice (some ⟨g, 0, none⟩) l.length l.length) l.length (cellsI (half F (k * 3)))) ∧ Hid (Below w.heap.size w wr)) (fun i _ => l.length - (intOf i).toNat)
  case atStart => exact ⟨0, Nat.zero_le _, rfl, by rw [HG.out]; exact HO2.out, HB2.out⟩
  case round =>
    clear HO2 HB2
    obtain ⟨k, hk, rfl, HO, HB⟩ := hrel
    by_cases hlt : k < l.length
    · obtain ⟨ga, oa, rfl, ha, hca⟩ := HA.out k hlt
      have hfg := HFG.out k
      have hsz := HB.out.size
      have HT := hide (fun wx => toFact_calls l[k] wx)
      have hq : ∀ i, i < 3 → F[k * 3 + i]? = (faR.ints l[k])[i]? := fun i hi => hfg i hlt hi
      generalize l[k] = x at *
      obtain ⟨x0, x1, x2⟩ := x
      simp only [faV] at HT
      have z0 := half_set? F (k * 3) x0 (hq 0 (by decide))
      have z1 := half_set? F (k * 3 + 1) x1 (hq 1 (by decide))
      have z2 := half_set? F (k * 3 + 2) x2 (hq 2 (by decide))
      have hga : ga < wr.heap.size := by omega
      have s0 : wr.cell? ⟨ga, oa + k * 3, none⟩ = some (.int .i64 x0) := (HB.out.cell (p := ⟨ga, oa + k * 3, none⟩) ha).trans (hca 0 (by decide))
      have s1 : wr.cell? ⟨ga, oa + k * 3 + 1, none⟩ = some (.int .i64 x1) := (HB.out.cell (p := ⟨ga, oa + k * 3 + 1, none⟩) ha).trans (hca 1 (by decide))
      have s2 : wr.cell? ⟨ga, oa + k * 3 + 2, none⟩ = some (.int .i64 x2) := (HB.out.cell (p := ⟨ga, oa + k * 3 + 2, none⟩) ha).trans (hca 2 (by decide))
      clear hq hfg hca
      go_wp2_with fail
      clear s0 s1 s2
      refine (HT.out _).mono ?_
      rintro e w5 ⟨rfl, hb⟩
      have HO5 := hide (own_below HO.out hb)
      have HB5 := hide (HB.out.trans (hb.mono hsz))
      clear hb HT HO HB
      have hlen : (cellsI (half F (k * 3))).length = l.length * 3 := by rw [cellsI_length, half_length F _ (by rw [HFL.out]; exact Nat.mul_le_mul_right _ hk), HFL.out]
      have hc : ∀ i, i < 3 → ∃ x, w5.cell? ⟨g, k * 3 + i, none⟩ = some x := fun i hi => by
        have hb1 : (k + 1) * 3 ≤ l.length * 3 := Nat.mul_le_mul_right _ hlt
        rw [HO5.out.cellAt (k * 3 + i) (by omega)]
        exact ⟨_, List.getElem?_eq_getElem (by rw [hlen]; omega)⟩
      obtain ⟨o0, p0⟩ := hc 0 (by decide)
      rw [Nat.add_zero] at p0
      obtain ⟨o1, p1⟩ := hc 1 (by decide)
      obtain ⟨o2, p2⟩ := hc 2 (by decide)
      have hf := fun i => HO5.out.frozenAt i
      have hgs : g < w5.heap.size := (HO5.out.lt g rfl).2
      clear hc hlen
      go_wp2
      go_roundw
      case rel =>
        refine ⟨k + 1, by omega, by go_num, ?_, (((HB5.out.setCell (p := ⟨g, k * 3, none⟩) hgw _).setCell (p := ⟨g, k * 3 + 1, none⟩) hgw _).setCell (p := ⟨g, k * 3 + 2, none⟩) hgw _)⟩
        have h1 := (((HO5.out.stored (k * 3) (.int .i64 x0)).1.stored (k * 3 + 1) (.int .i64 x1)).1.stored (k * 3 + 2) (.int .i64 x2)).1
        simp only [cellsI_set, z0, z1, z2] at h1
        rw [show (k + 1) * 3 = k * 3 + 3 by omega]
        exact h1
      case measure => simp [intOf]; omega
    · have hkl : k = l.length := by omega
      have HE : Hid (half F (k * 3) = F) := half_all F _ (by rw [HFL.out, hkl]; exact Nat.le_refl _)
      go_wp2
      go_ret
      exact ⟨_, rfl, by rw [← HE.out]; exact HO.out, HB.out⟩

set_option maxHeartbeats 1000000 in
theorem markFactS_calls (w : World) (B : Nat) (v : Value) (m : Nat) (F : List Int) (k : Nat) (hF : F.length = m * 3) (hv : w.ownsRow B 36 3 v m (cellsI F)) (hk : k ≤ 1073741824) (hn : m ≤ 10485760) :
    Calls Try.prog 36 #[v, .int .i64 k] w fun e w' => e = .returned (.int .i64 ((k + m * 3 : Nat) : Int)) ∧ w'.ownsRow B 36 3 v m (cellsI (marks k (m * 3))) ∧ w.grownBy w' v.ownBlock := by
  have HV := hide hv
  have HFL := hide hF
  rcases hv.2 with ⟨rfl, h0⟩ | ⟨g, cap, cur, rfl, hb, hg, hnc, -, -, -⟩
  · subst h0
    have hF0 : F = [] := List.eq_nil_of_length_eq_zero (by omega)
    subst hF0
    clear hv hF
    go_enter Try.func36, Try.ntmps36
    go_wp2
    go_loop [1, 5] (fun q i => i = .int .i64 0 ∧ q = .int .i64 (k : Int)) (fun _ _ => 0)
    case atStart => exact ⟨rfl, rfl⟩
    case round =>
      obtain ⟨rfl, rfl⟩ := hrel
      go_wp2
      go_ret
      exact ⟨by simp, by simpa [marks] using HV.out, ⟨rfl, rfl, rfl, Nat.le_refl _, fun _ _ _ => rfl⟩⟩
  · clear hv hg hF
    go_enter Try.func36, Try.ntmps36
    go_wp2
    go_loopw [1, 5] (fun q i wr => ∃ j : Nat, j ≤ m ∧ i = .int .i64 j ∧ q = .int .i64 ((k : Int) + ((j * 3 : Nat) : Int)) ∧ Hid (wr.ownsRow B 36 3 (.slice (some ⟨g, 0, none⟩) m cap) m (cellsI (marked F k (j * 3)))) ∧ Hid (w.grownBy wr (some g))) (fun _ i _ => m - (intOf i).toNat)
    case atStart => exact ⟨0, Nat.zero_le _, rfl, by simp, by show World.ownsRow _ _ _ _ _ _ _; simpa [marked, marks] using HV.out, ⟨rfl, rfl, rfl, Nat.le_refl _, fun _ _ _ => rfl⟩⟩
    case round =>
      clear HV
      obtain ⟨j, hj, rfl, rfl, HO, HG⟩ := hrel
      by_cases hlt : j < m
      · have hb1 : (j + 1) * 3 ≤ m * 3 := Nat.mul_le_mul_right _ hlt
        have hlen : (cellsI (marked F k (j * 3))).length = m * 3 := by rw [cellsI_length, marked_length F k _ (by rw [HFL.out]; omega), HFL.out]
        have hc : ∀ i, i < 3 → ∃ x, wr.cell? ⟨g, j * 3 + i, none⟩ = some x := fun i hi => by
          rw [HO.out.cellAt (j * 3 + i) (by omega)]
          exact ⟨_, List.getElem?_eq_getElem (by rw [hlen]; omega)⟩
        obtain ⟨o0, p0⟩ := hc 0 (by decide)
        rw [Nat.add_zero] at p0
        obtain ⟨o1, p1⟩ := hc 1 (by decide)
        obtain ⟨o2, p2⟩ := hc 2 (by decide)
        have hf := fun i => HO.out.frozenAt i
        have hgs : g < wr.heap.size := (HO.out.lt g rfl).2
        have z0 : (marked F k (j * 3)).set (j * 3) ((k : Int) + ((j * 3 : Nat) : Int)) = marked F k (j * 3 + 1) := by rw [show (k : Int) + ((j * 3 : Nat) : Int) = (k : Int) + ((j * 3 : Nat) : Int) by omega]; exact marked_set F k (j * 3) (by rw [HFL.out]; omega)
        have z1 : (marked F k (j * 3 + 1)).set (j * 3 + 1) ((k : Int) + ((j * 3 : Nat) : Int) + 1) = marked F k (j * 3 + 2) := by rw [show (k : Int) + ((j * 3 : Nat) : Int) + 1 = (k : Int) + ((j * 3 + 1 : Nat) : Int) by omega]; exact marked_set F k (j * 3 + 1) (by rw [HFL.out]; omega)
        have z2 : (marked F k (j * 3 + 2)).set (j * 3 + 2) ((k : Int) + ((j * 3 : Nat) : Int) + 2) = marked F k (j * 3 + 3) := by rw [show (k : Int) + ((j * 3 : Nat) : Int) + 2 = (k : Int) + ((j * 3 + 2 : Nat) : Int) by omega]; exact marked_set F k (j * 3 + 2) (by rw [HFL.out]; omega)
        have h1 := (((HO.out.stored (j * 3) (.int .i64 ((k : Int) + ((j * 3 : Nat) : Int)))).1.stored (j * 3 + 1) (.int .i64 ((k : Int) + ((j * 3 : Nat) : Int) + 1))).1.stored (j * 3 + 2) (.int .i64 ((k : Int) + ((j * 3 : Nat) : Int) + 2))).1
        have HG2 := hide (grown_then (grown_then (HO.out.stored (j * 3) (.int .i64 ((k : Int) + ((j * 3 : Nat) : Int)))).2 ((HO.out.stored (j * 3) (.int .i64 ((k : Int) + ((j * 3 : Nat) : Int)))).1.stored (j * 3 + 1) (.int .i64 ((k : Int) + ((j * 3 : Nat) : Int) + 1))).2) (((HO.out.stored (j * 3) (.int .i64 ((k : Int) + ((j * 3 : Nat) : Int)))).1.stored (j * 3 + 1) (.int .i64 ((k : Int) + ((j * 3 : Nat) : Int) + 1))).1.stored (j * 3 + 2) (.int .i64 ((k : Int) + ((j * 3 : Nat) : Int) + 2))).2)
        simp only [cellsI_set, z0, z1, z2] at h1
        have HH1 := hide h1
        clear hc hlen h1 z0 z1 z2
        go_wp2
        go_roundw
        case rel =>
          refine ⟨j + 1, by omega, by go_num, by go_num, ?_, ?_⟩
          · rw [show (j + 1) * 3 = j * 3 + 3 by omega]
            exact HH1.out
          · exact grown_then HG.out HG2.out
        case measure => simp [intOf]; omega
      · have hjl : j = m := by omega
        subst hjl
        have HE : Hid (marked F k (j * 3) = marks k (j * 3)) := by
          show _ = _
          rw [marked_all F k _ HFL.out.symm, HFL.out]
        go_wp2
        go_ret
        exact ⟨by go_num, by rw [← HE.out]; exact HO.out, HG.out⟩

set_option maxHeartbeats 1000000 in
theorem heldFactS_calls (w : World) (B : Nat) (v : Value) (m k : Nat) (hv : w.ownsRow B 36 3 v m (cellsI (marks k (m * 3)))) (hk : k ≤ 1073741824) (hn : m ≤ 10485760) :
    Calls Try.prog 37 #[v, .int .i64 k] w fun e w' => e = .returned (.int .i64 ((k + m * 3 : Nat) : Int)) ∧ w' = w := by
  have HV := hide hv
  obtain ⟨a, cap, hsh⟩ := own_shape hv
  clear hv
  subst hsh
  go_enter Try.func37, Try.ntmps37
  go_wp2
  go_loop [1, 5] (fun q i => ∃ j : Nat, j ≤ m ∧ i = .int .i64 j ∧ q = .int .i64 ((k : Int) + ((j * 3 : Nat) : Int))) (fun _ i => m - (intOf i).toNat)
  case atStart => exact ⟨0, Nat.zero_le _, rfl, by simp⟩
  case round =>
    obtain ⟨j, hj, rfl, rfl⟩ := hrel
    by_cases hlt : j < m
    · obtain ⟨g, cap', hsl, -, hgs, -, hcc, -⟩ := own_at HV.out (by omega)
      cases hsl
      have hb1 : (j + 1) * 3 ≤ m * 3 := Nat.mul_le_mul_right _ hlt
      have hc : ∀ i, i < 3 → w.cell? ⟨g, j * 3 + i, none⟩ = some (.int .i64 ((k : Int) + ((j * 3 : Nat) : Int) + (i : Int))) := fun i hi => by
        rw [hcc (j * 3 + i) (by omega)]
        simp only [cellsI, List.getElem?_map]
        rw [List.getElem?_eq_getElem (by rw [marks_length]; omega), marks_get, Option.map_some]
        congr 2
        omega
      have c0 : w.cell? ⟨g, j * 3, none⟩ = some (.int .i64 ((k : Int) + ((j * 3 : Nat) : Int))) := by simpa using hc 0 (by decide)
      have c1 : w.cell? ⟨g, j * 3 + 1, none⟩ = some (.int .i64 ((k : Int) + ((j * 3 : Nat) : Int) + 1)) := by simpa using hc 1 (by decide)
      have c2 : w.cell? ⟨g, j * 3 + 2, none⟩ = some (.int .i64 ((k : Int) + ((j * 3 : Nat) : Int) + 2)) := by simpa using hc 2 (by decide)
      clear hc hcc
      go_wp2
      go_round
      case rel => exact ⟨j + 1, by omega, by go_num, by go_num⟩
      case measure => simp [intOf]; omega
    · have hjl : j = m := by omega
      subst hjl
      go_wp2
      go_ret
      exact ⟨by go_num, rfl⟩

set_option maxHeartbeats 1000000 in
theorem sameFacts_calls (w : World) (v u : Value) (l : List Fa) (hv : RowAt faR w v l) (hu : RowAt faR w u l) (hl : l.length ≤ 1073741824) :
    Calls Try.prog 14 #[v, u] w fun e w' => e = .returned (.bool true) ∧ Below w.heap.size w w' := by
  obtain ⟨a, ca, rfl, HA⟩ := hv.open_
  obtain ⟨b, cb, rfl, HB⟩ := hu.open_
  replace HA := hide HA
  replace HB := hide HB
  clear hv hu
  have hd : (((l.length : Int)) != ((l.length : Int))) = false := by simp
  go_enter Try.func14, Try.ntmps14
  go_wp2
  clear hd
  go_loopw [5] (fun i wr => ∃ k n : Nat, k ≤ l.length ∧ i = .int .i64 k ∧ wr = w.drewN n) (fun i _ => l.length - (intOf i).toNat)
  case atStart => exact ⟨0, 0, Nat.zero_le _, rfl, rfl⟩
  case round =>
    obtain ⟨k, nd, hk, rfl, rfl⟩ := hrel
    by_cases hlt : k < l.length
    · obtain ⟨ga, oa, rfl, ha, hca⟩ := HA.out k hlt
      obtain ⟨gb, ob, rfl, hb, hcb⟩ := HB.out k hlt
      generalize l[k] = x at *
      obtain ⟨x0, x1, x2⟩ := x
      have na0 : w.cell? ⟨ga, oa + k * 3, none⟩ = some (.int .i64 x0) := hca 0 (by decide)
      have na1 : w.cell? ⟨ga, oa + k * 3 + 1, none⟩ = some (.int .i64 x1) := hca 1 (by decide)
      have na2 : w.cell? ⟨ga, oa + k * 3 + 2, none⟩ = some (.int .i64 x2) := hca 2 (by decide)
      have nb0 : w.cell? ⟨gb, ob + k * 3, none⟩ = some (.int .i64 x0) := hcb 0 (by decide)
      have nb1 : w.cell? ⟨gb, ob + k * 3 + 1, none⟩ = some (.int .i64 x1) := hcb 1 (by decide)
      have nb2 : w.cell? ⟨gb, ob + k * 3 + 2, none⟩ = some (.int .i64 x2) := hcb 2 (by decide)
      clear hca hcb
      go_wp2
      go_quiet (fail)
      go_wp2
      go_roundw
      case rel => exact ⟨k + 1, _, by omega, by go_num, rfl⟩
      case measure => simp [intOf]; omega
    · go_wp2
      go_ret
      exact ⟨rfl, below_drewN (Below.refl _ _) _⟩

end Go.Proofs.Ytgnldmheiknbkaa.P6
namespace Go.Proofs.Ytgnldmheiknbkaa.P6
set_option maxRecDepth 8000
open Go.RowKit P1 P5 Rc

theorem szCred_calls (w : World) (a : Option Addr) (n cap : Nat) (hn : n ≤ 9223372036854775807) :
    Calls Try.prog 38 #[.slice a n cap, .int .i64 1048576] w fun e w' => e = .returned (.int .i64 (if 1048576 < n then -1 else 1048576 - (n : Int))) ∧ w' = w := by
  by_cases h : 1048576 < n
  · rw [if_pos h]
    have hd : decide ((1048576 : Int) - (n : Int) < 0) = true := by simp; omega
    go_enter Try.func38, Try.ntmps38
    go_wp2
    go_ret
    exact ⟨rfl, rfl⟩
  · rw [if_neg h]
    have hd : decide ((1048576 : Int) - (n : Int) < 0) = false := by simp; omega
    go_enter Try.func38, Try.ntmps38
    go_wp2
    go_ret
    exact ⟨rfl, rfl⟩

theorem eqCred_self (x : Cr) (w : World) : Calls Try.prog 68 #[credV x, credV x] w fun e w' => e = .returned (.bool true) ∧ Below w.heap.size w w' := by
  have h := eqCred_calls x x w
  rw [decide_eq_true rfl] at h
  exact h

set_option maxHeartbeats 1000000 in
theorem eqCredS_calls (w : World) (v u : Value) (l : List Cr) (hv : RowAt crR w v l) (hu : RowAt crR w u l) (hl : l.length ≤ 1073741824) :
    Calls Try.prog 40 #[v, u] w fun e w' => e = .returned (.bool true) ∧ Below w.heap.size w w' := by
  obtain ⟨a, ca, rfl, HA⟩ := hv.open_
  obtain ⟨b, cb, rfl, HB⟩ := hu.open_
  replace HA := hide HA
  replace HB := hide HB
  clear hv hu
  have hd : (((l.length : Int)) != ((l.length : Int))) = false := by simp
  go_enter Try.func40, Try.ntmps40
  go_wp2
  clear hd
  go_loopw [5] (fun i wr => ∃ k : Nat, k ≤ l.length ∧ i = .int .i64 k ∧ Hid (Below w.heap.size w wr)) (fun i _ => l.length - (intOf i).toNat)
  case atStart => exact ⟨0, Nat.zero_le _, rfl, Below.refl _ _⟩
  case round =>
    obtain ⟨k, hk, rfl, HW⟩ := hrel
    by_cases hlt : k < l.length
    · obtain ⟨ga, oa, rfl, ha, hca⟩ := HA.out k hlt
      obtain ⟨gb, ob, rfl, hb, hcb⟩ := HB.out k hlt
      have hsz := HW.out.size
      have HE := hide (fun wx => eqCred_self l[k] wx)
      generalize l[k] = x at *
      obtain ⟨x0, x1, x2, x3, x4, x5, x6, x7, x8, x9⟩ := x
      have hga : ga < wr.heap.size := by omega
      have hgb : gb < wr.heap.size := by omega
      have na0 : ∀ p : Near wr.heap.size wr, p.w.cell? ⟨ga, oa + k * 10, none⟩ = some (.int .i64 x0) := fun p => (p.h.cell (p := ⟨ga, oa + k * 10, none⟩) hga).trans ((HW.out.cell (p := ⟨ga, oa + k * 10, none⟩) ha).trans (hca 0 (by decide)))
      have na1 : ∀ p : Near wr.heap.size wr, p.w.cell? ⟨ga, oa + k * 10 + 1, none⟩ = some (.int .i64 x1) := fun p => (p.h.cell (p := ⟨ga, oa + k * 10 + 1, none⟩) hga).trans ((HW.out.cell (p := ⟨ga, oa + k * 10 + 1, none⟩) ha).trans (hca 1 (by decide)))
      have na2 : ∀ p : Near wr.heap.size wr, p.w.cell? ⟨ga, oa + k * 10 + 2, none⟩ = some (.int .i64 x2) := fun p => (p.h.cell (p := ⟨ga, oa + k * 10 + 2, none⟩) hga).trans ((HW.out.cell (p := ⟨ga, oa + k * 10 + 2, none⟩) ha).trans (hca 2 (by decide)))
      have na3 : ∀ p : Near wr.heap.size wr, p.w.cell? ⟨ga, oa + k * 10 + 3, none⟩ = some (.int .i64 x3) := fun p => (p.h.cell (p := ⟨ga, oa + k * 10 + 3, none⟩) hga).trans ((HW.out.cell (p := ⟨ga, oa + k * 10 + 3, none⟩) ha).trans (hca 3 (by decide)))
      have na4 : ∀ p : Near wr.heap.size wr, p.w.cell? ⟨ga, oa + k * 10 + 4, none⟩ = some (.int .i64 x4) := fun p => (p.h.cell (p := ⟨ga, oa + k * 10 + 4, none⟩) hga).trans ((HW.out.cell (p := ⟨ga, oa + k * 10 + 4, none⟩) ha).trans (hca 4 (by decide)))
      have na5 : ∀ p : Near wr.heap.size wr, p.w.cell? ⟨ga, oa + k * 10 + 5, none⟩ = some (.int .i64 x5) := fun p => (p.h.cell (p := ⟨ga, oa + k * 10 + 5, none⟩) hga).trans ((HW.out.cell (p := ⟨ga, oa + k * 10 + 5, none⟩) ha).trans (hca 5 (by decide)))
      have na6 : ∀ p : Near wr.heap.size wr, p.w.cell? ⟨ga, oa + k * 10 + 6, none⟩ = some (.int .i64 x6) := fun p => (p.h.cell (p := ⟨ga, oa + k * 10 + 6, none⟩) hga).trans ((HW.out.cell (p := ⟨ga, oa + k * 10 + 6, none⟩) ha).trans (hca 6 (by decide)))
      have na7 : ∀ p : Near wr.heap.size wr, p.w.cell? ⟨ga, oa + k * 10 + 7, none⟩ = some (.int .i64 x7) := fun p => (p.h.cell (p := ⟨ga, oa + k * 10 + 7, none⟩) hga).trans ((HW.out.cell (p := ⟨ga, oa + k * 10 + 7, none⟩) ha).trans (hca 7 (by decide)))
      have na8 : ∀ p : Near wr.heap.size wr, p.w.cell? ⟨ga, oa + k * 10 + 8, none⟩ = some (.int .i64 x8) := fun p => (p.h.cell (p := ⟨ga, oa + k * 10 + 8, none⟩) hga).trans ((HW.out.cell (p := ⟨ga, oa + k * 10 + 8, none⟩) ha).trans (hca 8 (by decide)))
      have na9 : ∀ p : Near wr.heap.size wr, p.w.cell? ⟨ga, oa + k * 10 + 9, none⟩ = some (.int .i64 x9) := fun p => (p.h.cell (p := ⟨ga, oa + k * 10 + 9, none⟩) hga).trans ((HW.out.cell (p := ⟨ga, oa + k * 10 + 9, none⟩) ha).trans (hca 9 (by decide)))
      have nb0 : ∀ p : Near wr.heap.size wr, p.w.cell? ⟨gb, ob + k * 10, none⟩ = some (.int .i64 x0) := fun p => (p.h.cell (p := ⟨gb, ob + k * 10, none⟩) hgb).trans ((HW.out.cell (p := ⟨gb, ob + k * 10, none⟩) hb).trans (hcb 0 (by decide)))
      have nb1 : ∀ p : Near wr.heap.size wr, p.w.cell? ⟨gb, ob + k * 10 + 1, none⟩ = some (.int .i64 x1) := fun p => (p.h.cell (p := ⟨gb, ob + k * 10 + 1, none⟩) hgb).trans ((HW.out.cell (p := ⟨gb, ob + k * 10 + 1, none⟩) hb).trans (hcb 1 (by decide)))
      have nb2 : ∀ p : Near wr.heap.size wr, p.w.cell? ⟨gb, ob + k * 10 + 2, none⟩ = some (.int .i64 x2) := fun p => (p.h.cell (p := ⟨gb, ob + k * 10 + 2, none⟩) hgb).trans ((HW.out.cell (p := ⟨gb, ob + k * 10 + 2, none⟩) hb).trans (hcb 2 (by decide)))
      have nb3 : ∀ p : Near wr.heap.size wr, p.w.cell? ⟨gb, ob + k * 10 + 3, none⟩ = some (.int .i64 x3) := fun p => (p.h.cell (p := ⟨gb, ob + k * 10 + 3, none⟩) hgb).trans ((HW.out.cell (p := ⟨gb, ob + k * 10 + 3, none⟩) hb).trans (hcb 3 (by decide)))
      have nb4 : ∀ p : Near wr.heap.size wr, p.w.cell? ⟨gb, ob + k * 10 + 4, none⟩ = some (.int .i64 x4) := fun p => (p.h.cell (p := ⟨gb, ob + k * 10 + 4, none⟩) hgb).trans ((HW.out.cell (p := ⟨gb, ob + k * 10 + 4, none⟩) hb).trans (hcb 4 (by decide)))
      have nb5 : ∀ p : Near wr.heap.size wr, p.w.cell? ⟨gb, ob + k * 10 + 5, none⟩ = some (.int .i64 x5) := fun p => (p.h.cell (p := ⟨gb, ob + k * 10 + 5, none⟩) hgb).trans ((HW.out.cell (p := ⟨gb, ob + k * 10 + 5, none⟩) hb).trans (hcb 5 (by decide)))
      have nb6 : ∀ p : Near wr.heap.size wr, p.w.cell? ⟨gb, ob + k * 10 + 6, none⟩ = some (.int .i64 x6) := fun p => (p.h.cell (p := ⟨gb, ob + k * 10 + 6, none⟩) hgb).trans ((HW.out.cell (p := ⟨gb, ob + k * 10 + 6, none⟩) hb).trans (hcb 6 (by decide)))
      have nb7 : ∀ p : Near wr.heap.size wr, p.w.cell? ⟨gb, ob + k * 10 + 7, none⟩ = some (.int .i64 x7) := fun p => (p.h.cell (p := ⟨gb, ob + k * 10 + 7, none⟩) hgb).trans ((HW.out.cell (p := ⟨gb, ob + k * 10 + 7, none⟩) hb).trans (hcb 7 (by decide)))
      have nb8 : ∀ p : Near wr.heap.size wr, p.w.cell? ⟨gb, ob + k * 10 + 8, none⟩ = some (.int .i64 x8) := fun p => (p.h.cell (p := ⟨gb, ob + k * 10 + 8, none⟩) hgb).trans ((HW.out.cell (p := ⟨gb, ob + k * 10 + 8, none⟩) hb).trans (hcb 8 (by decide)))
      have nb9 : ∀ p : Near wr.heap.size wr, p.w.cell? ⟨gb, ob + k * 10 + 9, none⟩ = some (.int .i64 x9) := fun p => (p.h.cell (p := ⟨gb, ob + k * 10 + 9, none⟩) hgb).trans ((HW.out.cell (p := ⟨gb, ob + k * 10 + 9, none⟩) hb).trans (hcb 9 (by decide)))
      simp only [credV] at HE
      have hnn := Near.some wr.heap.size wr
      clear hca hcb
      go_wp2_with fail
      refine wp_region_near wr.heap.size wr (Below.refl _ _) (by kernel_rfl) (by kernel_rfl) ?_
      repeat (go_big_quiet_step (fail))
      go_big_quiet_step (exact calls_near (Nat.le_refl _) (HE.out _))
      repeat (go_big_quiet_step (fail))
      refine wpQuiet_nil ?_
      rintro w3 ⟨pq, rfl⟩
      have hqb := pq.h
      obtain ⟨w3, hq⟩ := pq
      simp only at hqb ⊢
      have HW3 := hide (HW.out.trans (hqb.mono hsz))
      clear hq hqb hnn na0 nb0 na1 nb1 na2 nb2 na3 nb3 na4 nb4 na5 nb5 na6 nb6 na7 nb7 na8 nb8 na9 nb9
      go_wp2
      go_roundw
      case rel => exact ⟨k + 1, by omega, by go_num, HW3.out⟩
      case measure => simp [intOf]; omega
    · go_wp2
      go_ret
      exact ⟨rfl, HW.out⟩

theorem zerosCred (m : Nat) : (madeCells #[Value.int .i64 0, Value.int .i64 0, Value.int .i64 0, Value.int .i64 0, Value.int .i64 0, Value.int .i64 0, Value.int .i64 0, Value.int .i64 0, Value.int .i64 0, Value.int .i64 0] m).toList = cellsI (List.replicate m 0) := by
  rw [madeCells_all _ (.int .i64 0) (by decide) (fun i hi => ?_) m]
  · simp [cellsI]
  · have hi' : i < 10 := hi
    match i, hi' with
    | 0, _ => rfl
    | 1, _ => rfl
    | 2, _ => rfl
    | 3, _ => rfl
    | 4, _ => rfl
    | 5, _ => rfl
    | 6, _ => rfl
    | 7, _ => rfl
    | 8, _ => rfl
    | 9, _ => rfl

set_option maxHeartbeats 1000000 in
theorem toCredS_calls (w : World) (v : Value) (l : List Cr) (hv : RowAt crR w v l) (hl : l.length ≤ 1048576) :
    Calls Try.prog 39 #[v] w fun e w' => ∃ v', e = .returned v' ∧ w'.ownsRow w.heap.size 29 10 v' l.length (cellsI (flat crR l)) ∧ Below w.heap.size w w' := by
  obtain ⟨a, ca, rfl, HA⟩ := hv.open_
  replace HA := hide HA
  clear hv
  obtain ⟨i0, hi, hz0, hz1, hz2⟩ := info_parts info_cred
  have hFl := flat_length crR l
  obtain ⟨F, EF⟩ : ∃ F, F = flat crR l := ⟨_, rfl⟩
  have HFG : Hid (∀ j i (hj : j < l.length), i < 10 → F[j * 10 + i]? = (crR.ints l[j])[i]?) := fun j i hj hi => by rw [EF]; exact flat_get crR l j i hj hi
  rw [← EF] at hFl ⊢
  have hFl2 : F.length = l.length * 10 := hFl
  have HFL := hide hFl2
  clear EF hFl hFl2
  go_enter Try.func39, Try.ntmps39
  go_wp2_with (at_make; refine wpList_make_full _ rfl (.tmp 6) (.tmp 6) 24 rfl w.heap.size 29 i0 (.agg #[.int .i64 0, .int .i64 0, .int .i64 0, .int .i64 0, .int .i64 0, .int .i64 0, .int .i64 0, .int .i64 0, .int .i64 0, .int .i64 0]) 10 Try.underlying24 hi hz0 hz1 .i64 .i64 _ _ l.length rfl rfl (by omega) (by omega) (by rw [hz2]; omega) (by unfold maxLen; omega) (Nat.le_refl _) ?_)
  intro w2 hown2 hgr2
  rw [zerosCred] at hown2
  have hb2 : Below w.heap.size w w2 := (Below.refl _ _).grown hgr2 (Nat.le_refl _) (by intro k hk; cases hk)
  have HO2 : Hid (w2.ownsRow w.heap.size 29 10 (.slice (some ⟨w.heap.size, 0, none⟩) l.length l.length) l.length (cellsI (half F (0 * 10)))) := by
    show World.ownsRow _ _ _ _ _ _ _
    rw [Nat.zero_mul]
    unfold half
    rw [HFL.out, List.take_zero, List.nil_append, Nat.sub_zero]
    exact hown2
  have HB2 := hide hb2
  clear hown2 hgr2 hb2
  obtain ⟨g, hg⟩ : ∃ g, g = w.heap.size := ⟨_, rfl⟩
  go_wp2
  rw [← hg]
  have hgw : w.heap.size ≤ g := by omega
  have HG := hide hg
  clear hg
  go_loopw [4] (fun i wr => ∃ k : Nat, k ≤ l.length ∧ i = .int .i64 k ∧ Hid (wr.ownsRow w.heap.size 29 10 (.slice (some ⟨g, 0, none⟩) l.length l.length) l.length (cellsI (half F (k * 10)))) ∧ Hid (Below w.heap.size w wr)) (fun i _ => l.length - (intOf i).toNat)
  case atStart => exact ⟨0, Nat.zero_le _, rfl, by rw [HG.out]; exact HO2.out, HB2.out⟩
  case round =>
    clear HO2 HB2
    obtain ⟨k, hk, rfl, HO, HB⟩ := hrel
    by_cases hlt : k < l.length
    · obtain ⟨ga, oa, rfl, ha, hca⟩ := HA.out k hlt
      have hfg := HFG.out k
      have hsz := HB.out.size
      have HT := hide (fun wx => toCred_calls l[k] wx)
      have hq : ∀ i, i < 10 → F[k * 10 + i]? = (crR.ints l[k])[i]? := fun i hi => hfg i hlt hi
      generalize l[k] = x at *
      obtain ⟨x0, x1, x2, x3, x4, x5, x6, x7, x8, x9⟩ := x
      simp only [credV] at HT
      have z0 := half_set? F (k * 10) x0 (hq 0 (by decide))
      have z1 := half_set? F (k * 10 + 1) x1 (hq 1 (by decide))
      have z2 := half_set? F (k * 10 + 2) x2 (hq 2 (by decide))
      have z3 := half_set? F (k * 10 + 3) x3 (hq 3 (by decide))
      have z4 := half_set? F (k * 10 + 4) x4 (hq 4 (by decide))
      have z5 := half_set? F (k * 10 + 5) x5 (hq 5 (by decide))
      have z6 := half_set? F (k * 10 + 6) x6 (hq 6 (by decide))
      have z7 := half_set? F (k * 10 + 7) x7 (hq 7 (by decide))
      have z8 := half_set? F (k * 10 + 8) x8 (hq 8 (by decide))
      have z9 := half_set? F (k * 10 + 9) x9 (hq 9 (by decide))
      have hga : ga < wr.heap.size := by omega
      have s0 : wr.cell? ⟨ga, oa + k * 10, none⟩ = some (.int .i64 x0) := (HB.out.cell (p := ⟨ga, oa + k * 10, none⟩) ha).trans (hca 0 (by decide))
      have s1 : wr.cell? ⟨ga, oa + k * 10 + 1, none⟩ = some (.int .i64 x1) := (HB.out.cell (p := ⟨ga, oa + k * 10 + 1, none⟩) ha).trans (hca 1 (by decide))
      have s2 : wr.cell? ⟨ga, oa + k * 10 + 2, none⟩ = some (.int .i64 x2) := (HB.out.cell (p := ⟨ga, oa + k * 10 + 2, none⟩) ha).trans (hca 2 (by decide))
      have s3 : wr.cell? ⟨ga, oa + k * 10 + 3, none⟩ = some (.int .i64 x3) := (HB.out.cell (p := ⟨ga, oa + k * 10 + 3, none⟩) ha).trans (hca 3 (by decide))
      have s4 : wr.cell? ⟨ga, oa + k * 10 + 4, none⟩ = some (.int .i64 x4) := (HB.out.cell (p := ⟨ga, oa + k * 10 + 4, none⟩) ha).trans (hca 4 (by decide))
      have s5 : wr.cell? ⟨ga, oa + k * 10 + 5, none⟩ = some (.int .i64 x5) := (HB.out.cell (p := ⟨ga, oa + k * 10 + 5, none⟩) ha).trans (hca 5 (by decide))
      have s6 : wr.cell? ⟨ga, oa + k * 10 + 6, none⟩ = some (.int .i64 x6) := (HB.out.cell (p := ⟨ga, oa + k * 10 + 6, none⟩) ha).trans (hca 6 (by decide))
      have s7 : wr.cell? ⟨ga, oa + k * 10 + 7, none⟩ = some (.int .i64 x7) := (HB.out.cell (p := ⟨ga, oa + k * 10 + 7, none⟩) ha).trans (hca 7 (by decide))
      have s8 : wr.cell? ⟨ga, oa + k * 10 + 8, none⟩ = some (.int .i64 x8) := (HB.out.cell (p := ⟨ga, oa + k * 10 + 8, none⟩) ha).trans (hca 8 (by decide))
      have s9 : wr.cell? ⟨ga, oa + k * 10 + 9, none⟩ = some (.int .i64 x9) := (HB.out.cell (p := ⟨ga, oa + k * 10 + 9, none⟩) ha).trans (hca 9 (by decide))
      clear hq hfg hca
      go_wp2_with fail
      clear s0 s1 s2 s3 s4 s5 s6 s7 s8 s9
      refine (HT.out _).mono ?_
      rintro e w5 ⟨rfl, hb⟩
      have HO5 := hide (own_below HO.out hb)
      have HB5 := hide (HB.out.trans (hb.mono hsz))
      clear hb HT HO HB
      have hlen : (cellsI (half F (k * 10))).length = l.length * 10 := by rw [cellsI_length, half_length F _ (by rw [HFL.out]; exact Nat.mul_le_mul_right _ hk), HFL.out]
      have hc : ∀ i, i < 10 → ∃ x, w5.cell? ⟨g, k * 10 + i, none⟩ = some x := fun i hi => by
        have hb1 : (k + 1) * 10 ≤ l.length * 10 := Nat.mul_le_mul_right _ hlt
        rw [HO5.out.cellAt (k * 10 + i) (by omega)]
        exact ⟨_, List.getElem?_eq_getElem (by rw [hlen]; omega)⟩
      obtain ⟨o0, p0⟩ := hc 0 (by decide)
      rw [Nat.add_zero] at p0
      obtain ⟨o1, p1⟩ := hc 1 (by decide)
      obtain ⟨o2, p2⟩ := hc 2 (by decide)
      obtain ⟨o3, p3⟩ := hc 3 (by decide)
      obtain ⟨o4, p4⟩ := hc 4 (by decide)
      obtain ⟨o5, p5⟩ := hc 5 (by decide)
      obtain ⟨o6, p6⟩ := hc 6 (by decide)
      obtain ⟨o7, p7⟩ := hc 7 (by decide)
      obtain ⟨o8, p8⟩ := hc 8 (by decide)
      obtain ⟨o9, p9⟩ := hc 9 (by decide)
      have hf := fun i => HO5.out.frozenAt i
      have hgs : g < w5.heap.size := (HO5.out.lt g rfl).2
      clear hc hlen
      go_wp2
      go_roundw
      case rel =>
        refine ⟨k + 1, by omega, by go_num, ?_, ((((((((((HB5.out.setCell (p := ⟨g, k * 10, none⟩) hgw _).setCell (p := ⟨g, k * 10 + 1, none⟩) hgw _).setCell (p := ⟨g, k * 10 + 2, none⟩) hgw _).setCell (p := ⟨g, k * 10 + 3, none⟩) hgw _).setCell (p := ⟨g, k * 10 + 4, none⟩) hgw _).setCell (p := ⟨g, k * 10 + 5, none⟩) hgw _).setCell (p := ⟨g, k * 10 + 6, none⟩) hgw _).setCell (p := ⟨g, k * 10 + 7, none⟩) hgw _).setCell (p := ⟨g, k * 10 + 8, none⟩) hgw _).setCell (p := ⟨g, k * 10 + 9, none⟩) hgw _)⟩
        have h1 := ((((((((((HO5.out.stored (k * 10) (.int .i64 x0)).1.stored (k * 10 + 1) (.int .i64 x1)).1.stored (k * 10 + 2) (.int .i64 x2)).1.stored (k * 10 + 3) (.int .i64 x3)).1.stored (k * 10 + 4) (.int .i64 x4)).1.stored (k * 10 + 5) (.int .i64 x5)).1.stored (k * 10 + 6) (.int .i64 x6)).1.stored (k * 10 + 7) (.int .i64 x7)).1.stored (k * 10 + 8) (.int .i64 x8)).1.stored (k * 10 + 9) (.int .i64 x9)).1
        simp only [cellsI_set, z0, z1, z2, z3, z4, z5, z6, z7, z8, z9] at h1
        rw [show (k + 1) * 10 = k * 10 + 10 by omega]
        exact h1
      case measure => simp [intOf]; omega
    · have hkl : k = l.length := by omega
      have HE : Hid (half F (k * 10) = F) := half_all F _ (by rw [HFL.out, hkl]; exact Nat.le_refl _)
      go_wp2
      go_ret
      exact ⟨_, rfl, by rw [← HE.out]; exact HO.out, HB.out⟩

set_option maxHeartbeats 1000000 in
theorem markCredS_calls (w : World) (B : Nat) (v : Value) (m : Nat) (F : List Int) (k : Nat) (hF : F.length = m * 10) (hv : w.ownsRow B 29 10 v m (cellsI F)) (hk : k ≤ 1073741824) (hn : m ≤ 10485760) :
    Calls Try.prog 41 #[v, .int .i64 k] w fun e w' => e = .returned (.int .i64 ((k + m * 10 : Nat) : Int)) ∧ w'.ownsRow B 29 10 v m (cellsI (marks k (m * 10))) ∧ w.grownBy w' v.ownBlock := by
  have HV := hide hv
  have HFL := hide hF
  rcases hv.2 with ⟨rfl, h0⟩ | ⟨g, cap, cur, rfl, hb, hg, hnc, -, -, -⟩
  · subst h0
    have hF0 : F = [] := List.eq_nil_of_length_eq_zero (by omega)
    subst hF0
    clear hv hF
    go_enter Try.func41, Try.ntmps41
    go_wp2
    go_loop [1, 5] (fun q i => i = .int .i64 0 ∧ q = .int .i64 (k : Int)) (fun _ _ => 0)
    case atStart => exact ⟨rfl, rfl⟩
    case round =>
      obtain ⟨rfl, rfl⟩ := hrel
      go_wp2
      go_ret
      exact ⟨by simp, by simpa [marks] using HV.out, ⟨rfl, rfl, rfl, Nat.le_refl _, fun _ _ _ => rfl⟩⟩
  · clear hv hg hF
    go_enter Try.func41, Try.ntmps41
    go_wp2
    go_loopw [1, 5] (fun q i wr => ∃ j : Nat, j ≤ m ∧ i = .int .i64 j ∧ q = .int .i64 ((k : Int) + ((j * 10 : Nat) : Int)) ∧ Hid (wr.ownsRow B 29 10 (.slice (some ⟨g, 0, none⟩) m cap) m (cellsI (marked F k (j * 10)))) ∧ Hid (w.grownBy wr (some g))) (fun _ i _ => m - (intOf i).toNat)
    case atStart => exact ⟨0, Nat.zero_le _, rfl, by simp, by show World.ownsRow _ _ _ _ _ _ _; simpa [marked, marks] using HV.out, ⟨rfl, rfl, rfl, Nat.le_refl _, fun _ _ _ => rfl⟩⟩
    case round =>
      clear HV
      obtain ⟨j, hj, rfl, rfl, HO, HG⟩ := hrel
      by_cases hlt : j < m
      · have hb1 : (j + 1) * 10 ≤ m * 10 := Nat.mul_le_mul_right _ hlt
        have hlen : (cellsI (marked F k (j * 10))).length = m * 10 := by rw [cellsI_length, marked_length F k _ (by rw [HFL.out]; omega), HFL.out]
        have hc : ∀ i, i < 10 → ∃ x, wr.cell? ⟨g, j * 10 + i, none⟩ = some x := fun i hi => by
          rw [HO.out.cellAt (j * 10 + i) (by omega)]
          exact ⟨_, List.getElem?_eq_getElem (by rw [hlen]; omega)⟩
        obtain ⟨o0, p0⟩ := hc 0 (by decide)
        rw [Nat.add_zero] at p0
        obtain ⟨o1, p1⟩ := hc 1 (by decide)
        obtain ⟨o2, p2⟩ := hc 2 (by decide)
        obtain ⟨o3, p3⟩ := hc 3 (by decide)
        obtain ⟨o4, p4⟩ := hc 4 (by decide)
        obtain ⟨o5, p5⟩ := hc 5 (by decide)
        obtain ⟨o6, p6⟩ := hc 6 (by decide)
        obtain ⟨o7, p7⟩ := hc 7 (by decide)
        obtain ⟨o8, p8⟩ := hc 8 (by decide)
        obtain ⟨o9, p9⟩ := hc 9 (by decide)
        have hf := fun i => HO.out.frozenAt i
        have hgs : g < wr.heap.size := (HO.out.lt g rfl).2
        have z0 : (marked F k (j * 10)).set (j * 10) ((k : Int) + ((j * 10 : Nat) : Int)) = marked F k (j * 10 + 1) := by rw [show (k : Int) + ((j * 10 : Nat) : Int) = (k : Int) + ((j * 10 : Nat) : Int) by omega]; exact marked_set F k (j * 10) (by rw [HFL.out]; omega)
        have z1 : (marked F k (j * 10 + 1)).set (j * 10 + 1) ((k : Int) + ((j * 10 : Nat) : Int) + 1) = marked F k (j * 10 + 2) := by rw [show (k : Int) + ((j * 10 : Nat) : Int) + 1 = (k : Int) + ((j * 10 + 1 : Nat) : Int) by omega]; exact marked_set F k (j * 10 + 1) (by rw [HFL.out]; omega)
        have z2 : (marked F k (j * 10 + 2)).set (j * 10 + 2) ((k : Int) + ((j * 10 : Nat) : Int) + 2) = marked F k (j * 10 + 3) := by rw [show (k : Int) + ((j * 10 : Nat) : Int) + 2 = (k : Int) + ((j * 10 + 2 : Nat) : Int) by omega]; exact marked_set F k (j * 10 + 2) (by rw [HFL.out]; omega)
        have z3 : (marked F k (j * 10 + 3)).set (j * 10 + 3) ((k : Int) + ((j * 10 : Nat) : Int) + 3) = marked F k (j * 10 + 4) := by rw [show (k : Int) + ((j * 10 : Nat) : Int) + 3 = (k : Int) + ((j * 10 + 3 : Nat) : Int) by omega]; exact marked_set F k (j * 10 + 3) (by rw [HFL.out]; omega)
        have z4 : (marked F k (j * 10 + 4)).set (j * 10 + 4) ((k : Int) + ((j * 10 : Nat) : Int) + 4) = marked F k (j * 10 + 5) := by rw [show (k : Int) + ((j * 10 : Nat) : Int) + 4 = (k : Int) + ((j * 10 + 4 : Nat) : Int) by omega]; exact marked_set F k (j * 10 + 4) (by rw [HFL.out]; omega)
        have z5 : (marked F k (j * 10 + 5)).set (j * 10 + 5) ((k : Int) + ((j * 10 : Nat) : Int) + 5) = marked F k (j * 10 + 6) := by rw [show (k : Int) + ((j * 10 : Nat) : Int) + 5 = (k : Int) + ((j * 10 + 5 : Nat) : Int) by omega]; exact marked_set F k (j * 10 + 5) (by rw [HFL.out]; omega)
        have z6 : (marked F k (j * 10 + 6)).set (j * 10 + 6) ((k : Int) + ((j * 10 : Nat) : Int) + 6) = marked F k (j * 10 + 7) := by rw [show (k : Int) + ((j * 10 : Nat) : Int) + 6 = (k : Int) + ((j * 10 + 6 : Nat) : Int) by omega]; exact marked_set F k (j * 10 + 6) (by rw [HFL.out]; omega)
        have z7 : (marked F k (j * 10 + 7)).set (j * 10 + 7) ((k : Int) + ((j * 10 : Nat) : Int) + 7) = marked F k (j * 10 + 8) := by rw [show (k : Int) + ((j * 10 : Nat) : Int) + 7 = (k : Int) + ((j * 10 + 7 : Nat) : Int) by omega]; exact marked_set F k (j * 10 + 7) (by rw [HFL.out]; omega)
        have z8 : (marked F k (j * 10 + 8)).set (j * 10 + 8) ((k : Int) + ((j * 10 : Nat) : Int) + 8) = marked F k (j * 10 + 9) := by rw [show (k : Int) + ((j * 10 : Nat) : Int) + 8 = (k : Int) + ((j * 10 + 8 : Nat) : Int) by omega]; exact marked_set F k (j * 10 + 8) (by rw [HFL.out]; omega)
        have z9 : (marked F k (j * 10 + 9)).set (j * 10 + 9) ((k : Int) + ((j * 10 : Nat) : Int) + 9) = marked F k (j * 10 + 10) := by rw [show (k : Int) + ((j * 10 : Nat) : Int) + 9 = (k : Int) + ((j * 10 + 9 : Nat) : Int) by omega]; exact marked_set F k (j * 10 + 9) (by rw [HFL.out]; omega)
        have h1 := ((((((((((HO.out.stored (j * 10) (.int .i64 ((k : Int) + ((j * 10 : Nat) : Int)))).1.stored (j * 10 + 1) (.int .i64 ((k : Int) + ((j * 10 : Nat) : Int) + 1))).1.stored (j * 10 + 2) (.int .i64 ((k : Int) + ((j * 10 : Nat) : Int) + 2))).1.stored (j * 10 + 3) (.int .i64 ((k : Int) + ((j * 10 : Nat) : Int) + 3))).1.stored (j * 10 + 4) (.int .i64 ((k : Int) + ((j * 10 : Nat) : Int) + 4))).1.stored (j * 10 + 5) (.int .i64 ((k : Int) + ((j * 10 : Nat) : Int) + 5))).1.stored (j * 10 + 6) (.int .i64 ((k : Int) + ((j * 10 : Nat) : Int) + 6))).1.stored (j * 10 + 7) (.int .i64 ((k : Int) + ((j * 10 : Nat) : Int) + 7))).1.stored (j * 10 + 8) (.int .i64 ((k : Int) + ((j * 10 : Nat) : Int) + 8))).1.stored (j * 10 + 9) (.int .i64 ((k : Int) + ((j * 10 : Nat) : Int) + 9))).1
        have HG2 := hide (grown_then (grown_then (grown_then (grown_then (grown_then (grown_then (grown_then (grown_then (grown_then (HO.out.stored (j * 10) (.int .i64 ((k : Int) + ((j * 10 : Nat) : Int)))).2 ((HO.out.stored (j * 10) (.int .i64 ((k : Int) + ((j * 10 : Nat) : Int)))).1.stored (j * 10 + 1) (.int .i64 ((k : Int) + ((j * 10 : Nat) : Int) + 1))).2) (((HO.out.stored (j * 10) (.int .i64 ((k : Int) + ((j * 10 : Nat) : Int)))).1.stored (j * 10 + 1) (.int .i64 ((k : Int) + ((j * 10 : Nat) : Int) + 1))).1.stored (j * 10 + 2) (.int .i64 ((k : Int) + ((j * 10 : Nat) : Int) + 2))).2) ((((HO.out.stored (j * 10) (.int .i64 ((k : Int) + ((j * 10 : Nat) : Int)))).1.stored (j * 10 + 1) (.int .i64 ((k : Int) + ((j * 10 : Nat) : Int) + 1))).1.stored (j * 10 + 2) (.int .i64 ((k : Int) + ((j * 10 : Nat) : Int) + 2))).1.stored (j * 10 + 3) (.int .i64 ((k : Int) + ((j * 10 : Nat) : Int) + 3))).2) (((((HO.out.stored (j * 10) (.int .i64 ((k : Int) + ((j * 10 : Nat) : Int)))).1.stored (j * 10 + 1) (.int .i64 ((k : Int) + ((j * 10 : Nat) : Int) + 1))).1.stored (j * 10 + 2) (.int .i64 ((k : Int) + ((j * 10 : Nat) : Int) + 2))).1.stored (j * 10 + 3) (.int .i64 ((k : Int) + ((j * 10 : Nat) : Int) + 3))).1.stored (j * 10 + 4) (.int .i64 ((k : Int) + ((j * 10 : Nat) : Int) + 4))).2) ((((((HO.out.stored (j * 10) (.int .i64 ((k : Int) + ((j * 10 : Nat) : Int)))).1.stored (j * 10 + 1) (.int .i64 ((k : Int) + ((j * 10 : Nat) : Int) + 1))).1.stored (j * 10 + 2) (.int .i64 ((k : Int) + ((j * 10 : Nat) : Int) + 2))).1.stored (j * 10 + 3) (.int .i64 ((k : Int) + ((j * 10 : Nat) : Int) + 3))).1.stored (j * 10 + 4) (.int .i64 ((k : Int) + ((j * 10 : Nat) : Int) + 4))).1.stored (j * 10 + 5) (.int .i64 ((k : Int) + ((j * 10 : Nat) : Int) + 5))).2) (((((((HO.out.stored (j * 10) (.int .i64 ((k : Int) + ((j * 10 : Nat) : Int)))).1.stored (j * 10 + 1) (.int .i64 ((k : Int) + ((j * 10 : Nat) : Int) + 1))).1.stored (j * 10 + 2) (.int .i64 ((k : Int) + ((j * 10 : Nat) : Int) + 2))).1.stored (j * 10 + 3) (.int .i64 ((k : Int) + ((j * 10 : Nat) : Int) + 3))).1.stored (j * 10 + 4) (.int .i64 ((k : Int) + ((j * 10 : Nat) : Int) + 4))).1.stored (j * 10 + 5) (.int .i64 ((k : Int) + ((j * 10 : Nat) : Int) + 5))).1.stored (j * 10 + 6) (.int .i64 ((k : Int) + ((j * 10 : Nat) : Int) + 6))).2) ((((((((HO.out.stored (j * 10) (.int .i64 ((k : Int) + ((j * 10 : Nat) : Int)))).1.stored (j * 10 + 1) (.int .i64 ((k : Int) + ((j * 10 : Nat) : Int) + 1))).1.stored (j * 10 + 2) (.int .i64 ((k : Int) + ((j * 10 : Nat) : Int) + 2))).1.stored (j * 10 + 3) (.int .i64 ((k : Int) + ((j * 10 : Nat) : Int) + 3))).1.stored (j * 10 + 4) (.int .i64 ((k : Int) + ((j * 10 : Nat) : Int) + 4))).1.stored (j * 10 + 5) (.int .i64 ((k : Int) + ((j * 10 : Nat) : Int) + 5))).1.stored (j * 10 + 6) (.int .i64 ((k : Int) + ((j * 10 : Nat) : Int) + 6))).1.stored (j * 10 + 7) (.int .i64 ((k : Int) + ((j * 10 : Nat) : Int) + 7))).2) (((((((((HO.out.stored (j * 10) (.int .i64 ((k : Int) + ((j * 10 : Nat) : Int)))).1.stored (j * 10 + 1) (.int .i64 ((k : Int) + ((j * 10 : Nat) : Int) + 1))).1.stored (j * 10 + 2) (.int .i64 ((k : Int) + ((j * 10 : Nat) : Int) + 2))).1.stored (j * 10 + 3) (.int .i64 ((k : Int) + ((j * 10 : Nat) : Int) + 3))).1.stored (j * 10 + 4) (.int .i64 ((k : Int) + ((j * 10 : Nat) : Int) + 4))).1.stored (j * 10 + 5) (.int .i64 ((k : Int) + ((j * 10 : Nat) : Int) + 5))).1.stored (j * 10 + 6) (.int .i64 ((k : Int) + ((j * 10 : Nat) : Int) + 6))).1.stored (j * 10 + 7) (.int .i64 ((k : Int) + ((j * 10 : Nat) : Int) + 7))).1.stored (j * 10 + 8) (.int .i64 ((k : Int) + ((j * 10 : Nat) : Int) + 8))).2) ((((((((((HO.out.stored (j * 10) (.int .i64 ((k : Int) + ((j * 10 : Nat) : Int)))).1.stored (j * 10 + 1) (.int .i64 ((k : Int) + ((j * 10 : Nat) : Int) + 1))).1.stored (j * 10 + 2) (.int .i64 ((k : Int) + ((j * 10 : Nat) : Int) + 2))).1.stored (j * 10 + 3) (.int .i64 ((k : Int) + ((j * 10 : Nat) : Int) + 3))).1.stored (j * 10 + 4) (.int .i64 ((k : Int) + ((j * 10 : Nat) : Int) + 4))).1.stored (j * 10 + 5) (.int .i64 ((k : Int) + ((j * 10 : Nat) : Int) + 5))).1.stored (j * 10 + 6) (.int .i64 ((k : Int) + ((j * 10 : Nat) : Int) + 6))).1.stored (j * 10 + 7) (.int .i64 ((k : Int) + ((j * 10 : Nat) : Int) + 7))).1.stored (j * 10 + 8) (.int .i64 ((k : Int) + ((j * 10 : Nat) : Int) + 8))).1.stored (j * 10 + 9) (.int .i64 ((k : Int) + ((j * 10 : Nat) : Int) + 9))).2)
        simp only [cellsI_set, z0, z1, z2, z3, z4, z5, z6, z7, z8, z9] at h1
        have HH1 := hide h1
        clear hc hlen h1 z0 z1 z2 z3 z4 z5 z6 z7 z8 z9
        go_wp2
        go_roundw
        case rel =>
          refine ⟨j + 1, by omega, by go_num, by go_num, ?_, ?_⟩
          · rw [show (j + 1) * 10 = j * 10 + 10 by omega]
            exact HH1.out
          · exact grown_then HG.out HG2.out
        case measure => simp [intOf]; omega
      · have hjl : j = m := by omega
        subst hjl
        have HE : Hid (marked F k (j * 10) = marks k (j * 10)) := by
          show _ = _
          rw [marked_all F k _ HFL.out.symm, HFL.out]
        go_wp2
        go_ret
        exact ⟨by go_num, by rw [← HE.out]; exact HO.out, HG.out⟩

set_option maxHeartbeats 1000000 in
theorem sameCreds_calls (w : World) (v u : Value) (l : List Cr) (hv : RowAt crR w v l) (hu : RowAt crR w u l) (hl : l.length ≤ 1073741824) :
    Calls Try.prog 29 #[v, u] w fun e w' => e = .returned (.bool true) ∧ Below w.heap.size w w' := by
  obtain ⟨a, ca, rfl, HA⟩ := hv.open_
  obtain ⟨b, cb, rfl, HB⟩ := hu.open_
  replace HA := hide HA
  replace HB := hide HB
  clear hv hu
  have hd : (((l.length : Int)) != ((l.length : Int))) = false := by simp
  go_enter Try.func29, Try.ntmps29
  go_wp2
  clear hd
  go_loopw [5] (fun i wr => ∃ k n : Nat, k ≤ l.length ∧ i = .int .i64 k ∧ wr = w.drewN n) (fun i _ => l.length - (intOf i).toNat)
  case atStart => exact ⟨0, 0, Nat.zero_le _, rfl, rfl⟩
  case round =>
    obtain ⟨k, nd, hk, rfl, rfl⟩ := hrel
    by_cases hlt : k < l.length
    · obtain ⟨ga, oa, rfl, ha, hca⟩ := HA.out k hlt
      obtain ⟨gb, ob, rfl, hb, hcb⟩ := HB.out k hlt
      generalize l[k] = x at *
      obtain ⟨x0, x1, x2, x3, x4, x5, x6, x7, x8, x9⟩ := x
      have na0 : w.cell? ⟨ga, oa + k * 10, none⟩ = some (.int .i64 x0) := hca 0 (by decide)
      have na1 : w.cell? ⟨ga, oa + k * 10 + 1, none⟩ = some (.int .i64 x1) := hca 1 (by decide)
      have na2 : w.cell? ⟨ga, oa + k * 10 + 2, none⟩ = some (.int .i64 x2) := hca 2 (by decide)
      have na3 : w.cell? ⟨ga, oa + k * 10 + 3, none⟩ = some (.int .i64 x3) := hca 3 (by decide)
      have na4 : w.cell? ⟨ga, oa + k * 10 + 4, none⟩ = some (.int .i64 x4) := hca 4 (by decide)
      have na5 : w.cell? ⟨ga, oa + k * 10 + 5, none⟩ = some (.int .i64 x5) := hca 5 (by decide)
      have na6 : w.cell? ⟨ga, oa + k * 10 + 6, none⟩ = some (.int .i64 x6) := hca 6 (by decide)
      have na7 : w.cell? ⟨ga, oa + k * 10 + 7, none⟩ = some (.int .i64 x7) := hca 7 (by decide)
      have na8 : w.cell? ⟨ga, oa + k * 10 + 8, none⟩ = some (.int .i64 x8) := hca 8 (by decide)
      have na9 : w.cell? ⟨ga, oa + k * 10 + 9, none⟩ = some (.int .i64 x9) := hca 9 (by decide)
      have nb0 : w.cell? ⟨gb, ob + k * 10, none⟩ = some (.int .i64 x0) := hcb 0 (by decide)
      have nb1 : w.cell? ⟨gb, ob + k * 10 + 1, none⟩ = some (.int .i64 x1) := hcb 1 (by decide)
      have nb2 : w.cell? ⟨gb, ob + k * 10 + 2, none⟩ = some (.int .i64 x2) := hcb 2 (by decide)
      have nb3 : w.cell? ⟨gb, ob + k * 10 + 3, none⟩ = some (.int .i64 x3) := hcb 3 (by decide)
      have nb4 : w.cell? ⟨gb, ob + k * 10 + 4, none⟩ = some (.int .i64 x4) := hcb 4 (by decide)
      have nb5 : w.cell? ⟨gb, ob + k * 10 + 5, none⟩ = some (.int .i64 x5) := hcb 5 (by decide)
      have nb6 : w.cell? ⟨gb, ob + k * 10 + 6, none⟩ = some (.int .i64 x6) := hcb 6 (by decide)
      have nb7 : w.cell? ⟨gb, ob + k * 10 + 7, none⟩ = some (.int .i64 x7) := hcb 7 (by decide)
      have nb8 : w.cell? ⟨gb, ob + k * 10 + 8, none⟩ = some (.int .i64 x8) := hcb 8 (by decide)
      have nb9 : w.cell? ⟨gb, ob + k * 10 + 9, none⟩ = some (.int .i64 x9) := hcb 9 (by decide)
      clear hca hcb
      go_wp2
      go_quiet (fail)
      go_wp2
      go_roundw
      case rel => exact ⟨k + 1, _, by omega, by go_num, rfl⟩
      case measure => simp [intOf]; omega
    · go_wp2
      go_ret
      exact ⟨rfl, below_drewN (Below.refl _ _) _⟩

end Go.Proofs.Ytgnldmheiknbkaa.P6
namespace Go.Proofs.Ytgnldmheiknbkaa.P6
set_option maxRecDepth 8000
open Go.RowKit P1 P5 Rc

/-- A pair as a role's value. -/
abbrev roV (x : Int × Int) : Value := roleV x.1 x.2

theorem eqRole_self (x : Int × Int) (w : World) : Calls Try.prog 69 #[roV x, roV x] w fun e w' => e = .returned (.bool true) ∧ Below w.heap.size w w' := by
  have h := eqRole_calls x.1 x.2 x.1 x.2 w
  rw [decide_eq_true ⟨rfl, rfl⟩] at h
  exact h

set_option maxHeartbeats 1000000 in
theorem eqRoleS_calls (w : World) (v u : Value) (l : List (Int × Int)) (hv : RowAt roR w v l) (hu : RowAt roR w u l) (hl : l.length ≤ 1073741824) :
    Calls Try.prog 46 #[v, u] w fun e w' => e = .returned (.bool true) ∧ Below w.heap.size w w' := by
  obtain ⟨a, ca, rfl, HA⟩ := hv.open_
  obtain ⟨b, cb, rfl, HB⟩ := hu.open_
  replace HA := hide HA
  replace HB := hide HB
  clear hv hu
  have hd : (((l.length : Int)) != ((l.length : Int))) = false := by simp
  go_enter Try.func46, Try.ntmps46
  go_wp2
  clear hd
  go_loopw [5] (fun i wr => ∃ k : Nat, k ≤ l.length ∧ i = .int .i64 k ∧ Hid (Below w.heap.size w wr)) (fun i _ => l.length - (intOf i).toNat)
  case atStart => exact ⟨0, Nat.zero_le _, rfl, Below.refl _ _⟩
  case round =>
    obtain ⟨k, hk, rfl, HW⟩ := hrel
    by_cases hlt : k < l.length
    · obtain ⟨ga, oa, rfl, ha, hca⟩ := HA.out k hlt
      obtain ⟨gb, ob, rfl, hb, hcb⟩ := HB.out k hlt
      have hsz := HW.out.size
      have HE := hide (fun wx => eqRole_self l[k] wx)
      generalize l[k] = x at *
      obtain ⟨x0, x1⟩ := x
      have hga : ga < wr.heap.size := by omega
      have hgb : gb < wr.heap.size := by omega
      have na0 : ∀ p : Near wr.heap.size wr, p.w.cell? ⟨ga, oa + k * 2, none⟩ = some (.int .i64 x0) := fun p => (p.h.cell (p := ⟨ga, oa + k * 2, none⟩) hga).trans ((HW.out.cell (p := ⟨ga, oa + k * 2, none⟩) ha).trans (hca 0 (by decide)))
      have na1 : ∀ p : Near wr.heap.size wr, p.w.cell? ⟨ga, oa + k * 2 + 1, none⟩ = some (.int .i64 x1) := fun p => (p.h.cell (p := ⟨ga, oa + k * 2 + 1, none⟩) hga).trans ((HW.out.cell (p := ⟨ga, oa + k * 2 + 1, none⟩) ha).trans (hca 1 (by decide)))
      have nb0 : ∀ p : Near wr.heap.size wr, p.w.cell? ⟨gb, ob + k * 2, none⟩ = some (.int .i64 x0) := fun p => (p.h.cell (p := ⟨gb, ob + k * 2, none⟩) hgb).trans ((HW.out.cell (p := ⟨gb, ob + k * 2, none⟩) hb).trans (hcb 0 (by decide)))
      have nb1 : ∀ p : Near wr.heap.size wr, p.w.cell? ⟨gb, ob + k * 2 + 1, none⟩ = some (.int .i64 x1) := fun p => (p.h.cell (p := ⟨gb, ob + k * 2 + 1, none⟩) hgb).trans ((HW.out.cell (p := ⟨gb, ob + k * 2 + 1, none⟩) hb).trans (hcb 1 (by decide)))
      simp only [roV] at HE
      have hnn := Near.some wr.heap.size wr
      clear hca hcb
      go_wp2_with fail
      refine wp_region_near wr.heap.size wr (Below.refl _ _) (by kernel_rfl) (by kernel_rfl) ?_
      repeat (go_big_quiet_step (fail))
      go_big_quiet_step (exact calls_near (Nat.le_refl _) (HE.out _))
      repeat (go_big_quiet_step (fail))
      refine wpQuiet_nil ?_
      rintro w3 ⟨pq, rfl⟩
      have hqb := pq.h
      obtain ⟨w3, hq⟩ := pq
      simp only at hqb ⊢
      have HW3 := hide (HW.out.trans (hqb.mono hsz))
      clear hq hqb hnn na0 nb0 na1 nb1
      go_wp2
      go_roundw
      case rel => exact ⟨k + 1, by omega, by go_num, HW3.out⟩
      case measure => simp [intOf]; omega
    · go_wp2
      go_ret
      exact ⟨rfl, HW.out⟩

theorem zerosRole (m : Nat) : (madeCells #[Value.int .i64 0, Value.int .i64 0] m).toList = cellsI (List.replicate m 0) := by
  rw [madeCells_all _ (.int .i64 0) (by decide) (fun i hi => ?_) m]
  · simp [cellsI]
  · have hi' : i < 2 := hi
    match i, hi' with
    | 0, _ => rfl
    | 1, _ => rfl

set_option maxHeartbeats 1000000 in
theorem markRoleS_calls (w : World) (B : Nat) (v : Value) (m : Nat) (F : List Int) (k : Nat) (hF : F.length = m * 2) (hv : w.ownsRow B 27 2 v m (cellsI F)) (hk : k ≤ 1073741824) (hn : m ≤ 10485760) :
    Calls Try.prog 47 #[v, .int .i64 k] w fun e w' => e = .returned (.int .i64 ((k + m * 2 : Nat) : Int)) ∧ w'.ownsRow B 27 2 v m (cellsI (marks k (m * 2))) ∧ w.grownBy w' v.ownBlock := by
  have HV := hide hv
  have HFL := hide hF
  rcases hv.2 with ⟨rfl, h0⟩ | ⟨g, cap, cur, rfl, hb, hg, hnc, -, -, -⟩
  · subst h0
    have hF0 : F = [] := List.eq_nil_of_length_eq_zero (by omega)
    subst hF0
    clear hv hF
    go_enter Try.func47, Try.ntmps47
    go_wp2
    go_loop [1, 5] (fun q i => i = .int .i64 0 ∧ q = .int .i64 (k : Int)) (fun _ _ => 0)
    case atStart => exact ⟨rfl, rfl⟩
    case round =>
      obtain ⟨rfl, rfl⟩ := hrel
      go_wp2
      go_ret
      exact ⟨by simp, by simpa [marks] using HV.out, ⟨rfl, rfl, rfl, Nat.le_refl _, fun _ _ _ => rfl⟩⟩
  · clear hv hg hF
    go_enter Try.func47, Try.ntmps47
    go_wp2
    go_loopw [1, 5] (fun q i wr => ∃ j : Nat, j ≤ m ∧ i = .int .i64 j ∧ q = .int .i64 ((k : Int) + ((j * 2 : Nat) : Int)) ∧ Hid (wr.ownsRow B 27 2 (.slice (some ⟨g, 0, none⟩) m cap) m (cellsI (marked F k (j * 2)))) ∧ Hid (w.grownBy wr (some g))) (fun _ i _ => m - (intOf i).toNat)
    case atStart => exact ⟨0, Nat.zero_le _, rfl, by simp, by show World.ownsRow _ _ _ _ _ _ _; simpa [marked, marks] using HV.out, ⟨rfl, rfl, rfl, Nat.le_refl _, fun _ _ _ => rfl⟩⟩
    case round =>
      clear HV
      obtain ⟨j, hj, rfl, rfl, HO, HG⟩ := hrel
      by_cases hlt : j < m
      · have hb1 : (j + 1) * 2 ≤ m * 2 := Nat.mul_le_mul_right _ hlt
        have hlen : (cellsI (marked F k (j * 2))).length = m * 2 := by rw [cellsI_length, marked_length F k _ (by rw [HFL.out]; omega), HFL.out]
        have hc : ∀ i, i < 2 → ∃ x, wr.cell? ⟨g, j * 2 + i, none⟩ = some x := fun i hi => by
          rw [HO.out.cellAt (j * 2 + i) (by omega)]
          exact ⟨_, List.getElem?_eq_getElem (by rw [hlen]; omega)⟩
        obtain ⟨o0, p0⟩ := hc 0 (by decide)
        rw [Nat.add_zero] at p0
        obtain ⟨o1, p1⟩ := hc 1 (by decide)
        have hf := fun i => HO.out.frozenAt i
        have hgs : g < wr.heap.size := (HO.out.lt g rfl).2
        have z0 : (marked F k (j * 2)).set (j * 2) ((k : Int) + ((j * 2 : Nat) : Int)) = marked F k (j * 2 + 1) := by rw [show (k : Int) + ((j * 2 : Nat) : Int) = (k : Int) + ((j * 2 : Nat) : Int) by omega]; exact marked_set F k (j * 2) (by rw [HFL.out]; omega)
        have z1 : (marked F k (j * 2 + 1)).set (j * 2 + 1) ((k : Int) + ((j * 2 : Nat) : Int) + 1) = marked F k (j * 2 + 2) := by rw [show (k : Int) + ((j * 2 : Nat) : Int) + 1 = (k : Int) + ((j * 2 + 1 : Nat) : Int) by omega]; exact marked_set F k (j * 2 + 1) (by rw [HFL.out]; omega)
        have h1 := ((HO.out.stored (j * 2) (.int .i64 ((k : Int) + ((j * 2 : Nat) : Int)))).1.stored (j * 2 + 1) (.int .i64 ((k : Int) + ((j * 2 : Nat) : Int) + 1))).1
        have HG2 := hide (grown_then (HO.out.stored (j * 2) (.int .i64 ((k : Int) + ((j * 2 : Nat) : Int)))).2 ((HO.out.stored (j * 2) (.int .i64 ((k : Int) + ((j * 2 : Nat) : Int)))).1.stored (j * 2 + 1) (.int .i64 ((k : Int) + ((j * 2 : Nat) : Int) + 1))).2)
        simp only [cellsI_set, z0, z1] at h1
        have HH1 := hide h1
        clear hc hlen h1 z0 z1
        go_wp2
        go_roundw
        case rel =>
          refine ⟨j + 1, by omega, by go_num, by go_num, ?_, ?_⟩
          · rw [show (j + 1) * 2 = j * 2 + 2 by omega]
            exact HH1.out
          · exact grown_then HG.out HG2.out
        case measure => simp [intOf]; omega
      · have hjl : j = m := by omega
        subst hjl
        have HE : Hid (marked F k (j * 2) = marks k (j * 2)) := by
          show _ = _
          rw [marked_all F k _ HFL.out.symm, HFL.out]
        go_wp2
        go_ret
        exact ⟨by go_num, by rw [← HE.out]; exact HO.out, HG.out⟩

set_option maxHeartbeats 1000000 in
theorem heldRoleS_calls (w : World) (B : Nat) (v : Value) (m k : Nat) (hv : w.ownsRow B 27 2 v m (cellsI (marks k (m * 2)))) (hk : k ≤ 1073741824) (hn : m ≤ 10485760) :
    Calls Try.prog 48 #[v, .int .i64 k] w fun e w' => e = .returned (.int .i64 ((k + m * 2 : Nat) : Int)) ∧ w' = w := by
  have HV := hide hv
  obtain ⟨a, cap, hsh⟩ := own_shape hv
  clear hv
  subst hsh
  go_enter Try.func48, Try.ntmps48
  go_wp2
  go_loop [1, 5] (fun q i => ∃ j : Nat, j ≤ m ∧ i = .int .i64 j ∧ q = .int .i64 ((k : Int) + ((j * 2 : Nat) : Int))) (fun _ i => m - (intOf i).toNat)
  case atStart => exact ⟨0, Nat.zero_le _, rfl, by simp⟩
  case round =>
    obtain ⟨j, hj, rfl, rfl⟩ := hrel
    by_cases hlt : j < m
    · obtain ⟨g, cap', hsl, -, hgs, -, hcc, -⟩ := own_at HV.out (by omega)
      cases hsl
      have hb1 : (j + 1) * 2 ≤ m * 2 := Nat.mul_le_mul_right _ hlt
      have hc : ∀ i, i < 2 → w.cell? ⟨g, j * 2 + i, none⟩ = some (.int .i64 ((k : Int) + ((j * 2 : Nat) : Int) + (i : Int))) := fun i hi => by
        rw [hcc (j * 2 + i) (by omega)]
        simp only [cellsI, List.getElem?_map]
        rw [List.getElem?_eq_getElem (by rw [marks_length]; omega), marks_get, Option.map_some]
        congr 2
        omega
      have c0 : w.cell? ⟨g, j * 2, none⟩ = some (.int .i64 ((k : Int) + ((j * 2 : Nat) : Int))) := by simpa using hc 0 (by decide)
      have c1 : w.cell? ⟨g, j * 2 + 1, none⟩ = some (.int .i64 ((k : Int) + ((j * 2 : Nat) : Int) + 1)) := by simpa using hc 1 (by decide)
      clear hc hcc
      go_wp2
      go_round
      case rel => exact ⟨j + 1, by omega, by go_num, by go_num⟩
      case measure => simp [intOf]; omega
    · have hjl : j = m := by omega
      subst hjl
      go_wp2
      go_ret
      exact ⟨by go_num, rfl⟩

end Go.Proofs.Ytgnldmheiknbkaa.P6
namespace Go.Proofs.Ytgnldmheiknbkaa.P6
open Go.RowKit P1 P5 Rc

theorem enterTC : ∀ args w, (callFunc 39 args).run Try.prog w = .ok (.enter 39 args) w := run_enter Try.func39 (by kernel_rfl) (by kernel_rfl)

theorem rolesOf_le (L : List Cr) (who : Int) : (rolesOf L who).length ≤ 1048576 := by
  refine Nat.le_trans (List.length_filter_le _ _) ?_
  simp [allRoles]

theorem membersOf_le (L : List Cr) (a b : Int) : (membersOf L a b).length ≤ 1048576 := by
  refine Nat.le_trans (List.length_filter_le _ _) ?_
  simp
end Go.Proofs.Ytgnldmheiknbkaa.P6
