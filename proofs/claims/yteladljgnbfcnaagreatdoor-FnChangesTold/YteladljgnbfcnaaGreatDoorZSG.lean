/- slices.Repeat of one that is not known, eight times; no condition.
slices.IndexFunc over peers, by a test that may make memory; condition: at most 2^20 peers, how the test answers.
The program's join; condition: a drawn ring, the error as it was laid. -/
import Derived.Test.YteladljgnbfcnaaGreatDoorZSF
import Derived.Test.YteladljgnbfcnaaGreatDoorZA
import Derived.Test.YteladljgnbfcnaaGreatDoorZSE
import Derived.Test.YteladljgnbfcnaaGreatDoorZRB
import Derived.Laws.CopyOwn
import Derived.Deep.CutRange
import Derived.BigQuiet
namespace Go.Proofs.YteladljgnbfcnaaGreatDoor.P9
set_option maxRecDepth 8000
open Go.RowKit P1 P8 Da Mp Ap Rr Rc

set_option maxHeartbeats 1000000 in
theorem mul64_calls (w : World) : Calls Tryz.prog 118 #[.int .u64 1, .int .u64 8] w fun e w' => e = .returned (.tuple #[.int .u64 0, .int .u64 8]) ∧ w' = w := by
  go_enter Tryz.func118, Tryz.ntmps118
  go_wp2
  go_ret2
  exact ⟨rfl, rfl⟩

set_option maxHeartbeats 1000000 in
theorem mul_calls (w : World) : Calls Tryz.prog 101 #[.int .u64 1, .int .u64 8] w fun e w' => e = .returned (.tuple #[.int .u64 0, .int .u64 8]) ∧ w' = w := by
  have HM := hide (mul64_calls w)
  go_enter Tryz.func101, Tryz.ntmps101
  go_wp2_with fail
  refine HM.out.mono ?_
  rintro e w2 ⟨rfl, hw⟩
  subst hw
  clear HM
  go_wp2_with fail
  go_ret2
  exact ⟨rfl, rfl⟩

/-- So many are not known yet. -/
def lost (n : Nat) : List Int := List.replicate n (-1) ++ List.replicate (8 - n) 0

theorem own_full {w : World} {B g n : Nat} {e : TypeId} {X : List Value} (h : w.ownsRow B e 1 (.slice (some ⟨g, 0, none⟩) n n) n X) : w.heap[g]? = some (.cells X.toArray e (0, 0)) := by
  rcases h.2 with ⟨h1, -⟩ | ⟨g', cap, cur, h1, -, h2, -, -, h3, h4⟩
  · cases h1
  · cases h1
    rw [h2, ← h4, List.take_of_length_le (by rw [Array.length_toList]; omega)]

theorem own_whole {w : World} {B g n : Nat} {e : TypeId} {X : List Value} (hB : B ≤ g) (h : w.heap[g]? = some (.cells X.toArray e (0, 0))) (hX : X.length = n) (hn : n ≤ maxLen) : w.ownsRow B e 1 (.slice (some ⟨g, 0, none⟩) n n) n X :=
  ⟨by omega, .inr ⟨g, n, X.toArray, rfl, hB, h, Nat.le_refl _, hn, by simp; omega, by rw [List.take_of_length_le (by simp; omega)]⟩⟩

theorem lost_cell (m : Nat) {j : Nat} {v : Value} {w : World} {g : Nat} (hg : w.heap[g]? = some (.cells (cellsI (lost m)).toArray 3 (0, 0))) (h : (cellsI (List.replicate m (-1)))[j]? = some v) : w.cell? ⟨g, j, none⟩ = some v := by
  simp only [World.cell?, hg]
  have hj : j < m := by
    have := (List.getElem?_eq_some_iff.1 h).1
    simpa [cellsI] using this
  have e : cellsI (lost m) = cellsI (List.replicate m (-1)) ++ cellsI (List.replicate (8 - m) 0) := by simp [cellsI, lost]
  simp only [List.getElem?_toArray]
  rw [e, List.getElem?_append_left (by simpa [cellsI] using hj)]
  simpa using h

theorem int_one : (Tryz.prog.info? 3).map (·.size) = some 1 := by
  obtain ⟨i0, hi, hz0, hz1, hz2⟩ := info_parts info_i64
  rw [hi]
  exact congrArg some hz1

/-- The one goes into the new row. -/
theorem copy_first (w : World) (g b : Nat) (hg : w.heap[g]? = some (.cells (cellsI (lost 0)).toArray 3 (0, 0))) (hb : w.cell? ⟨b, 0, none⟩ = some (.int .i64 (-1))) (B : Nat) (w0 : World) (hbl : Below B w0 w) (hBg : B ≤ g) :
    ∃ w', (Builtin.copy_ #[28, 28] 3 #[.slice (some ⟨g, 0, none⟩) 8 8, .slice (some ⟨b, 0, none⟩) 1 1]).run Tryz.prog w = .ok (.int .i64 1) w' ∧ w'.heap[g]? = some (.cells (cellsI (lost 1)).toArray 3 (0, 0)) ∧ Below B w0 w' := by
  have hrun := run_copy_row (P := Tryz.prog) w 28 28 3 3 g 0 8 8 ⟨b, 0, none⟩ 1 1 (cellsI (lost 0)).toArray 3 [.int .i64 (-1)] Tryz.underlying28 int_one hg rfl (fun j v hj => by
    cases j with
    | zero => rw [show v = .int .i64 (-1) by simpa using hj.symm]; exact hb
    | succ j => simp at hj) (by decide) (by simp [Value.oneCell'])
  exact ⟨_, hrun, setRow_heap w g _ _ 3 _ hg, below_setRow hbl hBg _⟩

/-! As many again. -/
theorem copy_1 (w : World) (g : Nat) (hg : w.heap[g]? = some (.cells (cellsI (lost 1)).toArray 3 (0, 0))) (B : Nat) (w0 : World) (hbl : Below B w0 w) (hBg : B ≤ g) :
    ∃ w', (Builtin.copy_ #[28, 28] 3 #[.slice (some ⟨g, 1, none⟩) 7 7, .slice (some ⟨g, 0, none⟩) 1 8]).run Tryz.prog w = .ok (.int .i64 1) w' ∧ w'.heap[g]? = some (.cells (cellsI (lost 2)).toArray 3 (0, 0)) ∧ Below B w0 w' :=
  ⟨_, run_copy_row (P := Tryz.prog) w 28 28 3 3 g 1 7 7 ⟨g, 0, none⟩ 1 8 (cellsI (lost 1)).toArray 3 (cellsI (List.replicate 1 (-1))) Tryz.underlying28 int_one hg rfl (fun j v hj => by
    have := lost_cell 1 hg hj
    simpa only [Go.WideShapes.add_plain, Nat.zero_add] using this) (by decide) (cellsI_one _), setRow_heap w g _ _ 3 _ hg, below_setRow hbl hBg _⟩

theorem copy_2 (w : World) (g : Nat) (hg : w.heap[g]? = some (.cells (cellsI (lost 2)).toArray 3 (0, 0))) (B : Nat) (w0 : World) (hbl : Below B w0 w) (hBg : B ≤ g) :
    ∃ w', (Builtin.copy_ #[28, 28] 3 #[.slice (some ⟨g, 2, none⟩) 6 6, .slice (some ⟨g, 0, none⟩) 2 8]).run Tryz.prog w = .ok (.int .i64 2) w' ∧ w'.heap[g]? = some (.cells (cellsI (lost 4)).toArray 3 (0, 0)) ∧ Below B w0 w' :=
  ⟨_, run_copy_row (P := Tryz.prog) w 28 28 3 3 g 2 6 6 ⟨g, 0, none⟩ 2 8 (cellsI (lost 2)).toArray 3 (cellsI (List.replicate 2 (-1))) Tryz.underlying28 int_one hg rfl (fun j v hj => by
    have := lost_cell 2 hg hj
    simpa only [Go.WideShapes.add_plain, Nat.zero_add] using this) (by decide) (cellsI_one _), setRow_heap w g _ _ 3 _ hg, below_setRow hbl hBg _⟩

theorem copy_4 (w : World) (g : Nat) (hg : w.heap[g]? = some (.cells (cellsI (lost 4)).toArray 3 (0, 0))) (B : Nat) (w0 : World) (hbl : Below B w0 w) (hBg : B ≤ g) :
    ∃ w', (Builtin.copy_ #[28, 28] 3 #[.slice (some ⟨g, 4, none⟩) 4 4, .slice (some ⟨g, 0, none⟩) 4 8]).run Tryz.prog w = .ok (.int .i64 4) w' ∧ w'.heap[g]? = some (.cells (cellsI (lost 8)).toArray 3 (0, 0)) ∧ Below B w0 w' :=
  ⟨_, run_copy_row (P := Tryz.prog) w 28 28 3 3 g 4 4 4 ⟨g, 0, none⟩ 4 8 (cellsI (lost 4)).toArray 3 (cellsI (List.replicate 4 (-1))) Tryz.underlying28 int_one hg rfl (fun j v hj => by
    have := lost_cell 4 hg hj
    simpa only [Go.WideShapes.add_plain, Nat.zero_add] using this) (by decide) (cellsI_one _), setRow_heap w g _ _ 3 _ hg, below_setRow hbl hBg _⟩

set_option maxRecDepth 100000 in
set_option maxHeartbeats 2000000 in
theorem repeat8_calls (w : World) (b : Nat) (hb : w.cell? ⟨b, 0, none⟩ = some (.int .i64 (-1))) :
    Calls Tryz.prog 70 #[.slice (some ⟨b, 0, none⟩) 1 1, .int .i64 8] w fun e w' => ∃ v', e = .returned v' ∧ w'.ownsRow w.heap.size 3 1 v' 8 (cellsI (List.replicate 8 (-1))) ∧ Below w.heap.size w w' := by
  have HM := hide (mul_calls w)
  have hbl := cell_lt' hb
  obtain ⟨i0, hi, hz0, hz1, hz2⟩ := info_parts info_i64
  have hsz1 : (Tryz.prog.info? 3).map (·.size) = some 1 := by rw [hi]; exact congrArg some hz1
  go_enter Tryz.func70, Tryz.ntmps70
  go_wp2_with fail
  refine HM.out.mono ?_
  rintro e w1 ⟨rfl, hw⟩
  subst hw
  clear HM
  go_wp2_with (at_make; refine wpList_make_full _ rfl (.tmp 29) (.tmp 29) 28 rfl w1.heap.size 3 i0 (.int .i64 0) 1 Tryz.underlying28 hi hz0 hz1 .i64 .i64 _ _ 8 rfl rfl (by omega) (by omega) (by rw [hz2]; omega) (by unfold maxLen; omega) (Nat.le_refl _) ?_)
  intro w2 hown2 hgr2
  rw [cellsI_zeros] at hown2
  have hb2 : Below w1.heap.size w1 w2 := (Below.refl _ _).grown hgr2 (Nat.le_refl _) (by intro k hk; cases hk)
  obtain ⟨g, eg⟩ : ∃ g, g = w1.heap.size := ⟨_, rfl⟩
  rw [← eg] at hown2 ⊢
  have hgw : w1.heap.size ≤ g := by omega
  have hbg : b ≠ g := by omega
  clear eg
  have hg2 := own_full hown2
  have HG2 : Hid (w2.heap[g]? = some (.cells (cellsI (lost 0)).toArray 3 (0, 0))) := hg2
  have HB2 := hide hb2
  have hb2' := (hb2.cell (p := ⟨b, 0, none⟩) hbl).trans hb
  have HC2 := hide hb2'
  clear hown2 hgr2 hg2 hb2 hb2' hb hbl
  obtain ⟨w3, hcp, hg3, hb3⟩ := copy_first w2 g b HG2.out HC2.out w1.heap.size w1 HB2.out hgw
  have HG3 : Hid (w3.heap[g]? = some (.cells (cellsI (lost 1)).toArray 3 (0, 0))) := hg3
  have HB3 := hide hb3
  clear hg3 hb3 HG2 HB2 HC2
  go_wp2_with fail
  clear hcp
  go_loopw [8] (fun i wr => ∃ (m : Nat) (z : Int), ((m = 1 ∧ z = 1) ∨ (m = 2 ∧ z = 2) ∨ (m = 4 ∧ z = 4) ∨ (m = 8 ∧ z = 8)) ∧ i = .int .i64 z ∧ Hid (wr.heap[g]? = some (.cells (cellsI (lost m)).toArray 3 (0, 0))) ∧ Hid (Below w1.heap.size w1 wr)) (fun i _ => 8 - (intOf i).toNat)
  case atStart => exact ⟨1, 1, .inl ⟨rfl, rfl⟩, rfl, HG3.out, HB3.out⟩
  case round =>
    clear HG3 HB3
    obtain ⟨m, z, hm, rfl, HG, HB⟩ := hrel
    rcases hm with ⟨rfl, rfl⟩ | ⟨rfl, rfl⟩ | ⟨rfl, rfl⟩ | ⟨rfl, rfl⟩
    · go_upto_region 9 with fail
      refine wp_region_open (fun wd => ∃ p : Near wr.heap.size wr, wd = p.w) ⟨⟨_, (Below.refl _ _).drew⟩, rfl⟩ (by kernel_rfl) ?_
      rintro wd ⟨pd, rfl⟩
      refine wpAny_of_K (c := 8) (D := fun _ => True) _ _ _ _ ?_
      refine wpAnyK_seg_lit4 0 7 8 3 rfl (by decide) (by decide) (by kernel_rfl) (by kernel_rfl) (by kernel_rfl) (by kernel_rfl) (fun _ _ _ _ _ h => h) trivial ?_
      simp only [List.take_succ_cons, List.take_zero, List.drop_zero]
      repeat (go_big_quiet_step (fail))
      refine wpQuiet_nil ?_
      obtain ⟨w4, hcp, hg4, hb4⟩ := copy_1 pd.w g ((pd.h.block g (Array.getElem?_eq_some_iff.1 HG.out).1).trans HG.out) w1.heap.size w1 (HB.out.trans (pd.h.mono HB.out.size)) hgw
      have HG4 := hide hg4
      have HB4 := hide hb4
      clear hg4 hb4 HG HB
      refine wpAnyK_one 7 (by kernel_rfl) rfl ?_
      go_wp2_with fail
      clear hcp
      refine ⟨trivial, ?_⟩
      refine wpAnyK_last (by kernel_rfl) (by decide) ?_
      refine wpAny_rest 8 rfl (by kernel_rfl) ?_
      simp only [List.drop_succ_cons, List.drop_zero]
      go_wp2_with fail
      go_roundw
      case rel => exact ⟨2, 2, .inr (.inl ⟨rfl, rfl⟩), rfl, HG4.out, HB4.out⟩
      case measure => simp [intOf]
    · go_upto_region 9 with fail
      refine wp_region_open (fun wd => ∃ p : Near wr.heap.size wr, wd = p.w) ⟨⟨_, (Below.refl _ _).drew⟩, rfl⟩ (by kernel_rfl) ?_
      rintro wd ⟨pd, rfl⟩
      refine wpAny_of_K (c := 8) (D := fun _ => True) _ _ _ _ ?_
      refine wpAnyK_seg_lit4 0 7 8 3 rfl (by decide) (by decide) (by kernel_rfl) (by kernel_rfl) (by kernel_rfl) (by kernel_rfl) (fun _ _ _ _ _ h => h) trivial ?_
      simp only [List.take_succ_cons, List.take_zero, List.drop_zero]
      repeat (go_big_quiet_step (fail))
      refine wpQuiet_nil ?_
      obtain ⟨w4, hcp, hg4, hb4⟩ := copy_2 pd.w g ((pd.h.block g (Array.getElem?_eq_some_iff.1 HG.out).1).trans HG.out) w1.heap.size w1 (HB.out.trans (pd.h.mono HB.out.size)) hgw
      have HG4 := hide hg4
      have HB4 := hide hb4
      clear hg4 hb4 HG HB
      refine wpAnyK_one 7 (by kernel_rfl) rfl ?_
      go_wp2_with fail
      clear hcp
      refine ⟨trivial, ?_⟩
      refine wpAnyK_last (by kernel_rfl) (by decide) ?_
      refine wpAny_rest 8 rfl (by kernel_rfl) ?_
      simp only [List.drop_succ_cons, List.drop_zero]
      go_wp2_with fail
      go_roundw
      case rel => exact ⟨4, 4, .inr (.inr (.inl ⟨rfl, rfl⟩)), rfl, HG4.out, HB4.out⟩
      case measure => simp [intOf]
    · go_upto_region 9 with fail
      refine wp_region_open (fun wd => ∃ p : Near wr.heap.size wr, wd = p.w) ⟨⟨_, (Below.refl _ _).drew⟩, rfl⟩ (by kernel_rfl) ?_
      rintro wd ⟨pd, rfl⟩
      refine wpAny_of_K (c := 8) (D := fun _ => True) _ _ _ _ ?_
      refine wpAnyK_seg_lit4 0 7 8 3 rfl (by decide) (by decide) (by kernel_rfl) (by kernel_rfl) (by kernel_rfl) (by kernel_rfl) (fun _ _ _ _ _ h => h) trivial ?_
      simp only [List.take_succ_cons, List.take_zero, List.drop_zero]
      repeat (go_big_quiet_step (fail))
      refine wpQuiet_nil ?_
      obtain ⟨w4, hcp, hg4, hb4⟩ := copy_4 pd.w g ((pd.h.block g (Array.getElem?_eq_some_iff.1 HG.out).1).trans HG.out) w1.heap.size w1 (HB.out.trans (pd.h.mono HB.out.size)) hgw
      have HG4 := hide hg4
      have HB4 := hide hb4
      clear hg4 hb4 HG HB
      refine wpAnyK_one 7 (by kernel_rfl) rfl ?_
      go_wp2_with fail
      clear hcp
      refine ⟨trivial, ?_⟩
      refine wpAnyK_last (by kernel_rfl) (by decide) ?_
      refine wpAny_rest 8 rfl (by kernel_rfl) ?_
      simp only [List.drop_succ_cons, List.drop_zero]
      go_wp2_with fail
      go_roundw
      case rel => exact ⟨8, 8, .inr (.inr (.inr ⟨rfl, rfl⟩)), rfl, HG4.out, HB4.out⟩
      case measure => simp [intOf]
    · go_wp2_with fail
      go_ret
      exact ⟨_, rfl, own_whole hgw HG.out rfl (by unfold maxLen; omega), HB.out⟩
end Go.Proofs.YteladljgnbfcnaaGreatDoor.P9
namespace Go.Proofs.YteladljgnbfcnaaGreatDoor.P9
set_option maxRecDepth 8000
open Go.RowKit P1 P8 Da Mp

/-- The first place at which it is so; -1 without one. -/
def idxI (l : List Pr) (p : Pr → Bool) : Int := match l.findIdx? p with | some i => (i : Int) | none => -1

theorem idxI_at {l : List Pr} {p : Pr → Bool} {k : Nat} (hk : k < l.length) (h : p l[k] = true) (h0 : ∀ j (hj : j < l.length), j < k → p l[j] = false) : idxI l p = k := by
  have : l.findIdx? p = some k := by
    rw [List.findIdx?_eq_some_iff_getElem]
    exact ⟨hk, h, fun j hj => by simp [h0 j (by omega) hj]⟩
  unfold idxI
  rw [this]

theorem idxI_no {l : List Pr} {p : Pr → Bool} (h0 : ∀ j (hj : j < l.length), p l[j] = false) : idxI l p = -1 := by
  have : l.findIdx? p = none := by
    rw [List.findIdx?_eq_none_iff]
    intro x hx
    obtain ⟨j, hj, rfl⟩ := List.mem_iff_getElem.1 hx
    exact h0 j hj
  unfold idxI
  rw [this]

/-- How a test of a peer answers, from a world on. -/
def Tests (w : World) (k : FuncId) (caps : Array Value) (l : List Pr) (p : Pr → Bool) : Prop :=
  ∀ (wx : World) (x : Pr) (u3 u4 u5 : Value), Below w.heap.size w wx → x ∈ l → IntsAt wx u3 x.behind → IntsAt wx u4 x.fingers → ShelvesAt wx u5 x.shelves →
    Calls Tryz.prog k (#[prV x u3 u4 u5] ++ caps) wx fun e w' => e = .returned (.bool (p x)) ∧ Below wx.heap.size wx w'

set_option maxRecDepth 100000 in
set_option maxHeartbeats 2000000 in
theorem indexPeers_calls (w : World) (v : Value) (l : List Pr) (k0 : FuncId) (caps : Array Value) (p : Pr → Bool) (hv : PeersAt w v l) (hl : l.length ≤ 1048576) (hk0 : ∀ args w, (callFunc k0 args).run Tryz.prog w = .ok (.enter k0 args) w) (hp : Tests w k0 caps l p) :
    Calls Tryz.prog 65 #[v, .func (.func k0) #[] caps] w fun e w' => e = .returned (.int .i64 (idxI l p)) ∧ Below w.heap.size w w' := by
  have HV := hide hv
  have HP := hide hp
  obtain ⟨a, cap, rfl, -⟩ := hv.open_
  have HIT : Hid (∀ k (hk : k < l.length), p l[k] = true → (∀ j (hj : j < l.length), j < k → p l[j] = false) → idxI l p = k) := fun k hk h h0 => idxI_at hk h h0
  have HIN : Hid ((∀ j (hj : j < l.length), p l[j] = false) → idxI l p = -1) := fun h => idxI_no h
  generalize idxI l p = R at *
  clear hv hp
  go_enter Tryz.func65, Tryz.ntmps65
  go_wp2_with fail
  go_loopw [8] (fun i wr => ∃ k : Nat, k ≤ l.length ∧ i = .int .i64 k ∧ Hid (∀ j (hj : j < l.length), j < k → p l[j] = false) ∧ Hid (Below w.heap.size w wr)) (fun i _ => l.length - (intOf i).toNat)
  case atStart => exact ⟨0, Nat.zero_le _, rfl, fun j _ hj => by omega, Below.refl _ _⟩
  case round =>
    obtain ⟨k, hk, rfl, HN, HB⟩ := hrel
    by_cases hlt : k < l.length
    · obtain ⟨ax, cx, hax, HA⟩ := (HV.out.below HB.out (Nat.le_refl _)).open_
      cases hax
      obtain ⟨g, off, u3, u4, u5, rfl, hg, hc⟩ := HA k hlt
      have HC := hide (HP.out wr l[k] u3 u4 u5 HB.out (List.getElem_mem hlt) hc.behind hc.fingers hc.shelves)
      have HIk : Hid (p l[k] = true → R = k) := fun h => HIT.out k hlt h HN.out
      have HNk : Hid (p l[k] = false → ∀ j (hj : j < l.length), j < k + 1 → p l[j] = false) := fun h j hj h1 => by
        rcases Nat.lt_or_ge j k with h2 | h2
        · exact HN.out j hj h2
        · obtain rfl : j = k := by omega
          exact h
      have f0 := hc.id
      have f1 := hc.here
      have f2 := hc.ahead
      have f3 := hc.c3
      have f4 := hc.c4
      have f5 := hc.c5
      obtain ⟨a3, c3, e3, -⟩ := hc.behind
      obtain ⟨a4, c4, e4, -⟩ := hc.fingers
      obtain ⟨a5, c5, e5, -⟩ := hc.shelves.open_
      subst e3 e4 e5
      clear HA HN hc
      generalize l[k] = q at *
      unfold prV at HC
      cases hq : p q with
      | true =>
        have HR := hide (HIk.out hq)
        rw [hq] at HC
        clear HIk HNk hq
        go_wp2_with fail
        refine HC.out.mono ?_
        rintro e wy ⟨rfl, hby⟩
        have HBy := hide (HB.out.trans (hby.mono HB.out.size))
        clear hby HC f0 f1 f2 f3 f4 f5 hg HB
        go_wp2_with fail
        go_ret
        exact ⟨by rw [HR.out]; rfl, HBy.out⟩
      | false =>
        have HR := hide (HNk.out hq)
        rw [hq] at HC
        clear HIk HNk hq
        go_wp2_with fail
        refine HC.out.mono ?_
        rintro e wy ⟨rfl, hby⟩
        have HBy := hide (HB.out.trans (hby.mono HB.out.size))
        clear hby HC f0 f1 f2 f3 f4 f5 hg HB
        go_wp2_with fail
        go_roundw
        case rel => exact ⟨k + 1, by omega, by go_num, HR.out, HBy.out⟩
        case measure => simp [intOf]; omega
    · obtain rfl : k = l.length := by omega
      have HR := hide (HIN.out (fun j hj => HN.out j hj hj))
      clear HN
      go_wp2_with fail
      go_ret
      exact ⟨by rw [HR.out]; rfl, HB.out⟩
end Go.Proofs.YteladljgnbfcnaaGreatDoor.P9
namespace Go.Proofs.YteladljgnbfcnaaGreatDoor.P9
set_option maxRecDepth 8000
open Go.RowKit P1 P8 Da Mp Ap Rr Rc

def isAway (id : Int) (x : Pr) : Bool := (x.id == id) && !x.here

set_option maxHeartbeats 1000000 in
theorem away_tests (w : World) (b : Nat) (id : Int) (l : List Pr) (hc : w.cell? ⟨b, 0, none⟩ = some (.int .i64 id)) : Tests w 66 #[.pointer (some ⟨b, 0, none⟩)] l (isAway id) := by
  intro wx x u3 u4 u5 hb _ h3 h4 h5
  obtain ⟨a3, c3, e3, -⟩ := h3
  obtain ⟨a4, c4, e4, -⟩ := h4
  obtain ⟨a5, c5, e5, -⟩ := h5.open_
  subst e3 e4 e5
  have hcx := (hb.cell (p := ⟨b, 0, none⟩) (cell_lt' hc)).trans hc
  have hba := (Below.refl wx.heap.size wx).alloc (Nat.le_refl _) (.cells #[.int .i64 x.id, .bool x.here, .int .i64 x.ahead, .slice a3 x.behind.length c3, .slice a4 x.fingers.length c4, .slice a5 x.shelves.length c5] 32)
  have S := Blk.new wx #[.int .i64 x.id, .bool x.here, .int .i64 x.ahead, .slice a3 x.behind.length c3, .slice a4 x.fingers.length c4, .slice a5 x.shelves.length c5] 32
  have hcy := (hba.cell (p := ⟨b, 0, none⟩) (cell_lt' hcx)).trans hcx
  have hbl := cell_lt' hcy
  have HB := hide hba
  clear hcx hba hc hb
  unfold isAway
  go_enter Tryz.func66, Tryz.ntmps66
  go_upto_region 1 with fail
  obtain ⟨s, es⟩ : ∃ s, s = wx.heap.size := ⟨_, rfl⟩
  rw [← es] at S ⊢
  clear es
  generalize wx.alloc (.cells #[.int .i64 x.id, .bool x.here, .int .i64 x.ahead, .slice a3 x.behind.length c3, .slice a4 x.fingers.length c4, .slice a5 x.shelves.length c5] 32) = w1 at *
  have k0 := blk_free_cell S 0 rfl
  have k1 := blk_free_cell S 1 rfl
  have kl := S.lt
  clear S
  cases hq : (x.id == id) with
  | false =>
    go_wp2_with fail
    go_ret
    exact ⟨rfl, HB.out⟩
  | true =>
    go_wp2_with fail
    go_ret
    exact ⟨rfl, HB.out⟩

set_option maxRecDepth 100000 in
set_option maxHeartbeats 8000000 in
theorem join_calls (W : World) (aE : Addr) (hS : Er.Sen1 W 0 aE) (w : World) (hW : Below W.heap.size W w) (v : Value) (l : List Pr) (id by_ : Int) (fp : List Nat) (ho : Owns w v (peersD T0 l) fp) (hx : RingX l) :
    Calls Tryz.prog 34 #[.agg #[v], .int .i64 id, .int .i64 by_] w fun e w' => Outcome aE fp w v (joined l id by_).1 (joined l id by_).2 e w' := by
  obtain ⟨g0, c0, hsh⟩ := peers_shape ho (by have := hx.least; omega)
  subst hsh
  have hS1 := hS.below hW (Nat.le_refl _)
  have hb1 := (Below.refl w.heap.size w).alloc (Nat.le_refl _) (.cells #[.slice (some ⟨g0, 0, none⟩) l.length c0] 26)
  have hb2 := hb1.alloc hb1.size (.cells #[.int .i64 id] 3)
  have hn (wq : World) (o : Obj) : Below wq.heap.size wq (wq.alloc o) := (Below.refl _ _).alloc (Nat.le_refl _) o
  have A0 := Blk.new w #[.slice (some ⟨g0, 0, none⟩) l.length c0] 26
  have A1 := Blk.new (w.alloc (.cells #[.slice (some ⟨g0, 0, none⟩) l.length c0] 26)) #[.int .i64 id] 3
  have A0' := A0.below (hn _ (.cells #[.int .i64 id] 3)) A0.lt
  have e1 : (w.alloc (.cells #[.slice (some ⟨g0, 0, none⟩) l.length c0] 26)).heap.size = w.heap.size + 1 := by simp
  rw [e1] at A1
  have HO1 := hide (owns_below ho hb2)
  have HS1 := hide (hS1.below hb2 (Nat.le_refl _))
  have HON := hide (Only.of_below (fp := fp) hb2)
  have HLT := hide ho.lt
  have HX := hide hx
  have hll := hx.len
  clear hS1 hS hW ho hb1 hb2 A0 hn e1
  go_enter Tryz.func34, Tryz.ntmps34
  go_upto_region 1 with fail
  obtain ⟨s, es⟩ : ∃ s, s = w.heap.size := ⟨_, rfl⟩
  rw [← es] at A0' A1 HLT ⊢
  have HSs : Hid (w.heap.size = s) := es.symm
  clear es
  generalize (w.alloc (.cells #[.slice (some ⟨g0, 0, none⟩) l.length c0] 26)).alloc (.cells #[.int .i64 id] 3) = w1 at *
  have HV1 := hide (show PeersAt w1 (.slice (some ⟨g0, 0, none⟩) l.length c0) l from ⟨T0, HO1.out.reads⟩)
  have k0 := blk_free_cell A0' 0 rfl
  have kl := A0'.lt
  have HIX := hide (indexPeers_calls w1 _ l 66 #[.pointer (some ⟨s + 1, 0, none⟩)] (isAway id) HV1.out hll (run_enter Tryz.func66 (by kernel_rfl) (by kernel_rfl)) (away_tests w1 (s + 1) id l (blk_free_cell A1 0 rfl)))
  go_wp2_with fail
  refine HIX.out.mono ?_
  rintro e w2 ⟨rfl, hb2⟩
  have HV2 := hide (HV1.out.below hb2 (Nat.le_refl _))
  have B0 := A0'.below hb2 A0'.lt
  have q0 := blk_free_cell B0 0 rfl
  have ql := B0.lt
  clear k0 kl HIX
  go_wp2_with fail
  refine (present_calls w2 _ l HV2.out hll).mono ?_
  rintro e w3 ⟨km, rfl, hkm, hm3, hb3⟩
  have hb13 := hb2.trans (hb3.mono hb2.size)
  have HM3 := hide hm3
  have HO3 := hide (owns_below HO1.out hb13)
  have hV3 : PeersAt w3 (.slice (some ⟨g0, 0, none⟩) l.length c0) l := ⟨T0, HO3.out.reads⟩
  have HS3 := hide (HS1.out.below hb13 (Nat.le_refl _))
  have HON3 := hide (HON.out.trans (Only.of_below (fp := fp) hb13))
  have C0 := A0'.below hb13 A0'.lt
  have C1 := A1.below hb13 A1.lt
  have i0 := blk_free_cell C1 0 rfl
  have il := C1.lt
  have HWK := hide (walk_calls w3 _ l by_ id km l.length HM3.out hV3 HX.out.reach HX.out.ring)
  have HFI : Hid (∃ (x n : Int) (b : Bool), tripV (find l by_ id) = .tuple #[.agg #[.int .i64 x, .int .i64 n], .bool b] ∧ (b = false → find l by_ id = none) ∧ (b = true → ∃ m : Nat, find l by_ id = some (x, m))) := trip_shape _
  obtain ⟨tx, tn, tb, et, hfn, hfs⟩ := HFI.out
  rw [et] at HWK
  have HFN := hide hfn
  have HFS := hide hfs
  clear q0 ql hb2 hb3 hb13 hm3 hkm HO1 HS1 HON HV1 HV2 B0 A0' A1 hV3 HFI et hfn hfs
  go_wp2_with fail
  refine HWK.out.mono ?_
  rintro e w4 ⟨rfl, hb4⟩
  have hba := hb4.alloc hb4.size (.cells #[.int .i64 tx, .int .i64 tn] 69)
  have S := Blk.new w4 #[.int .i64 tx, .int .i64 tn] 69
  have HO5 := hide (owns_below HO3.out hba)
  have HS5 := hide (HS3.out.below hba (Nat.le_refl _))
  have HON5 := hide (HON3.out.trans (Only.of_below (fp := fp) hba))
  have HM5 := hide (HM3.out.at_ (hba.block km HM3.out.lt))
  have D0 := C0.below hba C0.lt
  have D1 := C1.below hba C1.lt
  clear i0 il HWK hb4 hba HO3 HS3 HON3 HM3 C0 C1
  go_upto_region 4 with fail
  obtain ⟨b9, e9⟩ : ∃ b, b = w4.heap.size := ⟨_, rfl⟩
  rw [← e9] at S ⊢
  clear e9
  generalize w4.alloc (.cells #[.int .i64 tx, .int .i64 tn] 69) = w5 at *
  cases ha : awayIdx l id with
  | none =>
    have hI : idxI l (isAway id) = -1 := by
      unfold idxI
      rw [show l.findIdx? (isAway id) = none from ha]
    have HR := hide (joined_none (by_ := by_) ha)
    rw [hI]
    have e1 := HS5.out.cell
    have e2 := HS5.out.lt
    clear hI ha
    go_wp2_with fail
    go_ret
    exact ⟨HON5.out, fun _ => rfl, fun h => by rw [HR.out] at h; cases h⟩
  | some i =>
    have hI : idxI l (isAway id) = (i : Int) := by
      unfold idxI
      rw [show l.findIdx? (isAway id) = some i from ha]
    obtain ⟨hil, hid, hih⟩ := awayIdx_some ha
    rw [hI]
    have hd : decide ((i : Int) < 0) = false := decide_eq_false (by omega)
    cases tb with
    | false =>
      have HR := hide (joined_lost (id := id) (HFN.out rfl))
      have e1 := HS5.out.cell
      have e2 := HS5.out.lt
      clear hI ha
      go_wp2_with fail
      go_ret
      exact ⟨HON5.out, fun _ => rfl, fun h => by rw [HR.out] at h; cases h⟩
    | true =>
      obtain ⟨m, hm⟩ := HFS.out rfl
      have HR := hide (joined_some HX.out hm ha)
      obtain ⟨j, hjl, hij, hpj⟩ : ∃ j : Nat, ∃ _ : j < l.length, hereIdx l tx = some j ∧ peerAt l tx = j := by
        have h0 := find_here HX.out.ring hm
        have h1 := hereIdx_isSome l tx
        rw [decide_eq_true h0] at h1
        obtain ⟨j, hj⟩ := Option.isSome_iff_exists.1 h1
        obtain ⟨hl, -, -⟩ := hereIdx_some hj
        exact ⟨j, hl, hj, peerAt_of hj⟩
      clear hI ha hm HFN HFS
      go_upto_region 6 with fail
      have hV5 : PeersAt w5 (.slice (some ⟨g0, 0, none⟩) l.length c0) l := ⟨T0, HO5.out.reads⟩
      have HLN : Hid (∀ wx (_ : Below w5.heap.size w5 wx), Calls Tryz.prog 69 #[.map (some km), .int .i64 id, .int .i64 tx] wx fun e w' => ∃ v', e = .returned v' ∧ w'.ownsRow wx.heap.size 3 1 v' (behindBut l tx id).length (cellsI (behindBut l tx id)) ∧ Below wx.heap.size wx w') := fun wx hb => line_calls wx _ l id tx km l.length j (HM5.out.at_ (hb.block km HM5.out.lt)) (hV5.below hb (Nat.le_refl _)) hjl hij ((HX.out.small _ (List.getElem_mem hjl)).b)
      obtain ⟨NB, eNB⟩ : ∃ NB, NB = behindBut l tx id := ⟨_, rfl⟩
      rw [← eNB] at HLN
      have HNB := hide eNB
      have n0 : ∀ p : Near w5.heap.size w5, p.w.cell? ⟨s, 0, none⟩ = some (.slice (some ⟨g0, 0, none⟩) l.length c0) := fun p => by rw [(D0.below p.h D0.lt).cell 0]; rfl
      have n1 : ∀ p : Near w5.heap.size w5, p.w.cell? ⟨s + 1, 0, none⟩ = some (.int .i64 id) := fun p => by rw [(D1.below p.h D1.lt).cell 0]; rfl
      have n9 : ∀ p : Near w5.heap.size w5, p.w.cell? ⟨b9, 0, none⟩ = some (.int .i64 tx) := fun p => by rw [(S.below p.h S.lt).cell 0]; rfl
      have hnn := Near.some w5.heap.size w5
      have hl0 := D0.lt
      have hl1 := D1.lt
      have hl9 := S.lt
      clear eNB hV5 hij hpj HM5 HS5
      refine wp_region_open (fun wd => ∃ p : Near w5.heap.size w5, wd = p.w) ⟨⟨_, (Below.refl _ _).drew⟩, rfl⟩ (by kernel_rfl) ?_
      rintro wd ⟨pd, rfl⟩
      refine wpAny_of_K (c := 12) (D := fun w' => ∃ p : Near w5.heap.size w5, w' = p.w) _ _ _ _ ?_
      refine wpAnyK_seg_lit4 0 8 6 6 rfl (by decide) (by decide) (by kernel_rfl) (by kernel_rfl) (by kernel_rfl) (by kernel_rfl) (fun _ _ _ _ _ h => h) ⟨pd, rfl⟩ ?_
      simp only [List.take_succ_cons, List.take_zero, List.drop_zero]
      repeat (go_big_quiet_step (fail))
      refine wpQuiet_nil ?_
      clear n0 n1 n9 hnn hl0 hl1 hl9 D0 D1 S
      have hps := pd.h.size
      refine wpAnyK_pair 8 9 (by kernel_rfl) rfl rfl ?first ?second
      case' first =>
        go_wp2_with fail
        refine (HLN.out pd.w pd.h).mono ?_
        rintro e wL ⟨vL, rfl, hoL, hbL⟩
        obtain ⟨aL, cL, hsh⟩ := own_sh hoL
        subst hsh
        have hqL := pd.h.trans (hbL.mono hps)
        go_wp2_with fail
        refine ⟨⟨⟨_, hqL⟩, rfl⟩, ?_⟩
        refine wpAnyK_one 9 (by kernel_rfl) rfl ?_
        go_wp2_with fail
        have hqI := hqL.alloc hqL.size (.cells #[.int .i64 (-1)] 3)
        have hoI := own_below (own_mono hoL hps) ((Below.refl wL.heap.size wL).alloc (Nat.le_refl _) (.cells #[.int .i64 (-1)] 3))
        have cI := blk_free_cell (Blk.new wL #[.int .i64 (-1)] 3) 0 rfl
        refine ⟨⟨⟨_, hqI⟩, rfl⟩, ?_⟩
        obtain ⟨L, eL⟩ : ∃ L, L = wL.heap.size := ⟨_, rfl⟩
        rw [← eL] at cI ⊢
        clear eL hoL hbL hqL
        generalize wL.alloc (.cells #[.int .i64 (-1)] 3) = wI at *
      case' second =>
        go_wp2_with fail
        have hqA := pd.h.alloc hps (.cells #[.int .i64 (-1)] 3)
        have cA := blk_free_cell (Blk.new pd.w #[.int .i64 (-1)] 3) 0 rfl
        refine ⟨⟨⟨_, hqA⟩, rfl⟩, ?_⟩
        obtain ⟨L, eL⟩ : ∃ L, L = pd.w.heap.size := ⟨_, rfl⟩
        rw [← eL] at cA ⊢
        clear eL
        generalize pd.w.alloc (.cells #[.int .i64 (-1)] 3) = wA at *
        refine wpAnyK_one 8 (by kernel_rfl) rfl ?_
        go_wp2_with fail
        refine (HLN.out wA hqA).mono ?_
        rintro e wI ⟨vL, rfl, hoL, hbL⟩
        obtain ⟨aL, cL, hsh⟩ := own_sh hoL
        subst hsh
        have hqI := hqA.trans (hbL.mono hqA.size)
        have hoI := own_mono hoL hqA.size
        have cI := (hbL.cell (p := ⟨L, 0, none⟩) (cell_lt' cA)).trans cA
        go_wp2_with fail
        refine ⟨⟨⟨_, hqI⟩, rfl⟩, ?_⟩
        clear cA hoL hbL hqA
      all_goals
        have HRP := hide (repeat8_calls wI L cI)
        clear cI HLN
        refine wpAnyK_one 10 (by kernel_rfl) rfl ?_
        go_wp2_with fail
        refine HRP.out.mono ?_
        rintro e wR ⟨vR, rfl, hoR, hbR⟩
        obtain ⟨aR, cR, hsh⟩ := own_sh hoR
        subst hsh
        have hqR := hqI.trans (hbR.mono hqI.size)
        clear HRP
        go_wp2_with fail
        refine ⟨⟨⟨_, hqR⟩, rfl⟩, ?_⟩
        refine wpAnyK_one 11 (by kernel_rfl) rfl ?_
        go_wp2_with fail
        refine ⟨⟨⟨_, hqR⟩, rfl⟩, ?_⟩
        refine wpAnyK_last (by kernel_rfl) (by decide) ?_
        refine wpAny_rest 12 rfl (by kernel_rfl) ?_
        simp only [List.drop_succ_cons, List.drop_zero]
        obtain ⟨f3, o3, gf3⟩ := ints_owned hoI
        obtain ⟨f4, o4, gf4⟩ := ints_owned (l := List.replicate 8 (-1)) (by simpa using hoR)
        have HOR := owns_below HO5.out hqR
        have o3R := owns_below o3 hbR
        have hwz := HON5.out.size
        have hiz := hqI.size
        obtain ⟨fp', HP, hfp⟩ := put_new HOR hil id tx (by rw [← HNB.out]; exact o3R) o4
          (fun q h1 h2 => by have k1 := gf3 q h1; have k2 := HLT.out q h2; have k3 := HSs.out; omega)
          (fun q h1 h2 => by have k1 := gf4 q h1; have k2 := HLT.out q h2; have k3 := HSs.out; omega)
          (fun q h1 h2 => by have k1 := o3.lt q h1; have k2 := gf4 q h2; omega)
        obtain ⟨⟨y0, q0⟩, r0, gq, hmem⟩ := peer_cell HOR hil (j := 0) (by decide)
        obtain ⟨⟨y1, q1⟩, r1, -, -⟩ := peer_cell HOR hil (j := 1) (by decide)
        obtain ⟨⟨y2, q2⟩, r2, -, -⟩ := peer_cell HOR hil (j := 2) (by decide)
        obtain ⟨⟨y3, q3⟩, r3, -, -⟩ := peer_cell HOR hil (j := 3) (by decide)
        obtain ⟨⟨y4, q4⟩, r4, -, -⟩ := peer_cell HOR hil (j := 4) (by decide)
        obtain ⟨⟨y5, q5⟩, r5, -, -⟩ := peer_cell HOR hil (j := 5) (by decide)
        rw [Nat.add_zero] at q0 r0
        have HPP := hide HP
        have HFP : Hid (∀ q ∈ fp', q ∈ fp ∨ w.heap.size ≤ q) := fun q hq => by
          rcases hfp q hq with h | h | h
          · exact .inl h
          · have := gf3 q h; exact .inr (by omega)
          · have := gf4 q h; exact .inr (by omega)
        have HON8 := hide (only_six (HON5.out.trans (Only.of_below (fp := fp) hqR)) hmem (i * 6) (.int .i64 id) (.bool true) (.int .i64 (-1)) (.slice aL NB.length cL) (.slice aR 8 cR) (.slice none 0 0))
        clear HP hfp hoI hoR hbR hqI hqR o3 o4 o3R gf3 gf4 HOR hwz hiz hps
        go_wp2_with fail
        go_ret
        exact ⟨HON8.out, (fun h => by rw [HR.out] at h; cases h), fun _ => ⟨rfl, fp', by rw [HR.out]; exact HPP.out, HFP.out⟩⟩
end Go.Proofs.YteladljgnbfcnaaGreatDoor.P9
