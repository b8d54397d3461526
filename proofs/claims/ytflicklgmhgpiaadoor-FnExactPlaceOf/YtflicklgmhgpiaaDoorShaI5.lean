/- The contract of the program's shaNumbers.takeBlock: one block. -/
import Derived.Test.YtflicklgmhgpiaaDoorShaI3
import Derived.Test.YtflicklgmhgpiaaDoorShaI4
import Derived.Test.YtflicklgmhgpiaaDoorShaC
import Derived.Test.YtflicklgmhgpiaaDoorInv
namespace Go.Proofs.YtflicklgmhgpiaaDoor.P3
set_option maxRecDepth 8000
open Go.RowKit P1

/-- The turns' numbers, as the program lays them. -/
structure KeyT (w : World) : Prop where
  lt : 1 < w.heap.size
  cell : ∀ r, r < 64 → w.cell? ⟨1, r, none⟩ = some (.int .u32 (keys.getD r 0 : Nat))

theorem KeyT.drew {w : World} (h : KeyT w) : KeyT w.drew := ⟨h.lt, h.cell⟩

theorem KeyT.below {w w' : World} {B : Nat} (h : KeyT w) (hb : Below B w w') (hB : 1 < B) : KeyT w' :=
  ⟨Nat.lt_of_lt_of_le h.lt hb.size, fun r hr => by rw [hb.cell (p := ⟨1, r, none⟩) hB]; exact h.cell r hr⟩

theorem KeyT.grown {w w' : World} {b : Nat} (h : KeyT w) (hg : w.grownBy w' (some b)) (hne : 1 ≠ b) : KeyT w' := by
  have hb : w'.heap[1]? = w.heap[1]? := hg.block _ h.lt (fun e => hne (by cases e; rfl))
  exact ⟨Nat.lt_of_lt_of_le h.lt hg.size, fun r hr => by rw [World.cell?_of_block (w := w) hb]; exact h.cell r hr⟩

theorem Wnd.lt {S : Nat → Nat} {t : Nat} {ws : List Nat} (h : Wnd S t ws) (h16 : 16 ≤ t) (h64 : t ≤ 64) (hS : ∀ j, j < 64 → S j < 4294967296) (r : Nat) (hr : r < 16) : ws.getD r 0 < 4294967296 := by
  have e := h.at_ (t - 1 - (t - 1 - r) % 16) (by omega) (by omega)
  rw [show (t - 1 - (t - 1 - r) % 16) % 16 = r by omega] at e
  rw [e]
  exact hS _ (by omega)

theorem Wnd.new {S : Nat → Nat} {t : Nat} {ws : List Nat} (h : Wnd S t ws) (h16 : 16 ≤ t) (h64 : t < 64)
    (hn : ∀ m, m < 48 → S (m + 16) = add (add (add (S m) (sig0 (S (m + 1)))) (S (m + 9))) (sig1 (S (m + 14)))) :
    add (add (add (ws.getD (t % 16) 0) (sig0 (ws.getD ((t + 1) % 16) 0))) (ws.getD ((t + 9) % 16) 0)) (sig1 (ws.getD ((t + 14) % 16) 0)) = S t := by
  have e0 := h.at_ (t - 16) (by omega) (by omega)
  have e1 := h.at_ (t - 16 + 1) (by omega) (by omega)
  have e9 := h.at_ (t - 16 + 9) (by omega) (by omega)
  have e14 := h.at_ (t - 16 + 14) (by omega) (by omega)
  rw [show (t - 16) % 16 = t % 16 by omega] at e0
  rw [show (t - 16 + 1) % 16 = (t + 1) % 16 by omega] at e1
  rw [show (t - 16 + 9) % 16 = (t + 9) % 16 by omega] at e9
  rw [show (t - 16 + 14) % 16 = (t + 14) % 16 by omega] at e14
  have := hn (t - 16) (by omega)
  rw [show t - 16 + 16 = t by omega] at this
  rw [e0, e1, e9, e14, this]

theorem grown_of_below {w w' : World} (h : Below w.heap.size w w') (r : Option Nat) : w.grownBy w' r := ⟨h.os, h.tape, h.output, h.size, fun k hk _ => h.block k hk⟩

theorem enterW (args : Array Value) (w : World) : (callFunc 53 args).run Tryd.prog w = .ok (.enter 53 args) w :=
  run_enter Tryd.func53 (by kernel_rfl) (by kernel_rfl) args w

theorem wp_load_agg {P : Program} {o : Oper} {a : Act} {w : World} {K : Act → World → Prop} {Q : Exit → Act → World → Prop} (t : TypeId) (x : Operand) (ho : o.op = .load t x)
    (b : Nat) (hx : a.eval x = .pointer (some ⟨b, 0, none⟩)) (n : Nat) (hagg : ∀ w, (isAgg t).run P w = .ok true w) (hsz : ∀ w, (sizeOf t).run P w = .ok n w) (c : Array Value)
    (hl : (loadCellsFrom ⟨b, 0, none⟩ 0 n #[]).run P w = .ok c w) (h : K (a.put o.dst (.agg c)) w) : o.wp P a w K Q := by
  unfold Oper.wp execOp
  simp only [ho, hx, Instr.loadAt, Instr.sureAddr, loadVar, loadCells, Sem.run_bind, Sem.run_pure, Result.andThen_ok, hagg, hsz, if_true, hl]
  exact h

theorem wp_nilCheck {P : Program} {o : Oper} {a : Act} {w : World} {K : Act → World → Prop} {Q : Exit → Act → World → Prop} (x : Operand) (ho : o.op = .nilCheck x)
    (b : Addr) (hx : a.eval x = .pointer (some b)) (h : K (a.put o.dst (.pointer (some b))) w) : o.wp P a w K Q := by
  unfold Oper.wp execOp
  simp only [ho, hx]
  exact h

theorem wp_call1 {P : Program} {o : Oper} {a : Act} {w : World} {K : Act → World → Prop} {Q : Exit → Act → World → Prop} (f : FuncId) (x : Operand) (t : TypeId) (hop : o.op = .call { callee := .value (.func f), args := #[x], argTypes := #[t] })
    (hrun : ∀ args w, (callFunc f args).run P w = .ok (.enter f args) w) (v : Value) (hv : a.eval x = v) (R : Value → World → Prop)
    (hc : Calls P f #[v] w fun e w' => ∃ u, e = .returned u ∧ R u w') (hK : ∀ u w', R u w' → K (a.put o.dst u) w') : o.wp P a w K Q := by
  have hr : (execOp a.eval o).run P w = .ok (.enter f #[v]) w := by
    obtain ⟨dst, op, ty, pos, after, guard⟩ := o
    simp only at hop
    subst hop
    show (callFunc f (#[] ++ #[x].map a.eval ++ #[])).run P w = _
    rw [hrun]
    simp [← hv]
  exact wp_enter R hr hc hK

/-- What has been done of the first statement, whatever the order. -/
structure RS (w w' : World) (Y0 : List Nat) (q : List UInt8) (W0 : List Nat) (b : Nat) (b0 b1 b2 b3 b4 b5 b6 b7 b8 : Bool) (v4 v5 v8 v9 v10 v11 v12 : Value) (g4 g5 : Nat) : Prop where
  e0 : b0 = true → v8 = .string ⟨q.toArray⟩
  e1 : b1 = true → v9 = .agg (wordsV W0)
  e2 : b2 = true → v10 = .pointer (some ⟨b, 0, none⟩)
  e3 : b3 = true → v11 = .pointer (some ⟨b, 0, none⟩)
  e4 : b4 = true → v12 = .agg (wordsV Y0)
  bel : Below w.heap.size w w'
  e5 : b5 = true → v4 = .pointer (some ⟨g4, 0, none⟩) ∧ w.heap.size ≤ g4 ∧ Arr w' g4 (if b7 = true then W0 else nil16)
  e6 : b6 = true → v5 = .pointer (some ⟨g5, 0, none⟩) ∧ w.heap.size ≤ g5 ∧ Arr w' g5 (if b8 = true then Y0 else nil8)
  ne : b5 = true → b6 = true → g4 ≠ g5
  d7 : b7 = true → b5 = true
  d8 : b8 = true → b6 = true

theorem RS.on {w w' w'' : World} {Y0 : List Nat} {q : List UInt8} {W0 : List Nat} {b : Nat} {b0 b1 b2 b3 b4 b5 b6 b7 b8 : Bool} {v4 v5 v8 v9 v10 v11 v12 : Value} {g4 g5 : Nat} (r : RS w w' Y0 q W0 b b0 b1 b2 b3 b4 b5 b6 b7 b8 v4 v5 v8 v9 v10 v11 v12 g4 g5)
    (h : Below w'.heap.size w' w'') : RS w w'' Y0 q W0 b b0 b1 b2 b3 b4 b5 b6 b7 b8 v4 v5 v8 v9 v10 v11 v12 g4 g5 :=
  { r with
    bel := r.bel.trans (h.mono r.bel.size)
    e5 := fun e => ⟨(r.e5 e).1, (r.e5 e).2.1, (r.e5 e).2.2.below h (r.e5 e).2.2.lt⟩
    e6 := fun e => ⟨(r.e6 e).1, (r.e6 e).2.1, (r.e6 e).2.2.below h (r.e6 e).2.2.lt⟩ }

/-- The memory of a block's turns: the numbers, the words, what they began with. -/
structure BM (w wr : World) (b g4 g5 : Nat) (xs ws ys : List Nat) : Prop where
  n : Arr wr b xs
  x : Arr wr g4 ws
  y : Arr wr g5 ys
  k : KeyT wr
  gr : w.grownBy wr (some b)

theorem BM.drew {w wr : World} {b g4 g5 : Nat} {xs ws ys : List Nat} (m : BM w wr b g4 g5 xs ws ys) : BM w wr.drew b g4 g5 xs ws ys :=
  ⟨m.n.drew, m.x.drew, m.y.drew, m.k.drew, Cu.grown_trans m.gr (Cu.grown_drew _ _ 1)⟩

theorem grown_fresh {w wr w2 : World} {r : Option Nat} {g : Nat} (h : w.grownBy wr r) (k : wr.grownBy w2 (some g)) (hg : w.heap.size ≤ g) : w.grownBy w2 r :=
  ⟨k.os.trans h.os, k.tape.trans h.tape, k.output.trans h.output, Nat.le_trans h.size k.size, fun i hi hne => (k.block i (Nat.lt_of_lt_of_le hi h.size) (fun e => by cases e; omega)).trans (h.block i hi hne)⟩

/-- The numbers were written. -/
theorem BM.num {w wr w2 : World} {b g4 g5 : Nat} {xs ws ys xs' : List Nat} (m : BM w wr b g4 g5 xs ws ys) (hA : Arr w2 b xs') (hg : wr.grownBy w2 (some b)) (h4 : b ≠ g4) (h5 : b ≠ g5) (hk : 1 ≠ b) : BM w w2 b g4 g5 xs' ws ys :=
  ⟨hA, Arr.grown m.x hg h4, Arr.grown m.y hg h5, m.k.grown hg hk, Cu.grown_trans m.gr hg⟩

/-- The words were written. -/
theorem BM.wrd {w wr w2 : World} {b g4 g5 : Nat} {xs ws ys ws' : List Nat} (m : BM w wr b g4 g5 xs ws ys) (hA : Arr w2 g4 ws') (hg : wr.grownBy w2 (some g4)) (h4 : b ≠ g4) (h5 : g4 ≠ g5) (hk : 1 ≠ g4) (hw : w.heap.size ≤ g4) : BM w w2 b g4 g5 xs ws' ys :=
  ⟨Arr.grown m.n hg (Ne.symm h4), hA, Arr.grown m.y hg h5, m.k.grown hg hk, grown_fresh m.gr hg hw⟩

set_option maxHeartbeats 2000000 in
theorem takeBlock_calls (b : Nat) (s : St) (hs : s.ok) (q : List UInt8) (hq : q.length = 64) (w : World) (hA : Arr w b s.list) (hK : KeyT w) (hne : 1 < b) :
    Calls Tryd.prog 47 #[.pointer (some ⟨b, 0, none⟩), .string ⟨q.toArray⟩] w fun e w' => (∃ v, e = .returned v) ∧ Arr w' b (block s q).list ∧ w.grownBy w' (some b) := by
  obtain ⟨S, RN, H1, H2, H3, R0, R1, R2, R3⟩ : ∃ (S : Nat → Nat) (RN : Nat → St), Hid (∀ j, j < 16 → S j = word q j) ∧ Hid (∀ m, m < 48 → S (m + 16) = add (add (add (S m) (sig0 (S (m + 1)))) (S (m + 9))) (sig1 (S (m + 14)))) ∧ Hid (∀ j, j < 64 → S j < 4294967296) ∧
      Hid (RN 0 = s) ∧ Hid (∀ t, RN (t + 1) = round1 (RN t) (keys.getD t 0) (S t)) ∧ Hid (∀ t, (RN t).ok) ∧ Hid (block s q = s.plus (RN 64)) :=
    ⟨fun j => (sched q).getD j 0, fun t => roundsN keys (sched q) t s, sched_first q, sched_next q, sched_lt q, rfl, fun _ => rfl, fun t => roundsN_ok keys (sched q) t s hs, rfl⟩
  obtain ⟨KF, HKF⟩ : ∃ KF : Nat → Nat, Hid (∀ t, keys.getD t 0 = KF t) := ⟨fun t => keys.getD t 0, fun _ => rfl⟩
  have R1' := hide (fun t => (R1.out t).trans (by rw [HKF.out t] : round1 (RN t) (keys.getD t 0) (S t) = round1 (RN t) (KF t) (S t)))
  obtain ⟨R, HR⟩ : ∃ R, Hid (R = block s q) := ⟨_, rfl⟩
  rw [← HR.out] at R3 ⊢
  have HPL := hide (fun j (hj : j < 8) => (show R.list.getD j 0 = add (s.list.getD j 0) ((RN 64).list.getD j 0) by rw [R3.out]; exact plus_getD s (RN 64) j hj))
  have HRL : Hid (R.list.length = 8) := rfl
  obtain ⟨RL, ERL⟩ : ∃ RL, Hid (RL = R.list) := ⟨_, rfl⟩
  rw [← ERL.out] at HRL ⊢
  simp only [← ERL.out] at HPL
  have hz16 := (zero_of_info zero16).1
  have hz8 := (zero_of_info zeroN8).1
  have HWD := hide (fun wx => words_calls q hq wx)
  have hw16 := hide (wnd_first q S H1.out)
  obtain ⟨W0, EW0⟩ : ∃ W0, Hid (W0 = words16 q) := ⟨_, rfl⟩
  rw [← EW0.out] at hw16
  simp only [← EW0.out] at HWD
  have hl16 : W0.length = 16 := hw16.out.len
  obtain ⟨Z16, hZ16⟩ : ∃ Z, Z = wordsV nil16 := ⟨_, rfl⟩
  obtain ⟨Z8, hZ8⟩ : ∃ Z, Z = wordsV nil8 := ⟨_, rfl⟩
  rw [← hZ16] at hz16
  rw [← hZ8] at hz8
  have HZ16 := hide hZ16
  have HZ8 := hide hZ8
  have Hz16 := hide hz16
  have Hz8 := hide hz8
  have HA := hide hA
  have HK := hide hK
  have hlb := hA.lt
  obtain ⟨Y0, EY⟩ : ∃ Y0, Hid (Y0 = s.list) := ⟨_, rfl⟩
  rw [← EY.out] at HA
  have hl8 : Y0.length = 8 := by rw [EY.out]; rfl
  have hlk := hK.lt
  clear hA hK hZ16 hZ8 hz16 hz8 R1 H1 EW0 R3 HR
  go_enter Tryd.func47, Tryd.ntmps47
  go_wp2_with fail
  refine wp_region_inv (fun l a w' => ∃ b0 b1 b2 b3 b4 b5 b6 b7 b8 : Bool, ∃ v4 v5 v8 v9 v10 v11 v12 : Value, ∃ g4 g5 : Nat, l = #[b0, b1, b2, b3, b4, b5, b6, b7, b8] ∧ a = { tmps := #[.pointer (some ⟨b, 0, none⟩), .string ⟨q.toArray⟩, undef, undef, v4, v5, undef, undef, v8, v9, v10, v11, v12, undef, undef, undef, undef, undef, undef, undef, undef, undef, undef, undef, undef, undef, undef, undef, undef, undef, undef, undef, undef, undef, undef, undef, undef, undef, undef, undef, undef, undef, undef], defers := [] } ∧ RS w w' Y0 q W0 b b0 b1 b2 b3 b4 b5 b6 b7 b8 v4 v5 v8 v9 v10 v11 v12 g4 g5) (by kernel_rfl) (by kernel_rfl) ?_ ?_ ?_
  · exact ⟨false, false, false, false, false, false, false, false, false, undef, undef, undef, undef, undef, undef, undef, 0, 0, rfl, rfl, ⟨by simp, by simp, by simp, by simp, by simp, (Below.refl _ _).drew, by simp, by simp, by simp, by simp, by simp⟩⟩
  · rintro l a w' ⟨b0, b1, b2, b3, b4, b5, b6, b7, b8, v4, v5, v8, v9, v10, v11, v12, g4, g5, rfl, rfl, r⟩ i o ho hl hd
    have hi : i < 9 := by simpa using (Array.getElem?_eq_some_iff.1 ho).1
    have hcase : i = 0 ∨ i = 1 ∨ i = 2 ∨ i = 3 ∨ i = 4 ∨ i = 5 ∨ i = 6 ∨ i = 7 ∨ i = 8 := by omega
    rcases hcase with rfl | rfl | rfl | rfl | rfl | rfl | rfl | rfl | rfl
    · obtain rfl := Option.some.inj ho
      refine ⟨rfl, wp_value rfl ⟨true, b1, b2, b3, b4, b5, b6, b7, b8, v4, v5, .string ⟨q.toArray⟩, v9, v10, v11, v12, g4, g5, rfl, rfl, { r with e0 := fun _ => rfl }⟩⟩
    · obtain rfl := Option.some.inj ho
      have hb0 : b0 = true := hd 0 (by decide +kernel)
      have e := r.e0 hb0
      refine ⟨rfl, wp_call1 53 (.tmp 8) 9 rfl enterW (.string ⟨q.toArray⟩) e (fun v w'' => v = .agg (wordsV W0) ∧ Below w'.heap.size w' w'') ((HWD.out _).mono fun e w'' h => ⟨_, h.1, rfl, h.2⟩) ?_⟩
      rintro v w'' ⟨rfl, hb⟩
      exact ⟨b0, true, b2, b3, b4, b5, b6, b7, b8, v4, v5, v8, .agg (wordsV W0), v10, v11, v12, g4, g5, rfl, rfl, { r.on hb with e1 := fun _ => rfl }⟩
    · obtain rfl := Option.some.inj ho
      refine ⟨rfl, wp_value rfl ⟨b0, b1, true, b3, b4, b5, b6, b7, b8, v4, v5, v8, v9, .pointer (some ⟨b, 0, none⟩), v11, v12, g4, g5, rfl, rfl, { r with e2 := fun _ => rfl }⟩⟩
    · obtain rfl := Option.some.inj ho
      have e := r.e2 (hd 2 (by decide +kernel))
      refine ⟨rfl, wp_nilCheck (.tmp 10) rfl ⟨b, 0, none⟩ e ⟨b0, b1, b2, true, b4, b5, b6, b7, b8, v4, v5, v8, v9, v10, .pointer (some ⟨b, 0, none⟩), v12, g4, g5, rfl, rfl, { r with e3 := fun _ => rfl }⟩⟩
    · obtain rfl := Option.some.inj ho
      have e := r.e3 (hd 3 (by decide +kernel))
      have hl := (HA.out.below r.bel hlb).load (P := Tryd.prog) 8 hl8
      refine ⟨rfl, wp_load_agg 72 (.tmp 11) rfl b e 8 Tryd.isAgg72 Tryd.sizeOf72 (wordsV Y0) hl ⟨b0, b1, b2, b3, true, b5, b6, b7, b8, v4, v5, v8, v9, v10, v11, .agg (wordsV Y0), g4, g5, rfl, rfl, { r with e4 := fun _ => rfl }⟩⟩
    · obtain rfl := Option.some.inj ho
      have h7 : b7 = false := by cases b7 with | false => rfl | true => exact absurd (r.d7 rfl) (by simpa using hl)
      have r2 := r.on ((Below.refl w'.heap.size w').alloc (Nat.le_refl _) (.cells Z16 83))
      refine ⟨rfl, wp_alloc_agg 83 rfl Z16 Hz16.out ⟨b0, b1, b2, b3, b4, true, b6, b7, b8, .pointer (some ⟨w'.heap.size, 0, none⟩), v5, v8, v9, v10, v11, v12, w'.heap.size, g5, rfl, rfl, { r2 with e5 := fun _ => ⟨rfl, r.bel.size, ?_⟩, ne := fun _ h6 => ?_, d7 := fun _ => rfl }⟩⟩
      · rw [h7]; exact Arr.new _ _ _ _ HZ16.out
      · have := (r.e6 h6).2.2.lt
        omega
    · obtain rfl := Option.some.inj ho
      have h8 : b8 = false := by cases b8 with | false => rfl | true => exact absurd (r.d8 rfl) (by simpa using hl)
      have r2 := r.on ((Below.refl w'.heap.size w').alloc (Nat.le_refl _) (.cells Z8 72))
      refine ⟨rfl, wp_alloc_agg 72 rfl Z8 Hz8.out ⟨b0, b1, b2, b3, b4, b5, true, b7, b8, v4, .pointer (some ⟨w'.heap.size, 0, none⟩), v8, v9, v10, v11, v12, g4, w'.heap.size, rfl, rfl, { r2 with e6 := fun _ => ⟨rfl, r.bel.size, ?_⟩, ne := fun h5 _ => ?_, d8 := fun _ => rfl }⟩⟩
      · rw [h8]; exact Arr.new _ _ _ _ HZ8.out
      · have := (r.e5 h5).2.2.lt
        omega
    · obtain rfl := Option.some.inj ho
      have h5 : b5 = true := hd 5 (by decide +kernel)
      have h1 : b1 = true := hd 1 (by decide +kernel)
      have h7 : b7 = false := hl
      obtain ⟨e5, hg, hA5⟩ := r.e5 h5
      rw [h7] at hA5
      have hA5' : Arr w' g4 nil16 := hA5
      refine ⟨rfl, wp_store_mid 83 (.tmp 4) (.tmp 9) rfl g4 0 (wordsV W0) e5 (r.e1 h1) (by rw [wordsV_size, hl16]; exact hA5'.there 16 rfl) (by rw [wordsV_size, hl16]; exact size16) (wordsV_one _) ⟨b0, b1, b2, b3, b4, b5, b6, true, b8, v4, v5, v8, v9, v10, v11, v12, g4, g5, rfl, rfl, { r with bel := below_setCells hg _ _ _ r.bel, e5 := fun _ => ⟨e5, hg, hA5'.setAll W0 hl16⟩, e6 := fun h6 => ⟨(r.e6 h6).1, (r.e6 h6).2.1, (r.e6 h6).2.2.otherAll (r.ne h5 h6) _ _⟩, d7 := fun _ => h5 }⟩⟩
    · obtain rfl := Option.some.inj ho
      have h6 : b6 = true := hd 6 (by decide +kernel)
      have h4 : b4 = true := hd 4 (by decide +kernel)
      have h8 : b8 = false := hl
      obtain ⟨e6, hg, hA6⟩ := r.e6 h6
      rw [h8] at hA6
      have hA6' : Arr w' g5 nil8 := hA6
      refine ⟨rfl, wp_store_mid 72 (.tmp 5) (.tmp 12) rfl g5 0 (wordsV Y0) e6 (r.e4 h4) (by rw [wordsV_size, hl8]; exact hA6'.there 8 rfl) (by rw [wordsV_size, hl8]; exact sizeN8) (wordsV_one _) ⟨b0, b1, b2, b3, b4, b5, b6, b7, true, v4, v5, v8, v9, v10, v11, v12, g4, g5, rfl, rfl, { r with bel := below_setCells hg _ _ _ r.bel, e6 := fun _ => ⟨e6, hg, hA6'.setAll Y0 hl8⟩, e5 := fun h5 => ⟨(r.e5 h5).1, (r.e5 h5).2.1, (r.e5 h5).2.2.otherAll (fun h => r.ne h5 h6 h.symm) _ _⟩, d8 := fun _ => h6 }⟩⟩
  · rintro l a w' ⟨b0, b1, b2, b3, b4, b5, b6, b7, b8, v4, v5, v8, v9, v10, v11, v12, g4, g5, rfl, rfl, r⟩ hall
    have h5 : b5 = true := hall 5 (by decide)
    have h6 : b6 = true := hall 6 (by decide)
    have h7 : b7 = true := hall 7 (by decide)
    have h8 : b8 = true := hall 8 (by decide)
    obtain ⟨e4, hg4, hA4⟩ := r.e5 h5
    obtain ⟨e5, hg5, hA5⟩ := r.e6 h6
    have hne45 := r.ne h5 h6
    rw [if_pos h7] at hA4
    rw [if_pos h8] at hA5
    have hA0 := HA.out.below r.bel hlb
    have hK0 := HK.out.below r.bel hlk
    have hgr := grown_of_below r.bel (some b)
    subst e4 e5
    have hm0 : BM w w' b g4 g5 Y0 W0 Y0 := ⟨hA0, hA4, hA5, hK0, hgr⟩
    have HM := hide hm0
    have hb4 : b ≠ g4 := by omega
    have hb5 : b ≠ g5 := by omega
    have hk4 : 1 ≠ g4 := by omega
    have hkb : 1 ≠ b := by omega
    clear hall r h5 h6 h7 h8 hA4 hA5 hA0 hK0 hgr hm0 HA HK HZ16 HZ8 Hz16 Hz8 HWD
    dsimp only
    go_wp2_with fail
    go_loopw [13] (fun i wr => ∃ t : Nat, ∃ xs ws : List Nat, t ≤ 64 ∧ i = .int .u64 t ∧ Rnd t xs (RN t) ∧ Wnd S (max 16 t) ws ∧ BM w wr b g4 g5 xs ws Y0) (fun i _ => 64 - (intOf i).toNat)
    case atStart => exact ⟨0, Y0, W0, by omega, rfl, by rw [EY.out, R0.out]; exact Rnd.first s, hw16.out, HM.out⟩
    case round =>
      clear HM hw16
      obtain ⟨t, xs, ws, ht, rfl, hR, hW, hm⟩ := hrel
      have HM := hide hm
      have HR := hide hR
      have HW := hide hW
      clear hm hR hW
      by_cases hlt : t < 64
      · have HR1 := hide (R1'.out t)
        have HOK := hide (R2.out t)
        have hmod : t % 64 = t := by omega
        by_cases h16 : t < 16
        · have hmx : max 16 t = 16 := by omega
          rw [hmx] at HW
          have cw := HM.out.x.cell (t % 16) (by rw [HW.out.len]; omega)
          rw [HW.out.at_ t h16 (by omega)] at cw
          have ck := HM.out.k.cell (t % 64) (by omega)
          rw [hmod, HKF.out t] at ck
          have HC := hide (fun (wx : World) (h1 : Arr wx b xs) (h2 : wx.cell? ⟨1, t % 64, none⟩ = some (.int .u32 (KF t : Nat))) => word_calls b xs t (RN t) (KF t) (S t) hlt HR.out HOK.out wx h1 h2)
          have HN := hide (HR.out.next hlt (KF t) (S t))
          have HCK := hide (show wr.cell? ⟨1, t % 64, none⟩ = some (.int .u32 (KF t : Nat)) by rw [hmod]; exact ck)
          have hge : decide (16 ≤ (t : Int)) = false := by simp; omega
          clear ck hmx
          generalize RN t = st at *
          go_wp2_with fail
          refine (HC.out _ HM.out.n HCK.out).mono ?_
          rintro e w2 ⟨⟨v, rfl⟩, hA2, hg2⟩
          have HM2 := hide (HM.out.num hA2 hg2 hb4 hb5 hkb)
          clear hA2 hg2 HM HC HCK cw
          go_wp2_with fail
          go_roundw
          case rel => exact ⟨t + 1, _, ws, by omega, by go_num, by rw [HR1.out]; exact HN.out, by rw [show max 16 (t + 1) = 16 by omega]; exact HW.out, HM2.out⟩
          case measure => simp [intOf]; omega
        · have hmx : max 16 t = t := by omega
          rw [hmx] at HW
          have hge : decide (16 ≤ (t : Int)) = true := by simp; omega
          have HNX := hide (fun (wx : World) (h1 : Arr wx g4 ws) => next_calls g4 ws t hlt HW.out.len (HW.out.lt (by omega) ht H3.out) wx h1)
          rw [HW.out.new (by omega) hlt H2.out] at HNX
          have HWN := hide HW.out.next
          have HC := hide (fun (wx : World) (h1 : Arr wx b xs) (h2 : wx.cell? ⟨1, t % 64, none⟩ = some (.int .u32 (KF t : Nat))) => word_calls b xs t (RN t) (KF t) (S t) hlt HR.out HOK.out wx h1 h2)
          have HN := hide (HR.out.next hlt (KF t) (S t))
          clear hmx
          generalize RN t = st at *
          go_wp2_with fail
          refine (HNX.out _ HM.out.x).mono ?_
          rintro e w1 ⟨⟨v, rfl⟩, hA1, hg1⟩
          have HM1 := hide (HM.out.wrd hA1 hg1 hb4 hne45 hk4 hg4)
          have cw := hA1.cell (t % 16) (by rw [HWN.out.len]; omega)
          rw [HWN.out.at_ t (by omega) (by omega)] at cw
          have ck := HM1.out.k.cell (t % 64) (by omega)
          rw [hmod, HKF.out t] at ck
          have HCK := hide (show w1.cell? ⟨1, t % 64, none⟩ = some (.int .u32 (KF t : Nat)) by rw [hmod]; exact ck)
          clear hA1 hg1 HM HNX ck
          go_wp2_with fail
          refine (HC.out _ HM1.out.n HCK.out).mono ?_
          rintro e w2 ⟨⟨v, rfl⟩, hA2, hg2⟩
          have HM2 := hide (HM1.out.num hA2 hg2 hb4 hb5 hkb)
          clear hA2 hg2 HM1 HC HCK cw
          go_wp2_with fail
          go_roundw
          case rel => exact ⟨t + 1, _, _, by omega, by go_num, by rw [HR1.out]; exact HN.out, by rw [show max 16 (t + 1) = t + 1 by omega]; exact HWN.out, HM2.out⟩
          case measure => simp [intOf]; omega
      · have h64 : t = 64 := by omega
        rw [h64] at HR
        have hxs := HR.out.last
        obtain ⟨X, EX⟩ : ∃ X, Hid (X = RN 64) := ⟨_, rfl⟩
        rw [← EX.out] at hxs HPL
        rw [hxs] at HM
        have HX8 : Hid (X.list.length = 8) := rfl
        obtain ⟨XL, EXL⟩ : ∃ XL, Hid (XL = X.list) := ⟨_, rfl⟩
        rw [← EXL.out] at HM HX8
        simp only [← EXL.out, ← EY.out] at HPL
        clear HR HW hxs h64
        go_wp2_with fail
        clear hlt ht
        have hxlt : ∀ j, j < 8 → XL.getD j 0 < 4294967296 := fun j hj => by rw [EXL.out]; exact list_lt X (by rw [EX.out]; exact R2.out 64) j hj
        have HXL := hide hxlt
        have hylt : ∀ j, j < 8 → Y0.getD j 0 < 4294967296 := fun j hj => by rw [EY.out]; exact list_lt s hs j hj
        have HYL := hide hylt
        clear hxlt hylt EX EXL EY
        go_loopw [28] (fun i wr => ∃ n : Nat, ∃ hl : List Nat, n ≤ 8 ∧ i = .int .i64 n ∧ hl.length = 8 ∧ (∀ j, j < n → hl.getD j 0 = RL.getD j 0) ∧ (∀ j, n ≤ j → hl.getD j 0 = XL.getD j 0) ∧ BM w wr b g4 g5 hl ws Y0) (fun i _ => 8 - (intOf i).toNat)
        case atStart => exact ⟨0, XL, by omega, rfl, HX8.out, by simp, fun j _ => rfl, HM.out⟩
        case round =>
          clear HM
          obtain ⟨n, hl, hn, rfl, hll, hdone, hleft, hm⟩ := hrel
          have HM := hide hm
          have HD := hide hdone
          have HL := hide hleft
          clear hm hdone hleft
          by_cases hlt : n < 8
          · go_wp2_with fail
            refine wp_region_tail 11 (fun wd => BM w wd b g4 g5 hl ws Y0) HM.out.drew (by kernel_rfl) (by kernel_rfl) ?_
            clear HM
            intro wd hm
            have HM := hide hm
            clear hm
            have c0 := HM.out.n.cell n (by omega)
            have c1 := HM.out.y.cell n (by omega)
            rw [HL.out n (Nat.le_refl _)] at c0
            have hp := HPL.out n hlt
            have x0lt := HXL.out n hlt
            have x1lt := HYL.out n hlt
            obtain ⟨x0, e0⟩ : ∃ x0, x0 = XL.getD n 0 := ⟨_, rfl⟩
            obtain ⟨x1, e1⟩ : ∃ x1, x1 = Y0.getD n 0 := ⟨_, rfl⟩
            obtain ⟨x2, e2⟩ : ∃ x2, x2 = RL.getD n 0 := ⟨_, rfl⟩
            rw [← e0] at c0 hp x0lt
            rw [← e1] at c1 hp x1lt
            rw [← e2] at hp
            have HP := hide hp
            have E2 := hide e2
            clear hp e0 e1 e2
            simp only [List.take_succ_cons, List.take_zero, List.drop_succ_cons, List.drop_zero]
            repeat (go_big_quiet_step (fail))
            refine wpQuiet_nil ?_
            have hf := HM.out.n.free n
            go_wp2_with fail
            go_roundw
            case rel =>
              have ev : (((x0 : Int) + (x1 : Int)) % 4294967296) = ((x2 : Nat) : Int) := by rw [HP.out]; unfold add; omega
              rw [ev]
              refine ⟨n + 1, hl.set n x2, by omega, by go_num, by simpa using hll, ?_, ?_, HM.out.num (HM.out.n.set x2) (Cu.grown_set _ _ _ _) hb4 hb5 hkb⟩
              · intro j hj
                by_cases e : n = j
                · subst e; rw [P1.getD_set_eq _ _ _ (by omega)]; exact E2.out
                · rw [P1.getD_set_ne _ _ _ _ e]; exact HD.out j (by omega)
              · intro j hj
                rw [P1.getD_set_ne _ _ _ _ (by omega)]; exact HL.out j (by omega)
            case measure => simp [intOf]; omega
          · have hRL : hl = RL := by
              have hr8 := HRL.out
              apply List.ext_getElem
              · omega
              · intro j h1 h2
                have := HD.out j (by omega)
                simpa [List.getD_eq_getElem?_getD, List.getElem?_eq_getElem h1, List.getElem?_eq_getElem h2] using this
            rw [hRL] at HM
            clear hRL HD HL
            go_wp2_with fail
            exact bodyPost_end (results_none rfl _ _ _) rfl ⟨⟨_, rfl⟩, HM.out.n, HM.out.gr⟩
end Go.Proofs.YtflicklgmhgpiaaDoor.P3
