/- Numbers of an array that is gone round: where the i-th stands behind so many turns; a block's words that take the place of the oldest; no condition.
The contracts of the program's small functions of chapter 3: rolled, turnPlace.
The contract of the program's blockWords.next.
The contract of the program's shaNumbers.takeWord: one turn.
The contracts of spec.ShaStart and spec.ShaBlock.
The contracts of the program's blockWordsOf and shaNumbers.list.
The contract of the program's shaNumbers.takeBlock: one block.
The contract of impl.ShaStart; condition: its listed table holds what the text lays.
The contract of impl.PadText; condition: the text is at most 2^21 bytes long.
The contract of impl.Digest; conditions: the text is at most 2^20 bytes long (and one), the listed tables hold what their text lays.
Both listed tables of chapter 3, in one.
What the listed tables of chapter 3 give: each of their cells. -/
import Derived.Test.YtflicklgmhgpiaaDoorZP
import Derived.Test.YtflicklgmhgpiaaDoorZA
import Derived.Test.YtflicklgmhgpiaaDoorZC
import Derived.Test.YtflicklgmhgpiaaDoorZD
import Derived.Test.YtflicklgmhgpiaaDoorRows
import Derived.Lib.LaidTab
import Derived.MakeChecks
namespace Go.Proofs.YtflicklgmhgpiaaDoor.P3
open P1

/-- Where the i-th number stands behind t turns. -/
def pl (t i : Nat) : Nat := (i + 64 - t) % 8

theorem pl_lt (t i : Nat) : pl t i < 8 := Nat.mod_lt _ (by decide)

/-- The array xs, behind t turns, is the state s. -/
structure Rnd (t : Nat) (xs : List Nat) (s : St) : Prop where
  len : xs.length = 8
  a : xs.getD (pl t 0) 0 = s.a
  b : xs.getD (pl t 1) 0 = s.b
  c : xs.getD (pl t 2) 0 = s.c
  d : xs.getD (pl t 3) 0 = s.d
  e : xs.getD (pl t 4) 0 = s.e
  f : xs.getD (pl t 5) 0 = s.f
  g : xs.getD (pl t 6) 0 = s.g
  h : xs.getD (pl t 7) 0 = s.h

theorem Rnd.first (s : St) : Rnd 0 s.list s := ⟨rfl, rfl, rfl, rfl, rfl, rfl, rfl, rfl, rfl⟩

/-- One turn: two numbers are new. -/
theorem Rnd.next {t : Nat} {xs : List Nat} {s : St} (ht : t < 64) (r : Rnd t xs s) (k w : Nat) :
    Rnd (t + 1) ((xs.set (pl t 3) (round1 s k w).e).set (pl t 7) (round1 s k w).a) (round1 s k w) := by
  have hl := r.len
  have e0 : pl (t + 1) 0 = pl t 7 := by unfold pl; omega
  have e1 : pl (t + 1) 1 = pl t 0 := by unfold pl; omega
  have e2 : pl (t + 1) 2 = pl t 1 := by unfold pl; omega
  have e3 : pl (t + 1) 3 = pl t 2 := by unfold pl; omega
  have e4 : pl (t + 1) 4 = pl t 3 := by unfold pl; omega
  have e5 : pl (t + 1) 5 = pl t 4 := by unfold pl; omega
  have e6 : pl (t + 1) 6 = pl t 5 := by unfold pl; omega
  have e7 : pl (t + 1) 7 = pl t 6 := by unfold pl; omega
  have p3 := pl_lt t 3
  have p7 := pl_lt t 7
  refine ⟨by simpa using hl, ?_, ?_, ?_, ?_, ?_, ?_, ?_, ?_⟩
  · rw [e0, P1.getD_set_eq _ _ _ (by simpa using (by omega : pl t 7 < xs.length))]
  · rw [e1, P1.getD_set_ne _ _ _ _ (by unfold pl; omega), P1.getD_set_ne _ _ _ _ (by unfold pl; omega)]; exact r.a
  · rw [e2, P1.getD_set_ne _ _ _ _ (by unfold pl; omega), P1.getD_set_ne _ _ _ _ (by unfold pl; omega)]; exact r.b
  · rw [e3, P1.getD_set_ne _ _ _ _ (by unfold pl; omega), P1.getD_set_ne _ _ _ _ (by unfold pl; omega)]; exact r.c
  · rw [e4, P1.getD_set_ne _ _ _ _ (by unfold pl; omega), P1.getD_set_eq _ _ _ (by omega)]
  · rw [e5, P1.getD_set_ne _ _ _ _ (by unfold pl; omega), P1.getD_set_ne _ _ _ _ (by unfold pl; omega)]; exact r.e
  · rw [e6, P1.getD_set_ne _ _ _ _ (by unfold pl; omega), P1.getD_set_ne _ _ _ _ (by unfold pl; omega)]; exact r.f
  · rw [e7, P1.getD_set_ne _ _ _ _ (by unfold pl; omega), P1.getD_set_ne _ _ _ _ (by unfold pl; omega)]; exact r.g

/-- Behind all turns they stand as they stood. -/
theorem Rnd.last {xs : List Nat} {s : St} (r : Rnd 64 xs s) : xs = s.list := by
  obtain ⟨hl, h0, h1, h2, h3, h4, h5, h6, h7⟩ := r
  match xs, hl with
  | [x0, x1, x2, x3, x4, x5, x6, x7], _ =>
    have q : ∀ i, i < 8 → pl 64 i = i := by intro i hi; unfold pl; omega
    rw [q 0 (by decide)] at h0
    rw [q 1 (by decide)] at h1
    rw [q 2 (by decide)] at h2
    rw [q 3 (by decide)] at h3
    rw [q 4 (by decide)] at h4
    rw [q 5 (by decide)] at h5
    rw [q 6 (by decide)] at h6
    rw [q 7 (by decide)] at h7
    simp only [List.getD_cons_zero, List.getD_cons_succ] at h0 h1 h2 h3 h4 h5 h6 h7
    simp only [St.list]
    rw [h0, h1, h2, h3, h4, h5, h6, h7]

/-- The array ws holds the words t - 16 .. t - 1 of a schedule, each at its number's rest (of the first sixteen, all). -/
structure Wnd (S : Nat → Nat) (t : Nat) (ws : List Nat) : Prop where
  len : ws.length = 16
  at_ : ∀ j, j < t → t ≤ j + 16 → ws.getD (j % 16) 0 = S j

theorem Wnd.next {S : Nat → Nat} {t : Nat} {ws : List Nat} (h : Wnd S t ws) : Wnd S (t + 1) (ws.set (t % 16) (S t)) := by
  have hl := h.len
  refine ⟨by simpa using hl, fun j h1 h2 => ?_⟩
  by_cases e : j = t
  · subst e; exact P1.getD_set_eq _ _ _ (by rw [hl]; exact Nat.mod_lt _ (by decide))
  · rw [P1.getD_set_ne _ _ _ _ (by omega)]; exact h.at_ j (by omega) (by omega)

/-- The first m bytes of the j-th word. -/
def pw (b : List UInt8) (j : Nat) : Nat → Nat
  | 0 => 0
  | m + 1 => pw b j m * 256 + (b.getD (4 * j + m) 0).toNat

theorem pw_word (b : List UInt8) (j : Nat) : pw b j 4 = word b j := by
  simp only [pw, word, Nat.add_zero]
  omega

theorem pw_lt (b : List UInt8) (j m : Nat) : pw b j m < 256 ^ m := by
  induction m with
  | zero => simp [pw]
  | succ m ih =>
    have h0 := (b.getD (4 * j + m) 0).toNat_lt
    simp only [pw]
    rw [Nat.pow_succ]
    omega

/-- The words behind i bytes. -/
structure Fill (b : List UInt8) (i : Nat) (ws : List Nat) : Prop where
  len : ws.length = 16
  at_ : ∀ j, j < 16 → ws.getD j 0 = pw b j (min 4 (i - 4 * j))

theorem Fill.first (b : List UInt8) : Fill b 0 (List.replicate 16 0) := by
  refine ⟨rfl, fun j hj => ?_⟩
  have h0 : min 4 (0 - 4 * j) = 0 := by omega
  rw [h0]
  rw [List.getD_eq_getElem?_getD, List.getElem?_replicate, if_pos hj]
  rfl

theorem Fill.cur {b : List UInt8} {i : Nat} {ws : List Nat} (h : Fill b i ws) (hi : i < 64) : ws.getD (i / 4) 0 = pw b (i / 4) (i % 4) := by
  rw [h.at_ (i / 4) (by omega), show min 4 (i - 4 * (i / 4)) = i % 4 by omega]

theorem Fill.next {b : List UInt8} {i : Nat} {ws : List Nat} (h : Fill b i ws) : Fill b (i + 1) (ws.set (i / 4) (pw b (i / 4) (i % 4) * 256 + (b.getD i 0).toNat)) := by
  have hl := h.len
  refine ⟨by simpa using hl, fun j hj => ?_⟩
  by_cases e : i / 4 = j
  · subst e
    rw [P1.getD_set_eq _ _ _ (by omega), show min 4 (i + 1 - 4 * (i / 4)) = i % 4 + 1 by omega]
    simp only [pw]
    rw [show 4 * (i / 4) + i % 4 = i by omega]
  · rw [P1.getD_set_ne _ _ _ _ e, h.at_ j hj]
    rw [show min 4 (i + 1 - 4 * j) = min 4 (i - 4 * j) by omega]

theorem Fill.last {b : List UInt8} {ws : List Nat} (h : Fill b 64 ws) : ws = words16 b := by
  have hl := h.len
  apply List.ext_getElem?
  intro j
  by_cases hj : j < 16
  · have := h.at_ j hj
    rw [show min 4 (64 - 4 * j) = 4 by omega, pw_word] at this
    rw [List.getElem?_eq_getElem (by omega)]
    rw [List.getD_eq_getElem?_getD, List.getElem?_eq_getElem (by omega)] at this
    simp only [Option.getD_some] at this
    rw [this]
    simp [words16, hj]
  · rw [List.getElem?_eq_none (by omega), List.getElem?_eq_none (by simp [words16]; omega)]

/-- The first sixteen words are the schedule's. -/
theorem wnd_first (b : List UInt8) (S : Nat → Nat) (hS : ∀ j, j < 16 → S j = word b j) : Wnd S 16 (words16 b) := by
  refine ⟨by simp [words16], fun j h1 h2 => ?_⟩
  rw [hS j h1, show j % 16 = j by omega]
  simp [words16, List.getD_eq_getElem?_getD, h1]

theorem words16_lt (b : List UInt8) (j : Nat) (hj : j < 16) : (words16 b).getD j 0 = word b j := by
  simp [words16, List.getD_eq_getElem?_getD, hj]

/-- What a turn makes, with the constant and the word ahead of the rest. -/
theorem round1_e (s : St) (k w : Nat) : (round1 s k w).e = add s.d (add (add (add s.h k) w) (add (Sig1 s.e) (ch s.e s.f s.g))) := by
  show add s.d (add (add (add (add s.h (Sig1 s.e)) (ch s.e s.f s.g)) k) w) = _
  unfold add
  omega

theorem round1_a (s : St) (k w : Nat) : (round1 s k w).a = add (add (add (add (add s.h k) w) (add (Sig1 s.e) (ch s.e s.f s.g))) (Sig0 s.a)) (maj s.a s.b s.c) := by
  show add (add (add (add (add s.h (Sig1 s.e)) (ch s.e s.f s.g)) k) w) (add (Sig0 s.a) (maj s.a s.b s.c)) = _
  unfold add
  omega
end Go.Proofs.YtflicklgmhgpiaaDoor.P3
namespace Go.Proofs.YtflicklgmhgpiaaDoor.P3
set_option maxRecDepth 8000
open Go.RowKit P1

theorem and31 (n : Nat) (h0 : 0 < n) (h1 : n < 32) : bits .and .u64 (IntKind.u64.wrap (-(n : Int))) 31 = 32 - (n : Int) := by
  have h : ∀ n : Fin 32, 0 < n.val → bits .and .u64 (IntKind.u64.wrap (-(n.val : Int))) 31 = 32 - (n.val : Int) := by decide +kernel
  exact h ⟨n, h1⟩ h0

theorem or_rot' (n x : Nat) (hx : x < 4294967296) : bits .or .u32 ((x : Int) * 2 ^ (32 - n) % 4294967296) ((x : Int) / 2 ^ n) = ((rot n x : Nat) : Int) := by
  have h1 : x / 2 ^ n < 4294967296 := Nat.lt_of_le_of_lt (Nat.div_le_self _ _) hx
  have h := u32_or_nat (x * 2 ^ (32 - n) % 4294967296) (x / 2 ^ n) (Nat.mod_lt _ (by decide)) h1
  unfold rot
  rw [Nat.or_comm, ← h]
  simp

set_option maxHeartbeats 400000 in
theorem rl_calls (x : Nat) (hx : x < 4294967296) (n : Nat) (h0 : 0 < n) (h1 : n < 32) (w : World) :
    Calls Tryd.prog 59 #[.int .u32 x, .int .i64 (-(n : Int))] w fun e w' => e = .returned (.int .u32 (rot n x : Nat)) ∧ w' = w := by
  have ha := and31 n h0 h1
  go_enter Tryd.func59, Tryd.ntmps59
  go_wp2
  go_ret
  rw [show 32 - (32 - n) = n by omega]
  exact ⟨congrArg (fun z => Ending.returned (.int .u32 z)) (or_rot' n x hx), rfl⟩

set_option maxHeartbeats 400000 in
theorem roll_calls (x : Nat) (hx : x < 4294967296) (n : Nat) (h0 : 0 < n) (h1 : n < 32) (w : World) :
    Calls Tryd.prog 57 #[.int .u32 x, .int .i64 n] w fun e w' => e = .returned (.int .u32 (rot n x : Nat)) ∧ w' = w := by
  go_enter Tryd.func57, Tryd.ntmps57
  go_wp2_with fail
  refine (rl_calls x hx n h0 h1 _).mono ?_
  rintro e w1 ⟨rfl, rfl⟩
  go_wp2
  go_ret
  exact ⟨rfl, rfl⟩

set_option maxHeartbeats 400000 in
theorem place_calls (t i : Nat) (ht : t ≤ 64) (hi : i < 8) (w : World) :
    Calls Tryd.prog 58 #[.int .u64 t, .int .u64 i] w fun e w' => e = .returned (.int .u64 (pl t i : Nat)) ∧ w' = w := by
  go_enter Tryd.func58, Tryd.ntmps58
  go_wp2
  go_ret
  refine ⟨congrArg (fun z => Ending.returned (.int .u64 z)) ?_, rfl⟩
  rw [IntKind.wrap_u64, Int.tmod_eq_emod_of_nonneg (by omega)]
  unfold pl
  omega
end Go.Proofs.YtflicklgmhgpiaaDoor.P3
namespace Go.Proofs.YtflicklgmhgpiaaDoor.P3
set_option maxRecDepth 8000
open Go.RowKit P1

theorem Arr.grown {w w' : World} {b g : Nat} {xs : List Nat} (h : Arr w b xs) (hg : w.grownBy w' (some g)) (hne : g ≠ b) : Arr w' b xs := by
  have hb : w'.heap[b]? = w.heap[b]? := hg.block b h.lt (fun e => hne (by cases e; rfl))
  exact ⟨Nat.lt_of_lt_of_le h.lt hg.size, fun i hi => by rw [World.cell?_of_block (w := w) hb]; exact h.cell i hi, fun i => by rw [World.frozen?_of_block (w := w) hb]; exact h.free i⟩

set_option maxHeartbeats 1000000 in
theorem next_calls (b : Nat) (xs : List Nat) (t : Nat) (ht : t < 64) (hl : xs.length = 16) (hx : ∀ j, j < 16 → xs.getD j 0 < 4294967296) (w : World) (hA : Arr w b xs) :
    Calls Tryd.prog 54 #[.pointer (some ⟨b, 0, none⟩), .int .u64 t] w fun e w' => (∃ v, e = .returned v) ∧
      Arr w' b (xs.set (t % 16) (add (add (add (xs.getD (t % 16) 0) (sig0 (xs.getD ((t + 1) % 16) 0))) (xs.getD ((t + 9) % 16) 0)) (sig1 (xs.getD ((t + 14) % 16) 0)))) ∧ w.grownBy w' (some b) := by
  have HA := hide hA
  have c1 := hA.cell ((t + 1) % 16) (by omega)
  have c14 := hA.cell ((t + 14) % 16) (by omega)
  have c0 := hA.cell (t % 16) (by omega)
  have c9 := hA.cell ((t + 9) % 16) (by omega)
  have l1 := hx ((t + 1) % 16) (by omega)
  have l14 := hx ((t + 14) % 16) (by omega)
  have l0 := hx (t % 16) (by omega)
  have l9 := hx ((t + 9) % 16) (by omega)
  generalize xs.getD ((t + 1) % 16) 0 = x1 at *
  generalize xs.getD ((t + 14) % 16) 0 = x14 at *
  generalize xs.getD (t % 16) 0 = x0 at *
  generalize xs.getD ((t + 9) % 16) 0 = x9 at *
  have hf := hA.free
  have hgd := fun n => Cu.grown_drew w (some b) n
  have HGD := hide hgd
  clear hA hx hgd
  go_enter Tryd.func54, Tryd.ntmps54
  go_wp2_with fail
  refine (roll_calls x1 l1 7 (by decide) (by decide) _).mono ?_
  rintro e w1 ⟨rfl, rfl⟩
  go_wp2_with fail
  refine (roll_calls x1 l1 18 (by decide) (by decide) _).mono ?_
  rintro e w1 ⟨rfl, rfl⟩
  obtain ⟨s0, hs0e⟩ : ∃ s0, s0 = sig0 x1 := ⟨_, rfl⟩
  have hs0 := sig0_lt x1 l1
  have hb0 := sig0_bits x1 l1
  rw [← hs0e] at hs0 hb0
  have ES0 := hide hs0e
  clear hs0e
  go_wp2_with fail
  refine (roll_calls x14 l14 17 (by decide) (by decide) _).mono ?_
  rintro e w1 ⟨rfl, rfl⟩
  go_wp2_with fail
  refine (roll_calls x14 l14 19 (by decide) (by decide) _).mono ?_
  rintro e w1 ⟨rfl, rfl⟩
  obtain ⟨s1, hs1e⟩ : ∃ s1, s1 = sig1 x14 := ⟨_, rfl⟩
  have hs1 := sig1_lt x14 l14
  have hb1 := sig1_bits x14 l14
  rw [← hs1e] at hs1 hb1
  have ES1 := hide hs1e
  clear hs1e
  go_wp2_with fail
  refine wp_region_tail 20 (fun wd => wd.cell? ⟨b, t % 16, none⟩ = some (.int .u32 (x0 : Nat)) ∧ wd.cell? ⟨b, (t + 9) % 16, none⟩ = some (.int .u32 (x9 : Nat)) ∧ (∀ i, wd.frozen? ⟨b, i, none⟩ = false) ∧ Arr wd b xs ∧ w1.grownBy wd (some b)) ⟨c0, c9, hf, HA.out.drew, Cu.grown_drew _ _ 1⟩ (by kernel_rfl) (by kernel_rfl) ?_
  clear c0 c9 hf HA c1 c14 HGD
  rintro wd ⟨c0, c9, hf, hA, hg⟩
  have HA := hide hA
  have HG := hide hg
  clear hA hg
  simp only [List.take_succ_cons, List.take_zero, List.drop_succ_cons, List.drop_zero]
  repeat (go_big_quiet_step (fail))
  refine wpQuiet_nil ?_
  go_wp2
  refine bodyPost_end (results_none rfl _ _ _) rfl ⟨⟨_, rfl⟩, ?_, Cu.grown_trans HG.out (Cu.grown_set _ _ _ _)⟩
  have hv : (((x0 : Int) + ((s0 : Int) + (x9 : Int) + (s1 : Int))) % 4294967296) = ((add (add (add x0 (sig0 x1)) x9) (sig1 x14) : Nat) : Int) := by
    rw [← ES0.out, ← ES1.out, add4]
    omega
  rw [hv]
  exact HA.out.set _
end Go.Proofs.YtflicklgmhgpiaaDoor.P3
namespace Go.Proofs.YtflicklgmhgpiaaDoor.P3
set_option maxRecDepth 8000
open Go.RowKit P1

theorem ch_bits' (e f g : Nat) (he : e < 4294967296) (hf : f < 4294967296) (hg : g < 4294967296) :
    bits .xor .u32 (bits .and .u32 (e : Int) (f : Int)) (bits .and .u32 (bits .xor .u32 IntKind.u32.max (e : Int)) (g : Int)) = ((ch e f g : Nat) : Int) := by
  rw [← ch_bits e f g he hf hg]
  have e1 := u32_xor_nat e 4294967295 he (by decide)
  have e2 := u32_xor_nat 4294967295 e (by decide) he
  rw [Nat.xor_comm] at e2
  rw [show IntKind.u32.max = ((4294967295 : Nat) : Int) from rfl, e2, ← e1]
  rfl

/-- What a turn reads: the eight numbers, each at its place, the turn's own number; and what was written since. -/
structure T8 (W w : World) (b t kv : Nat) (xs : List Nat) (p0 p1 p2 p3 p4 p5 p6 p7 x0 x1 x2 x3 x4 x5 x6 x7 : Nat) : Prop where
  c0 : w.cell? ⟨b, p0, none⟩ = some (.int .u32 (x0 : Nat))
  c1 : w.cell? ⟨b, p1, none⟩ = some (.int .u32 (x1 : Nat))
  c2 : w.cell? ⟨b, p2, none⟩ = some (.int .u32 (x2 : Nat))
  c3 : w.cell? ⟨b, p3, none⟩ = some (.int .u32 (x3 : Nat))
  c4 : w.cell? ⟨b, p4, none⟩ = some (.int .u32 (x4 : Nat))
  c5 : w.cell? ⟨b, p5, none⟩ = some (.int .u32 (x5 : Nat))
  c6 : w.cell? ⟨b, p6, none⟩ = some (.int .u32 (x6 : Nat))
  c7 : w.cell? ⟨b, p7, none⟩ = some (.int .u32 (x7 : Nat))
  k : w.cell? ⟨1, t % 64, none⟩ = some (.int .u32 (kv : Nat))
  arr : Arr w b xs
  gr : W.grownBy w (some b)

theorem T8.drewN {W w : World} {b t kv : Nat} {xs : List Nat} {p0 p1 p2 p3 p4 p5 p6 p7 x0 x1 x2 x3 x4 x5 x6 x7 : Nat} (h : T8 W w b t kv xs p0 p1 p2 p3 p4 p5 p6 p7 x0 x1 x2 x3 x4 x5 x6 x7) (n : Nat) :
    T8 W (w.drewN n) b t kv xs p0 p1 p2 p3 p4 p5 p6 p7 x0 x1 x2 x3 x4 x5 x6 x7 :=
  ⟨h.c0, h.c1, h.c2, h.c3, h.c4, h.c5, h.c6, h.c7, h.k, h.arr.drewN n, Cu.grown_trans h.gr (Cu.grown_drew _ _ n)⟩

set_option maxHeartbeats 2000000 in
theorem word_calls (b : Nat) (xs : List Nat) (t : Nat) (s : St) (kv wv : Nat) (ht : t < 64) (hr : Rnd t xs s) (hs : s.ok) (w : World) (hA : Arr w b xs)
    (hk : w.cell? ⟨1, t % 64, none⟩ = some (.int .u32 (kv : Nat))) :
    Calls Tryd.prog 55 #[.pointer (some ⟨b, 0, none⟩), .int .u64 t, .int .u32 wv] w fun e w' => (∃ v, e = .returned v) ∧
      Arr w' b ((xs.set (pl t 3) (round1 s kv wv).e).set (pl t 7) (round1 s kv wv).a) ∧ w.grownBy w' (some b) := by
  have hl := hr.len
  obtain ⟨o0, o1, o2, o3, o4, o5, o6, o7⟩ := hs
  have hcell : ∀ p x, p < 8 → xs.getD p 0 = x → w.cell? ⟨b, p, none⟩ = some (.int .u32 (x : Nat)) := fun p x hp hx => by rw [← hx]; exact hA.cell p (by omega)
  have c0 := hcell _ _ (pl_lt t 0) hr.a
  have c1 := hcell _ _ (pl_lt t 1) hr.b
  have c2 := hcell _ _ (pl_lt t 2) hr.c
  have c3 := hcell _ _ (pl_lt t 3) hr.d
  have c4 := hcell _ _ (pl_lt t 4) hr.e
  have c5 := hcell _ _ (pl_lt t 5) hr.f
  have c6 := hcell _ _ (pl_lt t 6) hr.g
  have c7 := hcell _ _ (pl_lt t 7) hr.h
  have P0 := hide (fun wx => place_calls t 0 (by omega) (by decide) wx)
  have P1 := hide (fun wx => place_calls t 1 (by omega) (by decide) wx)
  have P2 := hide (fun wx => place_calls t 2 (by omega) (by decide) wx)
  have P3 := hide (fun wx => place_calls t 3 (by omega) (by decide) wx)
  have P4 := hide (fun wx => place_calls t 4 (by omega) (by decide) wx)
  have P5 := hide (fun wx => place_calls t 5 (by omega) (by decide) wx)
  have P6 := hide (fun wx => place_calls t 6 (by omega) (by decide) wx)
  have P7 := hide (fun wx => place_calls t 7 (by omega) (by decide) wx)
  have q0 := pl_lt t 0
  have q1 := pl_lt t 1
  have q2 := pl_lt t 2
  have q3 := pl_lt t 3
  have q4 := pl_lt t 4
  have q5 := pl_lt t 5
  have q6 := pl_lt t 6
  have q7 := pl_lt t 7
  have HM : Hid (T8 w w b t kv xs (pl t 0) (pl t 1) (pl t 2) (pl t 3) (pl t 4) (pl t 5) (pl t 6) (pl t 7) s.a s.b s.c s.d s.e s.f s.g s.h) := ⟨c0, c1, c2, c3, c4, c5, c6, c7, hk, hA, Cu.grown_refl _ _⟩
  have HE := hide (round1_e s kv wv)
  have HB := hide (round1_a s kv wv)
  obtain ⟨re, Ere⟩ : ∃ re, Hid (re = (round1 s kv wv).e) := ⟨_, rfl⟩
  obtain ⟨ra, Era⟩ : ∃ ra, Hid (ra = (round1 s kv wv).a) := ⟨_, rfl⟩
  rw [← Ere.out] at HE ⊢
  rw [← Era.out] at HB ⊢
  obtain ⟨xa, xb, xc, xd, xe, xf, xg, xh⟩ := s
  clear hcell hr hA Ere Era
  dsimp only at *
  generalize pl t 0 = p0 at *
  generalize pl t 1 = p1 at *
  generalize pl t 2 = p2 at *
  generalize pl t 3 = p3 at *
  generalize pl t 4 = p4 at *
  generalize pl t 5 = p5 at *
  generalize pl t 6 = p6 at *
  generalize pl t 7 = p7 at *
  go_enter Tryd.func55, Tryd.ntmps55
  go_wp2_with fail
  refine wp_region_quiet_lit (by kernel_rfl) (by kernel_rfl) ?_
  repeat (go_big_quiet_step (fail))
  go_big_quiet_step (exact Calls.quiet_of_same (P0.out _))
  repeat (go_big_quiet_step (fail))
  go_big_quiet_step (exact Calls.quiet_of_same (P1.out _))
  repeat (go_big_quiet_step (fail))
  go_big_quiet_step (exact Calls.quiet_of_same (P2.out _))
  repeat (go_big_quiet_step (fail))
  refine wpQuiet_nil ?_
  intro _ hw'
  obtain ⟨nq, hw''⟩ := hw'
  subst hw''
  have hm := HM.out.drewN nq
  clear HM c0 c1 c2 c3 c4 c5 c6 c7 hk
  generalize w.drewN nq = w2 at hm ⊢
  have HM := hide hm
  obtain ⟨c0, c1, c2, c3, c4, c5, c6, c7, hk, hA, hg⟩ := hm
  clear hA hg
  go_wp2_with fail
  refine wp_region_quiet_lit (by kernel_rfl) (by kernel_rfl) ?_
  repeat (go_big_quiet_step (fail))
  go_big_quiet_step (exact Calls.quiet_of_same (P4.out _))
  repeat (go_big_quiet_step (fail))
  go_big_quiet_step (exact Calls.quiet_of_same (P5.out _))
  repeat (go_big_quiet_step (fail))
  go_big_quiet_step (exact Calls.quiet_of_same (P6.out _))
  repeat (go_big_quiet_step (fail))
  refine wpQuiet_nil ?_
  intro _ hw'
  obtain ⟨nq, hw''⟩ := hw'
  subst hw''
  have hm := HM.out.drewN nq
  clear HM c0 c1 c2 c3 c4 c5 c6 c7 hk
  generalize w2.drewN nq = w3 at hm ⊢
  have HM := hide hm
  obtain ⟨c0, c1, c2, c3, c4, c5, c6, c7, hk, hA, hg⟩ := hm
  clear hA hg
  go_wp2_with fail
  refine wp_region_quiet_lit (by kernel_rfl) (by kernel_rfl) ?_
  repeat (go_big_quiet_step (fail))
  go_big_quiet_step (exact Calls.quiet_of_same (P7.out _))
  repeat (go_big_quiet_step (fail))
  refine wpQuiet_nil ?_
  intro _ hw'
  obtain ⟨nq, hw''⟩ := hw'
  subst hw''
  have hm := HM.out.drewN nq
  clear HM c0 c1 c2 c3 c4 c5 c6 c7 hk
  generalize w3.drewN nq = w4 at hm ⊢
  have HM := hide hm
  obtain ⟨c0, c1, c2, c3, c4, c5, c6, c7, hk, hA, hg⟩ := hm
  clear hA hg
  go_wp2_with fail
  refine (roll_calls xe o4 6 (by decide) (by decide) _).mono ?_
  rintro e' w5 ⟨rfl, rfl⟩
  go_wp2_with fail
  refine (roll_calls xe o4 11 (by decide) (by decide) _).mono ?_
  rintro e' w5 ⟨rfl, rfl⟩
  go_wp2_with fail
  refine (roll_calls xe o4 25 (by decide) (by decide) _).mono ?_
  rintro e' w5 ⟨rfl, rfl⟩
  obtain ⟨y1, hne⟩ : ∃ z, z = Sig1 xe := ⟨_, rfl⟩
  have hy1 := Sig1_lt xe o4
  have hb1 := Sig1_bits xe o4
  rw [← hne] at hy1 hb1
  have Ey1 := hide hne
  clear hne
  obtain ⟨y2, hne⟩ : ∃ z, z = ch xe xf xg := ⟨_, rfl⟩
  have hy2 := ch_lt xe xf xg o4
  have hb2 := ch_bits' xe xf xg o4 o5 o6
  rw [← hne] at hy2 hb2
  have Ey2 := hide hne
  clear hne
  go_wp2_with fail
  clear hb1 hb2
  obtain ⟨m, hme⟩ : ∃ m, m = add (add (add xh kv) wv) (add y1 y2) := ⟨_, rfl⟩
  have hm0 : m < 4294967296 := by rw [hme]; exact add_lt _ _
  have hvm : (((xh : Int) + (kv : Int) + (wv : Int) + ((y1 : Int) + (y2 : Int))) % 4294967296) = ((m : Nat) : Int) := by rw [hme]; unfold add; omega
  have Em := hide hme
  rw [hvm]
  clear hvm hme
  refine wp_region_tail 10 (fun wd => T8 w wd b t kv xs p0 p1 p2 p3 p4 p5 p6 p7 xa xb xc xd xe xf xg xh) (HM.out.drewN 1) (by kernel_rfl) (by kernel_rfl) ?_
  clear HM c0 c1 c2 c3 c4 c5 c6 c7 hk
  intro wd hm
  have HM := hide hm
  have c3 := hm.c3
  have hf := hm.arr.free
  clear hm
  simp only [List.take_succ_cons, List.take_zero, List.drop_succ_cons, List.drop_zero]
  repeat (go_big_quiet_step (fail))
  go_big_quiet_step (exact P3.out _ _)
  repeat (go_big_quiet_step (fail))
  refine wpQuiet_nil ?_
  go_wp2_with fail
  have hv3 : (((xd : Int) + (m : Int)) % 4294967296) = ((re : Nat) : Int) := by rw [HE.out, ← Ey1.out, ← Ey2.out, ← Em.out]; unfold add; omega
  rw [hv3]
  clear hv3
  have hA6 := HM.out.arr.set (i := p3) re
  have hg6 := Cu.grown_trans HM.out.gr (Cu.grown_set wd b p3 (.int .u32 (re : Nat)))
  generalize wd.setCell ⟨b, p3, none⟩ (.int .u32 (re : Nat)) = w6 at hA6 hg6 ⊢
  have HA6 := hide hA6
  have HG6 := hide hg6
  clear hA6 hg6 HM c3 hf
  have hmj := maj_bits xa xb xc o0 o1 o2
  have hs0 := Sig0_bits xa o0
  have hy4 := Sig0_lt xa o0
  have hy5 := maj_lt xa xb xc o0 o1
  obtain ⟨y4, hne⟩ : ∃ z, z = Sig0 xa := ⟨_, rfl⟩
  rw [← hne] at hs0 hy4
  have Ey4 := hide hne
  clear hne
  obtain ⟨y5, hne⟩ : ∃ z, z = maj xa xb xc := ⟨_, rfl⟩
  rw [← hne] at hmj hy5
  have Ey5 := hide hne
  clear hne
  refine wp_region_tail 27 (fun wd => Arr wd b (xs.set p3 re) ∧ w.grownBy wd (some b)) ⟨HA6.out.drewN 1, Cu.grown_trans HG6.out (Cu.grown_drew _ _ 1)⟩ (by kernel_rfl) (by kernel_rfl) ?_
  clear HA6 HG6
  rintro wd ⟨hA, hg⟩
  have HA := hide hA
  have HG := hide hg
  have c7 := hA.cell p7 (by rw [List.length_set]; omega)
  have hf := hA.free
  clear hA hg
  simp only [List.take_succ_cons, List.take_zero, List.drop_succ_cons, List.drop_zero]
  repeat (go_big_quiet_step (fail))
  go_big_quiet_step (exact P7.out _ _)
  repeat (go_big_quiet_step (fail))
  go_big_quiet_step (exact roll_calls xa o0 2 (by decide) (by decide) _ _)
  repeat (go_big_quiet_step (fail))
  go_big_quiet_step (exact roll_calls xa o0 13 (by decide) (by decide) _ _)
  repeat (go_big_quiet_step (fail))
  go_big_quiet_step (exact roll_calls xa o0 22 (by decide) (by decide) _ _)
  repeat (go_big_quiet_step (fail))
  refine wpQuiet_nil ?_
  go_wp2_with fail
  refine bodyPost_end (results_none rfl _ _ _) rfl ⟨⟨_, rfl⟩, ?_, Cu.grown_trans HG.out (Cu.grown_set _ _ _ _)⟩
  have hv : (((m : Int) + (y4 : Int) + (y5 : Int)) % 4294967296) = ((ra : Nat) : Int) := by
    rw [HB.out, ← Ey1.out, ← Ey2.out, ← Em.out, ← Ey4.out, ← Ey5.out]
    unfold add
    omega
  rw [hv]
  exact HA.out.set _
end Go.Proofs.YtflicklgmhgpiaaDoor.P3
namespace Go.Proofs.YtflicklgmhgpiaaDoor.P3
open Go.RowKit P1

/-- Words as ints. -/
def intsOf (l : List Nat) : List Int := l.map fun (n : Nat) => (n : Int)

theorem intsOf_snoc (l : List Nat) (k : Nat) (hk : k < l.length) : intsOf (l.take k) ++ [((l.getD k 0 : Nat) : Int)] = intsOf (l.take (k + 1)) := by
  unfold intsOf
  rw [List.take_succ_eq_append_getElem hk, List.map_append]
  have hg : l.getD k 0 = l[k] := by simp [List.getD_eq_getElem?_getD, hk]
  rw [hg]
  rfl

theorem intsOf_length (l : List Nat) : (intsOf l).length = l.length := by simp [intsOf]
end Go.Proofs.YtflicklgmhgpiaaDoor.P3
namespace Go.Proofs.YtflicklgmhgpiaaDoor.P3
set_option maxRecDepth 8000
open Go.RowKit P1

def nil16 : List Nat := List.replicate 16 0

theorem zero16 : (Tryd.prog.info? 83).map (fun i => (i.zero, i.size)) = some (some (.agg (wordsV nil16)), 16) := by kernel_rfl
theorem zeroN8 : (Tryd.prog.info? 72).map (fun i => (i.zero, i.size)) = some (some (.agg (wordsV nil8)), 8) := by kernel_rfl
theorem size16 : (Tryd.prog.info? 83).map (·.size) = some 16 := by kernel_rfl
theorem sizeN8 : (Tryd.prog.info? 72).map (·.size) = some 8 := by kernel_rfl
theorem arr16 : Tryd.prog.underlying 83 = some (.array 16 70) := by kernel_rfl
theorem arrN8 : Tryd.prog.underlying 72 = some (.array 8 70) := by kernel_rfl

theorem or_byte (y z : Nat) (hy : y < 16777216) (hz : z < 2 ^ 8) : bits .or .u32 ((y : Int) * 256) (z : Int) = ((y * 256 + z : Nat) : Int) := by
  have h := u32_or_nat (y * 256) z (by omega) (by omega)
  have o := Nat.two_pow_add_eq_or_of_lt (i := 8) (b := z) hz y
  rw [show 2 ^ 8 * y = y * 256 by omega] at o
  rw [o, ← h]
  rfl

/-- A whole array read out of its block. -/
theorem wpList_load_agg {P : Program} {ops : Array Oper} {rest : List Oper} {o : Oper} {a : Act} {w : World} {Q : Exit → Act → World → Prop} (hgd : o.guard = none) (t : TypeId) (x : Operand) (ho : o.op = .load t x)
    (b : Nat) (hx : a.eval x = .pointer (some ⟨b, 0, none⟩)) (n : Nat) (hagg : ∀ w, (isAgg t).run P w = .ok true w) (hsz : ∀ w, (sizeOf t).run P w = .ok n w) (c : Array Value)
    (hl : (loadCellsFrom ⟨b, 0, none⟩ 0 n #[]).run P w = .ok c w)
    (h : wpList P ops Q rest (a.put o.dst (.agg c)) w) : wpList P ops Q (o :: rest) a w :=
  wpList_plain hgd fun _ hK => by
    unfold Oper.wp execOp
    simp only [ho, hx, Instr.loadAt, Instr.sureAddr, loadVar, loadCells, Sem.run_bind, Sem.run_pure, Result.andThen_ok, hagg, hsz, if_true, hl]
    exact hK _ _ h

/-- The end of a call whose one result is an array that lies in a block. -/
theorem ret_arr {P : Program} {fn : Func} {p : Tmp} {t : TypeId} {K : Ending → World → Prop} {a : Act} {w : World} {b : Nat} {xs : List Nat} (hr : fn.results = #[.cell p t]) (hd : a.defers = [])
    (hp : a.tmps.getD p undef = .pointer (some ⟨b, 0, none⟩)) (hagg : ∀ w, (isAgg t).run P w = .ok true w) (hsz : ∀ w, (sizeOf t).run P w = .ok xs.length w) (hA : Arr w b xs)
    (h : K (.returned (.agg (wordsV xs))) w) : bodyPost P fn K .ret a w := by
  refine bodyPost_ret (v := .agg (wordsV xs)) ?_ hd h
  rw [results_cell1 hr, hp]
  have hl := hA.load (P := P) xs.length rfl
  simp only [asAddr, loadVar, loadCells, Sem.run_bind, Sem.run_pure, Result.andThen_ok, hagg, hsz, if_true, hl]

set_option maxHeartbeats 1000000 in
theorem words_calls (q : List UInt8) (hq : q.length = 64) (w : World) :
    Calls Tryd.prog 53 #[.string ⟨q.toArray⟩] w fun e w' => e = .returned (.agg (wordsV (words16 q))) ∧ Below w.heap.size w w' := by
  have hz16 := (zero_of_info zero16).1
  obtain ⟨Z, hZ⟩ : ∃ Z, Z = wordsV nil16 := ⟨_, rfl⟩
  rw [← hZ] at hz16
  have HZ := hide hZ
  have Hz := hide hz16
  clear hZ hz16
  go_enter Tryd.func53, Tryd.ntmps53
  go_wp2_with (refine wpList_alloc_agg rfl 83 rfl Z Hz.out ?_)
  have z1 : (w.alloc (.cells Z 83)).heap.size = w.heap.size + 1 := by simp
  have a0 := Arr.new w 83 nil16 Z HZ.out
  have a1 := Arr.new (w.alloc (.cells Z 83)) 83 nil16 Z HZ.out
  have k1 : Below (w.alloc (.cells Z 83)).heap.size (w.alloc (.cells Z 83)) ((w.alloc (.cells Z 83)).alloc (.cells Z 83)) := (Below.refl _ _).alloc (Nat.le_refl _) _
  have a0' := a0.below k1 (by rw [z1]; omega)
  have hb : Below w.heap.size w ((w.alloc (.cells Z 83)).alloc (.cells Z 83)) := ((Below.refl _ _).alloc (Nat.le_refl _) _).trans (k1.mono (by rw [z1]; omega))
  rw [z1] at a1
  obtain ⟨w1, hw1⟩ : ∃ w1, w1 = (w.alloc (.cells Z 83)).alloc (.cells Z 83) := ⟨_, rfl⟩
  rw [← hw1] at a0' a1 hb ⊢
  obtain ⟨b0, hb0⟩ : ∃ b0, b0 = w.heap.size := ⟨_, rfl⟩
  have ho : w.heap.size ≤ b0 := by omega
  rw [← hb0] at a0' a1 ⊢
  have HA0 := hide a0'
  have HA1 := hide a1
  have HB := hide (show Below w.heap.size w w1 from hb)
  clear a0 a0' a1 k1 hb hw1 z1 Hz HZ hb0
  go_loopw [5] (fun i wr => ∃ k : Nat, ∃ ws : List Nat, k ≤ 64 ∧ i = .int .i64 k ∧ Fill q k ws ∧ Arr wr (b0 + 1) ws ∧ Arr wr b0 nil16 ∧ Below w.heap.size w wr) (fun i _ => 64 - (intOf i).toNat)
  case atStart => exact ⟨0, nil16, by omega, rfl, Fill.first q, HA1.out, HA0.out, HB.out⟩
  case round =>
    clear HA0 HA1 HB
    obtain ⟨k, ws, hk, rfl, hF, hA, hA0, hB⟩ := hrel
    have HF := hide hF
    have HA := hide hA
    have HA0 := hide hA0
    have HB := hide hB
    clear hF hA hA0 hB
    by_cases hlt : k < 64
    · go_wp2_with fail
      refine wp_region_tail 13 (fun wd => Arr wd (b0 + 1) ws ∧ Arr wd b0 nil16 ∧ Below w.heap.size w wd) ⟨HA.out.drew, HA0.out.drew, HB.out.drew⟩ (by kernel_rfl) (by kernel_rfl) ?_
      clear HA HA0 HB
      rintro wd ⟨hA, hA0, hB⟩
      have hc := hA.cell (k / 4) (by rw [HF.out.len]; omega)
      rw [HF.out.cur hlt] at hc
      have hf := hA.free
      have HA := hide hA
      have HA0 := hide hA0
      have HB := hide hB
      have hi := index_byte q (k : Int) k rfl (by omega)
      have HN := hide HF.out.next
      have hz := (q.getD k 0).toNat_lt
      have hy : pw q (k / 4) (k % 4) < 16777216 := Nat.lt_of_lt_of_le (pw_lt q (k / 4) (k % 4)) (Nat.le_trans (Nat.pow_le_pow_right (by decide) (show k % 4 ≤ 3 by omega)) (by decide))
      have hor := or_byte _ _ hy hz
      generalize (q.getD k 0).toNat = z at hi hz HN hor
      generalize pw q (k / 4) (k % 4) = y at hc hy HN hor
      clear hA hA0 hB
      simp only [List.take_succ_cons, List.take_zero, List.drop_succ_cons, List.drop_zero]
      repeat (go_big_quiet_step (fail))
      refine wpQuiet_nil ?_
      go_wp2_with fail
      go_roundw
      case rel =>
        refine ⟨k + 1, _, by omega, by go_num, HN.out, ?_, HA0.out.other (by omega) _, HB.out.setCell (by show w.heap.size ≤ b0 + 1; omega) _⟩
        first | exact HA.out.set _ | (rw [hor]; exact HA.out.set _)
      case measure => simp [intOf]; omega
    · have hk64 : k = 64 := by omega
      rw [hk64] at HF
      have hws := HF.out.last
      rw [hws] at HA
      have hl16 : (words16 q).length = 16 := by rw [← hws]; exact HF.out.len
      have hld := HA.out.load (P := Tryd.prog) 16 hl16
      obtain ⟨V, EV⟩ : ∃ V, Hid (V = wordsV (words16 q)) := ⟨_, rfl⟩
      rw [← EV.out] at hld
      have s16 : V.size = 16 := by rw [EV.out, wordsV_size, hl16]
      have one : V.all (·.oneCell') = true := by rw [EV.out]; exact wordsV_one _
      have hth := HA0.out.there 16 rfl
      go_wp2_with (first | (refine wpList_load_agg rfl 83 (.tmp 3) rfl (b0 + 1) rfl 16 Tryd.isAgg83 Tryd.sizeOf83 V hld ?_) | (refine wpList_store_mid rfl 83 (.tmp 2) (.tmp 22) rfl b0 0 V rfl rfl (by rw [s16]; exact hth) (by rw [s16]; exact size16) one ?_))
      rw [EV.out]
      refine ret_arr (b := b0) (xs := words16 q) rfl rfl rfl Tryd.isAgg83 (by rw [hl16]; exact Tryd.sizeOf83) (HA0.out.setAll _ hl16) ⟨rfl, below_setCells ho _ _ _ HB.out⟩

theorem zeros_cellsI (n : Nat) : (madeCells #[Value.int .i64 0] n).toList = cellsI (List.replicate n 0) := by
  rw [toList_madeCells_one]
  simp [cellsI]
end Go.Proofs.YtflicklgmhgpiaaDoor.P3
namespace Go.Proofs.YtflicklgmhgpiaaDoor.P3
set_option maxRecDepth 8000
open Go.RowKit P1

/-- The turns' numbers, as the program lays them. -/
structure KeyT (w : World) : Prop where
  lt : 1 < w.heap.size
  cell : ∀ r, r < 64 → w.cell? ⟨1, r, none⟩ = some (.int .u32 (keys.getD r 0 : Nat))

theorem KeyT.drew {w : World} (h : KeyT w) : KeyT w.drew := ⟨h.lt, h.cell⟩

theorem KeyT.below {w w' : World} {B : Nat} (h : KeyT w) (hb : Below B w w') (hB : 1 < B) : KeyT w' :=
  ⟨Nat.lt_of_lt_of_le h.lt hb.size, fun r hr => by rw [hb.cell (p := ⟨1, r, none⟩) hB]; exact h.cell r hr⟩

theorem KeyT.grown {w w' : World} {b : Nat} (h : KeyT w) (hg : w.grownBy w' (some b)) (hne : 1 ≠ b) : KeyT w' := by
  have hb : w'.heap[1]? = w.heap[1]? := hg.block _ h.lt (fun e => hne (by cases e; rfl))
  exact ⟨Nat.lt_of_lt_of_le h.lt hg.size, fun r hr => by rw [World.cell?_of_block (w := w) hb]; exact h.cell r hr⟩

theorem Wnd.lt {S : Nat → Nat} {t : Nat} {ws : List Nat} (h : Wnd S t ws) (h16 : 16 ≤ t) (h64 : t ≤ 64) (hS : ∀ j, j < 64 → S j < 4294967296) (r : Nat) (hr : r < 16) : ws.getD r 0 < 4294967296 := by
  have e := h.at_ (t - 1 - (t - 1 - r) % 16) (by omega) (by omega)
  rw [show (t - 1 - (t - 1 - r) % 16) % 16 = r by omega] at e
  rw [e]
  exact hS _ (by omega)

theorem Wnd.new {S : Nat → Nat} {t : Nat} {ws : List Nat} (h : Wnd S t ws) (h16 : 16 ≤ t) (h64 : t < 64)
    (hn : ∀ m, m < 48 → S (m + 16) = add (add (add (S m) (sig0 (S (m + 1)))) (S (m + 9))) (sig1 (S (m + 14)))) :
    add (add (add (ws.getD (t % 16) 0) (sig0 (ws.getD ((t + 1) % 16) 0))) (ws.getD ((t + 9) % 16) 0)) (sig1 (ws.getD ((t + 14) % 16) 0)) = S t := by
  have e0 := h.at_ (t - 16) (by omega) (by omega)
  have e1 := h.at_ (t - 16 + 1) (by omega) (by omega)
  have e9 := h.at_ (t - 16 + 9) (by omega) (by omega)
  have e14 := h.at_ (t - 16 + 14) (by omega) (by omega)
  rw [show (t - 16) % 16 = t % 16 by omega] at e0
  rw [show (t - 16 + 1) % 16 = (t + 1) % 16 by omega] at e1
  rw [show (t - 16 + 9) % 16 = (t + 9) % 16 by omega] at e9
  rw [show (t - 16 + 14) % 16 = (t + 14) % 16 by omega] at e14
  have := hn (t - 16) (by omega)
  rw [show t - 16 + 16 = t by omega] at this
  rw [e0, e1, e9, e14, this]

theorem grown_of_below {w w' : World} (h : Below w.heap.size w w') (r : Option Nat) : w.grownBy w' r := ⟨h.os, h.tape, h.output, h.size, fun k hk _ => h.block k hk⟩

theorem enterW (args : Array Value) (w : World) : (callFunc 53 args).run Tryd.prog w = .ok (.enter 53 args) w :=
  run_enter Tryd.func53 (by kernel_rfl) (by kernel_rfl) args w

theorem wp_load_agg {P : Program} {o : Oper} {a : Act} {w : World} {K : Act → World → Prop} {Q : Exit → Act → World → Prop} (t : TypeId) (x : Operand) (ho : o.op = .load t x)
    (b : Nat) (hx : a.eval x = .pointer (some ⟨b, 0, none⟩)) (n : Nat) (hagg : ∀ w, (isAgg t).run P w = .ok true w) (hsz : ∀ w, (sizeOf t).run P w = .ok n w) (c : Array Value)
    (hl : (loadCellsFrom ⟨b, 0, none⟩ 0 n #[]).run P w = .ok c w) (h : K (a.put o.dst (.agg c)) w) : o.wp P a w K Q := by
  unfold Oper.wp execOp
  simp only [ho, hx, Instr.loadAt, Instr.sureAddr, loadVar, loadCells, Sem.run_bind, Sem.run_pure, Result.andThen_ok, hagg, hsz, if_true, hl]
  exact h

theorem wp_nilCheck {P : Program} {o : Oper} {a : Act} {w : World} {K : Act → World → Prop} {Q : Exit → Act → World → Prop} (x : Operand) (ho : o.op = .nilCheck x)
    (b : Addr) (hx : a.eval x = .pointer (some b)) (h : K (a.put o.dst (.pointer (some b))) w) : o.wp P a w K Q := by
  unfold Oper.wp execOp
  simp only [ho, hx]
  exact h

theorem wp_call1 {P : Program} {o : Oper} {a : Act} {w : World} {K : Act → World → Prop} {Q : Exit → Act → World → Prop} (f : FuncId) (x : Operand) (t : TypeId) (hop : o.op = .call { callee := .value (.func f), args := #[x], argTypes := #[t] })
    (hrun : ∀ args w, (callFunc f args).run P w = .ok (.enter f args) w) (v : Value) (hv : a.eval x = v) (R : Value → World → Prop)
    (hc : Calls P f #[v] w fun e w' => ∃ u, e = .returned u ∧ R u w') (hK : ∀ u w', R u w' → K (a.put o.dst u) w') : o.wp P a w K Q := by
  have hr : (execOp a.eval o).run P w = .ok (.enter f #[v]) w := by
    obtain ⟨dst, op, ty, pos, after, guard⟩ := o
    simp only at hop
    subst hop
    show (callFunc f (#[] ++ #[x].map a.eval ++ #[])).run P w = _
    rw [hrun]
    simp [← hv]
  exact wp_enter R hr hc hK

/-- What has been done of the first statement, whatever the order. -/
structure RS (w w' : World) (Y0 : List Nat) (q : List UInt8) (W0 : List Nat) (b : Nat) (b0 b1 b2 b3 b4 b5 b6 b7 b8 : Bool) (v4 v5 v8 v9 v10 v11 v12 : Value) (g4 g5 : Nat) : Prop where
  e0 : b0 = true → v8 = .string ⟨q.toArray⟩
  e1 : b1 = true → v9 = .agg (wordsV W0)
  e2 : b2 = true → v10 = .pointer (some ⟨b, 0, none⟩)
  e3 : b3 = true → v11 = .pointer (some ⟨b, 0, none⟩)
  e4 : b4 = true → v12 = .agg (wordsV Y0)
  bel : Below w.heap.size w w'
  e5 : b5 = true → v4 = .pointer (some ⟨g4, 0, none⟩) ∧ w.heap.size ≤ g4 ∧ Arr w' g4 (if b7 = true then W0 else nil16)
  e6 : b6 = true → v5 = .pointer (some ⟨g5, 0, none⟩) ∧ w.heap.size ≤ g5 ∧ Arr w' g5 (if b8 = true then Y0 else nil8)
  ne : b5 = true → b6 = true → g4 ≠ g5
  d7 : b7 = true → b5 = true
  d8 : b8 = true → b6 = true

theorem RS.on {w w' w'' : World} {Y0 : List Nat} {q : List UInt8} {W0 : List Nat} {b : Nat} {b0 b1 b2 b3 b4 b5 b6 b7 b8 : Bool} {v4 v5 v8 v9 v10 v11 v12 : Value} {g4 g5 : Nat} (r : RS w w' Y0 q W0 b b0 b1 b2 b3 b4 b5 b6 b7 b8 v4 v5 v8 v9 v10 v11 v12 g4 g5)
    (h : Below w'.heap.size w' w'') : RS w w'' Y0 q W0 b b0 b1 b2 b3 b4 b5 b6 b7 b8 v4 v5 v8 v9 v10 v11 v12 g4 g5 :=
  { r with
    bel := r.bel.trans (h.mono r.bel.size)
    e5 := fun e => ⟨(r.e5 e).1, (r.e5 e).2.1, (r.e5 e).2.2.below h (r.e5 e).2.2.lt⟩
    e6 := fun e => ⟨(r.e6 e).1, (r.e6 e).2.1, (r.e6 e).2.2.below h (r.e6 e).2.2.lt⟩ }

/-- The memory of a block's turns: the numbers, the words, what they began with. -/
structure BM (w wr : World) (b g4 g5 : Nat) (xs ws ys : List Nat) : Prop where
  n : Arr wr b xs
  x : Arr wr g4 ws
  y : Arr wr g5 ys
  k : KeyT wr
  gr : w.grownBy wr (some b)

theorem BM.drew {w wr : World} {b g4 g5 : Nat} {xs ws ys : List Nat} (m : BM w wr b g4 g5 xs ws ys) : BM w wr.drew b g4 g5 xs ws ys :=
  ⟨m.n.drew, m.x.drew, m.y.drew, m.k.drew, Cu.grown_trans m.gr (Cu.grown_drew _ _ 1)⟩

theorem grown_fresh {w wr w2 : World} {r : Option Nat} {g : Nat} (h : w.grownBy wr r) (k : wr.grownBy w2 (some g)) (hg : w.heap.size ≤ g) : w.grownBy w2 r :=
  ⟨k.os.trans h.os, k.tape.trans h.tape, k.output.trans h.output, Nat.le_trans h.size k.size, fun i hi hne => (k.block i (Nat.lt_of_lt_of_le hi h.size) (fun e => by cases e; omega)).trans (h.block i hi hne)⟩

/-- The numbers were written. -/
theorem BM.num {w wr w2 : World} {b g4 g5 : Nat} {xs ws ys xs' : List Nat} (m : BM w wr b g4 g5 xs ws ys) (hA : Arr w2 b xs') (hg : wr.grownBy w2 (some b)) (h4 : b ≠ g4) (h5 : b ≠ g5) (hk : 1 ≠ b) : BM w w2 b g4 g5 xs' ws ys :=
  ⟨hA, Arr.grown m.x hg h4, Arr.grown m.y hg h5, m.k.grown hg hk, Cu.grown_trans m.gr hg⟩

/-- The words were written. -/
theorem BM.wrd {w wr w2 : World} {b g4 g5 : Nat} {xs ws ys ws' : List Nat} (m : BM w wr b g4 g5 xs ws ys) (hA : Arr w2 g4 ws') (hg : wr.grownBy w2 (some g4)) (h4 : b ≠ g4) (h5 : g4 ≠ g5) (hk : 1 ≠ g4) (hw : w.heap.size ≤ g4) : BM w w2 b g4 g5 xs ws' ys :=
  ⟨Arr.grown m.n hg (Ne.symm h4), hA, Arr.grown m.y hg h5, m.k.grown hg hk, grown_fresh m.gr hg hw⟩

set_option maxHeartbeats 2000000 in
theorem takeBlock_calls (b : Nat) (s : St) (hs : s.ok) (q : List UInt8) (hq : q.length = 64) (w : World) (hA : Arr w b s.list) (hK : KeyT w) (hne : 1 < b) :
    Calls Tryd.prog 47 #[.pointer (some ⟨b, 0, none⟩), .string ⟨q.toArray⟩] w fun e w' => (∃ v, e = .returned v) ∧ Arr w' b (block s q).list ∧ w.grownBy w' (some b) := by
  obtain ⟨S, RN, H1, H2, H3, R0, R1, R2, R3⟩ : ∃ (S : Nat → Nat) (RN : Nat → St), Hid (∀ j, j < 16 → S j = word q j) ∧ Hid (∀ m, m < 48 → S (m + 16) = add (add (add (S m) (sig0 (S (m + 1)))) (S (m + 9))) (sig1 (S (m + 14)))) ∧ Hid (∀ j, j < 64 → S j < 4294967296) ∧
      Hid (RN 0 = s) ∧ Hid (∀ t, RN (t + 1) = round1 (RN t) (keys.getD t 0) (S t)) ∧ Hid (∀ t, (RN t).ok) ∧ Hid (block s q = s.plus (RN 64)) :=
    ⟨fun j => (sched q).getD j 0, fun t => roundsN keys (sched q) t s, sched_first q, sched_next q, sched_lt q, rfl, fun _ => rfl, fun t => roundsN_ok keys (sched q) t s hs, rfl⟩
  obtain ⟨KF, HKF⟩ : ∃ KF : Nat → Nat, Hid (∀ t, keys.getD t 0 = KF t) := ⟨fun t => keys.getD t 0, fun _ => rfl⟩
  have R1' := hide (fun t => (R1.out t).trans (by rw [HKF.out t] : round1 (RN t) (keys.getD t 0) (S t) = round1 (RN t) (KF t) (S t)))
  obtain ⟨R, HR⟩ : ∃ R, Hid (R = block s q) := ⟨_, rfl⟩
  rw [← HR.out] at R3 ⊢
  have HPL := hide (fun j (hj : j < 8) => (show R.list.getD j 0 = add (s.list.getD j 0) ((RN 64).list.getD j 0) by rw [R3.out]; exact plus_getD s (RN 64) j hj))
  have HRL : Hid (R.list.length = 8) := rfl
  obtain ⟨RL, ERL⟩ : ∃ RL, Hid (RL = R.list) := ⟨_, rfl⟩
  rw [← ERL.out] at HRL ⊢
  simp only [← ERL.out] at HPL
  have hz16 := (zero_of_info zero16).1
  have hz8 := (zero_of_info zeroN8).1
  have HWD := hide (fun wx => words_calls q hq wx)
  have hw16 := hide (wnd_first q S H1.out)
  obtain ⟨W0, EW0⟩ : ∃ W0, Hid (W0 = words16 q) := ⟨_, rfl⟩
  rw [← EW0.out] at hw16
  simp only [← EW0.out] at HWD
  have hl16 : W0.length = 16 := hw16.out.len
  obtain ⟨Z16, hZ16⟩ : ∃ Z, Z = wordsV nil16 := ⟨_, rfl⟩
  obtain ⟨Z8, hZ8⟩ : ∃ Z, Z = wordsV nil8 := ⟨_, rfl⟩
  rw [← hZ16] at hz16
  rw [← hZ8] at hz8
  have HZ16 := hide hZ16
  have HZ8 := hide hZ8
  have Hz16 := hide hz16
  have Hz8 := hide hz8
  have HA := hide hA
  have HK := hide hK
  have hlb := hA.lt
  obtain ⟨Y0, EY⟩ : ∃ Y0, Hid (Y0 = s.list) := ⟨_, rfl⟩
  rw [← EY.out] at HA
  have hl8 : Y0.length = 8 := by rw [EY.out]; rfl
  have hlk := hK.lt
  clear hA hK hZ16 hZ8 hz16 hz8 R1 H1 EW0 R3 HR
  go_enter Tryd.func47, Tryd.ntmps47
  go_wp2_with fail
  refine wp_region_inv (fun l a w' => ∃ b0 b1 b2 b3 b4 b5 b6 b7 b8 : Bool, ∃ v4 v5 v8 v9 v10 v11 v12 : Value, ∃ g4 g5 : Nat, l = #[b0, b1, b2, b3, b4, b5, b6, b7, b8] ∧ a = { tmps := #[.pointer (some ⟨b, 0, none⟩), .string ⟨q.toArray⟩, undef, undef, v4, v5, undef, undef, v8, v9, v10, v11, v12, undef, undef, undef, undef, undef, undef, undef, undef, undef, undef, undef, undef, undef, undef, undef, undef, undef, undef, undef, undef, undef, undef, undef, undef, undef, undef, undef, undef, undef, undef], defers := [] } ∧ RS w w' Y0 q W0 b b0 b1 b2 b3 b4 b5 b6 b7 b8 v4 v5 v8 v9 v10 v11 v12 g4 g5) (by kernel_rfl) (by kernel_rfl) ?_ ?_ ?_
  · exact ⟨false, false, false, false, false, false, false, false, false, undef, undef, undef, undef, undef, undef, undef, 0, 0, rfl, rfl, ⟨by simp, by simp, by simp, by simp, by simp, (Below.refl _ _).drew, by simp, by simp, by simp, by simp, by simp⟩⟩
  · rintro l a w' ⟨b0, b1, b2, b3, b4, b5, b6, b7, b8, v4, v5, v8, v9, v10, v11, v12, g4, g5, rfl, rfl, r⟩ i o ho hl hd
    have hi : i < 9 := by simpa using (Array.getElem?_eq_some_iff.1 ho).1
    have hcase : i = 0 ∨ i = 1 ∨ i = 2 ∨ i = 3 ∨ i = 4 ∨ i = 5 ∨ i = 6 ∨ i = 7 ∨ i = 8 := by omega
    rcases hcase with rfl | rfl | rfl | rfl | rfl | rfl | rfl | rfl | rfl
    · obtain rfl := Option.some.inj ho
      refine ⟨rfl, wp_value rfl ⟨true, b1, b2, b3, b4, b5, b6, b7, b8, v4, v5, .string ⟨q.toArray⟩, v9, v10, v11, v12, g4, g5, rfl, rfl, { r with e0 := fun _ => rfl }⟩⟩
    · obtain rfl := Option.some.inj ho
      have hb0 : b0 = true := hd 0 (by decide +kernel)
      have e := r.e0 hb0
      refine ⟨rfl, wp_call1 53 (.tmp 8) 9 rfl enterW (.string ⟨q.toArray⟩) e (fun v w'' => v = .agg (wordsV W0) ∧ Below w'.heap.size w' w'') ((HWD.out _).mono fun e w'' h => ⟨_, h.1, rfl, h.2⟩) ?_⟩
      rintro v w'' ⟨rfl, hb⟩
      exact ⟨b0, true, b2, b3, b4, b5, b6, b7, b8, v4, v5, v8, .agg (wordsV W0), v10, v11, v12, g4, g5, rfl, rfl, { r.on hb with e1 := fun _ => rfl }⟩
    · obtain rfl := Option.some.inj ho
      refine ⟨rfl, wp_value rfl ⟨b0, b1, true, b3, b4, b5, b6, b7, b8, v4, v5, v8, v9, .pointer (some ⟨b, 0, none⟩), v11, v12, g4, g5, rfl, rfl, { r with e2 := fun _ => rfl }⟩⟩
    · obtain rfl := Option.some.inj ho
      have e := r.e2 (hd 2 (by decide +kernel))
      refine ⟨rfl, wp_nilCheck (.tmp 10) rfl ⟨b, 0, none⟩ e ⟨b0, b1, b2, true, b4, b5, b6, b7, b8, v4, v5, v8, v9, v10, .pointer (some ⟨b, 0, none⟩), v12, g4, g5, rfl, rfl, { r with e3 := fun _ => rfl }⟩⟩
    · obtain rfl := Option.some.inj ho
      have e := r.e3 (hd 3 (by decide +kernel))
      have hl := (HA.out.below r.bel hlb).load (P := Tryd.prog) 8 hl8
      refine ⟨rfl, wp_load_agg 72 (.tmp 11) rfl b e 8 Tryd.isAgg72 Tryd.sizeOf72 (wordsV Y0) hl ⟨b0, b1, b2, b3, true, b5, b6, b7, b8, v4, v5, v8, v9, v10, v11, .agg (wordsV Y0), g4, g5, rfl, rfl, { r with e4 := fun _ => rfl }⟩⟩
    · obtain rfl := Option.some.inj ho
      have h7 : b7 = false := by cases b7 with | false => rfl | true => exact absurd (r.d7 rfl) (by simpa using hl)
      have r2 := r.on ((Below.refl w'.heap.size w').alloc (Nat.le_refl _) (.cells Z16 83))
      refine ⟨rfl, wp_alloc_agg 83 rfl Z16 Hz16.out ⟨b0, b1, b2, b3, b4, true, b6, b7, b8, .pointer (some ⟨w'.heap.size, 0, none⟩), v5, v8, v9, v10, v11, v12, w'.heap.size, g5, rfl, rfl, { r2 with e5 := fun _ => ⟨rfl, r.bel.size, ?_⟩, ne := fun _ h6 => ?_, d7 := fun _ => rfl }⟩⟩
      · rw [h7]; exact Arr.new _ _ _ _ HZ16.out
      · have := (r.e6 h6).2.2.lt
        omega
    · obtain rfl := Option.some.inj ho
      have h8 : b8 = false := by cases b8 with | false => rfl | true => exact absurd (r.d8 rfl) (by simpa using hl)
      have r2 := r.on ((Below.refl w'.heap.size w').alloc (Nat.le_refl _) (.cells Z8 72))
      refine ⟨rfl, wp_alloc_agg 72 rfl Z8 Hz8.out ⟨b0, b1, b2, b3, b4, b5, true, b7, b8, v4, .pointer (some ⟨w'.heap.size, 0, none⟩), v8, v9, v10, v11, v12, g4, w'.heap.size, rfl, rfl, { r2 with e6 := fun _ => ⟨rfl, r.bel.size, ?_⟩, ne := fun h5 _ => ?_, d8 := fun _ => rfl }⟩⟩
      · rw [h8]; exact Arr.new _ _ _ _ HZ8.out
      · have := (r.e5 h5).2.2.lt
        omega
    · obtain rfl := Option.some.inj ho
      have h5 : b5 = true := hd 5 (by decide +kernel)
      have h1 : b1 = true := hd 1 (by decide +kernel)
      have h7 : b7 = false := hl
      obtain ⟨e5, hg, hA5⟩ := r.e5 h5
      rw [h7] at hA5
      have hA5' : Arr w' g4 nil16 := hA5
      refine ⟨rfl, wp_store_mid 83 (.tmp 4) (.tmp 9) rfl g4 0 (wordsV W0) e5 (r.e1 h1) (by rw [wordsV_size, hl16]; exact hA5'.there 16 rfl) (by rw [wordsV_size, hl16]; exact size16) (wordsV_one _) ⟨b0, b1, b2, b3, b4, b5, b6, true, b8, v4, v5, v8, v9, v10, v11, v12, g4, g5, rfl, rfl, { r with bel := below_setCells hg _ _ _ r.bel, e5 := fun _ => ⟨e5, hg, hA5'.setAll W0 hl16⟩, e6 := fun h6 => ⟨(r.e6 h6).1, (r.e6 h6).2.1, (r.e6 h6).2.2.otherAll (r.ne h5 h6) _ _⟩, d7 := fun _ => h5 }⟩⟩
    · obtain rfl := Option.some.inj ho
      have h6 : b6 = true := hd 6 (by decide +kernel)
      have h4 : b4 = true := hd 4 (by decide +kernel)
      have h8 : b8 = false := hl
      obtain ⟨e6, hg, hA6⟩ := r.e6 h6
      rw [h8] at hA6
      have hA6' : Arr w' g5 nil8 := hA6
      refine ⟨rfl, wp_store_mid 72 (.tmp 5) (.tmp 12) rfl g5 0 (wordsV Y0) e6 (r.e4 h4) (by rw [wordsV_size, hl8]; exact hA6'.there 8 rfl) (by rw [wordsV_size, hl8]; exact sizeN8) (wordsV_one _) ⟨b0, b1, b2, b3, b4, b5, b6, b7, true, v4, v5, v8, v9, v10, v11, v12, g4, g5, rfl, rfl, { r with bel := below_setCells hg _ _ _ r.bel, e6 := fun _ => ⟨e6, hg, hA6'.setAll Y0 hl8⟩, e5 := fun h5 => ⟨(r.e5 h5).1, (r.e5 h5).2.1, (r.e5 h5).2.2.otherAll (fun h => r.ne h5 h6 h.symm) _ _⟩, d8 := fun _ => h6 }⟩⟩
  · rintro l a w' ⟨b0, b1, b2, b3, b4, b5, b6, b7, b8, v4, v5, v8, v9, v10, v11, v12, g4, g5, rfl, rfl, r⟩ hall
    have h5 : b5 = true := hall 5 (by decide)
    have h6 : b6 = true := hall 6 (by decide)
    have h7 : b7 = true := hall 7 (by decide)
    have h8 : b8 = true := hall 8 (by decide)
    obtain ⟨e4, hg4, hA4⟩ := r.e5 h5
    obtain ⟨e5, hg5, hA5⟩ := r.e6 h6
    have hne45 := r.ne h5 h6
    rw [if_pos h7] at hA4
    rw [if_pos h8] at hA5
    have hA0 := HA.out.below r.bel hlb
    have hK0 := HK.out.below r.bel hlk
    have hgr := grown_of_below r.bel (some b)
    subst e4 e5
    have hm0 : BM w w' b g4 g5 Y0 W0 Y0 := ⟨hA0, hA4, hA5, hK0, hgr⟩
    have HM := hide hm0
    have hb4 : b ≠ g4 := by omega
    have hb5 : b ≠ g5 := by omega
    have hk4 : 1 ≠ g4 := by omega
    have hkb : 1 ≠ b := by omega
    clear hall r h5 h6 h7 h8 hA4 hA5 hA0 hK0 hgr hm0 HA HK HZ16 HZ8 Hz16 Hz8 HWD
    dsimp only
    go_wp2_with fail
    go_loopw [13] (fun i wr => ∃ t : Nat, ∃ xs ws : List Nat, t ≤ 64 ∧ i = .int .u64 t ∧ Rnd t xs (RN t) ∧ Wnd S (max 16 t) ws ∧ BM w wr b g4 g5 xs ws Y0) (fun i _ => 64 - (intOf i).toNat)
    case atStart => exact ⟨0, Y0, W0, by omega, rfl, by rw [EY.out, R0.out]; exact Rnd.first s, hw16.out, HM.out⟩
    case round =>
      clear HM hw16
      obtain ⟨t, xs, ws, ht, rfl, hR, hW, hm⟩ := hrel
      have HM := hide hm
      have HR := hide hR
      have HW := hide hW
      clear hm hR hW
      by_cases hlt : t < 64
      · have HR1 := hide (R1'.out t)
        have HOK := hide (R2.out t)
        have hmod : t % 64 = t := by omega
        by_cases h16 : t < 16
        · have hmx : max 16 t = 16 := by omega
          rw [hmx] at HW
          have cw := HM.out.x.cell (t % 16) (by rw [HW.out.len]; omega)
          rw [HW.out.at_ t h16 (by omega)] at cw
          have ck := HM.out.k.cell (t % 64) (by omega)
          rw [hmod, HKF.out t] at ck
          have HC := hide (fun (wx : World) (h1 : Arr wx b xs) (h2 : wx.cell? ⟨1, t % 64, none⟩ = some (.int .u32 (KF t : Nat))) => word_calls b xs t (RN t) (KF t) (S t) hlt HR.out HOK.out wx h1 h2)
          have HN := hide (HR.out.next hlt (KF t) (S t))
          have HCK := hide (show wr.cell? ⟨1, t % 64, none⟩ = some (.int .u32 (KF t : Nat)) by rw [hmod]; exact ck)
          have hge : decide (16 ≤ (t : Int)) = false := by simp; omega
          clear ck hmx
          generalize RN t = st at *
          go_wp2_with fail
          refine (HC.out _ HM.out.n HCK.out).mono ?_
          rintro e w2 ⟨⟨v, rfl⟩, hA2, hg2⟩
          have HM2 := hide (HM.out.num hA2 hg2 hb4 hb5 hkb)
          clear hA2 hg2 HM HC HCK cw
          go_wp2_with fail
          go_roundw
          case rel => exact ⟨t + 1, _, ws, by omega, by go_num, by rw [HR1.out]; exact HN.out, by rw [show max 16 (t + 1) = 16 by omega]; exact HW.out, HM2.out⟩
          case measure => simp [intOf]; omega
        · have hmx : max 16 t = t := by omega
          rw [hmx] at HW
          have hge : decide (16 ≤ (t : Int)) = true := by simp; omega
          have HNX := hide (fun (wx : World) (h1 : Arr wx g4 ws) => next_calls g4 ws t hlt HW.out.len (HW.out.lt (by omega) ht H3.out) wx h1)
          rw [HW.out.new (by omega) hlt H2.out] at HNX
          have HWN := hide HW.out.next
          have HC := hide (fun (wx : World) (h1 : Arr wx b xs) (h2 : wx.cell? ⟨1, t % 64, none⟩ = some (.int .u32 (KF t : Nat))) => word_calls b xs t (RN t) (KF t) (S t) hlt HR.out HOK.out wx h1 h2)
          have HN := hide (HR.out.next hlt (KF t) (S t))
          clear hmx
          generalize RN t = st at *
          go_wp2_with fail
          refine (HNX.out _ HM.out.x).mono ?_
          rintro e w1 ⟨⟨v, rfl⟩, hA1, hg1⟩
          have HM1 := hide (HM.out.wrd hA1 hg1 hb4 hne45 hk4 hg4)
          have cw := hA1.cell (t % 16) (by rw [HWN.out.len]; omega)
          rw [HWN.out.at_ t (by omega) (by omega)] at cw
          have ck := HM1.out.k.cell (t % 64) (by omega)
          rw [hmod, HKF.out t] at ck
          have HCK := hide (show w1.cell? ⟨1, t % 64, none⟩ = some (.int .u32 (KF t : Nat)) by rw [hmod]; exact ck)
          clear hA1 hg1 HM HNX ck
          go_wp2_with fail
          refine (HC.out _ HM1.out.n HCK.out).mono ?_
          rintro e w2 ⟨⟨v, rfl⟩, hA2, hg2⟩
          have HM2 := hide (HM1.out.num hA2 hg2 hb4 hb5 hkb)
          clear hA2 hg2 HM1 HC HCK cw
          go_wp2_with fail
          go_roundw
          case rel => exact ⟨t + 1, _, _, by omega, by go_num, by rw [HR1.out]; exact HN.out, by rw [show max 16 (t + 1) = t + 1 by omega]; exact HWN.out, HM2.out⟩
          case measure => simp [intOf]; omega
      · have h64 : t = 64 := by omega
        rw [h64] at HR
        have hxs := HR.out.last
        obtain ⟨X, EX⟩ : ∃ X, Hid (X = RN 64) := ⟨_, rfl⟩
        rw [← EX.out] at hxs HPL
        rw [hxs] at HM
        have HX8 : Hid (X.list.length = 8) := rfl
        obtain ⟨XL, EXL⟩ : ∃ XL, Hid (XL = X.list) := ⟨_, rfl⟩
        rw [← EXL.out] at HM HX8
        simp only [← EXL.out, ← EY.out] at HPL
        clear HR HW hxs h64
        go_wp2_with fail
        clear hlt ht
        have hxlt : ∀ j, j < 8 → XL.getD j 0 < 4294967296 := fun j hj => by rw [EXL.out]; exact list_lt X (by rw [EX.out]; exact R2.out 64) j hj
        have HXL := hide hxlt
        have hylt : ∀ j, j < 8 → Y0.getD j 0 < 4294967296 := fun j hj => by rw [EY.out]; exact list_lt s hs j hj
        have HYL := hide hylt
        clear hxlt hylt EX EXL EY
        go_loopw [28] (fun i wr => ∃ n : Nat, ∃ hl : List Nat, n ≤ 8 ∧ i = .int .i64 n ∧ hl.length = 8 ∧ (∀ j, j < n → hl.getD j 0 = RL.getD j 0) ∧ (∀ j, n ≤ j → hl.getD j 0 = XL.getD j 0) ∧ BM w wr b g4 g5 hl ws Y0) (fun i _ => 8 - (intOf i).toNat)
        case atStart => exact ⟨0, XL, by omega, rfl, HX8.out, by simp, fun j _ => rfl, HM.out⟩
        case round =>
          clear HM
          obtain ⟨n, hl, hn, rfl, hll, hdone, hleft, hm⟩ := hrel
          have HM := hide hm
          have HD := hide hdone
          have HL := hide hleft
          clear hm hdone hleft
          by_cases hlt : n < 8
          · go_wp2_with fail
            refine wp_region_tail 11 (fun wd => BM w wd b g4 g5 hl ws Y0) HM.out.drew (by kernel_rfl) (by kernel_rfl) ?_
            clear HM
            intro wd hm
            have HM := hide hm
            clear hm
            have c0 := HM.out.n.cell n (by omega)
            have c1 := HM.out.y.cell n (by omega)
            rw [HL.out n (Nat.le_refl _)] at c0
            have hp := HPL.out n hlt
            have x0lt := HXL.out n hlt
            have x1lt := HYL.out n hlt
            obtain ⟨x0, e0⟩ : ∃ x0, x0 = XL.getD n 0 := ⟨_, rfl⟩
            obtain ⟨x1, e1⟩ : ∃ x1, x1 = Y0.getD n 0 := ⟨_, rfl⟩
            obtain ⟨x2, e2⟩ : ∃ x2, x2 = RL.getD n 0 := ⟨_, rfl⟩
            rw [← e0] at c0 hp x0lt
            rw [← e1] at c1 hp x1lt
            rw [← e2] at hp
            have HP := hide hp
            have E2 := hide e2
            clear hp e0 e1 e2
            simp only [List.take_succ_cons, List.take_zero, List.drop_succ_cons, List.drop_zero]
            repeat (go_big_quiet_step (fail))
            refine wpQuiet_nil ?_
            have hf := HM.out.n.free n
            go_wp2_with fail
            go_roundw
            case rel =>
              have ev : (((x0 : Int) + (x1 : Int)) % 4294967296) = ((x2 : Nat) : Int) := by rw [HP.out]; unfold add; omega
              rw [ev]
              refine ⟨n + 1, hl.set n x2, by omega, by go_num, by simpa using hll, ?_, ?_, HM.out.num (HM.out.n.set x2) (Cu.grown_set _ _ _ _) hb4 hb5 hkb⟩
              · intro j hj
                by_cases e : n = j
                · subst e; rw [P1.getD_set_eq _ _ _ (by omega)]; exact E2.out
                · rw [P1.getD_set_ne _ _ _ _ e]; exact HD.out j (by omega)
              · intro j hj
                rw [P1.getD_set_ne _ _ _ _ (by omega)]; exact HL.out j (by omega)
            case measure => simp [intOf]; omega
          · have hRL : hl = RL := by
              have hr8 := HRL.out
              apply List.ext_getElem
              · omega
              · intro j h1 h2
                have := HD.out j (by omega)
                simpa [List.getD_eq_getElem?_getD, List.getElem?_eq_getElem h1, List.getElem?_eq_getElem h2] using this
            rw [hRL] at HM
            clear hRL HD HL
            go_wp2_with fail
            exact bodyPost_end (results_none rfl _ _ _) rfl ⟨⟨_, rfl⟩, HM.out.n, HM.out.gr⟩
end Go.Proofs.YtflicklgmhgpiaaDoor.P3
namespace Go.Proofs.YtflicklgmhgpiaaDoor.P3
open Go.RowKit P1

/-- The numbers to begin with, as the program lays them. -/
structure StT (w : World) : Prop where
  lt : 0 < w.heap.size
  cell : ∀ r, r < 8 → w.cell? ⟨0, r, none⟩ = some (.int .u32 (start.list.getD r 0 : Nat))

theorem StT.below {w w' : World} {B : Nat} (h : StT w) (hb : Below B w w') (hB : 0 < B) : StT w' :=
  ⟨Nat.lt_of_lt_of_le h.lt hb.size, fun r hr => by rw [hb.cell (p := ⟨0, r, none⟩) hB]; exact h.cell r hr⟩

theorem StT.drew {w : World} (h : StT w) : StT w.drew := ⟨h.lt, h.cell⟩

/-- The whole table read. -/
theorem StT.load {w : World} (h : StT w) : (loadCellsFrom ⟨0, 0, none⟩ 0 8 #[]).run Tryd.prog w = .ok (wordsV start.list) w := by
  have := run_loadCells_list (P := Tryd.prog) w ⟨0, 0, none⟩ (wordsV start.list).toList (fun j v hj => by
    have hj' : j < 8 := by have := (List.getElem?_eq_some_iff.1 hj).1; simpa [wordsV, St.list] using this
    rw [Go.WideShapes.add_plain, Nat.zero_add, h.cell j hj']
    have h8 : j < start.list.length := hj'
    simp [wordsV, h8] at hj
    simp [List.getD_eq_getElem?_getD, h8, hj])
  simpa [loadCells, wordsV, St.list] using this
end Go.Proofs.YtflicklgmhgpiaaDoor.P3
namespace Go.Proofs.YtflicklgmhgpiaaDoor.P3
set_option maxRecDepth 8000
open Go.RowKit P1

/-- The last eight bytes, i of them written from behind. -/
def tailB (n i : Nat) : List UInt8 := List.replicate (8 - i) 0 ++ (lenB n).drop (8 - i)

theorem tailB_length (n i : Nat) (hi : i ≤ 8) : (tailB n i).length = 8 := by
  have h8 : (lenB n).length = 8 := rfl
  unfold tailB
  rw [List.length_append, List.length_replicate, List.length_drop, h8]
  omega

theorem tailB_next (n i : Nat) (hi : i < 8) : (tailB n i).set (7 - i) ((lenB n).getD (7 - i) 0) = tailB n (i + 1) := by
  match i, hi with
  | 0, _ => rfl
  | 1, _ => rfl
  | 2, _ => rfl
  | 3, _ => rfl
  | 4, _ => rfl
  | 5, _ => rfl
  | 6, _ => rfl
  | 7, _ => rfl

theorem zeros_first (t : List UInt8) : (t ++ (List.replicate (t.length + 9 + zeros t.length) 0).drop t.length).set t.length 128 = padK t (zeros t.length) ++ tailB (8 * t.length) 0 := by
  have e : (List.replicate (t.length + 9 + zeros t.length) (0 : UInt8)).drop t.length = 0 :: (List.replicate (zeros t.length) 0 ++ List.replicate 8 0) := by
    rw [List.drop_replicate, List.replicate_append_replicate, ← List.replicate_succ]
    congr 1
    omega
  rw [e, List.set_append_right _ _ (Nat.le_refl _)]
  simp [padK, tailB, lenB]

theorem pad_tail (t : List UInt8) : pad t = padK t (zeros t.length) ++ tailB (8 * t.length) 8 := by rw [pad_eq]; simp [tailB]

theorem zero_bytes (n : Nat) : (madeCells #[Value.int .u8 0] n).toList = cellsB (List.replicate n 0) := by
  rw [toList_madeCells_one]
  simp [cellsB]

theorem one_u8 : (Tryd.prog.info? 5).map (·.size) = some 1 := by kernel_rfl

set_option maxHeartbeats 1000000 in
theorem implPad_calls (t : List UInt8) (ht : t.length ≤ 2097152) (w : World) :
    Calls Tryd.prog 46 #[.string ⟨t.toArray⟩] w fun e w' => e = .returned (.string ⟨(pad t).toArray⟩) ∧ Below w.heap.size w w' := by
  obtain ⟨i0, hi, hz0, hz1, hz2⟩ := info_parts info_u8
  have hz64 : zeros t.length < 64 := Nat.mod_lt _ (by decide)
  obtain ⟨sz, hsz⟩ : ∃ sz, sz = t.length + 9 + zeros t.length := ⟨_, rfl⟩
  have hq : ((t.length : Int) + 1 + 8 + 64 - 1) / 64 * 64 = (sz : Int) := by
    rw [hsz]
    unfold zeros
    omega
  have HZ := hide hsz
  have HF := hide (zeros_first t)
  have HP := hide (pad_tail t)
  rw [← hsz] at HF
  have hlow : t.length + 9 ≤ sz := by omega
  have hup : sz ≤ 2097300 := by omega
  obtain ⟨pk, Epk⟩ : ∃ pk, Hid (pk = padK t (zeros t.length)) := ⟨_, rfl⟩
  have hpl : pk.length + 8 = sz := by rw [Epk.out, padK_length]; omega
  rw [← Epk.out] at HF HP
  obtain ⟨pd, HPD⟩ : ∃ pd, Hid (pd = pad t) := ⟨_, rfl⟩
  rw [← HPD.out] at HP ⊢
  clear HPD hsz Epk hz64
  go_enter Tryd.func46, Tryd.ntmps46
  go_wp2_with (at_make; refine wpList_make_full _ rfl (.tmp 17) (.tmp 17) 22 rfl w.heap.size 5 i0 (.int .u8 0) 1 Tryd.underlying22 hi hz0 hz1 .i64 .i64 _ _ sz rfl rfl (by omega) (by omega) (by rw [hz2]; omega) (by unfold maxLen; omega) (Nat.le_refl _) ?_)
  intro w2 hown2 hgr2
  have hown3 : w2.ownsRow w.heap.size 5 1 (.slice (some ⟨w.heap.size, 0, none⟩) sz sz) sz (cellsB (List.replicate sz 0)) := by rw [← zero_bytes]; exact hown2
  have hbt := Byt.of_own hown3
  have hb2 : Below w.heap.size w w2 := ⟨hgr2.os, hgr2.tape, hgr2.output, hgr2.size, fun k hk => hgr2.block k hk (fun e => by cases e)⟩
  obtain ⟨g, hg⟩ : ∃ g, g = w.heap.size := ⟨_, rfl⟩
  have hwg : w.heap.size ≤ g := by omega
  rw [← hg] at hbt ⊢
  have HBt := hide hbt
  have HB := hide hb2
  clear hown2 hgr2 hown3 hbt hb2 hg
  have hcp := run_copy_text (P := Tryd.prog) w2 22 9 3 5 g sz sz t Tryd.underlying22 one_u8 (by omega) (fun j hj => by rw [HBt.out.cell j (by rw [List.length_replicate]; omega)]; rfl) (fun j _ => HBt.out.free j)
  have hbt3 := HBt.out.copied t (by rw [List.length_replicate]; omega)
  have hb3 := below_setCells hwg (cellsB t) 0 _ HB.out
  generalize w2.setCells g 0 (cellsB t) = w3 at hbt3 hb3 hcp
  clear HBt HB
  have hl3 : (t ++ (List.replicate sz (0 : UInt8)).drop t.length).length = sz := by rw [List.length_append, List.length_drop, List.length_replicate]; omega
  have hc3 : ∃ y, w3.cell? ⟨g, t.length, none⟩ = some y := ⟨_, hbt3.cell t.length (by omega)⟩
  obtain ⟨y, hc3⟩ := hc3
  have hf3 := hbt3.free t.length
  have hbt4 := hbt3.set (i := t.length) 128 (z := 128) rfl
  rw [HF.out] at hbt4
  have hb4 := hb3.setCell (p := ⟨g, t.length, none⟩) hwg (.int .u8 128)
  have HBt := hide hbt4
  have HB := hide hb4
  clear hbt3 hb3 hbt4 hb4 hl3 HF
  have htl : (t.length : Int) < (sz : Int) := by omega
  go_wp2_with fail
  generalize w3.setCell ⟨g, t.length, none⟩ (.int .u8 128) = w4 at HBt HB ⊢
  clear hc3 hf3
  go_loopw [30] (fun i wr => ∃ k : Nat, k ≤ 8 ∧ i = .int .i64 k ∧ Byt wr g (pk ++ tailB (8 * t.length) k) ∧ Below w.heap.size w wr) (fun i _ => 8 - (intOf i).toNat)
  case atStart => exact ⟨0, by omega, rfl, HBt.out, HB.out⟩
  case round =>
    clear HBt HB
    obtain ⟨k, hk, rfl, hbt, hb⟩ := hrel
    have HBt := hide hbt
    have HB := hide hb
    clear hbt hb
    by_cases hlt : k < 8
    · have hln : (pk ++ tailB (8 * t.length) k).length = sz := by rw [List.length_append, tailB_length _ _ hk]; omega
      have hc : ∃ y, wr.cell? ⟨g, sz - 1 - k, none⟩ = some y := ⟨_, HBt.out.cell (sz - 1 - k) (by omega)⟩
      obtain ⟨y, hc⟩ := hc
      have hf := HBt.out.free (sz - 1 - k)
      have HS : Hid ((pk ++ tailB (8 * t.length) k).set (sz - 1 - k) ((lenB (8 * t.length)).getD (7 - k) 0) = pk ++ tailB (8 * t.length) (k + 1)) := by
        show (pk ++ tailB (8 * t.length) k).set (sz - 1 - k) ((lenB (8 * t.length)).getD (7 - k) 0) = pk ++ tailB (8 * t.length) (k + 1)
        rw [List.set_append_right _ _ (by omega), show sz - 1 - k - pk.length = 7 - k by omega, tailB_next _ _ hlt]
      have hat := lenB_at (8 * t.length) (7 - k) (by omega)
      rw [show 7 - (7 - k) = k by omega] at hat
      have HAT := hide hat
      clear hln hat
      go_wp2_with fail
      go_roundw
      case rel =>
        refine ⟨k + 1, by omega, by go_num, ?_, HB.out.setCell hwg _⟩
        rw [← HS.out]
        exact HBt.out.set _ (by rw [HAT.out]; simp)
      case measure => simp [intOf]; omega
    · have hk8 : k = 8 := by omega
      rw [hk8, ← HP.out] at HBt
      have hpn : pd.length = sz := by rw [HP.out, List.length_append, tailB_length _ _ (Nat.le_refl _)]; omega
      have hcv := HBt.out.text (P := Tryd.prog) (cap := sz) sz hpn 22 9 5 Tryd.underlying22 Tryd.underlying5 Tryd.underlying9
      clear HBt hk8
      go_wp2_with fail
      go_ret
      exact ⟨rfl, HB.out⟩
end Go.Proofs.YtflicklgmhgpiaaDoor.P3
namespace Go.Proofs.YtflicklgmhgpiaaDoor.P3
set_option maxRecDepth 8000
open Go.RowKit P1

theorem index_words (l : List Nat) (k : Nat) (hk : k < 8) (hl : l.length = 8) (wx : World) : (Instr.index 72 (.agg (wordsV l)) (.int .i64 k)).run Tryd.prog wx = .ok (.int .u32 (l.getD k 0 : Nat)) wx := by
  have hg : (wordsV l)[k]? = some (.int .u32 (l[k]?.getD 0 : Nat)) := by
    have h : k < l.length := by omega
    simp [wordsV, h]
  unfold Instr.index
  simp [asIntOf, run_underlying arrN8, Tryd.sizeOf70]
  rw [if_pos hk]
  unfold part
  simp [Tryd.isAgg70, hg]

theorem wpList_append_four {P : Program} {W w0 : World} {B : Nat} (hbel : Below B W w0) (hB : B ≤ W.heap.size) {z1 z2 z3 z4 : Int} {ops : Array Oper} {rest : List Oper} {o : Oper} {a : Act} {Q : Exit → Act → World → Prop} (hgd : o.guard = none) (s x : Operand) (t : TypeId)
    (ho : o.op = .call { callee := .builtin .append, args := #[s, x], argTypes := #[t, t] })
    (e : TypeId) (i : TypeInfo) (ht : P.underlying t = some (.slice e)) (hi : P.info? e = some i) (hz : i.zero = some (.int .u8 0))
    (hsize : i.size = 1) (hby : i.bytes = 1) (v : Value) (n : Nat) (xs : List Value) (hs : a.eval s = v) (hown : w0.ownsRow B e 1 v n xs)
    (c : Nat) (hx : a.eval x = .slice (some ⟨w0.heap.size, 0, none⟩) 4 c) (hb : n < 1099511627776)
    (h : ∀ v' w', w'.ownsRow B e 1 v' (n + 4) (xs ++ [.int .u8 z1, .int .u8 z2, .int .u8 z3, .int .u8 z4]) → Below B W w' → wpList P ops Q rest (a.put o.dst v') w') :
    wpList P ops Q (o :: rest) a (w0.alloc (.cells #[.int .u8 z1, .int .u8 z2, .int .u8 z3, .int .u8 z4] e)) := by
  have hsz := hbel.size
  refine wpList_append_own _ hgd s x t ho B e i (.int .u8 0) 1 1 ht hi hz hsize hby rfl (by decide) v n xs hs (hown.alloc _) ⟨w0.heap.size, 0, none⟩ 4 c [.int .u8 z1, .int .u8 z2, .int .u8 z3, .int .u8 z4] hx rfl ?_ ?_ ?_ ?_ ?_ ?_
  · intro j u hj
    match j, hj with
    | 0, hj => simp at hj; subst hj; simp [Addr.add]
    | 1, hj => simp at hj; subst hj; simp [Addr.add]
    | 2, hj => simp at hj; subst hj; simp [Addr.add]
    | 3, hj => simp at hj; subst hj; simp [Addr.add]
  · intro u hu; simp at hu; rcases hu with rfl | rfl | rfl | rfl <;> rfl
  · unfold maxLen; omega
  · omega
  · simp; omega
  · intro v' w' h1 h2 _
    exact h v' w' h1 ((hbel.alloc (by omega) _).grown h2 (by simp; omega) (fun k hk => (hown.lt k hk).1))

/-- Four bytes more. -/
theorem own_four {w : World} {B : Nat} {e : TypeId} {v : Value} {l : List UInt8} {z1 z2 z3 z4 : Int} (h : w.ownsRow B e 1 v (l.length + 4) (cellsB l ++ [.int .u8 z1, .int .u8 z2, .int .u8 z3, .int .u8 z4])) (b1 b2 b3 b4 : UInt8)
    (h1 : z1 = b1.toNat) (h2 : z2 = b2.toNat) (h3 : z3 = b3.toNat) (h4 : z4 = b4.toNat) : w.ownsRow B e 1 v (l ++ [b1, b2, b3, b4]).length (cellsB (l ++ [b1, b2, b3, b4])) := by
  have e1 : cellsB (l ++ [b1, b2, b3, b4]) = cellsB l ++ [.int .u8 z1, .int .u8 z2, .int .u8 z3, .int .u8 z4] := by simp [cellsB, h1, h2, h3, h4]
  have e2 : (l ++ [b1, b2, b3, b4]).length = l.length + 4 := by simp
  rw [e1, e2]; exact h

/-- The memory of a digest: the numbers, the turns' numbers. -/
structure DM (w wr : World) (b0 : Nat) (xs : List Nat) : Prop where
  n : Arr wr b0 xs
  k : KeyT wr
  bel : Below w.heap.size w wr

set_option maxRecDepth 8000 in
set_option maxHeartbeats 1000000 in
theorem implDigest_calls (t : List UInt8) (ht : t.length ≤ 1048577) (w : World) (hS : StT w) (hK : KeyT w) :
    Calls Tryd.prog 35 #[.string ⟨t.toArray⟩] w fun e w' => e = .returned (.string ⟨(digest t).toArray⟩) ∧ Below w.heap.size w w' := by
  obtain ⟨dg, Edg⟩ : ∃ dg, Hid (dg = digest t) := ⟨_, rfl⟩
  rw [← Edg.out]
  have hz8 := (zero_of_info zeroN8).1
  have hld := hS.load
  obtain ⟨Z8, hZ8⟩ : ∃ Z, Z = wordsV nil8 := ⟨_, rfl⟩
  obtain ⟨SV, hSV⟩ : ∃ Z, Z = wordsV start.list := ⟨_, rfl⟩
  rw [← hZ8] at hz8
  rw [← hSV] at hld
  have s3 : Z8.size = 8 := by rw [hZ8]; rfl
  have s4 : SV.size = 8 := by rw [hSV]; rfl
  have u2 : SV.all (·.oneCell') = true := by rw [hSV]; exact wordsV_one _
  have ES := hide hSV
  have Hz8 := hide hz8
  have HL := hide hld
  have HK := hide hK
  clear hz8 hZ8 hSV hS hld hK
  go_enter Tryd.func35, Tryd.ntmps35
  go_wp2_with (first | (refine wpList_load_agg rfl 72 (.global 0) rfl 0 rfl 8 Tryd.isAgg72 Tryd.sizeOf72 SV HL.out ?_) | (refine wpList_alloc_agg rfl 72 rfl Z8 Hz8.out ?_) | (refine wpList_store_last rfl 72 (.tmp 3) (.tmp 9) rfl Z8 SV rfl rfl (by rw [s4]; exact sizeN8) (by rw [s3, s4]) u2 ?_))
  have hA := Arr.new w 72 start.list SV ES.out
  have hbA : Below w.heap.size w (w.alloc (.cells SV 72)) := (Below.refl _ _).alloc (Nat.le_refl _) _
  have hlk := HK.out.lt
  have hKA := HK.out.below hbA hlk
  obtain ⟨b0, hb0⟩ : ∃ b0, b0 = w.heap.size := ⟨_, rfl⟩
  have ho0 : w.heap.size ≤ b0 := by omega
  have hk0 : 1 < b0 := by omega
  have hsz1 : b0 < (w.alloc (.cells SV 72)).heap.size := by rw [hb0]; simp
  rw [← hb0] at hA ⊢
  generalize w.alloc (.cells SV 72) = w2 at hA hbA hKA hsz1 ⊢
  have HA := hide hA
  have HBA := hide hbA
  have HKA := hide hKA
  clear hA hbA hKA hb0 HL Hz8 ES HK u2 s3 s4
  refine (implPad_calls t (by omega) _).mono ?_
  rintro e w5 ⟨rfl, hb5⟩
  have hdm : DM w w5 b0 start.list := ⟨HA.out.below hb5 hsz1, HKA.out.below hb5 (by omega), HBA.out.trans (hb5.mono HBA.out.size)⟩
  have HD5 := hide hdm
  clear hb5 hdm HA HBA HKA hsz1
  have hpl := pad_length t
  have hpm := pad_mod t
  have hz : zeros t.length < 64 := Nat.mod_lt _ (by decide)
  obtain ⟨p, EP⟩ : ∃ p, Hid (p = pad t) := ⟨_, rfl⟩
  rw [← EP.out] at hpl hpm ⊢
  go_wp2_with fail
  obtain ⟨n, hn⟩ : ∃ n, p.length = 64 * n := ⟨p.length / 64, by omega⟩
  go_loopw [5] (fun i wr => ∃ k : Nat, k ≤ n ∧ i = .int .i64 (64 * (k : Int)) ∧ DM w wr b0 (bl p k).list) (fun i _ => 64 * n - (intOf i).toNat)
  case atStart => exact ⟨0, by omega, rfl, HD5.out⟩
  case round =>
    clear HD5
    obtain ⟨k, hk, rfl, hm⟩ := hrel
    have HM := hide hm
    clear hm
    by_cases hlt : k < n
    · have hsl := slice_block p k (by omega)
      have hql : ((p.drop (64 * k)).take 64).length = 64 := by rw [List.length_take, List.length_drop]; omega
      obtain ⟨q, EQ⟩ : ∃ q, Hid (q = (p.drop (64 * k)).take 64) := ⟨_, rfl⟩
      rw [← EQ.out] at hql
      simp only [← EQ.out] at hsl
      obtain ⟨st, Est⟩ : ∃ st, Hid (st = bl p k) := ⟨_, rfl⟩
      have hok : st.ok := by rw [Est.out]; exact bl_ok p k
      rw [← Est.out] at HM
      have HN : Hid (bl p (k + 1) = block st q) := by rw [EQ.out, Est.out]; exact rfl
      have HC := hide (fun wx h1 h2 => takeBlock_calls b0 st hok q hql wx h1 h2 hk0)
      rw [← HN.out] at HC
      clear EQ Est HN hok
      go_wp2_with fail
      refine (HC.out _ HM.out.n HM.out.k).mono ?_
      rintro e w6 ⟨⟨v, rfl⟩, hA6, hg6⟩
      have hm6 : DM w w6 b0 (bl p (k + 1)).list := ⟨hA6, HM.out.k.grown hg6 (by omega), HM.out.bel.trans (Cu.below_of_grown hg6 ho0 HM.out.bel.size)⟩
      have HM6 := hide hm6
      clear hA6 hg6 hm6 HM HC hsl
      go_wp2_with fail
      go_roundw
      case rel => exact ⟨k + 1, by omega, by go_num, HM6.out⟩
      case measure => simp [intOf]; omega
    · have hkn : k = n := by omega
      have hEn : n = (pad t).length / 64 := by rw [← EP.out]; omega
      rw [hkn] at HM
      obtain ⟨st, Est⟩ : ∃ st, Hid (st = bl p n) := ⟨_, rfl⟩
      have hok : st.ok := by rw [Est.out]; exact bl_ok p n
      have HG : Hid (dg = st.list.flatMap four) := by rw [Edg.out, Est.out, EP.out, hEn]; exact rfl
      rw [← Est.out] at HM
      clear Est Edg hkn hEn EP hk
      obtain ⟨i0, hi, hz0, hz1, hz2⟩ := info_parts info_u8
      have hne : ¬ (64 * (k : Int) < (p.length : Int)) := by omega
      have hwsz : w.heap.size ≤ wr.heap.size := HM.out.bel.size
      go_wp2_with (at_make; refine wpList_make_own _ rfl (.const (.int .i64 0)) (.const (.int .i64 32)) 22 rfl w.heap.size 5 i0 (.int .u8 0) 1 Tryd.underlying22 hi hz0 hz1 .i64 .i64 32 32 rfl rfl rfl (by rw [hz2]; omega) (by unfold maxLen; omega) hwsz ?_)
      intro w2 hown2 hgr2
      have hbr : Below wr.heap.size wr w2 := ⟨hgr2.os, hgr2.tape, hgr2.output, hgr2.size, fun k hk => hgr2.block k hk (fun e => by cases e)⟩
      have hA2 := HM.out.n.below hbr HM.out.n.lt
      have hB2 := HM.out.bel.trans (hbr.mono hwsz)
      have hld2 := hA2.load (P := Tryd.prog) 8 rfl
      have HIX := hide (fun (j : Nat) (hj : j < 8) (wx : World) => index_words st.list j hj rfl wx)
      obtain ⟨V, EV⟩ : ∃ V, Hid (V = wordsV st.list) := ⟨_, rfl⟩
      rw [← EV.out] at hld2
      simp only [← EV.out] at HIX
      have HLD := hide hld2
      have HO := hide hown2
      have HB := hide hB2
      clear hown2 hgr2 hbr hA2 hB2 hld2 HM hne hwsz EV
      go_wp2_with (refine wpList_load_agg rfl 72 (.tmp 3) rfl b0 rfl 8 Tryd.isAgg72 Tryd.sizeOf72 V HLD.out ?_)
      clear hlt HLD
      go_loopw [6, 26] (fun v i wr => ∃ k : Nat, ∃ l : List UInt8, k ≤ 8 ∧ i = .int .i64 k ∧ l.length = 4 * k ∧ l = (st.list.take k).flatMap four ∧ wr.ownsRow w.heap.size 5 1 v l.length (cellsB l) ∧ Below w.heap.size w wr) (fun _ i _ => 8 - (intOf i).toNat)
      case atStart => exact ⟨0, [], by omega, rfl, rfl, rfl, HO.out, HB.out⟩
      case round =>
        clear HO HB
        obtain ⟨k, l, hk, rfl, hll, hl, hown, hb⟩ := hrel
        have HO := hide hown
        have HB := hide hb
        have HLE := hide hl
        have HLL := hide hll
        clear hown hb hl hll
        by_cases hlt : k < 8
        · have hix := HIX.out k hlt
          have hx := list_lt st hok k hlt
          have HFN := hide (flat_next st k hlt)
          obtain ⟨x, hxe⟩ : ∃ x, x = st.list.getD k 0 := ⟨_, rfl⟩
          rw [← hxe] at hx HFN
          simp only [← hxe] at hix
          clear hxe
          go_wp2_with (at_builtin; refine wpList_append_four HB.out (Nat.le_refl _) rfl (.tmp 29) (.tmp 41) 22 rfl 5 i0 Tryd.underlying22 hi hz0 hz1 hz2 _ _ _ rfl HO.out 4 rfl (by have := HLL.out; omega) ?_)
          intro v' w3 hown3 hb3
          have hown4 := own_four (z1 := (x : Int) / 16777216) (z2 := (x : Int) / 65536 % 256) (z3 := (x : Int) / 256 % 256) (z4 := (x : Int) % 256) hown3 (UInt8.ofNat (x / 16777216)) (UInt8.ofNat (x / 65536 % 256)) (UInt8.ofNat (x / 256 % 256)) (UInt8.ofNat (x % 256)) (by rw [byte_of _ (by omega)]; omega) (by rw [byte_of _ (by omega)]; omega) (by rw [byte_of _ (by omega)]; omega) (by rw [byte_of _ (by omega)]; omega)
          have HO3 := hide hown4
          have HB3 := hide hb3
          clear hown3 hown4 hb3 hix
          go_wp2_with fail
          go_roundw
          case rel => exact ⟨k + 1, l ++ [UInt8.ofNat (x / 16777216), UInt8.ofNat (x / 65536 % 256), UInt8.ofNat (x / 256 % 256), UInt8.ofNat (x % 256)], by omega, by go_num, by rw [List.length_append, HLL.out]; rfl, by rw [HFN.out, ← HLE.out]; rfl, HO3.out, HB3.out⟩
          case measure => simp [intOf]; omega
        · have hk8 : k = 8 := by omega
          have hall : l = dg := by
            rw [HLE.out, hk8, List.take_of_length_le (by show 8 ≤ 8; omega), ← HG.out]
          obtain ⟨g, cap, rfl, hcv⟩ := own_text (P := Tryd.prog) HO.out (by have := HLL.out; omega) 22 9 Tryd.underlying22 Tryd.underlying5 Tryd.underlying9
          have hcv2 : ∀ u, u = l → (convert 22 9 (.slice (some ⟨g, 0, none⟩) l.length cap)).run Tryd.prog wr = .ok (.string ⟨u.toArray⟩) wr := fun u hu => by rw [hu]; exact hcv
          have hcv3 := hcv2 dg hall.symm
          clear hall HO HLE hk8 hcv hcv2
          go_wp2_with fail
          go_ret
          exact ⟨rfl, HB.out⟩
end Go.Proofs.YtflicklgmhgpiaaDoor.P3
namespace Go.Proofs.YtflicklgmhgpiaaDoor.P3
open Go.RowKit P1

/-- Both tables, as the program lays them. -/
structure Glo (w : World) : Prop where
  s : StT w
  k : KeyT w

theorem Glo.below {w w' : World} (h : Glo w) (hb : Below w.heap.size w w') : Glo w' := ⟨h.s.below hb h.s.lt, h.k.below hb h.k.lt⟩

theorem Glo.drewN {w : World} (h : Glo w) (n : Nat) : Glo (w.drewN n) := ⟨⟨h.s.lt, h.s.cell⟩, ⟨h.k.lt, h.k.cell⟩⟩
end Go.Proofs.YtflicklgmhgpiaaDoor.P3
namespace Go.Proofs.YtflicklgmhgpiaaDoor.P3
open Go.RowKit P1

theorem cWord : Tryd.prog.cellsOf 70 = 1 := by kernel_rfl
theorem gKey : Tryd.prog.globalNamed "loop.example/g00474/impl.turnNumbers" = some 1 := by kernel_rfl
theorem tKey : (Tryd.prog.globals[1]?).map (·.type) = some 76 := by kernel_rfl
theorem uKey : Tryd.prog.underlying 76 = some (.array 64 70) := by kernel_rfl
theorem cKey : Tryd.prog.cellsOf 76 = 64 := by kernel_rfl
def iKey : List Int := keys.map fun (n : Nat) => (n : Int)
theorem dKey : (Rows.laid_loop_example_g00474_impl_turnNumbers : DataW Unit) = Lib.tabData .u32 iKey := by kernel_rfl

theorem key_of_laid {W : World} {l : List (String × DataW Unit)} (hl : (l.all fun x => x.2.handleName?.isNone) = true) (hm : ("loop.example/g00474/impl.turnNumbers", Rows.laid_loop_example_g00474_impl_turnNumbers) ∈ l) (h : laidMetH Tryd.prog l W) : KeyT W := by
  rw [MakeChecks.laidMetH_plain _ _ _ hl] at h
  obtain ⟨ps, hv, _⟩ := h
  obtain ⟨g, t, cs, fuel, p, h1, h2, h3, h4⟩ := Frame.laid_var hv hm
  obtain rfl := Option.some.inj (gKey.symm.trans h1)
  obtain rfl := Option.some.inj (tKey.symm.trans h2)
  rw [dKey] at h4
  have hc := Lib.cells_of_tab uKey Tryd.underlying70 cWord cKey h4
  have hlen : keys.length = 64 := rfl
  refine ⟨?_, fun r hr => ?_⟩
  · unfold World.var? at h3
    rw [gKey] at h3
    simp only [Option.bind_some] at h3
    rcases Nat.lt_or_ge 1 W.heap.size with h' | h'
    · exact h'
    · rw [Array.getElem?_eq_none h'] at h3; simp at h3
  · rw [World.var?_cell gKey h3 r]
    have e : cs[r]? = cs.toList[r]? := by simp
    have hr' : r < keys.length := by omega
    rw [e, hc, iKey, List.map_map, List.getElem?_map, List.getElem?_eq_getElem hr']
    simp [List.getD_eq_getElem?_getD, List.getElem?_eq_getElem hr']

theorem gStt : Tryd.prog.globalNamed "loop.example/g00474/impl.startNumbers" = some 0 := by kernel_rfl
theorem tStt : (Tryd.prog.globals[0]?).map (·.type) = some 72 := by kernel_rfl
theorem uStt : Tryd.prog.underlying 72 = some (.array 8 70) := by kernel_rfl
theorem cStt : Tryd.prog.cellsOf 72 = 8 := by kernel_rfl
def iStt : List Int := start.list.map fun (n : Nat) => (n : Int)
theorem dStt : (Rows.laid_loop_example_g00474_impl_startNumbers : DataW Unit) = Lib.tabData .u32 iStt := by kernel_rfl

theorem st_of_laid {W : World} {l : List (String × DataW Unit)} (hl : (l.all fun x => x.2.handleName?.isNone) = true) (hm : ("loop.example/g00474/impl.startNumbers", Rows.laid_loop_example_g00474_impl_startNumbers) ∈ l) (h : laidMetH Tryd.prog l W) : StT W := by
  rw [MakeChecks.laidMetH_plain _ _ _ hl] at h
  obtain ⟨ps, hv, _⟩ := h
  obtain ⟨g, t, cs, fuel, p, h1, h2, h3, h4⟩ := Frame.laid_var hv hm
  obtain rfl := Option.some.inj (gStt.symm.trans h1)
  obtain rfl := Option.some.inj (tStt.symm.trans h2)
  rw [dStt] at h4
  have hc := Lib.cells_of_tab uStt Tryd.underlying70 cWord cStt h4
  have hlen : start.list.length = 8 := rfl
  refine ⟨?_, fun r hr => ?_⟩
  · unfold World.var? at h3
    rw [gStt] at h3
    simp only [Option.bind_some] at h3
    rcases Nat.lt_or_ge 0 W.heap.size with h' | h'
    · exact h'
    · rw [Array.getElem?_eq_none h'] at h3; simp at h3
  · rw [World.var?_cell gStt h3 r]
    have e : cs[r]? = cs.toList[r]? := by simp
    have hr' : r < start.list.length := by omega
    rw [e, hc, iStt, List.map_map, List.getElem?_map, List.getElem?_eq_getElem hr']
    simp [List.getD_eq_getElem?_getD, List.getElem?_eq_getElem hr']

theorem glo_of_laid {W : World} {l : List (String × DataW Unit)} (hl : (l.all fun x => x.2.handleName?.isNone) = true) (h1 : ("loop.example/g00474/impl.startNumbers", Rows.laid_loop_example_g00474_impl_startNumbers) ∈ l) (h2 : ("loop.example/g00474/impl.turnNumbers", Rows.laid_loop_example_g00474_impl_turnNumbers) ∈ l) (h : laidMetH Tryd.prog l W) : Glo W :=
  ⟨st_of_laid hl h1 h, key_of_laid hl h2 h⟩
end Go.Proofs.YtflicklgmhgpiaaDoor.P3
