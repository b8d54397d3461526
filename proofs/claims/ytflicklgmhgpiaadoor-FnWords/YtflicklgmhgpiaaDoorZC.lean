/- The contracts of chapter 3's small functions of the specification: l03Turn.
The contract of spec.l03Block: one block of SHA-256.
The contracts of the specification's constants of chapter 3: l03Keys, l03First, ShaStart.
The contract of spec.PadText; condition: the text is at most 2^21 bytes long.
The contract of spec.Digest; condition: the text is at most 2^20 bytes long.
The contracts of spec.l01Var, spec.l01In, spec.VarText and impl.VarText: each returns the bytes that chapter 1 names.
The contracts of spec.l01Figure, spec.Hex and impl.Hex: each returns the figures that chapter 1 names.
The contracts of spec.DigestHex and spec.CutDigest; condition: the text is at most 2^20 bytes long. -/
import Derived.Test.YtflicklgmhgpiaaDoorRows
import Derived.Test.YtflicklgmhgpiaaDoorZA
import Derived.Test.YtflicklgmhgpiaaDoorZP
import Derived.Laws.BitsAllLaws
import Derived.WalkKit
namespace Go.Proofs.YtflicklgmhgpiaaDoor.P3
set_option maxRecDepth 8000
open Go.RowKit P1

theorem or_rot (n x : Nat) (hx : x < 4294967296) : bits .or .u32 ((x : Int) / 2 ^ n) ((x : Int) * 2 ^ (32 - n) % 4294967296) = ((rot n x : Nat) : Int) := by
  have h1 : x / 2 ^ n < 4294967296 := Nat.lt_of_le_of_lt (Nat.div_le_self _ _) hx
  have h := u32_or_nat (x / 2 ^ n) (x * 2 ^ (32 - n) % 4294967296) h1 (Nat.mod_lt _ (by decide))
  unfold rot
  rw [← h]
  simp

theorem or_lt32 (a b : Nat) (ha : a < 4294967296) (hb : b < 4294967296) : a ||| b < 4294967296 := Nat.or_lt_two_pow (n := 32) ha hb

theorem rot_lt (n x : Nat) (hx : x < 4294967296) : rot n x < 4294967296 :=
  or_lt32 _ _ (Nat.lt_of_le_of_lt (Nat.div_le_self _ _) hx) (Nat.mod_lt _ (by decide))

theorem or_word (y0 y1 y2 y3 : Nat) (h0 : y0 < 2 ^ 8) (h1 : y1 < 2 ^ 8) (h2 : y2 < 2 ^ 8) (h3 : y3 < 2 ^ 8) :
    bits .or .u32 (bits .or .u32 (bits .or .u32 ((y0 : Int) * 16777216) ((y1 : Int) * 65536)) ((y2 : Int) * 256)) (y3 : Int) = ((y0 * 16777216 + y1 * 65536 + y2 * 256 + y3 : Nat) : Int) := by
  have e1 := u32_or_nat (y0 * 16777216) (y1 * 65536) (by omega) (by omega)
  have o1 := Nat.two_pow_add_eq_or_of_lt (i := 24) (b := y1 * 65536) (by omega) y0
  have o2 := Nat.two_pow_add_eq_or_of_lt (i := 16) (b := y2 * 256) (by omega) (y0 * 256 + y1)
  have o3 := Nat.two_pow_add_eq_or_of_lt (i := 8) (b := y3) (by omega) (y0 * 65536 + y1 * 256 + y2)
  have p1 : y0 * 16777216 ||| y1 * 65536 = y0 * 16777216 + y1 * 65536 := by rw [show y0 * 16777216 = 2 ^ 24 * y0 by omega]; exact o1.symm
  have p2 : (y0 * 16777216 + y1 * 65536) ||| y2 * 256 = y0 * 16777216 + y1 * 65536 + y2 * 256 := by rw [show y0 * 16777216 + y1 * 65536 = 2 ^ 16 * (y0 * 256 + y1) by omega]; exact o2.symm
  have p3 : (y0 * 16777216 + y1 * 65536 + y2 * 256) ||| y3 = y0 * 16777216 + y1 * 65536 + y2 * 256 + y3 := by rw [show y0 * 16777216 + y1 * 65536 + y2 * 256 = 2 ^ 8 * (y0 * 65536 + y1 * 256 + y2) by omega]; exact o3.symm
  have e2 := u32_or_nat (y0 * 16777216 + y1 * 65536) (y2 * 256) (by omega) (by omega)
  have e3 := u32_or_nat (y0 * 16777216 + y1 * 65536 + y2 * 256) y3 (by omega) (by omega)
  rw [p1] at e1
  rw [p2] at e2
  rw [p3] at e3
  rw [← e3, ← e2, ← e1]
  rfl

theorem xor3 (a b c : Nat) (ha : a < 4294967296) (hb : b < 4294967296) (hc : c < 4294967296) : bits .xor .u32 (bits .xor .u32 (a : Int) (b : Int)) (c : Int) = ((a ^^^ b ^^^ c : Nat) : Int) := by
  rw [u32_xor_nat a b ha hb, u32_xor_nat (a ^^^ b) c (Nat.xor_lt_two_pow (n := 32) ha hb) hc]

theorem sig0_bits (x : Nat) (hx : x < 4294967296) : bits .xor .u32 (bits .xor .u32 (rot 7 x : Int) (rot 18 x : Int)) ((x : Int) / 8) = ((sig0 x : Nat) : Int) :=
  xor3 _ _ (x / 8) (rot_lt _ _ hx) (rot_lt _ _ hx) (by omega)

theorem sig1_bits (x : Nat) (hx : x < 4294967296) : bits .xor .u32 (bits .xor .u32 (rot 17 x : Int) (rot 19 x : Int)) ((x : Int) / 1024) = ((sig1 x : Nat) : Int) :=
  xor3 _ _ (x / 1024) (rot_lt _ _ hx) (rot_lt _ _ hx) (by omega)

theorem xor_lt32 (a b : Nat) (ha : a < 4294967296) (hb : b < 4294967296) : a ^^^ b < 4294967296 := Nat.xor_lt_two_pow (n := 32) ha hb

theorem sig0_lt (x : Nat) (hx : x < 4294967296) : sig0 x < 4294967296 := xor_lt32 _ _ (xor_lt32 _ _ (rot_lt _ _ hx) (rot_lt _ _ hx)) (by omega)

theorem sig1_lt (x : Nat) (hx : x < 4294967296) : sig1 x < 4294967296 := xor_lt32 _ _ (xor_lt32 _ _ (rot_lt _ _ hx) (rot_lt _ _ hx)) (by omega)

theorem Sig0_bits (x : Nat) (hx : x < 4294967296) : bits .xor .u32 (bits .xor .u32 (rot 2 x : Int) (rot 13 x : Int)) (rot 22 x : Int) = ((Sig0 x : Nat) : Int) :=
  xor3 _ _ _ (rot_lt _ _ hx) (rot_lt _ _ hx) (rot_lt _ _ hx)

theorem Sig1_bits (x : Nat) (hx : x < 4294967296) : bits .xor .u32 (bits .xor .u32 (rot 6 x : Int) (rot 11 x : Int)) (rot 25 x : Int) = ((Sig1 x : Nat) : Int) :=
  xor3 _ _ _ (rot_lt _ _ hx) (rot_lt _ _ hx) (rot_lt _ _ hx)

theorem Sig0_lt (x : Nat) (hx : x < 4294967296) : Sig0 x < 4294967296 := xor_lt32 _ _ (xor_lt32 _ _ (rot_lt _ _ hx) (rot_lt _ _ hx)) (rot_lt _ _ hx)

theorem Sig1_lt (x : Nat) (hx : x < 4294967296) : Sig1 x < 4294967296 := xor_lt32 _ _ (xor_lt32 _ _ (rot_lt _ _ hx) (rot_lt _ _ hx)) (rot_lt _ _ hx)

theorem and_lt32 (a b : Nat) (ha : a < 4294967296) : a &&& b < 4294967296 := Nat.lt_of_le_of_lt Nat.and_le_left ha

theorem ch_bits (e f g : Nat) (he : e < 4294967296) (hf : f < 4294967296) (hg : g < 4294967296) :
    bits .xor .u32 (bits .and .u32 (e : Int) (f : Int)) (bits .and .u32 (bits .xor .u32 (e : Int) 4294967295) (g : Int)) = ((ch e f g : Nat) : Int) := by
  have hn := xor_lt32 e 4294967295 he (by decide)
  have e1 := u32_and_nat e f he hf
  have e2 := u32_xor_nat e 4294967295 he (by decide)
  have e3 := u32_and_nat (e ^^^ 4294967295) g hn hg
  have e4 := u32_xor_nat (e &&& f) ((e ^^^ 4294967295) &&& g) (and_lt32 _ _ he) (and_lt32 _ _ hn)
  rw [e1, show (4294967295 : Int) = ((4294967295 : Nat) : Int) from rfl, e2, e3, e4]
  rfl

theorem ch_lt (e f g : Nat) (he : e < 4294967296) : ch e f g < 4294967296 :=
  xor_lt32 _ _ (and_lt32 _ _ he) (and_lt32 _ _ (xor_lt32 e 4294967295 he (by decide)))

theorem maj_bits (a b c : Nat) (ha : a < 4294967296) (hb : b < 4294967296) (hc : c < 4294967296) :
    bits .xor .u32 (bits .xor .u32 (bits .and .u32 (a : Int) (b : Int)) (bits .and .u32 (a : Int) (c : Int))) (bits .and .u32 (b : Int) (c : Int)) = ((maj a b c : Nat) : Int) := by
  rw [u32_and_nat a b ha hb, u32_and_nat a c ha hc, u32_and_nat b c hb hc]
  exact xor3 _ _ _ (and_lt32 _ _ ha) (and_lt32 _ _ ha) (and_lt32 _ _ hb)

theorem maj_lt (a b c : Nat) (ha : a < 4294967296) (hb : b < 4294967296) : maj a b c < 4294967296 :=
  xor_lt32 _ _ (xor_lt32 _ _ (and_lt32 _ _ ha) (and_lt32 _ _ ha)) (and_lt32 _ _ hb)

/-- A byte of a text, as a list's. -/
theorem index_byte (b : List UInt8) (i : Int) (j : Nat) (hij : i = j) (hj : j < b.length) (wx : World) :
    (Instr.index 9 (.string ⟨b.toArray⟩) (.int .i64 i)).run Tryd.prog wx = .ok (.int .u8 ((b.getD j 0).toNat : Int)) wx := by
  subst hij
  rw [run_index_string _ _ _ _ _ Tryd.underlying9]
  have hs : (⟨b.toArray⟩ : ByteArray).size = b.length := rfl
  rw [dif_pos ⟨by omega, by rw [hs]; omega⟩]
  have hg : b.getD j 0 = b[j] := by simp [List.getD_eq_getElem?_getD, hj]
  rw [hg]
  rfl

set_option maxHeartbeats 400000 in
theorem turn_calls (x : Nat) (hx : x < 4294967296) (n : Nat) (h0 : 0 < n) (h1 : n < 32) (w : World) :
    Calls Tryd.prog 56 #[.int .u32 x, .int .u64 n] w fun e w' => e = .returned (.int .u32 (rot n x : Nat)) ∧ w' = w := by
  go_enter Tryd.func56, Tryd.ntmps56
  go_wp2
  go_ret
  exact ⟨congrArg (fun z => Ending.returned (.int .u32 z)) (or_rot n x hx), rfl⟩
end Go.Proofs.YtflicklgmhgpiaaDoor.P3
namespace Go.Proofs.YtflicklgmhgpiaaDoor.P3
set_option maxRecDepth 8000
open Go.RowKit P1

/-- Sixty-four noughts, eight noughts. -/
def nil64 : List Nat := List.replicate 64 0
def nil8 : List Nat := List.replicate 8 0

theorem zero64 : (Tryd.prog.info? 76).map (fun i => (i.zero, i.size)) = some (some (.agg (wordsV nil64)), 64) := by kernel_rfl
theorem zero8 : (Tryd.prog.info? 71).map (fun i => (i.zero, i.size)) = some (some (.agg (wordsV nil8)), 8) := by kernel_rfl
theorem built64 : Tryd.prog.built 76 [] = some (wordsV nil64) := by kernel_rfl

/-- The memory of a block's call: the state, the keys, the answer, the schedule. -/
structure Mem (w wr : World) (b0 b1 b2 b3 : Nat) (hs ks rs ws : List Nat) : Prop where
  h : Arr wr b0 hs
  k : Arr wr b1 ks
  r : Arr wr b2 rs
  x : Arr wr b3 ws
  bel : Below w.heap.size w wr
  o0 : w.heap.size ≤ b0
  o1 : b0 < b1
  o2 : b1 < b2
  o3 : b2 < b3

theorem Mem.start (w : World) (hs ks : List Nat) (t8 t64 : TypeId) :
    Mem w ((((w.alloc (.cells (wordsV hs) t8)).alloc (.cells (wordsV ks) t64)).alloc (.cells (wordsV nil8) t8)).alloc (.cells (wordsV nil64) t64)) w.heap.size (w.heap.size + 1) (w.heap.size + 1 + 1) (w.heap.size + 1 + 1 + 1) hs ks nil8 nil64 := by
  have e1 := Arr.new w t8 hs (wordsV hs) rfl
  have e2 := Arr.new (w.alloc (.cells (wordsV hs) t8)) t64 ks (wordsV ks) rfl
  have e3 := Arr.new ((w.alloc (.cells (wordsV hs) t8)).alloc (.cells (wordsV ks) t64)) t8 nil8 (wordsV nil8) rfl
  have e4 := Arr.new (((w.alloc (.cells (wordsV hs) t8)).alloc (.cells (wordsV ks) t64)).alloc (.cells (wordsV nil8) t8)) t64 nil64 (wordsV nil64) rfl
  have z : ∀ (u : World) (o : Obj), (u.alloc o).heap.size = u.heap.size + 1 := fun u o => by simp
  rw [z] at e2
  rw [z, z] at e3
  rw [z, z, z] at e4
  have k1 : ∀ (u : World) (o : Obj), Below u.heap.size u (u.alloc o) := fun u o => (Below.refl _ _).alloc (Nat.le_refl _) o
  refine ⟨((e1.below (k1 _ _) (by simp only [z]; omega)).below (k1 _ _) (by simp only [z]; omega)).below (k1 _ _) (by simp only [z]; omega), (e2.below (k1 _ _) (by simp only [z]; omega)).below (k1 _ _) (by simp only [z]; omega), e3.below (k1 _ _) (by simp only [z]; omega), e4, ?_, Nat.le_refl _, by omega, by omega, by omega⟩
  exact ((((Below.refl _ _).alloc (Nat.le_refl _) _).alloc (by simp only [z]; omega) _).alloc (by simp only [z]; omega) _).alloc (by simp only [z]; omega) _

theorem Mem.drew {w wr : World} {b0 b1 b2 b3 : Nat} {hs ks rs ws : List Nat} (m : Mem w wr b0 b1 b2 b3 hs ks rs ws) : Mem w wr.drew b0 b1 b2 b3 hs ks rs ws :=
  ⟨m.h.drew, m.k.drew, m.r.drew, m.x.drew, m.bel.drew, m.o0, m.o1, m.o2, m.o3⟩

/-- .. and the working state. -/
structure Mem5 (w wr : World) (b0 b1 b2 b3 b4 : Nat) (hs ks rs ws ss : List Nat) : Prop where
  m : Mem w wr b0 b1 b2 b3 hs ks rs ws
  s : Arr wr b4 ss
  o4 : b3 < b4

theorem Mem5.start {w wr : World} {b0 b1 b2 b3 : Nat} {hs ks rs ws : List Nat} (m : Mem w wr b0 b1 b2 b3 hs ks rs ws) (t : TypeId) (ss : List Nat) (cs : Array Value) (hcs : cs = wordsV ss) :
    Mem5 w (wr.alloc (.cells cs t)) b0 b1 b2 b3 wr.heap.size hs ks rs ws ss := by
  have k1 : Below wr.heap.size wr (wr.alloc (.cells cs t)) := (Below.refl _ _).alloc (Nat.le_refl _) _
  exact ⟨⟨m.h.below k1 m.h.lt, m.k.below k1 m.k.lt, m.r.below k1 m.r.lt, m.x.below k1 m.x.lt, m.bel.trans (k1.mono m.bel.size), m.o0, m.o1, m.o2, m.o3⟩, Arr.new wr t ss cs hcs, m.x.lt⟩

theorem Mem.drewN {w wr : World} {b0 b1 b2 b3 : Nat} {hs ks rs ws : List Nat} (m : Mem w wr b0 b1 b2 b3 hs ks rs ws) (n : Nat) : Mem w (wr.drewN n) b0 b1 b2 b3 hs ks rs ws :=
  ⟨m.h.drewN n, m.k.drewN n, m.r.drewN n, m.x.drewN n, ⟨m.bel.os, m.bel.tape, m.bel.output, m.bel.size, m.bel.block⟩, m.o0, m.o1, m.o2, m.o3⟩

theorem Mem5.drewN {w wr : World} {b0 b1 b2 b3 b4 : Nat} {hs ks rs ws ss : List Nat} (m : Mem5 w wr b0 b1 b2 b3 b4 hs ks rs ws ss) (n : Nat) : Mem5 w (wr.drewN n) b0 b1 b2 b3 b4 hs ks rs ws ss :=
  ⟨m.m.drewN n, m.s.drewN n, m.o4⟩

theorem Mem5.setS {w wr : World} {b0 b1 b2 b3 b4 : Nat} {hs ks rs ws ss : List Nat} (m : Mem5 w wr b0 b1 b2 b3 b4 hs ks rs ws ss) (i v : Nat) : Mem5 w (wr.setCell ⟨b4, i, none⟩ (.int .u32 (v : Nat))) b0 b1 b2 b3 b4 hs ks rs ws (ss.set i v) := by
  have o0 := m.m.o0
  have o1 := m.m.o1
  have o2 := m.m.o2
  have o3 := m.m.o3
  have o4 := m.o4
  exact ⟨⟨m.m.h.other (by omega) _, m.m.k.other (by omega) _, m.m.r.other (by omega) _, m.m.x.other (by omega) _, m.m.bel.setCell (by show w.heap.size ≤ b4; omega) _, m.m.o0, m.m.o1, m.m.o2, m.m.o3⟩, m.s.set v, m.o4⟩

theorem Mem5.drew {w wr : World} {b0 b1 b2 b3 b4 : Nat} {hs ks rs ws ss : List Nat} (m : Mem5 w wr b0 b1 b2 b3 b4 hs ks rs ws ss) : Mem5 w wr.drew b0 b1 b2 b3 b4 hs ks rs ws ss :=
  ⟨m.m.drew, m.s.drew, m.o4⟩

theorem Mem5.setH {w wr : World} {b0 b1 b2 b3 b4 : Nat} {hs ks rs ws ss : List Nat} (m : Mem5 w wr b0 b1 b2 b3 b4 hs ks rs ws ss) (i v : Nat) : Mem5 w (wr.setCell ⟨b0, i, none⟩ (.int .u32 (v : Nat))) b0 b1 b2 b3 b4 (hs.set i v) ks rs ws ss := by
  have o0 := m.m.o0
  have o1 := m.m.o1
  have o2 := m.m.o2
  have o3 := m.m.o3
  have o4 := m.o4
  exact ⟨⟨m.m.h.set v, m.m.k.other (by omega) _, m.m.r.other (by omega) _, m.m.x.other (by omega) _, m.m.bel.setCell (by show w.heap.size ≤ b0; omega) _, m.m.o0, m.m.o1, m.m.o2, m.m.o3⟩, m.s.other (by omega) _, m.o4⟩

theorem plus_getD (s t : St) (j : Nat) (hj : j < 8) : (s.plus t).list.getD j 0 = add (s.list.getD j 0) (t.list.getD j 0) := by
  match j, hj with
  | 0, _ => rfl
  | 1, _ => rfl
  | 2, _ => rfl
  | 3, _ => rfl
  | 4, _ => rfl
  | 5, _ => rfl
  | 6, _ => rfl
  | 7, _ => rfl

theorem Mem.setX {w wr : World} {b0 b1 b2 b3 : Nat} {hs ks rs ws : List Nat} (m : Mem w wr b0 b1 b2 b3 hs ks rs ws) (i v : Nat) : Mem w (wr.setCell ⟨b3, i, none⟩ (.int .u32 (v : Nat))) b0 b1 b2 b3 hs ks rs (ws.set i v) := by
  have o1 := m.o1
  have o2 := m.o2
  have o3 := m.o3
  have o0 := m.o0
  exact ⟨m.h.other (by omega) _, m.k.other (by omega) _, m.r.other (by omega) _, m.x.set v, m.bel.setCell (by show w.heap.size ≤ b3; omega) _, m.o0, m.o1, m.o2, m.o3⟩

set_option maxRecDepth 8000 in
set_option maxHeartbeats 1000000 in
theorem block_calls (st : St) (hst : st.ok) (ks : List Nat) (hks : ks.length = 64) (hkb : ∀ j, j < 64 → ks.getD j 0 < 4294967296) (b : List UInt8) (hb : b.length = 64) (w : World) :
    Calls Tryd.prog 51 #[.agg (wordsV st.list), .string ⟨b.toArray⟩, .agg (wordsV ks)] w fun e w' => e = .returned (.agg (wordsV (st.plus (roundsN ks (sched b) 64 st)).list)) ∧ Below w.heap.size w w' := by
  obtain ⟨hs, HS⟩ : ∃ hs, Hid (hs = st.list) := ⟨_, rfl⟩
  have hhs : hs.length = 8 := by rw [HS.out]; rfl
  rw [← HS.out]
  have HKB := hide hkb
  have HST := hide hst
  have HSX := hide (fun (xs : List Nat) (h : ∀ j, j < 64 → xs.getD j 0 = (sched b).getD j 0) => roundsN_congr ks xs (sched b) 64 st h)
  clear hkb hst
  obtain ⟨S, HSS, H1, H2, H3⟩ : ∃ S : Nat → Nat, Hid (∀ j, (sched b).getD j 0 = S j) ∧ Hid (∀ j, j < 16 → S j = word b j) ∧ Hid (∀ m, m < 48 → S (m + 16) = add (add (add (S m) (sig0 (S (m + 1)))) (S (m + 9))) (sig1 (S (m + 14)))) ∧ Hid (∀ j, j < 64 → S j < 4294967296) :=
    ⟨fun j => (sched b).getD j 0, fun _ => rfl, sched_first b, sched_next b, sched_lt b⟩
  have HSY := hide (fun (xs : List Nat) (h : ∀ j, j < 64 → xs.getD j 0 = S j) => HSX.out xs (fun j hj => (h j hj).trans (HSS.out j).symm))
  clear HSX HSS
  obtain ⟨R, HR⟩ : ∃ R, Hid (R = st.plus (roundsN ks (sched b) 64 st)) := ⟨_, rfl⟩
  rw [← HR.out]
  have HSZ := hide (fun (xs : List Nat) (h : ∀ j, j < 64 → xs.getD j 0 = S j) => (show st.plus (roundsN ks xs 64 st) = R by rw [HR.out, HSY.out xs h]))
  clear HSY HR
  have hz64 := (zero_of_info zero64).1
  have hz8 := (zero_of_info zero8).1
  obtain ⟨HV, hHV⟩ : ∃ HV, HV = wordsV hs := ⟨_, rfl⟩
  obtain ⟨KV, hKV⟩ : ∃ KV, KV = wordsV ks := ⟨_, rfl⟩
  obtain ⟨Z64, hZ64⟩ : ∃ Z, Z = wordsV nil64 := ⟨_, rfl⟩
  obtain ⟨Z8, hZ8⟩ : ∃ Z, Z = wordsV nil8 := ⟨_, rfl⟩
  have hb64 := built64
  rw [← hZ64] at hz64 hb64
  rw [← hZ8] at hz8
  rw [← hHV, ← hKV]
  have HH := hide hHV
  have HK := hide hKV
  have HZ := hide hZ64
  have HY := hide hZ8
  have Hz64 := hide hz64
  have Hz8 := hide hz8
  have Hb64 := hide hb64
  clear hHV hKV hZ64 hZ8 hz64 hz8 hb64
  go_enter Tryd.func51, Tryd.ntmps51
  go_wp2_with (first | (refine wpList_box_agg rfl 71 (.tmp 0) rfl HV rfl ?_) | (refine wpList_box_agg rfl 76 (.tmp 2) rfl KV rfl ?_) | (refine wpList_alloc_agg rfl 71 rfl Z8 Hz8.out ?_) | (refine wpList_alloc_agg rfl 76 rfl Z64 Hz64.out ?_) | (refine wpList_build_nil rfl 76 rfl Z64 Hb64.out ?_) | (refine wpList_store_last rfl 76 (.tmp 7) (.tmp 21) rfl Z64 Z64 rfl rfl (by rw [HZ.out]; exact (zero_of_info zero64).2) rfl (by rw [HZ.out]; exact wordsV_one _) ?_))
  have hm0 := Mem.start w hs ks 71 76
  rw [← HH.out, ← HK.out, ← HZ.out, ← HY.out] at hm0
  obtain ⟨b3, hb3⟩ : ∃ b3, b3 = w.heap.size + 1 + 1 + 1 := ⟨_, rfl⟩
  rw [← hb3] at hm0 ⊢
  obtain ⟨b2, hb2⟩ : ∃ b2, b2 = w.heap.size + 1 + 1 := ⟨_, rfl⟩
  rw [← hb2] at hm0 ⊢
  obtain ⟨b1, hb1⟩ : ∃ b1, b1 = w.heap.size + 1 := ⟨_, rfl⟩
  rw [← hb1] at hm0 ⊢
  obtain ⟨b0, hb0⟩ : ∃ b0, b0 = w.heap.size := ⟨_, rfl⟩
  rw [← hb0]
  have hm1 : Mem w ((((w.alloc (.cells HV 71)).alloc (.cells KV 76)).alloc (.cells Z8 71)).alloc (.cells Z64 76)) b0 b1 b2 b3 hs ks nil8 nil64 := by rw [hb0]; exact hm0
  clear hm0 hb0 hb1 hb2 hb3 HH HK HZ HY Hz64 Hz8 Hb64
  generalize (((w.alloc (.cells HV 71)).alloc (.cells KV 76)).alloc (.cells Z8 71)).alloc (.cells Z64 76) = w1 at hm1
  have HM := hide hm1
  clear hm1
  go_loopw [8] (fun i wr => ∃ k : Nat, ∃ xs : List Nat, k ≤ 16 ∧ i = .int .i64 k ∧ xs.length = 64 ∧ (∀ j, j < k → xs.getD j 0 = word b j) ∧ Mem w wr b0 b1 b2 b3 hs ks nil8 xs) (fun i _ => 16 - (intOf i).toNat)
  case atStart => exact ⟨0, nil64, by omega, rfl, rfl, by simp, HM.out⟩
  case round =>
    clear HM
    obtain ⟨k, xs, hk, rfl, hxl, hxs, hm⟩ := hrel
    have HM := hide hm
    have HX := hide hxs
    clear hm hxs
    by_cases hk16 : k < 16
    · go_wp2
      refine wp_region_tail 31 (fun wd => Mem w wd b0 b1 b2 b3 hs ks nil8 xs) HM.out.drew (by kernel_rfl) (by kernel_rfl) ?_
      clear HM
      intro wd hm
      have HM := hide hm
      clear hm
      simp only [List.take_succ_cons, List.take_zero, List.drop_succ_cons, List.drop_zero]
      have i0 := index_byte b (4 * (k : Int)) (4 * k) (by omega) (by omega)
      have i1 := index_byte b (4 * (k : Int) + 1) (4 * k + 1) (by omega) (by omega)
      have i2 := index_byte b (4 * (k : Int) + 2) (4 * k + 2) (by omega) (by omega)
      have i3 := index_byte b (4 * (k : Int) + 3) (4 * k + 3) (by omega) (by omega)
      have HW : Hid (word b k = (b.getD (4 * k) 0).toNat * 16777216 + (b.getD (4 * k + 1) 0).toNat * 65536 + (b.getD (4 * k + 2) 0).toNat * 256 + (b.getD (4 * k + 3) 0).toNat) := rfl
      have c0 := (b.getD (4 * k) 0).toNat_lt
      have c1 := (b.getD (4 * k + 1) 0).toNat_lt
      have c2 := (b.getD (4 * k + 2) 0).toNat_lt
      have c3 := (b.getD (4 * k + 3) 0).toNat_lt
      generalize (b.getD (4 * k) 0).toNat = y0 at *
      generalize (b.getD (4 * k + 1) 0).toNat = y1 at *
      generalize (b.getD (4 * k + 2) 0).toNat = y2 at *
      generalize (b.getD (4 * k + 3) 0).toNat = y3 at *
      repeat (go_big_quiet_step (fail))
      refine wpQuiet_nil ?_
      have hc := HM.out.x.cell k (by omega)
      have hf := HM.out.x.free k
      clear i0 i1 i2 i3
      go_wp2
      go_roundw
      case rel =>
        refine ⟨k + 1, xs.set k (word b k), by omega, by go_num, by simpa using hxl, ?_, ?_⟩
        · intro j hj
          by_cases e : k = j
          · subst e; exact P1.getD_set_eq _ _ _ (by omega)
          · rw [P1.getD_set_ne _ _ _ _ e]; exact HX.out j (by omega)
        · rw [or_word _ _ _ _ c0 c1 c2 c3, ← HW.out]
          exact HM.out.setX k (word b k)
      case measure => simp [intOf]; omega
    · have HX16 := hide (fun j (hj : j < 16) => (HX.out j (by omega)).trans (H1.out j hj).symm)
      clear HX
      go_wp2
      clear hk hk16
      go_loopw [9] (fun i wr => ∃ m : Nat, ∃ xs : List Nat, m ≤ 48 ∧ i = .int .i64 ((m : Int) + 16) ∧ xs.length = 64 ∧ (∀ j, j < m + 16 → xs.getD j 0 = S j) ∧ Mem w wr b0 b1 b2 b3 hs ks nil8 xs) (fun i _ => 64 - (intOf i).toNat)
      case atStart => exact ⟨0, xs, by omega, rfl, hxl, fun j hj => HX16.out j (by omega), HM.out⟩
      case round =>
        clear HM HX16 hxl
        obtain ⟨m, xs, hm48, rfl, hxl, hxs, hm⟩ := hrel
        have HM := hide hm
        have HX := hide hxs
        clear hm hxs
        by_cases hlt : m < 48
        · have hc1 := HM.out.x.cell (m + 1) (by omega)
          have hc14 := HM.out.x.cell (m + 14) (by omega)
          rw [HX.out (m + 1) (by omega)] at hc1
          rw [HX.out (m + 14) (by omega)] at hc14
          have hx1 := H3.out (m + 1) (by omega)
          have hx14 := H3.out (m + 14) (by omega)
          obtain ⟨x1, e1⟩ : ∃ x1, x1 = S (m + 1) := ⟨_, rfl⟩
          obtain ⟨x14, e14⟩ : ∃ x14, x14 = S (m + 14) := ⟨_, rfl⟩
          rw [← e1] at hc1 hx1
          rw [← e14] at hc14 hx14
          have E1 := hide e1
          have E14 := hide e14
          clear e1 e14
          go_wp2
          refine wp_region_quiet_lit (by kernel_rfl) (by kernel_rfl) ?_
          repeat (go_big_quiet_step (fail))
          go_big_quiet_step (exact Calls.quiet_of_same (turn_calls x1 hx1 7 (by decide) (by decide) _))
          repeat (go_big_quiet_step (fail))
          go_big_quiet_step (exact Calls.quiet_of_same (turn_calls x1 hx1 18 (by decide) (by decide) _))
          repeat (go_big_quiet_step (fail))
          refine wpQuiet_nil ?_
          intro _ hw'
          obtain ⟨nq, hw''⟩ := hw'
          subst hw''
          obtain ⟨s0, hs0e⟩ : ∃ s0, s0 = sig0 x1 := ⟨_, rfl⟩
          have hs0 := sig0_lt x1 hx1
          rw [sig0_bits x1 hx1, ← hs0e]
          rw [← hs0e] at hs0
          have ES0 := hide hs0e
          clear hs0e hc1 hc14
          obtain ⟨wr2, hwr2⟩ : ∃ wr2, wr2 = wr.drewN nq := ⟨_, rfl⟩
          have hm2 : Mem w wr2 b0 b1 b2 b3 hs ks nil8 xs := by rw [hwr2]; exact HM.out.drewN nq
          rw [← hwr2]
          clear HM hwr2
          have HM := hide hm2
          have hc14 := hm2.x.cell (m + 14) (by omega)
          rw [HX.out (m + 14) (by omega), ← E14.out] at hc14
          clear hm2
          go_wp2
          refine wp_region_quiet_lit (by kernel_rfl) (by kernel_rfl) ?_
          repeat (go_big_quiet_step (fail))
          go_big_quiet_step (exact Calls.quiet_of_same (turn_calls x14 hx14 17 (by decide) (by decide) _))
          repeat (go_big_quiet_step (fail))
          go_big_quiet_step (exact Calls.quiet_of_same (turn_calls x14 hx14 19 (by decide) (by decide) _))
          repeat (go_big_quiet_step (fail))
          refine wpQuiet_nil ?_
          intro _ hw'
          obtain ⟨nq, hw''⟩ := hw'
          subst hw''
          obtain ⟨s1, hs1e⟩ : ∃ s1, s1 = sig1 x14 := ⟨_, rfl⟩
          have hs1 := sig1_lt x14 hx14
          rw [sig1_bits x14 hx14, ← hs1e]
          rw [← hs1e] at hs1
          have ES1 := hide hs1e
          clear hs1e
          go_wp2
          refine wp_region_tail 15 (fun wd => Mem w wd b0 b1 b2 b3 hs ks nil8 xs) (HM.out.drewN _).drew (by kernel_rfl) (by kernel_rfl) ?_
          clear HM hc14
          intro wd hm
          have HM := hide hm
          clear hm
          have hc0 := HM.out.x.cell m (by omega)
          have hc9 := HM.out.x.cell (m + 9) (by omega)
          rw [HX.out m (by omega)] at hc0
          rw [HX.out (m + 9) (by omega)] at hc9
          have hx0 := H3.out m (by omega)
          have hx9 := H3.out (m + 9) (by omega)
          obtain ⟨x0, e0⟩ : ∃ x0, x0 = S m := ⟨_, rfl⟩
          obtain ⟨x9, e9⟩ : ∃ x9, x9 = S (m + 9) := ⟨_, rfl⟩
          rw [← e0] at hc0 hx0
          rw [← e9] at hc9 hx9
          have E0 := hide e0
          have E9 := hide e9
          clear e0 e9
          simp only [List.take_succ_cons, List.take_zero, List.drop_succ_cons, List.drop_zero]
          repeat (go_big_quiet_step (fail))
          refine wpQuiet_nil ?_
          have hcx := HM.out.x.cell (m + 16) (by omega)
          have hfx := HM.out.x.free (m + 16)
          go_wp2
          go_roundw
          case rel =>
            refine ⟨m + 1, xs.set (m + 16) (S (m + 16)), by omega, by go_num, by simpa using hxl, ?_, ?_⟩
            · intro j hj
              by_cases e : m + 16 = j
              · subst e; exact P1.getD_set_eq _ _ _ (by omega)
              · rw [P1.getD_set_ne _ _ _ _ e]; exact HX.out j (by omega)
            · have hv : (((x0 : Int) + (s0 : Int) + (x9 : Int) + (s1 : Int)) % 4294967296) = ((S (m + 16) : Nat) : Int) := by
                rw [H2.out m hlt, ← E1.out, ← E14.out, ← E0.out, ← E9.out, ← ES0.out, ← ES1.out, add4]
                omega
              rw [hv]
              exact HM.out.setX (m + 16) (S (m + 16))
          case measure => simp [intOf]; omega
        · have HX64 := hide (fun j (hj : j < 64) => HX.out j (by omega))
          clear HX
          have hh0 := HM.out.h.cell 0 (by omega)
          have hh1 := HM.out.h.cell 1 (by omega)
          have hh2 := HM.out.h.cell 2 (by omega)
          have hh3 := HM.out.h.cell 3 (by omega)
          have hh4 := HM.out.h.cell 4 (by omega)
          have hh5 := HM.out.h.cell 5 (by omega)
          have hh6 := HM.out.h.cell 6 (by omega)
          have hh7 := HM.out.h.cell 7 (by omega)
          rw [HS.out] at hh0 hh1 hh2 hh3 hh4 hh5 hh6 hh7
          simp only [St.list, List.getD_cons_zero, List.getD_cons_succ] at hh0 hh1 hh2 hh3 hh4 hh5 hh6 hh7
          go_wp2
          obtain ⟨w2, hw2⟩ : ∃ w2, w2 = wr.alloc (.cells #[.int .u32 (st.a : Int), .int .u32 (st.b : Int), .int .u32 (st.c : Int), .int .u32 (st.d : Int), .int .u32 (st.e : Int), .int .u32 (st.f : Int), .int .u32 (st.g : Int), .int .u32 (st.h : Int)] 71) := ⟨_, rfl⟩
          obtain ⟨b4, hb4⟩ : ∃ b4, b4 = wr.heap.size := ⟨_, rfl⟩
          rw [← hw2, ← hb4]
          have hm5 : Mem5 w w2 b0 b1 b2 b3 b4 hs ks nil8 xs st.list := by rw [hw2, hb4]; exact Mem5.start HM.out _ _ _ rfl
          have HM5 := hide hm5
          clear hm5 hw2 hb4 HM hh0 hh1 hh2 hh3 hh4 hh5 hh6 hh7 hlt hm48
          go_loopw [13] (fun i wr => ∃ n : Nat, n ≤ 64 ∧ i = .int .i64 n ∧ Mem5 w wr b0 b1 b2 b3 b4 hs ks nil8 xs (roundsN ks xs n st).list) (fun i _ => 64 - (intOf i).toNat)
          case atStart => exact ⟨0, by omega, rfl, HM5.out⟩
          case round =>
            clear HM5
            obtain ⟨n, hn, rfl, hm⟩ := hrel
            have HM := hide hm
            clear hm
            have HOK := hide (roundsN_ok ks xs n st HST.out)
            by_cases hlt : n < 64
            · have HRN : Hid (roundsN ks xs (n + 1) st = round1 (roundsN ks xs n st) (ks.getD n 0) (xs.getD n 0)) := rfl
              obtain ⟨t, Et⟩ : ∃ t, Hid (t = roundsN ks xs n st) := ⟨_, rfl⟩
              rw [← Et.out] at HM HOK HRN
              obtain ⟨kn, EK⟩ : ∃ kn, Hid (kn = ks.getD n 0) := ⟨_, rfl⟩
              obtain ⟨wn, EW⟩ : ∃ wn, Hid (wn = xs.getD n 0) := ⟨_, rfl⟩
              rw [← EK.out, ← EW.out] at HRN
              have hkn : kn < 4294967296 := by rw [EK.out]; exact HKB.out n hlt
              have hwn : wn < 4294967296 := by rw [EW.out, HX64.out n hlt]; exact H3.out n hlt
              obtain ⟨o0, o1, o2, o3, o4, o5, o6, o7⟩ := HOK.out
              have c0 := HM.out.s.cell 0 (by show 0 < 8; omega)
              have c1 := HM.out.s.cell 1 (by show 1 < 8; omega)
              have c2 := HM.out.s.cell 2 (by show 2 < 8; omega)
              have c3 := HM.out.s.cell 3 (by show 3 < 8; omega)
              have c4 := HM.out.s.cell 4 (by show 4 < 8; omega)
              have c5 := HM.out.s.cell 5 (by show 5 < 8; omega)
              have c6 := HM.out.s.cell 6 (by show 6 < 8; omega)
              have c7 := HM.out.s.cell 7 (by show 7 < 8; omega)
              simp only [St.list, List.getD_cons_zero, List.getD_cons_succ] at c0 c1 c2 c3 c4 c5 c6 c7
              have ck := HM.out.m.k.cell n (by omega)
              have cw := HM.out.m.x.cell n (by omega)
              rw [← EK.out] at ck
              rw [← EW.out] at cw
              clear Et
              go_wp2
              refine wp_region_quiet_lit (by kernel_rfl) (by kernel_rfl) ?_
              repeat (go_big_quiet_step (fail))
              go_big_quiet_step (exact Calls.quiet_of_same (turn_calls t.e o4 6 (by decide) (by decide) _))
              repeat (go_big_quiet_step (fail))
              go_big_quiet_step (exact Calls.quiet_of_same (turn_calls t.e o4 11 (by decide) (by decide) _))
              repeat (go_big_quiet_step (fail))
              go_big_quiet_step (exact Calls.quiet_of_same (turn_calls t.e o4 25 (by decide) (by decide) _))
              repeat (go_big_quiet_step (fail))
              refine wpQuiet_nil ?_
              intro _ hw'
              obtain ⟨nq, hw''⟩ := hw'
              subst hw''
              obtain ⟨w3, hwn⟩ : ∃ wn, wn = wr.drewN nq := ⟨_, rfl⟩
              have hmn : Mem5 w w3 b0 b1 b2 b3 b4 hs ks nil8 xs t.list := by rw [hwn]; exact HM.out.drewN nq
              rw [← hwn]
              clear HM hwn c0 c1 c2 c3 c4 c5 c6 c7 ck cw
              have HM := hide hmn
              clear hmn
              have c0 := HM.out.s.cell 0 (by show 0 < 8; omega)
              have c1 := HM.out.s.cell 1 (by show 1 < 8; omega)
              have c2 := HM.out.s.cell 2 (by show 2 < 8; omega)
              have c3 := HM.out.s.cell 3 (by show 3 < 8; omega)
              have c4 := HM.out.s.cell 4 (by show 4 < 8; omega)
              have c5 := HM.out.s.cell 5 (by show 5 < 8; omega)
              have c6 := HM.out.s.cell 6 (by show 6 < 8; omega)
              have c7 := HM.out.s.cell 7 (by show 7 < 8; omega)
              simp only [St.list, List.getD_cons_zero, List.getD_cons_succ] at c0 c1 c2 c3 c4 c5 c6 c7
              have ck := HM.out.m.k.cell n (by omega)
              have cw := HM.out.m.x.cell n (by omega)
              rw [← EK.out] at ck
              rw [← EW.out] at cw
              obtain ⟨y1, hne⟩ : ∃ z, z = Sig1 t.e := ⟨_, rfl⟩
              have hy1 := Sig1_lt t.e o4
              rw [Sig1_bits t.e o4, ← hne]
              rw [← hne] at hy1
              have Ey1 := hide hne
              clear hne
              go_wp2
              obtain ⟨y2, hne⟩ : ∃ z, z = ch t.e t.f t.g := ⟨_, rfl⟩
              have hy2 := ch_lt t.e t.f t.g o4
              rw [ch_bits t.e t.f t.g o4 o5 o6, ← hne]
              rw [← hne] at hy2
              have Ey2 := hide hne
              clear hne
              refine wp_region_quiet_lit (by kernel_rfl) (by kernel_rfl) ?_
              repeat (go_big_quiet_step (fail))
              refine wpQuiet_nil ?_
              intro _ hw'
              obtain ⟨nq, hw''⟩ := hw'
              subst hw''
              obtain ⟨w4, hwn⟩ : ∃ wn, wn = w3.drewN nq := ⟨_, rfl⟩
              have hmn : Mem5 w w4 b0 b1 b2 b3 b4 hs ks nil8 xs t.list := by rw [hwn]; exact HM.out.drewN nq
              rw [← hwn]
              clear HM hwn c0 c1 c2 c3 c4 c5 c6 c7 ck cw
              have HM := hide hmn
              clear hmn
              have c0 := HM.out.s.cell 0 (by show 0 < 8; omega)
              have c1 := HM.out.s.cell 1 (by show 1 < 8; omega)
              have c2 := HM.out.s.cell 2 (by show 2 < 8; omega)
              have c3 := HM.out.s.cell 3 (by show 3 < 8; omega)
              have c4 := HM.out.s.cell 4 (by show 4 < 8; omega)
              have c5 := HM.out.s.cell 5 (by show 5 < 8; omega)
              have c6 := HM.out.s.cell 6 (by show 6 < 8; omega)
              have c7 := HM.out.s.cell 7 (by show 7 < 8; omega)
              simp only [St.list, List.getD_cons_zero, List.getD_cons_succ] at c0 c1 c2 c3 c4 c5 c6 c7
              have ck := HM.out.m.k.cell n (by omega)
              have cw := HM.out.m.x.cell n (by omega)
              rw [← EK.out] at ck
              rw [← EW.out] at cw
              obtain ⟨y3, hy3e⟩ : ∃ z, z = add (add (add (add t.h y1) y2) kn) wn := ⟨_, rfl⟩
              have hy3 : y3 < 4294967296 := by rw [hy3e]; exact add_lt _ _
              have hv3 : ((((t.h : Int) + (y1 : Int) + (y2 : Int) + (kn : Int)) % 4294967296 + (wn : Int)) % 4294967296) = ((y3 : Nat) : Int) := by rw [hy3e, add5]; omega
              have Ey3 := hide hy3e
              clear hy3e
              go_wp2
              rw [hv3]
              clear hv3
              refine wp_region_quiet_lit (by kernel_rfl) (by kernel_rfl) ?_
              repeat (go_big_quiet_step (fail))
              go_big_quiet_step (exact Calls.quiet_of_same (turn_calls t.a o0 2 (by decide) (by decide) _))
              repeat (go_big_quiet_step (fail))
              go_big_quiet_step (exact Calls.quiet_of_same (turn_calls t.a o0 13 (by decide) (by decide) _))
              repeat (go_big_quiet_step (fail))
              go_big_quiet_step (exact Calls.quiet_of_same (turn_calls t.a o0 22 (by decide) (by decide) _))
              repeat (go_big_quiet_step (fail))
              refine wpQuiet_nil ?_
              intro _ hw'
              obtain ⟨nq, hw''⟩ := hw'
              subst hw''
              obtain ⟨w5, hwn⟩ : ∃ wn, wn = w4.drewN nq := ⟨_, rfl⟩
              have hmn : Mem5 w w5 b0 b1 b2 b3 b4 hs ks nil8 xs t.list := by rw [hwn]; exact HM.out.drewN nq
              rw [← hwn]
              clear HM hwn c0 c1 c2 c3 c4 c5 c6 c7 ck cw
              have HM := hide hmn
              clear hmn
              have c0 := HM.out.s.cell 0 (by show 0 < 8; omega)
              have c1 := HM.out.s.cell 1 (by show 1 < 8; omega)
              have c2 := HM.out.s.cell 2 (by show 2 < 8; omega)
              have c3 := HM.out.s.cell 3 (by show 3 < 8; omega)
              have c4 := HM.out.s.cell 4 (by show 4 < 8; omega)
              have c5 := HM.out.s.cell 5 (by show 5 < 8; omega)
              have c6 := HM.out.s.cell 6 (by show 6 < 8; omega)
              have c7 := HM.out.s.cell 7 (by show 7 < 8; omega)
              simp only [St.list, List.getD_cons_zero, List.getD_cons_succ] at c0 c1 c2 c3 c4 c5 c6 c7
              have ck := HM.out.m.k.cell n (by omega)
              have cw := HM.out.m.x.cell n (by omega)
              rw [← EK.out] at ck
              rw [← EW.out] at cw
              obtain ⟨y4, hne⟩ : ∃ z, z = Sig0 t.a := ⟨_, rfl⟩
              have hy4 := Sig0_lt t.a o0
              rw [Sig0_bits t.a o0, ← hne]
              rw [← hne] at hy4
              have Ey4 := hide hne
              clear hne
              have hmj := maj_bits t.a t.b t.c o0 o1 o2
              obtain ⟨y5, hy5e⟩ : ∃ z, z = maj t.a t.b t.c := ⟨_, rfl⟩
              have hy5 := maj_lt t.a t.b t.c o0 o1
              rw [← hy5e] at hmj hy5
              have Ey5 := hide hy5e
              clear hy5e
              have hf := HM.out.s.free
              go_wp2
              go_roundw
              case rel =>
                refine ⟨n + 1, by omega, by go_num, ?_⟩
                have e1 : (((t.d : Int) + (y3 : Int)) % 4294967296) = ((add t.d y3 : Nat) : Int) := by unfold add; omega
                have e2 : (((y3 : Int) + ((y4 : Int) + (y5 : Int))) % 4294967296) = ((add y3 (add y4 y5) : Nat) : Int) := by unfold add; omega
                rw [e1, e2]
                have hl : (round1 t kn wn).list = (((((((t.list.set 7 t.g).set 6 t.f).set 5 t.e).set 4 (add t.d y3)).set 3 t.c).set 2 t.b).set 1 t.a).set 0 (add y3 (add y4 y5)) := by
                  rw [Ey3.out, Ey1.out, Ey2.out, Ey4.out, Ey5.out]
                  rfl
                rw [HRN.out, hl]
                exact (((((((HM.out.setS 7 t.g).setS 6 t.f).setS 5 t.e).setS 4 (add t.d y3)).setS 3 t.c).setS 2 t.b).setS 1 t.a).setS 0 (add y3 (add y4 y5))
              case measure => simp [intOf]; omega
            · have hn64 : n = 64 := by omega
              rw [hn64] at HM HOK
              obtain ⟨t, Et⟩ : ∃ t, Hid (t = roundsN ks xs 64 st) := ⟨_, rfl⟩
              rw [← Et.out] at HM HOK
              have hpl : st.plus t = R := by rw [Et.out]; exact HSZ.out xs HX64.out
              have HPL := hide (fun j (hj : j < 8) => (show R.list.getD j 0 = add (st.list.getD j 0) (t.list.getD j 0) by rw [← hpl]; exact plus_getD st t j hj))
              clear hpl Et hn64
              go_wp2
              clear hlt hn
              go_loopw [20] (fun i wr => ∃ n : Nat, ∃ hl : List Nat, n ≤ 8 ∧ i = .int .i64 n ∧ hl.length = 8 ∧ (∀ j, j < n → hl.getD j 0 = R.list.getD j 0) ∧ (∀ j, n ≤ j → hl.getD j 0 = st.list.getD j 0) ∧ Mem5 w wr b0 b1 b2 b3 b4 hl ks nil8 xs t.list) (fun i _ => 8 - (intOf i).toNat)
              case atStart => exact ⟨0, hs, by omega, rfl, hhs, by simp, fun j _ => by rw [HS.out], HM.out⟩
              case round =>
                clear HM
                obtain ⟨n, hl, hn, rfl, hll, hdone, hleft, hm⟩ := hrel
                have HM := hide hm
                have HD := hide hdone
                have HL := hide hleft
                clear hm hdone hleft
                by_cases hlt : n < 8
                · go_wp2
                  refine wp_region_tail 9 (fun wd => Mem5 w wd b0 b1 b2 b3 b4 hl ks nil8 xs t.list) HM.out.drew (by kernel_rfl) (by kernel_rfl) ?_
                  clear HM
                  intro wd hm
                  have HM := hide hm
                  clear hm
                  have c0 := HM.out.m.h.cell n (by omega)
                  have c1 := HM.out.s.cell n (by show n < 8; omega)
                  rw [HL.out n (Nat.le_refl _)] at c0
                  have hp := HPL.out n hlt
                  obtain ⟨x0, e0⟩ : ∃ x0, x0 = st.list.getD n 0 := ⟨_, rfl⟩
                  obtain ⟨x1, e1⟩ : ∃ x1, x1 = t.list.getD n 0 := ⟨_, rfl⟩
                  obtain ⟨x2, e2⟩ : ∃ x2, x2 = R.list.getD n 0 := ⟨_, rfl⟩
                  rw [← e0] at c0 hp
                  rw [← e1] at c1 hp
                  rw [← e2] at hp
                  have HP := hide hp
                  have E2 := hide e2
                  clear hp e0 e1 e2
                  simp only [List.take_succ_cons, List.take_zero, List.drop_succ_cons, List.drop_zero]
                  repeat (go_big_quiet_step (fail))
                  refine wpQuiet_nil ?_
                  have hf := HM.out.m.h.free n
                  go_wp2
                  go_roundw
                  case rel =>
                    have ev : (((x0 : Int) + (x1 : Int)) % 4294967296) = ((x2 : Nat) : Int) := by rw [HP.out]; unfold add; omega
                    rw [ev]
                    refine ⟨n + 1, hl.set n x2, by omega, by go_num, by simpa using hll, ?_, ?_, HM.out.setH n x2⟩
                    · intro j hj
                      by_cases e : n = j
                      · subst e; rw [P1.getD_set_eq _ _ _ (by omega)]; exact E2.out
                      · rw [P1.getD_set_ne _ _ _ _ e]; exact HD.out j (by omega)
                    · intro j hj
                      rw [P1.getD_set_ne _ _ _ _ (by omega)]; exact HL.out j (by omega)
                  case measure => simp [intOf]; omega
                · have HR8 := hide (fun j (hj : j < 8) => HD.out j (by omega))
                  have d0 := HM.out.m.h.cell 0 (by omega)
                  have d1 := HM.out.m.h.cell 1 (by omega)
                  have d2 := HM.out.m.h.cell 2 (by omega)
                  have d3 := HM.out.m.h.cell 3 (by omega)
                  have d4 := HM.out.m.h.cell 4 (by omega)
                  have d5 := HM.out.m.h.cell 5 (by omega)
                  have d6 := HM.out.m.h.cell 6 (by omega)
                  have d7 := HM.out.m.h.cell 7 (by omega)
                  rw [HR8.out 0 (by omega)] at d0
                  rw [HR8.out 1 (by omega)] at d1
                  rw [HR8.out 2 (by omega)] at d2
                  rw [HR8.out 3 (by omega)] at d3
                  rw [HR8.out 4 (by omega)] at d4
                  rw [HR8.out 5 (by omega)] at d5
                  rw [HR8.out 6 (by omega)] at d6
                  rw [HR8.out 7 (by omega)] at d7
                  simp only [St.list, List.getD_cons_zero, List.getD_cons_succ] at d0 d1 d2 d3 d4 d5 d6 d7
                  have r0 := HM.out.m.r.cell 0 (by decide)
                  have r1 := HM.out.m.r.cell 1 (by decide)
                  have r2 := HM.out.m.r.cell 2 (by decide)
                  have r3 := HM.out.m.r.cell 3 (by decide)
                  have r4 := HM.out.m.r.cell 4 (by decide)
                  have r5 := HM.out.m.r.cell 5 (by decide)
                  have r6 := HM.out.m.r.cell 6 (by decide)
                  have r7 := HM.out.m.r.cell 7 (by decide)
                  have hf := HM.out.m.r.free
                  have hbl := HM.out.m.bel
                  have HBL := hide hbl
                  have hw2 : w.heap.size ≤ b2 := by have := HM.out.m.o0; have := HM.out.m.o1; have := HM.out.m.o2; omega
                  clear hbl HM HR8 HD HL
                  go_wp2
                  refine bodyPost_ret (v := .agg #[.int .u32 (R.a : Int), .int .u32 (R.b : Int), .int .u32 (R.c : Int), .int .u32 (R.d : Int), .int .u32 (R.e : Int), .int .u32 (R.f : Int), .int .u32 (R.g : Int), .int .u32 (R.h : Int)]) (by simp [results, Tryd.results51, go_sem, r0, r1, r2, r3, r4, r5, r6, r7]) rfl ⟨rfl, ?_⟩
                  exact (((((((HBL.out.setCell hw2 _).setCell hw2 _).setCell hw2 _).setCell hw2 _).setCell hw2 _).setCell hw2 _).setCell hw2 _).setCell hw2 _
end Go.Proofs.YtflicklgmhgpiaaDoor.P3
namespace Go.Proofs.YtflicklgmhgpiaaDoor.P3
set_option maxRecDepth 8000
open Go.RowKit P1

theorem size64 : (Tryd.prog.info? 76).map (·.size) = some 64 := by kernel_rfl
theorem size8 : (Tryd.prog.info? 71).map (·.size) = some 8 := by kernel_rfl
theorem arr64 : Tryd.prog.underlying 76 = some (.array 64 70) := by kernel_rfl
theorem arr8 : Tryd.prog.underlying 71 = some (.array 8 70) := by kernel_rfl

theorem keys_length : keys.length = 64 := rfl

theorem keys_lt (j : Nat) (hj : j < 64) : keys.getD j 0 < 4294967296 := by
  have h : ∀ j : Fin 64, keys.getD j.val 0 < 4294967296 := by decide +kernel
  exact h ⟨j, hj⟩

theorem start_ok : start.ok := by unfold St.ok start; decide

/-- The end of a call whose one result lies in the block that was made last. -/
theorem ret_last {P : Program} {fn : Func} {p : Tmp} {t : TypeId} {K : Ending → World → Prop} {a : Act} {w : World} {c : Array Value} {n : Nat} {e : TypeId} (hr : fn.results = #[.cell p t]) (hd : a.defers = [])
    (hp : a.tmps.getD p undef = .pointer (some ⟨w.heap.size, 0, none⟩)) (hu : P.underlying t = some (.array n e)) (hi : (P.info? t).map (·.size) = some c.size)
    (h : K (.returned (.agg c)) (w.alloc (.cells c t))) : bodyPost P fn K .ret a (w.alloc (.cells c t)) := by
  refine bodyPost_ret (v := .agg c) ?_ hd h
  rw [results_cell1 hr, hp]
  simp only [asAddr, Sem.run_pure, Result.andThen_ok]
  exact run_loadVar_new w t c n e hu hi

set_option maxRecDepth 8000 in
set_option maxHeartbeats 400000 in
theorem keys_calls (w : World) : Calls Tryd.prog 49 #[] w fun e w' => e = .returned (.agg (wordsV keys)) ∧ Below w.heap.size w w' := by
  have hz64 := (zero_of_info zero64).1
  obtain ⟨Z64, hZ64⟩ : ∃ Z, Z = wordsV nil64 := ⟨_, rfl⟩
  obtain ⟨KV, hKV⟩ : ∃ Z, Z = wordsV keys := ⟨_, rfl⟩
  rw [← hZ64] at hz64
  rw [← hKV]
  have hs1 : Z64.size = 64 := by rw [hZ64]; rfl
  have hs2 : KV.size = 64 := by rw [hKV]; rfl
  have ho : KV.all (·.oneCell') = true := by rw [hKV]; exact wordsV_one _
  have Hz := hide hz64
  have HK := hide hKV
  clear hz64 hZ64 hKV
  go_enter Tryd.func49, Tryd.ntmps49
  go_wp2_with (first | (refine wpList_alloc_agg rfl 76 rfl Z64 Hz.out ?_) | (refine wpList_build_agg rfl 76 _ rfl KV (by rw [HK.out]; kernel_rfl) ?_) | (refine wpList_store_last rfl 76 (.tmp 0) (.tmp 1) rfl Z64 KV rfl rfl (by rw [hs2]; exact size64) (by rw [hs1, hs2]) ho ?_))
  exact ret_last rfl rfl rfl arr64 (by rw [hs2]; exact size64) ⟨rfl, (Below.refl _ _).alloc (Nat.le_refl _) _⟩

set_option maxHeartbeats 400000 in
theorem first_calls (w : World) : Calls Tryd.prog 48 #[] w fun e w' => e = .returned (.agg (wordsV start.list)) ∧ Below w.heap.size w w' := by
  go_enter Tryd.func48, Tryd.ntmps48
  go_wp2
  exact ret_last rfl rfl rfl arr8 size8 ⟨rfl, (Below.refl _ _).alloc (Nat.le_refl _) _⟩
end Go.Proofs.YtflicklgmhgpiaaDoor.P3
namespace Go.Proofs.YtflicklgmhgpiaaDoor.P3
set_option maxRecDepth 8000
open Go.RowKit P1

def slLen : Value → Nat | .slice _ n _ => n | _ => 0

theorem info_u8 : (Tryd.prog.info? 5).map (fun i => (i.zero, i.size, i.bytes)) = some (some (.int .u8 0), 1, 1) := by kernel_rfl

/-- A text and its first pads. -/
def padK (t : List UInt8) (k : Nat) : List UInt8 := t ++ 128 :: List.replicate k 0

theorem padK_length (t : List UInt8) (k : Nat) : (padK t k).length = t.length + 1 + k := by simp [padK]; omega

theorem padK_next (t : List UInt8) (k : Nat) : padK t k ++ [0] = padK t (k + 1) := by
  simp [padK, List.replicate_succ']

theorem pad_eq (t : List UInt8) : pad t = padK t (zeros t.length) ++ lenB (8 * t.length) := by simp [pad, padK]

theorem lenB_take (n k : Nat) (hk : k < 8) : (lenB n).take k ++ [(lenB n).getD k 0] = (lenB n).take (k + 1) := by
  match k, hk with
  | 0, _ => rfl
  | 1, _ => rfl
  | 2, _ => rfl
  | 3, _ => rfl
  | 4, _ => rfl
  | 5, _ => rfl
  | 6, _ => rfl
  | 7, _ => rfl

theorem lenB_at (n k : Nat) (hk : k < 8) : ((lenB n).getD k 0).toNat = n / 2 ^ (8 * (7 - k)) % 256 := by
  match k, hk with
  | 0, _ => simp [lenB]
  | 1, _ => simp [lenB]
  | 2, _ => simp [lenB]
  | 3, _ => simp [lenB]
  | 4, _ => simp [lenB]
  | 5, _ => simp [lenB]
  | 6, _ => simp [lenB]
  | 7, _ => simp [lenB]

set_option maxHeartbeats 1000000 in
theorem specPad_calls (t : List UInt8) (ht : t.length ≤ 2097152) (w : World) :
    Calls Tryd.prog 50 #[.string ⟨t.toArray⟩] w fun e w' => e = .returned (.string ⟨(pad t).toArray⟩) ∧ Below w.heap.size w w' := by
  obtain ⟨v0, w1, hrun, hrow, hbel⟩ := RowB.of_text w (P := Tryd.prog) 9 22 5 t Tryd.underlying9 Tryd.underlying22 Tryd.underlying5
  obtain ⟨i0, hi, hz0, hz1, hz2⟩ := info_parts info_u8
  have HR := hide hrow
  have HB := hide hbel
  have HP := hide (pad_eq t)
  clear hrow hbel
  have hz64 : zeros t.length < 64 := Nat.mod_lt _ (by decide)
  obtain ⟨pd, HPD⟩ : ∃ pd, Hid (pd = pad t) := ⟨_, rfl⟩
  rw [← HPD.out] at HP ⊢
  clear HPD
  go_enter Tryd.func50, Tryd.ntmps50
  go_wp2_with (at_builtin; refine wpList_append_rowB HB.out (Nat.le_refl _) 128 rfl rfl (.tmp 8) (.tmp 9) 22 rfl 5 i0 Tryd.underlying22 hi hz0 hz1 hz2 _ _ rfl HR.out 1 rfl (by omega) ?_)
  intro v1 w2 hrow hbel
  have HR1 := hide hrow
  have HB1 := hide hbel
  clear hrow hbel HR HB hrun
  go_wp2
  go_loopw [3] (fun v wr => ∃ k : Nat, k ≤ zeros t.length ∧ RowB w.heap.size wr v (padK t k) ∧ Below w.heap.size w wr) (fun v _ => t.length + 65 - slLen v)
  case atStart => exact ⟨0, Nat.zero_le _, HR1.out, HB1.out⟩
  case round =>
    clear HR1 HB1
    obtain ⟨k, hk, hrow, hbel⟩ := hrel
    have HR := hide hrow
    have HB := hide hbel
    have hlen := padK_length t k
    obtain ⟨a0, cap, hv⟩ := hrow.len
    rw [hlen] at hv
    clear hrow hbel
    subst hv
    by_cases hlt : k < zeros t.length
    · have hd : ((((t.length + 1 + k : Nat) : Int) % 64) != 56) = true := by
        unfold zeros at hlt hz64
        simp; omega
      rw [show ((t.length + 1 + k : Nat) : Int) = (t.length : Int) + 1 + (k : Int) by omega] at hd
      go_wp2_with (at_builtin; refine wpList_append_rowB HB.out (Nat.le_refl _) 0 rfl rfl (.tmp 15) (.tmp 16) 22 rfl 5 i0 Tryd.underlying22 hi hz0 hz1 hz2 _ _ rfl HR.out 1 rfl (by omega) ?_)
      intro v2 w3 hrow hbel
      have hr2 := hrow
      rw [padK_next] at hr2
      obtain ⟨a2, cap2, hv2⟩ := hr2.len
      rw [padK_length] at hv2
      have HR2 := hide hr2
      have HB2 := hide hbel
      clear hrow hr2 hbel
      subst hv2
      go_wp2
      go_roundw
      case rel => exact ⟨k + 1, by omega, HR2.out, HB2.out⟩
      case measure => simp [slLen]; omega
    · have hk2 : k = zeros t.length := by omega
      have hd : ((((t.length + 1 + k : Nat) : Int) % 64) != 56) = false := by
        unfold zeros at hk2
        simp; omega
      rw [show ((t.length + 1 + k : Nat) : Int) = (t.length : Int) + 1 + (k : Int) by omega] at hd
      rw [← hk2] at HP
      have hk64 : k < 64 := by omega
      clear hk2 hz64 hlt hk
      go_wp2
      go_loopw [3, 5] (fun v i wr => ∃ j : Nat, j ≤ 8 ∧ i = .int .i64 (7 - (j : Int)) ∧ RowB w.heap.size wr v (padK t k ++ (lenB (8 * t.length)).take j) ∧ Below w.heap.size w wr) (fun _ i _ => (intOf i + 1).toNat)
      case atStart => exact ⟨0, by omega, rfl, by rw [List.take_zero, List.append_nil]; exact HR.out, HB.out⟩
      case round =>
        clear HR HB
        obtain ⟨j, hj, rfl, hrow, hbel⟩ := hrel
        have HR := hide hrow
        have HB := hide hbel
        obtain ⟨a1, cap1, hv⟩ := hrow.len
        have hl8 : (lenB (8 * t.length)).length = 8 := rfl
        rw [List.length_append, hlen, List.length_take, hl8, Nat.min_eq_left hj] at hv
        clear hrow hbel hd hl8
        subst hv
        by_cases hlt : j < 8
        · have hcase : j = 0 ∨ j = 1 ∨ j = 2 ∨ j = 3 ∨ j = 4 ∨ j = 5 ∨ j = 6 ∨ j = 7 := by omega
          rcases hcase with rfl | rfl | rfl | rfl | rfl | rfl | rfl | rfl
          · have hq : ((lenB (8 * t.length)).getD 0 0).toNat = 8 * t.length / 72057594037927936 % 256 := by simpa using lenB_at (8 * t.length) 0 (by decide)
            have hn := lenB_take (8 * t.length) 0 (by decide)
            have HN := hide hn
            have HQ := hide hq
            clear hn hq
            go_wp2_with (at_builtin; refine wpList_append_rowB HB.out (Nat.le_refl _) ((lenB (8 * t.length)).getD 0 0) (by have := HQ.out; omega) rfl (.tmp 25) (.tmp 32) 22 rfl 5 i0 Tryd.underlying22 hi hz0 hz1 hz2 _ _ rfl HR.out 1 rfl (by simp [padK_length, lenB]; omega) ?_)
            intro v2 w3 hrow hbel
            have hr2 : RowB w.heap.size w3 v2 (padK t k ++ (lenB (8 * t.length)).take (0 + 1)) := by
              have e := HN.out
              rw [List.getD_eq_getElem?_getD] at e
              rw [← e]
              first | exact hrow | simpa using hrow
            have HR2 := hide hr2
            clear hr2
            have HB2 := hide hbel
            clear hrow hbel
            go_wp2
            go_roundw
            case rel => exact ⟨0 + 1, by omega, by go_num, HR2.out, HB2.out⟩
            case measure => simp [intOf]
          · have hq : ((lenB (8 * t.length)).getD 1 0).toNat = 8 * t.length / 281474976710656 % 256 := by simpa using lenB_at (8 * t.length) 1 (by decide)
            have hn := lenB_take (8 * t.length) 1 (by decide)
            have HN := hide hn
            have HQ := hide hq
            clear hn hq
            go_wp2_with (at_builtin; refine wpList_append_rowB HB.out (Nat.le_refl _) ((lenB (8 * t.length)).getD 1 0) (by have := HQ.out; omega) rfl (.tmp 25) (.tmp 32) 22 rfl 5 i0 Tryd.underlying22 hi hz0 hz1 hz2 _ _ rfl HR.out 1 rfl (by simp [padK_length, lenB]; omega) ?_)
            intro v2 w3 hrow hbel
            have hr2 : RowB w.heap.size w3 v2 (padK t k ++ (lenB (8 * t.length)).take (1 + 1)) := by
              have e := HN.out
              rw [List.getD_eq_getElem?_getD] at e
              rw [← e]
              first | exact hrow | simpa using hrow
            have HR2 := hide hr2
            clear hr2
            have HB2 := hide hbel
            clear hrow hbel
            go_wp2
            go_roundw
            case rel => exact ⟨1 + 1, by omega, by go_num, HR2.out, HB2.out⟩
            case measure => simp [intOf]
          · have hq : ((lenB (8 * t.length)).getD 2 0).toNat = 8 * t.length / 1099511627776 % 256 := by simpa using lenB_at (8 * t.length) 2 (by decide)
            have hn := lenB_take (8 * t.length) 2 (by decide)
            have HN := hide hn
            have HQ := hide hq
            clear hn hq
            go_wp2_with (at_builtin; refine wpList_append_rowB HB.out (Nat.le_refl _) ((lenB (8 * t.length)).getD 2 0) (by have := HQ.out; omega) rfl (.tmp 25) (.tmp 32) 22 rfl 5 i0 Tryd.underlying22 hi hz0 hz1 hz2 _ _ rfl HR.out 1 rfl (by simp [padK_length, lenB]; omega) ?_)
            intro v2 w3 hrow hbel
            have hr2 : RowB w.heap.size w3 v2 (padK t k ++ (lenB (8 * t.length)).take (2 + 1)) := by
              have e := HN.out
              rw [List.getD_eq_getElem?_getD] at e
              rw [← e]
              first | exact hrow | simpa using hrow
            have HR2 := hide hr2
            clear hr2
            have HB2 := hide hbel
            clear hrow hbel
            go_wp2
            go_roundw
            case rel => exact ⟨2 + 1, by omega, by go_num, HR2.out, HB2.out⟩
            case measure => simp [intOf]
          · have hq : ((lenB (8 * t.length)).getD 3 0).toNat = 8 * t.length / 4294967296 % 256 := by simpa using lenB_at (8 * t.length) 3 (by decide)
            have hn := lenB_take (8 * t.length) 3 (by decide)
            have HN := hide hn
            have HQ := hide hq
            clear hn hq
            go_wp2_with (at_builtin; refine wpList_append_rowB HB.out (Nat.le_refl _) ((lenB (8 * t.length)).getD 3 0) (by have := HQ.out; omega) rfl (.tmp 25) (.tmp 32) 22 rfl 5 i0 Tryd.underlying22 hi hz0 hz1 hz2 _ _ rfl HR.out 1 rfl (by simp [padK_length, lenB]; omega) ?_)
            intro v2 w3 hrow hbel
            have hr2 : RowB w.heap.size w3 v2 (padK t k ++ (lenB (8 * t.length)).take (3 + 1)) := by
              have e := HN.out
              rw [List.getD_eq_getElem?_getD] at e
              rw [← e]
              first | exact hrow | simpa using hrow
            have HR2 := hide hr2
            clear hr2
            have HB2 := hide hbel
            clear hrow hbel
            go_wp2
            go_roundw
            case rel => exact ⟨3 + 1, by omega, by go_num, HR2.out, HB2.out⟩
            case measure => simp [intOf]
          · have hq : ((lenB (8 * t.length)).getD 4 0).toNat = 8 * t.length / 16777216 % 256 := by simpa using lenB_at (8 * t.length) 4 (by decide)
            have hn := lenB_take (8 * t.length) 4 (by decide)
            have HN := hide hn
            have HQ := hide hq
            clear hn hq
            go_wp2_with (at_builtin; refine wpList_append_rowB HB.out (Nat.le_refl _) ((lenB (8 * t.length)).getD 4 0) (by have := HQ.out; omega) rfl (.tmp 25) (.tmp 32) 22 rfl 5 i0 Tryd.underlying22 hi hz0 hz1 hz2 _ _ rfl HR.out 1 rfl (by simp [padK_length, lenB]; omega) ?_)
            intro v2 w3 hrow hbel
            have hr2 : RowB w.heap.size w3 v2 (padK t k ++ (lenB (8 * t.length)).take (4 + 1)) := by
              have e := HN.out
              rw [List.getD_eq_getElem?_getD] at e
              rw [← e]
              first | exact hrow | simpa using hrow
            have HR2 := hide hr2
            clear hr2
            have HB2 := hide hbel
            clear hrow hbel
            go_wp2
            go_roundw
            case rel => exact ⟨4 + 1, by omega, by go_num, HR2.out, HB2.out⟩
            case measure => simp [intOf]
          · have hq : ((lenB (8 * t.length)).getD 5 0).toNat = 8 * t.length / 65536 % 256 := by simpa using lenB_at (8 * t.length) 5 (by decide)
            have hn := lenB_take (8 * t.length) 5 (by decide)
            have HN := hide hn
            have HQ := hide hq
            clear hn hq
            go_wp2_with (at_builtin; refine wpList_append_rowB HB.out (Nat.le_refl _) ((lenB (8 * t.length)).getD 5 0) (by have := HQ.out; omega) rfl (.tmp 25) (.tmp 32) 22 rfl 5 i0 Tryd.underlying22 hi hz0 hz1 hz2 _ _ rfl HR.out 1 rfl (by simp [padK_length, lenB]; omega) ?_)
            intro v2 w3 hrow hbel
            have hr2 : RowB w.heap.size w3 v2 (padK t k ++ (lenB (8 * t.length)).take (5 + 1)) := by
              have e := HN.out
              rw [List.getD_eq_getElem?_getD] at e
              rw [← e]
              first | exact hrow | simpa using hrow
            have HR2 := hide hr2
            clear hr2
            have HB2 := hide hbel
            clear hrow hbel
            go_wp2
            go_roundw
            case rel => exact ⟨5 + 1, by omega, by go_num, HR2.out, HB2.out⟩
            case measure => simp [intOf]
          · have hq : ((lenB (8 * t.length)).getD 6 0).toNat = 8 * t.length / 256 % 256 := by simpa using lenB_at (8 * t.length) 6 (by decide)
            have hn := lenB_take (8 * t.length) 6 (by decide)
            have HN := hide hn
            have HQ := hide hq
            clear hn hq
            go_wp2_with (at_builtin; refine wpList_append_rowB HB.out (Nat.le_refl _) ((lenB (8 * t.length)).getD 6 0) (by have := HQ.out; omega) rfl (.tmp 25) (.tmp 32) 22 rfl 5 i0 Tryd.underlying22 hi hz0 hz1 hz2 _ _ rfl HR.out 1 rfl (by simp [padK_length, lenB]; omega) ?_)
            intro v2 w3 hrow hbel
            have hr2 : RowB w.heap.size w3 v2 (padK t k ++ (lenB (8 * t.length)).take (6 + 1)) := by
              have e := HN.out
              rw [List.getD_eq_getElem?_getD] at e
              rw [← e]
              first | exact hrow | simpa using hrow
            have HR2 := hide hr2
            clear hr2
            have HB2 := hide hbel
            clear hrow hbel
            go_wp2
            go_roundw
            case rel => exact ⟨6 + 1, by omega, by go_num, HR2.out, HB2.out⟩
            case measure => simp [intOf]
          · have hq : ((lenB (8 * t.length)).getD 7 0).toNat = 8 * t.length % 256 := by simpa using lenB_at (8 * t.length) 7 (by decide)
            have hn := lenB_take (8 * t.length) 7 (by decide)
            have HN := hide hn
            have HQ := hide hq
            clear hn hq
            go_wp2_with (at_builtin; refine wpList_append_rowB HB.out (Nat.le_refl _) ((lenB (8 * t.length)).getD 7 0) (by have := HQ.out; omega) rfl (.tmp 25) (.tmp 32) 22 rfl 5 i0 Tryd.underlying22 hi hz0 hz1 hz2 _ _ rfl HR.out 1 rfl (by simp [padK_length, lenB]; omega) ?_)
            intro v2 w3 hrow hbel
            have hr2 : RowB w.heap.size w3 v2 (padK t k ++ (lenB (8 * t.length)).take (7 + 1)) := by
              have e := HN.out
              rw [List.getD_eq_getElem?_getD] at e
              rw [← e]
              first | exact hrow | simpa using hrow
            have HR2 := hide hr2
            clear hr2
            have HB2 := hide hbel
            clear hrow hbel
            go_wp2
            go_roundw
            case rel => exact ⟨7 + 1, by omega, by go_num, HR2.out, HB2.out⟩
            case measure => simp [intOf]
        · have hj8 : j = 8 := by omega
          subst hj8
          have hrr := HR.out
          rw [show (lenB (8 * t.length)).take 8 = lenB (8 * t.length) from rfl, ← HP.out] at hrr
          have hcv := hrr.text (P := Tryd.prog) 22 9 5 Tryd.underlying22 Tryd.underlying5 Tryd.underlying9
          clear hrr HP
          go_wp2
          go_ret
          exact ⟨rfl, HB.out⟩
end Go.Proofs.YtflicklgmhgpiaaDoor.P3
namespace Go.Proofs.YtflicklgmhgpiaaDoor.P3
set_option maxRecDepth 8000
open Go.RowKit P1

/-- The memory of a digest's call: the state and the keys. -/
structure DMem (w wr : World) (b0 b1 : Nat) (hs : List Nat) : Prop where
  h : Arr wr b0 hs
  k : Arr wr b1 keys
  bel : Below w.heap.size w wr
  o0 : w.heap.size ≤ b0
  o1 : b0 < b1

theorem DMem.drew {w wr : World} {b0 b1 : Nat} {hs : List Nat} (m : DMem w wr b0 b1 hs) : DMem w wr.drew b0 b1 hs := ⟨m.h.drew, m.k.drew, m.bel.drew, m.o0, m.o1⟩

theorem DMem.on {w wr wr' : World} {b0 b1 : Nat} {hs : List Nat} (m : DMem w wr b0 b1 hs) (hb : Below wr.heap.size wr wr') : DMem w wr' b0 b1 hs :=
  ⟨m.h.below hb m.h.lt, m.k.below hb m.k.lt, m.bel.trans (hb.mono m.bel.size), m.o0, m.o1⟩

theorem DMem.setH {w wr : World} {b0 b1 : Nat} {hs : List Nat} (m : DMem w wr b0 b1 hs) (ys : List Nat) (hl : ys.length = hs.length) : DMem w (wr.setCells b0 0 (wordsV ys).toList) b0 b1 ys :=
  ⟨m.h.setAll ys hl, m.k.otherAll (by have := m.o1; omega) _ _, below_setCells m.o0 _ _ _ m.bel, m.o0, m.o1⟩

theorem bl_ok (p : List UInt8) (k : Nat) : (bl p k).ok := by
  cases k with
  | zero => exact start_ok
  | succ k => exact plus_ok _ _

theorem zeros_cells (n : Nat) : (madeCells #[Value.int .u8 0] n).toList = cellsB (List.replicate n 0) := by
  rw [toList_madeCells_one]
  simp [cellsB]

theorem set_four (l : List UInt8) (i : Nat) (h : i + 3 < l.length) (a b c d : UInt8) : ((((l.set i a).set (i + 1) b).set (i + 2) c).set (i + 3) d).take (i + 4) = l.take i ++ [a, b, c, d] := by
  apply List.ext_getElem?
  intro j
  have hti : (l.take i).length = i := by rw [List.length_take]; omega
  by_cases h1 : j < i
  · rw [List.getElem?_take_of_lt (by omega), List.getElem?_set_ne (by omega), List.getElem?_set_ne (by omega), List.getElem?_set_ne (by omega), List.getElem?_set_ne (by omega), List.getElem?_append_left (by omega), List.getElem?_take_of_lt h1]
  · rw [List.getElem?_append_right (by omega), hti]
    by_cases h2 : j = i
    · subst h2
      rw [List.getElem?_take_of_lt (by omega), List.getElem?_set_ne (by omega), List.getElem?_set_ne (by omega), List.getElem?_set_ne (by omega), List.getElem?_set_self (by omega)]
      simp
    · by_cases h3 : j = i + 1
      · subst h3
        rw [List.getElem?_take_of_lt (by omega), List.getElem?_set_ne (by omega), List.getElem?_set_ne (by omega), List.getElem?_set_self (by simp; omega)]
        simp
      · by_cases h4 : j = i + 2
        · subst h4
          rw [List.getElem?_take_of_lt (by omega), List.getElem?_set_ne (by omega), List.getElem?_set_self (by simp; omega)]
          simp
        · by_cases h5 : j = i + 3
          · subst h5
            rw [List.getElem?_take_of_lt (by omega), List.getElem?_set_self (by simp; omega)]
            simp
          · rw [List.getElem?_eq_none (by rw [List.length_take]; omega), List.getElem?_eq_none (by simp; omega)]

theorem flat_next (s : St) (k : Nat) (hk : k < 8) : (s.list.take (k + 1)).flatMap four = (s.list.take k).flatMap four ++ four (s.list.getD k 0) := by
  have hl : s.list.length = 8 := rfl
  rw [List.take_succ_eq_append_getElem (by omega), List.flatMap_append]
  simp [List.getD_eq_getElem?_getD, List.getElem?_eq_getElem (show k < s.list.length by omega)]

theorem list_lt (s : St) (h : s.ok) (k : Nat) (hk : k < 8) : s.list.getD k 0 < 4294967296 := by
  obtain ⟨h0, h1, h2, h3, h4, h5, h6, h7⟩ := h
  match k, hk with
  | 0, _ => exact h0
  | 1, _ => exact h1
  | 2, _ => exact h2
  | 3, _ => exact h3
  | 4, _ => exact h4
  | 5, _ => exact h5
  | 6, _ => exact h6
  | 7, _ => exact h7

theorem DMem.setG {w wr : World} {b0 b1 g : Nat} {hs : List Nat} (m : DMem w wr b0 b1 hs) (hg : b1 < g) (i : Nat) (v : Value) : DMem w (wr.setCell ⟨g, i, none⟩ v) b0 b1 hs := by
  have o0 := m.o0
  have o1 := m.o1
  exact ⟨m.h.other (by omega) _, m.k.other (by omega) _, m.bel.setCell (by show w.heap.size ≤ g; omega) _, m.o0, m.o1⟩

theorem slice_block (p : List UInt8) (k : Nat) (hk : 64 * k + 64 ≤ p.length) (wx : World) :
    (Instr.slice 9 (.string ⟨p.toArray⟩) (some (.int .i64 (64 * (k : Int)))) (some (.int .i64 (64 * (k : Int) + 64))) none).run Tryd.prog wx = .ok (.string ⟨((p.drop (64 * k)).take 64).toArray⟩) wx := by
  have h := run_slice_string (P := Tryd.prog) wx 9 ⟨p.toArray⟩ .i64 .i64 (64 * (k : Int)) (64 * (k : Int) + 64) Tryd.underlying9 (by omega) (by omega) (by show 64 * (k : Int) + 64 ≤ (p.length : Int); omega)
  rw [h]
  have e1 : (64 * (k : Int)).toNat = 64 * k := by omega
  have e2 : (64 * (k : Int) + 64).toNat = 64 * k + 64 := by omega
  rw [e1, e2, ByteArray.extract_mk]
  rw [show 64 * k + 64 - 64 * k = 64 by omega]

set_option maxRecDepth 8000 in
set_option maxHeartbeats 1000000 in
theorem specDigest_calls (t : List UInt8) (ht : t.length ≤ 1048577) (w : World) :
    Calls Tryd.prog 40 #[.string ⟨t.toArray⟩] w fun e w' => e = .returned (.string ⟨(digest t).toArray⟩) ∧ Below w.heap.size w w' := by
  obtain ⟨dg, Edg⟩ : ∃ dg, Hid (dg = digest t) := ⟨_, rfl⟩
  rw [← Edg.out]
  have hz64 := (zero_of_info zero64).1
  have hz8 := (zero_of_info zero8).1
  obtain ⟨Z64, hZ64⟩ : ∃ Z, Z = wordsV nil64 := ⟨_, rfl⟩
  obtain ⟨Z8, hZ8⟩ : ∃ Z, Z = wordsV nil8 := ⟨_, rfl⟩
  obtain ⟨KV, hKV⟩ : ∃ Z, Z = wordsV keys := ⟨_, rfl⟩
  obtain ⟨SV, hSV⟩ : ∃ Z, Z = wordsV start.list := ⟨_, rfl⟩
  have HF := hide first_calls
  have HK := hide keys_calls
  rw [← hZ64] at hz64
  rw [← hZ8] at hz8
  simp only [← hSV] at HF
  simp only [← hKV] at HK
  have s1 : Z64.size = 64 := by rw [hZ64]; rfl
  have s2 : KV.size = 64 := by rw [hKV]; rfl
  have s3 : Z8.size = 8 := by rw [hZ8]; rfl
  have s4 : SV.size = 8 := by rw [hSV]; rfl
  have u1 : KV.all (·.oneCell') = true := by rw [hKV]; exact wordsV_one _
  have u2 : SV.all (·.oneCell') = true := by rw [hSV]; exact wordsV_one _
  have EK := hide hKV
  have ES := hide hSV
  have Hz8 := hide hz8
  have Hz64 := hide hz64
  clear hz8 hz64 hZ64 hZ8 hKV hSV
  go_enter Tryd.func40, Tryd.ntmps40
  go_wp2_with fail
  refine (HF.out _).mono ?_
  rintro e w1 ⟨rfl, hb1⟩
  have HB1 := hide hb1
  clear hb1
  go_wp2_with (first | (refine wpList_alloc_agg rfl 71 rfl Z8 Hz8.out ?_) | (refine wpList_store_last rfl 71 (.tmp 3) (.tmp 9) rfl Z8 SV rfl rfl (by rw [s4]; exact size8) (by rw [s3, s4]) u2 ?_))
  have hA := Arr.new w1 71 start.list SV ES.out
  have hbA : Below w.heap.size w (w1.alloc (.cells SV 71)) := HB1.out.alloc HB1.out.size _
  obtain ⟨b0, hb0⟩ : ∃ b0, b0 = w1.heap.size := ⟨_, rfl⟩
  obtain ⟨w2, hw2⟩ : ∃ w2, w2 = w1.alloc (.cells SV 71) := ⟨_, rfl⟩
  have ho0 : w.heap.size ≤ b0 := by rw [hb0]; exact HB1.out.size
  rw [← hw2] at hA hbA ⊢
  rw [← hb0] at hA ⊢
  have HA := hide hA
  have HBA := hide hbA
  clear hA hbA hw2 hb0 HB1
  refine (HK.out _).mono ?_
  rintro e w3 ⟨rfl, hb3⟩
  have HA3 := hide (HA.out.below hb3 HA.out.lt)
  have HB3 := hide (HBA.out.trans (hb3.mono HBA.out.size))
  clear hb3 HA HBA
  go_wp2_with (first | (refine wpList_alloc_agg rfl 76 rfl Z64 Hz64.out ?_) | (refine wpList_store_last rfl 76 (.tmp 4) (.tmp 10) rfl Z64 KV rfl rfl (by rw [s2]; exact size64) (by rw [s1, s2]) u1 ?_))
  have hK := Arr.new w3 76 keys KV EK.out
  have hk1 : Below w3.heap.size w3 (w3.alloc (.cells KV 76)) := (Below.refl _ _).alloc (Nat.le_refl _) _
  have hdm : DMem w (w3.alloc (.cells KV 76)) b0 w3.heap.size start.list := ⟨HA3.out.below hk1 HA3.out.lt, hK, HB3.out.trans (hk1.mono HB3.out.size), ho0, HA3.out.lt⟩
  obtain ⟨b1, hb1⟩ : ∃ b1, b1 = w3.heap.size := ⟨_, rfl⟩
  obtain ⟨w4, hw4⟩ : ∃ w4, w4 = w3.alloc (.cells KV 76) := ⟨_, rfl⟩
  rw [← hw4] at hdm ⊢
  rw [← hb1] at hdm ⊢
  have HD := hide hdm
  clear hdm hK hk1 hw4 hb1 HA3 HB3 ho0 u1 u2 s1 s2 s3 s4 Hz8 Hz64 HF HK
  refine (specPad_calls t (by omega) _).mono ?_
  rintro e w5 ⟨rfl, hb5⟩
  have HD5 := hide (HD.out.on hb5)
  clear hb5 HD
  have hpl := pad_length t
  have hpm := pad_mod t
  have hz : zeros t.length < 64 := Nat.mod_lt _ (by decide)
  obtain ⟨p, EP⟩ : ∃ p, Hid (p = pad t) := ⟨_, rfl⟩
  rw [← EP.out] at hpl hpm ⊢
  go_wp2
  obtain ⟨n, hn⟩ : ∃ n, p.length = 64 * n := ⟨p.length / 64, by omega⟩
  go_loopw [6] (fun i wr => ∃ k : Nat, k ≤ n ∧ i = .int .i64 (64 * (k : Int)) ∧ DMem w wr b0 b1 (bl p k).list) (fun i _ => 64 * n - (intOf i).toNat)
  case atStart => exact ⟨0, by omega, rfl, HD5.out⟩
  case round =>
    clear HD5
    obtain ⟨k, hk, rfl, hm⟩ := hrel
    have HM := hide hm
    clear hm
    by_cases hlt : k < n
    · have hsl := slice_block p k (by omega)
      have hql : ((p.drop (64 * k)).take 64).length = 64 := by rw [List.length_take, List.length_drop]; omega
      obtain ⟨q, EQ⟩ : ∃ q, Hid (q = (p.drop (64 * k)).take 64) := ⟨_, rfl⟩
      rw [← EQ.out] at hql
      simp only [← EQ.out] at hsl
      obtain ⟨st, Est⟩ : ∃ st, Hid (st = bl p k) := ⟨_, rfl⟩
      have hok : st.ok := by rw [Est.out]; exact bl_ok p k
      rw [← Est.out] at HM
      have HN : Hid (bl p (k + 1) = block st q) := by rw [EQ.out, Est.out]; exact rfl
      have HC := hide (fun wx => block_calls st hok keys keys_length keys_lt q hql wx)
      have EQ2 : Hid (block st q = st.plus (roundsN keys (sched q) 64 st)) := rfl
      simp only [← EQ2.out] at HC
      obtain ⟨R, ER⟩ : ∃ R, Hid (R = block st q) := ⟨_, rfl⟩
      simp only [← ER.out] at HC
      rw [← ER.out] at HN
      obtain ⟨HV, EHV⟩ : ∃ HV, Hid (HV = wordsV st.list) := ⟨_, rfl⟩
      obtain ⟨RV, ERV⟩ : ∃ RV, Hid (RV = wordsV R.list) := ⟨_, rfl⟩
      simp only [← EHV.out, ← EK.out, ← ERV.out] at HC
      clear EQ EQ2 ER Est hok
      go_wp2
      refine wp_region_tail 7 (fun wd => DMem w wd b0 b1 st.list) HM.out.drew (by kernel_rfl) (by kernel_rfl) ?_
      clear HM
      intro wd hm
      have HM := hide hm
      have hl8 := hm.h.load (P := Tryd.prog) 8 rfl
      have hl64 := hm.k.load (P := Tryd.prog) 64 rfl
      rw [← EHV.out] at hl8
      rw [← EK.out] at hl64
      clear hm
      simp only [List.take_succ_cons, List.take_zero, List.drop_succ_cons, List.drop_zero]
      refine wpQuiet_load_agg rfl 71 (.tmp 3) 19 rfl rfl b0 rfl 8 Tryd.isAgg71 Tryd.sizeOf71 HV hl8 ?_
      simp only [List.setIfInBounds_toArray, List.set_cons_succ, List.set_cons_zero]
      repeat (go_big_quiet_step (fail))
      refine wpQuiet_load_agg rfl 76 (.tmp 4) 25 rfl rfl b1 rfl 64 Tryd.isAgg76 Tryd.sizeOf76 KV hl64 ?_
      simp only [List.setIfInBounds_toArray, List.set_cons_succ, List.set_cons_zero]
      refine wpQuiet_nil ?_
      go_wp2_with fail
      refine (HC.out _).mono ?_
      rintro e w6 ⟨rfl, hb6⟩
      have HM6 := hide (HM.out.on hb6)
      have r8 : RV.size = 8 := by rw [ERV.out]; rfl
      have r1 : RV.all (·.oneCell') = true := by rw [ERV.out]; exact wordsV_one _
      clear hb6 HM hl8 hl64 HC hsl
      go_wp2_with (refine wpList_store_mid rfl 71 (.tmp 3) (.tmp 26) rfl b0 0 RV rfl rfl (by rw [r8]; exact HM6.out.h.there 8 rfl) (by rw [r8]; exact size8) r1 ?_)
      go_roundw
      case rel => exact ⟨k + 1, by omega, by go_num, by rw [ERV.out, HN.out]; exact HM6.out.setH R.list rfl⟩
      case measure => simp [intOf]; omega
    · have hkn : k = n := by omega
      have hEn : n = (pad t).length / 64 := by rw [← EP.out]; omega
      rw [hkn] at HM
      obtain ⟨st, Est⟩ : ∃ st, Hid (st = bl p n) := ⟨_, rfl⟩
      have hok : st.ok := by rw [Est.out]; exact bl_ok p n
      have HG : Hid (dg = st.list.flatMap four) := by rw [Edg.out, Est.out, EP.out, hEn]; exact rfl
      rw [← Est.out] at HM
      clear Est Edg hkn hEn EP hk
      obtain ⟨i0, hi, hz0, hz1, hz2⟩ := info_parts info_u8
      have hne : ¬ (64 * (k : Int) < (p.length : Int)) := by omega
      have hwsz : w.heap.size ≤ wr.heap.size := HM.out.bel.size
      go_wp2_with (at_make; refine wpList_make_full _ rfl (.const (.int .i64 32)) (.const (.int .i64 32)) 22 rfl w.heap.size 5 i0 (.int .u8 0) 1 Tryd.underlying22 hi hz0 hz1 .i64 .i64 _ _ 32 rfl rfl (by omega) (by omega) (by rw [hz2]; omega) (by unfold maxLen; omega) hwsz ?_)
      intro w2 hown2 hgr2
      rw [zeros_cells] at hown2
      have hbt := Byt.of_own hown2
      have hd2 := HM.out.on (wr' := w2) ⟨hgr2.os, hgr2.tape, hgr2.output, hgr2.size, fun k hk => hgr2.block k hk (fun e => by cases e)⟩
      have hb1g : b1 < wr.heap.size := HM.out.k.lt
      have HBt := hide hbt
      have HD2 := hide hd2
      clear hown2 hgr2 hbt hd2 HM hne hwsz
      obtain ⟨g, hg⟩ : ∃ g, g = wr.heap.size := ⟨_, rfl⟩
      rw [← hg] at hb1g HBt ⊢
      clear hg
      go_wp2
      clear hlt
      go_loopw [8] (fun i wr => ∃ k : Nat, ∃ l : List UInt8, k ≤ 8 ∧ i = .int .i64 k ∧ l.length = 32 ∧ l.take (4 * k) = (st.list.take k).flatMap four ∧ DMem w wr b0 b1 st.list ∧ Byt wr g l) (fun i _ => 8 - (intOf i).toNat)
      case atStart => exact ⟨0, List.replicate 32 0, by omega, rfl, rfl, by simp, HD2.out, HBt.out⟩
      case round =>
        clear HD2 HBt
        obtain ⟨k, l, hk, rfl, hl, htk, hd, hbt⟩ := hrel
        have HD := hide hd
        have HBt := hide hbt
        have HTK := hide htk
        clear hd hbt htk
        by_cases hlt : k < 8
        · have ck := HD.out.h.cell k (by show k < 8; omega)
          have hx := list_lt st hok k hlt
          have HFN := hide (flat_next st k hlt)
          obtain ⟨x, hxe⟩ : ∃ x, x = st.list.getD k 0 := ⟨_, rfl⟩
          rw [← hxe] at ck hx HFN
          clear hxe
          have g0 := HBt.out.cell (4 * k) (by omega)
          have g1 := HBt.out.cell (4 * k + 1) (by omega)
          have g2 := HBt.out.cell (4 * k + 2) (by omega)
          have g3 := HBt.out.cell (4 * k + 3) (by omega)
          have hf := HBt.out.free
          have hgb : b0 < g := by have := HD.out.o1; omega
          go_wp2
          go_roundw
          case rel =>
            refine ⟨k + 1, (((l.set (4 * k) (UInt8.ofNat (x / 16777216))).set (4 * k + 1) (UInt8.ofNat (x / 65536 % 256))).set (4 * k + 2) (UInt8.ofNat (x / 256 % 256))).set (4 * k + 3) (UInt8.ofNat (x % 256)), by omega, by go_num, by simpa using hl, ?_, (((HD.out.setG hb1g _ _).setG hb1g _ _).setG hb1g _ _).setG hb1g _ _, ?_⟩
            · rw [show 4 * (k + 1) = 4 * k + 4 by omega, set_four l (4 * k) (by omega), HTK.out, HFN.out]
              rfl
            · exact (((HBt.out.set (UInt8.ofNat (x / 16777216)) (by rw [byte_of _ (by omega)]; omega)).set (UInt8.ofNat (x / 65536 % 256)) (by rw [byte_of _ (by omega)]; omega)).set (UInt8.ofNat (x / 256 % 256)) (by rw [byte_of _ (by omega)]; omega)).set (UInt8.ofNat (x % 256)) (by rw [byte_of _ (by omega)]; omega)
          case measure => simp [intOf]; omega
        · have hk8 : k = 8 := by omega
          have hall : l = dg := by
            have h := HTK.out
            rw [hk8, List.take_of_length_le (by omega), List.take_of_length_le (by show 8 ≤ 8; omega)] at h
            rw [h, ← HG.out]
          have hcv := HBt.out.text (P := Tryd.prog) (cap := 32) 32 hl 22 9 5 Tryd.underlying22 Tryd.underlying5 Tryd.underlying9
          rw [hall] at hcv
          have HBe := hide HD.out.bel
          clear hall HBt HTK HD hk8
          go_wp2
          go_ret
          exact ⟨rfl, HBe.out⟩
end Go.Proofs.YtflicklgmhgpiaaDoor.P3
namespace Go.Proofs.YtflicklgmhgpiaaDoor.P1
set_option maxRecDepth 8000
open Go.RowKit

theorem info5 : (Tryd.prog.info? 5).map (fun i => (i.zero, i.size, i.bytes)) = some (some (.int .u8 0), 1, 1) := by kernel_rfl

set_option maxHeartbeats 400000 in
theorem l01Var_calls (n : Nat) (hn : n < 34359738368) (w : World) :
    Calls Tryd.prog 38 #[.int .i64 n] w fun e w' => e = .returned (.string ⟨(varB 4 n).toArray⟩) ∧ Below w.heap.size w w' := by
  obtain ⟨i0, hi, hz0, hz1, hz2⟩ := info_parts info5
  go_enter Tryd.func38, Tryd.ntmps38
  go_wp2
  go_loopw [0, 3] (fun i v wr => ∃ m : Nat, ∃ pre : List UInt8, Wrote n pre m ∧ i = .int .i64 m ∧ wr.ownsRow w.heap.size 5 1 v pre.length (cellsB pre) ∧ Below w.heap.size w wr) (fun i _ _ => (intOf i).toNat)
  case atStart =>
    exact ⟨n, [], Wrote.start n hn, rfl, World.ownsRow_lit _ _ 0 (Nat.le_refl _) (by decide) rfl, (Below.refl _ _).alloc (Nat.le_refl _) _⟩
  case round =>
    obtain ⟨m, pre, hwr, rfl, hown, hbel⟩ := hrel
    have hm := hwr.lt
    have hl := hwr.len
    by_cases h127 : 127 < m
    · have Hn := hide (hwr.next h127)
      clear hwr
      go_wp2_with (at_builtin; refine wpList_append_byte hbel (Nat.le_refl _) rfl (.tmp 7) (.tmp 12) 22 rfl 5 i0 Tryd.underlying22 hi hz0 hz1 hz2 _ _ _ rfl hown 1 rfl (by omega) ?_)
      intro v' w1 hown' hbel'
      go_wp2
      go_roundw
      case rel => exact ⟨m / 128, _, Hn.out, by go_num, own_snoc hown' _ (by rw [byte_of _ (by omega)]; omega), hbel'⟩
      case measure => simp [intOf]; omega
    · have Hl := hide (hwr.last (by omega))
      clear hwr
      go_wp2_with (at_builtin; refine wpList_append_byte hbel (Nat.le_refl _) rfl (.tmp 16) (.tmp 19) 22 rfl 5 i0 Tryd.underlying22 hi hz0 hz1 hz2 _ _ _ rfl hown 1 rfl (by omega) ?_)
      intro v' w1 hown' hbel'
      have hown2 := own_snoc hown' (UInt8.ofNat m) (by rw [byte_of _ (by omega)])
      rw [← Hl.out] at hown2
      have hpos := (varB_length 4 n).1
      clear Hl hown' hown
      obtain ⟨l, HL⟩ : ∃ l, Hid (l = varB 4 n) := ⟨_, rfl⟩
      rw [← HL.out] at hown2 hpos
      obtain ⟨g, cap, hv, hcv⟩ := own_text hown2 hpos 22 9 Tryd.underlying22 Tryd.underlying5 Tryd.underlying9
      clear hown2
      rw [hv]
      clear hv
      go_wp2
      go_ret
      exact ⟨by rw [← HL.out]; rfl, hbel'⟩

theorem l01In_calls (x a b : Int) (w : World) :
    Calls Tryd.prog 37 #[.int .i64 x, .int .i64 a, .int .i64 b] w fun e w' => e = .returned (.bool (decide (a ≤ x ∧ x ≤ b))) ∧ w' = w := by
  by_cases h1 : a ≤ x <;> by_cases h2 : x ≤ b <;>
  · go_enter Tryd.func37, Tryd.ntmps37
    go_wp2
    go_ret
    exact ⟨by simp [h1, h2], rfl⟩

/-- What VarText answers. -/
def varText (n : Int) : List UInt8 × Bool := if 0 ≤ n ∧ n ≤ 1000000000 then (varB 4 n.toNat, true) else ([], false)

set_option maxHeartbeats 400000 in
theorem implVarText_calls (n : Int) (w : World) :
    Calls Tryd.prog 44 #[.int .i64 n] w fun e w' => e = .returned (.tuple #[.string ⟨(varText n).1.toArray⟩, .bool (varText n).2]) ∧ Below w.heap.size w w' := by
  by_cases h : 0 ≤ n ∧ n ≤ 1000000000
  · have hv : varText n = (varB 4 n.toNat, true) := by simp [varText, h]
    rw [hv]
    obtain ⟨n, rfl⟩ := Int.eq_ofNat_of_zero_le h.1
    clear hv
    have h1 : n ≤ 1000000000 := by omega
    clear h
    obtain ⟨i0, hi, hz0, hz1, hz2⟩ := info_parts info5
    go_enter Tryd.func44, Tryd.ntmps44
    go_wp2
    go_loopw [0, 4] (fun i v wr => ∃ m : Nat, ∃ pre : List UInt8, Wrote n pre m ∧ i = .int .i64 m ∧ wr.ownsRow w.heap.size 5 1 v pre.length (cellsB pre) ∧ Below w.heap.size w wr) (fun i _ _ => (intOf i).toNat)
    case atStart =>
      exact ⟨n, [], Wrote.start n (by omega), rfl, World.ownsRow_nil _ _ _ _, Below.refl _ _⟩
    case round =>
      obtain ⟨m, pre, hwr, rfl, hown, hbel⟩ := hrel
      have hm := hwr.lt
      have hl := hwr.len
      by_cases h127 : 127 < m
      · have Hn := hide (hwr.next h127)
        clear hwr
        go_wp2_with (at_builtin; refine wpList_append_byte hbel (Nat.le_refl _) rfl (.tmp 13) (.tmp 18) 22 rfl 5 i0 Tryd.underlying22 hi hz0 hz1 hz2 _ _ _ rfl hown 1 rfl (by omega) ?_)
        intro v' w1 hown' hbel'
        go_wp2
        go_roundw
        case rel => exact ⟨m / 128, _, Hn.out, by go_num, own_snoc hown' _ (by rw [byte_of _ (by omega)]; omega), hbel'⟩
        case measure => simp [intOf]; omega
      · have Hl := hide (hwr.last (by omega))
        clear hwr
        go_wp2_with (at_builtin; refine wpList_append_byte hbel (Nat.le_refl _) rfl (.tmp 22) (.tmp 25) 22 rfl 5 i0 Tryd.underlying22 hi hz0 hz1 hz2 _ _ _ rfl hown 1 rfl (by omega) ?_)
        intro v' w1 hown' hbel'
        have hown2 := own_snoc hown' (UInt8.ofNat m) (by rw [byte_of _ (by omega)])
        rw [← Hl.out] at hown2
        have hpos := (varB_length 4 n).1
        clear Hl hown' hown
        obtain ⟨l, HL⟩ : ∃ l, Hid (l = varB 4 n) := ⟨_, rfl⟩
        rw [← HL.out] at hown2 hpos
        obtain ⟨g, cap, hv, hcv⟩ := own_text hown2 hpos 22 9 Tryd.underlying22 Tryd.underlying5 Tryd.underlying9
        clear hown2
        rw [hv]
        clear hv
        go_wp2
        go_ret2
        refine ⟨?_, hbel'⟩
        have e1 : (n : Int).toNat = n := by omega
        rw [e1, ← HL.out]
        rfl
  · have hv : varText n = ([], false) := by simp only [varText, if_neg h]
    rw [hv]
    clear hv
    by_cases h0 : n < 0
    · go_enter Tryd.func44, Tryd.ntmps44
      go_wp2
      go_ret2
      exact ⟨rfl, Below.refl _ _⟩
    · have h2 : 1000000000 < n := by omega
      go_enter Tryd.func44, Tryd.ntmps44
      go_wp2
      go_ret2
      exact ⟨rfl, Below.refl _ _⟩
end Go.Proofs.YtflicklgmhgpiaaDoor.P1
namespace Go.Proofs.YtflicklgmhgpiaaDoor.P1
open Go.RowKit

theorem own_two {w : World} {B : Nat} {e : TypeId} {v : Value} {l m : List UInt8} {z1 z2 : Int} {b1 b2 : UInt8} (h : w.ownsRow B e 1 v (l.length + 2) (cellsB l ++ [.int .u8 z1, .int .u8 z2])) (hm : m = l ++ [b1, b2]) (h1 : z1 = b1.toNat) (h2 : z2 = b2.toNat) :
    w.ownsRow B e 1 v m.length (cellsB m) := by
  subst hm
  have e1 : cellsB (l ++ [b1, b2]) = cellsB l ++ [.int .u8 z1, .int .u8 z2] := by simp [cellsB, h1, h2]
  have e2 : (l ++ [b1, b2]).length = l.length + 2 := by simp
  rw [e1, e2]; exact h

/-- What Hex answers. -/
def hex (s : ByteArray) : List UInt8 × Bool := if s.size ≤ 20000 then (hexB s.data.toList, true) else ([], false)

theorem fig_index (q : Nat) (h : q < 16) (wx : World) : (Instr.index 9 (.string ⟨#[48, 49, 50, 51, 52, 53, 54, 55, 56, 57, 97, 98, 99, 100, 101, 102]⟩) (.int .u8 (q : Int))).run Tryd.prog wx = .ok (.int .u8 (fig q : Int)) wx :=
  match q, h with
  | 0, _ => by kernel_rfl
  | 1, _ => by kernel_rfl
  | 2, _ => by kernel_rfl
  | 3, _ => by kernel_rfl
  | 4, _ => by kernel_rfl
  | 5, _ => by kernel_rfl
  | 6, _ => by kernel_rfl
  | 7, _ => by kernel_rfl
  | 8, _ => by kernel_rfl
  | 9, _ => by kernel_rfl
  | 10, _ => by kernel_rfl
  | 11, _ => by kernel_rfl
  | 12, _ => by kernel_rfl
  | 13, _ => by kernel_rfl
  | 14, _ => by kernel_rfl
  | 15, _ => by kernel_rfl
  | n + 16, h => absurd h (by omega)

theorem fig_index_int (x : Int) (h0 : 0 ≤ x) (h1 : x < 16) (wx : World) : (Instr.index 9 (.string ⟨#[48, 49, 50, 51, 52, 53, 54, 55, 56, 57, 97, 98, 99, 100, 101, 102]⟩) (.int .u8 x)).run Tryd.prog wx = .ok (.int .u8 (fig x.toNat : Int)) wx := by
  obtain ⟨m, rfl⟩ := Int.eq_ofNat_of_zero_le h0
  exact fig_index m (by omega) wx
end Go.Proofs.YtflicklgmhgpiaaDoor.P1
namespace Go.Proofs.YtflicklgmhgpiaaDoor.P3
set_option maxRecDepth 8000
open Go.RowKit P1

theorem digest_length (t : List UInt8) : (digest t).length = 32 := rfl

theorem inD_calls (x a b : Int) (w : World) :
    Calls Tryd.prog 37 #[.int .i64 x, .int .i64 a, .int .i64 b] w fun e w' => e = .returned (.bool (decide (a ≤ x ∧ x ≤ b))) ∧ w' = w := by
  by_cases h1 : a ≤ x <;> by_cases h2 : x ≤ b <;>
  · go_enter Tryd.func37, Tryd.ntmps37
    go_wp2
    go_ret
    exact ⟨by simp [h1, h2], rfl⟩

/-- What CutDigest answers. -/
def cutV (t : List UInt8) (n : Int) : List UInt8 := if 1 ≤ n ∧ n ≤ 32 then (digest t).take n.toNat else []

theorem slice_to (p : List UInt8) (n : Int) (h0 : 0 ≤ n) (hn : n ≤ p.length) (wx : World) :
    (Instr.slice 9 (.string ⟨p.toArray⟩) none (some (.int .i64 n)) none).run Tryd.prog wx = .ok (.string ⟨(p.take n.toNat).toArray⟩) wx := by
  rw [run_slice_string_to_if _ _ _ _ _ Tryd.underlying9, if_pos ⟨h0, hn⟩, ByteArray.extract_mk]
  simp
end Go.Proofs.YtflicklgmhgpiaaDoor.P3
