/- The program's function that tells ids, each once, to a yield that is handed to it; condition: at most 2^20 ids. -/
import Derived.Test.YtbklkpggmkfajaaRng1
import Derived.Test.YtbklkpggmkfajaaIntS
import Derived.Test.YtbklkpggmkfajaaMapL
import Derived.RangeFuncNested
import Derived.RangeFuncBound
import Derived.RangeFuncCalls
import Derived.RangeFuncLeaves
import Derived.RangeFuncBox
import Derived.Shelf.Abstract
import Derived.Shelf.RegionOpen
import Derived.WalkKit
import Derived.OwnWalkIn
import Derived.TacticsInMore
import Derived.LoopNIn
import Derived.LoopIn
namespace Go.Proofs.Ytbklkpggmkfajaa.P8
set_option maxRecDepth 8000
open Go.RowKit Go.Shelf P1 Mp

attribute [local go_sem] Oper.semAt_some

theorem findNow_int (x : Int) (u : TypeDesc) (hu : u = .int .i64) : ∀ (es : List MapEntry) (i : Nat), (∀ e ∈ es, ∃ y : Int, e.key = .int .i64 y) →
    (Instr.findNow u (.int .i64 x) es i = some none ∧ ∀ e ∈ es, e.key ≠ .int .i64 x) ∨ ∃ j e, Instr.findNow u (.int .i64 x) es i = some (some (i + j, e.val)) ∧ es[j]? = some e ∧ e.key = .int .i64 x := by
  subst hu
  intro es
  induction es with
  | nil => exact fun i _ => .inl ⟨rfl, by simp⟩
  | cons e es ih =>
    intro i h
    obtain ⟨y, hy⟩ := h e (by simp)
    by_cases hxy : x = y
    · subst hxy
      refine .inr ⟨0, e, ?_, rfl, hy⟩
      simp [Instr.findNow, Instr.sameNow, hy]
    · have hne : e.key ≠ .int .i64 x := by rw [hy]; simp; exact fun h => hxy h.symm
      have hf : (x == y) = false := by simpa using hxy
      rcases ih (i + 1) (fun e' he' => h e' (by simp [he'])) with ⟨h1, h2⟩ | ⟨j, e', h1, h2, h3⟩
      · refine .inl ⟨?_, ?_⟩
        · simp [Instr.findNow, Instr.sameNow, hy, hf, h1]
        · intro e' he'
          rcases List.mem_cons.1 he' with rfl | he'
          · exact hne
          · exact h2 e' he'
      · refine .inr ⟨j + 1, e', ?_, by simpa using h2, h3⟩
        simp [Instr.findNow, Instr.sameNow, hy, hf, h1]
        omega

/-- Ints as keys. -/
def keyI : KT Try.prog 3 Int where
  kv := fun x => .int .i64 x
  inj := fun x y h => by simpa using h
  check := fun em w x => by kernel_rfl
  find := fun w x es h => by
    rcases findNow_int x _ rfl es 0 h with ⟨h1, h2⟩ | ⟨j, e, h1, h2, h3⟩
    · exact .inl ⟨by simp [Instr.findKey, run_underlying Try.underlying3, h1, Result.andThen], h2⟩
    · exact .inr ⟨j, e, by simp [Instr.findKey, run_underlying Try.underlying3, h1, Result.andThen], h2, h3⟩
  stays := fun w x => by simp [Instr.keyThatStays, Instr.sameBits]

theorem zero_unit8 : ∀ w : World, (zeroValue 55).run Try.prog w = .ok (.agg #[]) w := fun w => by kernel_rfl

/-- What has been told. -/
def toldF (L : List Int) (x : Int) : Option Value := if x ∈ L then some (.agg #[]) else none

theorem told_look {w : World} {km n : Nat} {L : List Int} (h : MapR keyI w km n (toldF L)) (x : Int) :
    (Instr.lookup 54 (.map (some km)) (.int .i64 x) true).run Try.prog w = .ok (.tuple #[.agg #[], .bool (decide (x ∈ L))]) w := by
  have := h.look (t := 54) Try.underlying54 (zero_unit8 w) true x
  rw [if_pos rfl] at this
  refine this.trans ?_
  unfold toldF
  by_cases hf : x ∈ L
  · simp [hf]
  · simp [hf]

theorem told_upd (L : List Int) (c x : Int) : toldF (L ++ [c]) x = upd (toldF L) c (.agg #[]) x := by
  unfold toldF upd
  by_cases hx : x = c
  · subst hx
    simp
  · simp [hx]

/-- What a round that goes on keeps: what lay below n₀, every map, the box of what is told from. -/
def Kp (n₀ bf : Nat) (W W' : World) : Prop := Below n₀ W W' ∧ KeepsWalks W W' ∧ W'.heap[bf]? = W.heap[bf]?

theorem Kp.trans {n₀ bf : Nat} {A B C : World} (h : Kp n₀ bf A B) (k : Kp n₀ bf B C) : Kp n₀ bf A C := ⟨h.1.trans k.1, h.2.1.trans k.2.1, k.2.2.trans h.2.2⟩

theorem Kp.refl (n₀ bf : Nat) (A : World) : Kp n₀ bf A A := ⟨Below.refl _ _, KeepsWalks.refl _, rfl⟩

/-- The slice's ints lie below n₀. -/
def IntsLow (n₀ : Nat) (W : World) (v : Value) (l : List Int) : Prop :=
  ∃ a cap, v = .slice a l.length cap ∧ ∀ j (hj : j < l.length), ∃ g off, a = some ⟨g, off, none⟩ ∧ g < n₀ ∧ W.cell? ⟨g, off + j, none⟩ = some (.int .i64 l[j])

theorem IntsLow.below {n₀ : Nat} {W W' : World} {v : Value} {l : List Int} (h : IntsLow n₀ W v l) (hb : Below n₀ W W') : IntsLow n₀ W' v l := by
  obtain ⟨a, cap, h1, h2⟩ := h
  refine ⟨a, cap, h1, fun j hj => ?_⟩
  obtain ⟨g, off, e1, e2, e3⟩ := h2 j hj
  exact ⟨g, off, e1, e2, (hb.cell (p := ⟨g, off + j, none⟩) e2).trans e3⟩

theorem IntsLow.of {w : World} {v : Value} {l : List Int} (h : IntsAt w v l) : IntsLow w.heap.size w v l := h

theorem cell_same {W W' : World} {b : Nat} (h : W'.heap[b]? = W.heap[b]?) (o : Nat) : W'.cell? ⟨b, o, none⟩ = W.cell? ⟨b, o, none⟩ := World.cell?_of_block h

set_option maxRecDepth 100000 in
set_option maxHeartbeats 2000000 in
theorem behind1_in (n : Nat) (l bi bf n₀ : Nat) (frm : Int) (v : Value) (ids : List Int) (hl : ids.length ≤ 1048576) (J Jx : List Int → World → Prop) (W : World) (hJ : AbidesFrom W.heap.size J)
    (hbi : W.cell? ⟨bi, 0, none⟩ = some v) (hbf : W.cell? ⟨bf, 0, none⟩ = some (.int .i64 frm)) (hv : IntsLow n₀ W v ids) (hn₀ : n₀ ≤ W.heap.size)
    (hY : ∀ pre x W1, J pre W1 → pre.length < ids.length → YieldAt Fence.wide (n - 1) Try.prog l #[.int .i64 x, .int .i64 ((ahd frm x : Nat) : Int)] W1 fun e W' =>
      (e = .returned (.bool true) ∧ J (pre ++ [x]) W' ∧ Kp n₀ bf W1 W') ∨ (e = .returned (.bool false) ∧ Jx (pre ++ [x]) W'))
    (h0 : J [] W) :
    CallsIn Fence.wide n Try.prog 39 #[.func (.yield l) #[] #[], .pointer (some ⟨bi, 0, none⟩), .pointer (some ⟨bf, 0, none⟩)] W fun e W' => (∃ v, e = .returned v) ∧
      ((∃ ys, ys = nub ids ∧ J ys W') ∨ (∃ pre, True ∧ Jx pre W')) := by
  have HV := hide hv
  obtain ⟨av, cv, rfl, -⟩ := hv
  have HY := hide hY
  have HJ := hide hJ
  have H0 := hide h0
  clear hY hJ h0
  have lbi : bi < W.heap.size := cell_lt' hbi
  have lbf : bf < W.heap.size := cell_lt' hbf
  have hmk := fun wx : World => (show (Instr.makeMap 54 none).run Try.prog wx = .ok (.map (some wx.heap.size)) (wx.alloc (.map #[] 0)) from by kernel_rfl)
  have hbm := (Below.refl W.heap.size W).alloc (Nat.le_refl _) (.map #[] 0)
  have HJm := hide (HJ.out [] W (W.alloc (.map #[] 0)) none H0.out (World.grownBy_alloc W _ none) (fun r e => by cases e))
  have HM0 := hide (MapR.made (T := keyI) W)
  have HVm := hide (HV.out.below (hbm.mono hn₀))
  have hbi2 := hbm.cell (p := ⟨bi, 0, none⟩) lbi
  rw [hbi] at hbi2
  have hbl2 : bi < (W.alloc (.map #[] 0)).heap.size := by simp; omega
  refine callsIn_of_wp Try.func39 rfl trivial ?_ rfl
  simp only [Try.ntmps39, List.size_toArray, List.length_cons, List.length_nil, Nat.reduceAdd, Nat.reduceSub, Array.replicate_succ, Array.replicate_zero, List.push_toArray, List.append_toArray, List.nil_append, List.cons_append]
  gi_wp2
  obtain ⟨bm, em⟩ : ∃ b, b = W.heap.size := ⟨_, rfl⟩
  rw [← em] at HM0 ⊢
  have HEm := hide em
  have hbfm : bf < bm := by omega
  have hnm : n₀ ≤ bm := by omega
  clear hmk em hbi2 hbl2
  have hbfk : (W.alloc (.map #[] 0)).heap[bf]? = W.heap[bf]? := hbm.block bf lbf
  have hBel : Below n₀ W (W.alloc (.map #[] 0)) := hbm.mono hn₀
  have HBF := hide hbfk
  have HBL := hide hBel
  have hsz1 : W.heap.size ≤ (W.alloc (.map #[] 0)).heap.size := hbm.size
  clear hbm hbfk hBel HV H0
  generalize W.alloc (.map #[] 0) = w1 at *
  gi_loopw [12] (fun i wr => ∃ k : Nat, k ≤ ids.length ∧ i = .int .i64 k ∧ Hid (J (nub (ids.take k)) wr) ∧ Hid (MapR keyI wr bm k (toldF (nub (ids.take k)))) ∧ Hid (IntsLow n₀ wr (.slice av ids.length cv) ids) ∧ Hid (wr.heap[bf]? = W.heap[bf]?) ∧ Hid (W.heap.size ≤ wr.heap.size)) (fun i _ => ids.length - (intOf i).toNat)
  case atStart => exact ⟨0, Nat.zero_le _, rfl, HJm.out, HM0.out.congr (fun x => by simp [toldF, nub]), HVm.out, HBF.out, hsz1⟩
  case round =>
    clear HJm HM0 HVm HBF HBL
    obtain ⟨k, hk, rfl, HJr, HMr, HVr, HFr, HZr⟩ := hrel
    by_cases hlt : k < ids.length
    · obtain ⟨a2, c2, hsh, HA⟩ := HVr.out
      cases hsh
      obtain ⟨ga, oa, rfl, ha2, ha3⟩ := HA k hlt
      clear HA
      have hz := HZr.out
      have hga : ga < wr.heap.size := by omega
      have HT := hide (nub_snoc (ids.take k) ids[k])
      rw [← List.take_succ_eq_append_getElem hlt] at HT
      have hln : (nub (ids.take k)).length < ids.length := by
        have h1 := nub_length (ids.take k)
        rw [List.length_take] at h1
        omega
      have hb1 := (Below.refl wr.heap.size wr).alloc (Nat.le_refl _) (.cells #[] 55)
      have hM2 := HMr.out.at_ (hb1.block bm HMr.out.lt)
      have hlk := told_look HMr.out ids[k]
      have HJ2 := hide (HJ.out _ wr (wr.alloc (.cells #[] 55)) none HJr.out (World.grownBy_alloc wr _ none) (fun r e => by cases e))
      have HV2 := hide (HVr.out.below (hb1.mono (show n₀ ≤ wr.heap.size by omega)))
      have HF2 : Hid ((wr.alloc (.cells #[] 55)).heap[bf]? = W.heap[bf]?) := (hb1.block bf (by omega)).trans HFr.out
      generalize ids[k] = x at *
      by_cases hm : x ∈ nub (ids.take k)
      · have HN : Hid (nub (ids.take (k + 1)) = nub (ids.take k)) := by show _ = _; rw [HT.out, if_pos hm]
        rw [decide_eq_true hm] at hlk
        have HM2 := hide (hM2.mono (Nat.le_succ k))
        have HZ2 : Hid (W.heap.size ≤ (wr.alloc (.cells #[] 55)).heap.size) := Nat.le_trans hz hb1.size
        clear hm HT hM2 hb1 HMr HJr HVr HFr HZr hz
        gi_wp2
        go_roundw
        case rel => exact ⟨k + 1, by omega, by go_num, by show J _ _; rw [HN.out]; exact HJ2.out, by show MapR _ _ _ _ _; rw [HN.out]; exact HM2.out, HV2.out, HF2.out, HZ2.out⟩
        case measure => simp [intOf]; omega
      · have HN : Hid (nub (ids.take (k + 1)) = nub (ids.take k) ++ [x]) := by show _ = _; rw [HT.out, if_neg hm]
        rw [decide_eq_false hm] at hlk
        obtain ⟨w4, hrun, hM4, hg4, hs4⟩ := hM2.store (t := 54) Try.underlying54 x (.agg #[])
        change (Instr.mapUpdate 54 (.map (some bm)) (.int .i64 x) (.agg #[])).run Try.prog _ = .ok () w4 at hrun
        have hJ4 : J (nub (ids.take k)) w4 := HJ.out _ _ w4 (some bm) HJ2.out hg4 (fun r e => by
          cases e
          obtain ⟨es, clock, h1, _⟩ := hM2
          exact ⟨by have := HEm.out; omega, _, h1, rfl⟩)
        have hF4 : w4.heap[bf]? = W.heap[bf]? := (hg4.block bf (by simp; omega) (fun e => by cases e; omega)).trans HF2.out
        have cf4 : w4.cell? ⟨bf, 0, none⟩ = some (.int .i64 frm) := (cell_same hF4 0).trans hbf
        have lf4 : bf < w4.heap.size := cell_lt' cf4
        have hB4 : Below n₀ (wr.alloc (.cells #[] 55)) w4 := ⟨hg4.os, hg4.tape, hg4.output, hg4.size, fun q hq => hg4.block q (by simp; omega) (fun e => by cases e; omega)⟩
        have HV4 := hide (HV2.out.below hB4)
        have HF4 := hide hF4
        have HM4 : Hid (MapR keyI w4 bm (k + 1) (toldF (nub (ids.take (k + 1))))) := by
          show MapR _ _ _ _ _
          rw [HN.out]
          exact hM4.congr (fun y => told_upd _ _ y)
        have HZ4 : Hid (W.heap.size ≤ w4.heap.size) := by show _ ≤ _; have h1 := hb1.size; have h2 := hg4.size; omega
        obtain ⟨fn, tmps, assign, body, hy, hR⟩ := HY.out _ x w4 hJ4 hln
        have HR := hide hR
        clear hm HT hM2 hM4 hb1 hg4 hs4 HMr HJr HVr HFr HZr HJ2 HV2 HF2 hJ4 hF4 hB4 hz hR
        gi_wp2
        refine ⟨trivial, fun h => (by cases h), ?_⟩
        refine (callsIn_wide.2 (implAhead_calls frm x _)).mono ?_
        rintro e w' ⟨rfl, rfl⟩
        gi_wp2
        refine ⟨fun h => (by cases h), HR.out.mono ?_⟩
        rintro e W3 (⟨rfl, hJ3, hk3⟩ | ⟨rfl, hJx3⟩)
        · have HJ3 := hide hJ3
          have HV3 := hide (HV4.out.below hk3.1)
          have HF3 : Hid (W3.heap[bf]? = W.heap[bf]?) := hk3.2.2.trans HF4.out
          have HM3 : Hid (MapR keyI W3 bm (k + 1) (toldF (nub (ids.take (k + 1))))) := by
            obtain ⟨es, clock, h1, h2⟩ := HM4.out
            exact ⟨es, clock, hk3.2.1.same bm _ h1 rfl, h2⟩
          have HZ3 : Hid (W.heap.size ≤ W3.heap.size) := Nat.le_trans HZ4.out hk3.1.size
          clear hJ3 hk3 HV4 HF4 HM4 HZ4 HR cf4 lf4
          gi_wp2
          go_roundw
          case rel => exact ⟨k + 1, by omega, by go_num, by show J _ _; rw [HN.out]; exact HJ3.out, HM3.out, HV3.out, HF3.out, HZ3.out⟩
          case measure => simp [intOf]; omega
        · gi_wp2
          refine bodyPost_ret (results_none rfl _ _ _) rfl ?_
          exact ⟨⟨_, rfl⟩, .inr ⟨_, trivial, hJx3⟩⟩
    · obtain rfl : k = ids.length := by omega
      rw [List.take_length] at HJr
      gi_wp2
      go_end0
      exact ⟨⟨_, rfl⟩, .inl ⟨_, rfl, HJr.out⟩⟩

/-- The function that is handed back tells each id once. -/
theorem behind_stops (n : Nat) (bi bf n₀ : Nat) (frm : Int) (v : Value) (ids : List Int) (hl : ids.length ≤ 1048576) (w : World) (hbi : w.cell? ⟨bi, 0, none⟩ = some v) (hbf : w.cell? ⟨bf, 0, none⟩ = some (.int .i64 frm)) (hv : IntsLow n₀ w v ids) (hn₀ : n₀ ≤ w.heap.size) :
    SeqStopsK Fence.wide n Try.prog 39 #[.pointer (some ⟨bi, 0, none⟩), .pointer (some ⟨bf, 0, none⟩)] (fun x : Int => #[Value.int .i64 x, Value.int .i64 ((ahd frm x : Nat) : Int)]) (Kp n₀ bf) (fun ys => ys = nub ids) (fun _ => True) ids.length w := fun l J Jx W hW hJ _ hY h0 =>
  behind1_in n l bi bf n₀ frm v ids hl J Jx W hJ ((hW.cell (p := ⟨bi, 0, none⟩) (cell_lt' hbi)).trans hbi) ((hW.cell (p := ⟨bf, 0, none⟩) (cell_lt' hbf)).trans hbf) (hv.below (hW.mono hn₀)) (Nat.le_trans hn₀ hW.size) hY h0

set_option maxHeartbeats 400000 in
theorem behind_calls (v : Value) (a : Option Addr) (len cap : Nat) (frm : Int) (w : World) (hv : v = .slice a len cap) :
    Calls Try.prog 31 #[v, .int .i64 frm] w fun e w' => e = .returned (.func (.func 39) #[] #[.pointer (some ⟨w.heap.size, 0, none⟩), .pointer (some ⟨w.heap.size + 1, 0, none⟩)]) ∧ w' = (w.alloc (.cells #[v] 24)).alloc (.cells #[.int .i64 frm] 3) := by
  subst hv
  go_enter Try.func31, Try.ntmps31
  go_wp2
  go_ret
  exact ⟨rfl, rfl⟩
end Go.Proofs.Ytbklkpggmkfajaa.P8
