/- The program's functions that tell ids, each once, to a yield that is handed to them; condition: at most 2^20 ids. -/
import Derived.Test.YthkdgnohkdedpaaRng1
import Derived.Test.YthkdgnohkdedpaaIntS
import Derived.Test.YthkdgnohkdedpaaMapL
import Derived.Test.YthkdgnohkdedpaaRnf
import Derived.RangeFuncNested
import Derived.RangeFuncBound
import Derived.RangeFuncCalls
import Derived.RangeFuncLeaves
import Derived.RangeFuncBox
import Derived.Shelf.Abstract
import Derived.Shelf.RegionOpen
import Derived.WalkKit
import Derived.OwnWalkIn
import Derived.TacticsInMore
import Derived.LoopNIn
import Derived.LoopIn
namespace Go.Proofs.Ythkdgnohkdedpaa.P8
set_option maxRecDepth 8000
open Go.RowKit Go.Shelf P1 Mp Rf

attribute [local go_sem] Oper.semAt_some

theorem findNow_int (x : Int) (u : TypeDesc) (hu : u = .int .i64) : ∀ (es : List MapEntry) (i : Nat), (∀ e ∈ es, ∃ y : Int, e.key = .int .i64 y) →
    (Instr.findNow u (.int .i64 x) es i = some none ∧ ∀ e ∈ es, e.key ≠ .int .i64 x) ∨ ∃ j e, Instr.findNow u (.int .i64 x) es i = some (some (i + j, e.val)) ∧ es[j]? = some e ∧ e.key = .int .i64 x := by
  subst hu
  intro es
  induction es with
  | nil => exact fun i _ => .inl ⟨rfl, by simp⟩
  | cons e es ih =>
    intro i h
    obtain ⟨y, hy⟩ := h e (by simp)
    by_cases hxy : x = y
    · subst hxy
      refine .inr ⟨0, e, ?_, rfl, hy⟩
      simp [Instr.findNow, Instr.sameNow, hy]
    · have hne : e.key ≠ .int .i64 x := by rw [hy]; simp; exact fun h => hxy h.symm
      have hf : (x == y) = false := by simpa using hxy
      rcases ih (i + 1) (fun e' he' => h e' (by simp [he'])) with ⟨h1, h2⟩ | ⟨j, e', h1, h2, h3⟩
      · refine .inl ⟨?_, ?_⟩
        · simp [Instr.findNow, Instr.sameNow, hy, hf, h1]
        · intro e' he'
          rcases List.mem_cons.1 he' with rfl | he'
          · exact hne
          · exact h2 e' he'
      · refine .inr ⟨j + 1, e', ?_, by simpa using h2, h3⟩
        simp [Instr.findNow, Instr.sameNow, hy, hf, h1]
        omega

/-- Ints as keys. -/
def keyI : KT Try.prog 3 Int where
  kv := fun x => .int .i64 x
  inj := fun x y h => by simpa using h
  check := fun em w x => by kernel_rfl
  find := fun w x es h => by
    rcases findNow_int x _ rfl es 0 h with ⟨h1, h2⟩ | ⟨j, e, h1, h2, h3⟩
    · exact .inl ⟨by simp [Instr.findKey, run_underlying Try.underlying3, h1, Result.andThen], h2⟩
    · exact .inr ⟨j, e, by simp [Instr.findKey, run_underlying Try.underlying3, h1, Result.andThen], h2, h3⟩
  stays := fun w x => by simp [Instr.keyThatStays, Instr.sameBits]

theorem zero_unit8 : ∀ w : World, (zeroValue 115).run Try.prog w = .ok (.agg #[]) w := fun w => by kernel_rfl

/-- What has been told. -/
def toldF (L : List Int) (x : Int) : Option Value := if x ∈ L then some (.agg #[]) else none

theorem told_look {w : World} {km n : Nat} {L : List Int} (h : MapR keyI w km n (toldF L)) (x : Int) :
    (Instr.lookup 114 (.map (some km)) (.int .i64 x) true).run Try.prog w = .ok (.tuple #[.agg #[], .bool (decide (x ∈ L))]) w := by
  have := h.look (t := 114) Try.underlying114 (zero_unit8 w) true x
  rw [if_pos rfl] at this
  refine this.trans ?_
  unfold toldF
  by_cases hf : x ∈ L
  · simp [hf]
  · simp [hf]

theorem told_upd (L : List Int) (c x : Int) : toldF (L ++ [c]) x = upd (toldF L) c (.agg #[]) x := by
  unfold toldF upd
  by_cases hx : x = c
  · subst hx
    simp
  · simp [hx]

/-- What a round that goes on keeps: what lay below n₀, the box of what is told from, every box of a yield. -/
def Kp (n₀ bf : Nat) (W W' : World) : Prop := Below n₀ W W' ∧ W'.heap[bf]? = W.heap[bf]? ∧ ∀ B u, Boxed W B 100 u → Boxed W' B 100 u

theorem Kp.trans {n₀ bf : Nat} {A B C : World} (h : Kp n₀ bf A B) (k : Kp n₀ bf B C) : Kp n₀ bf A C := ⟨h.1.trans k.1, k.2.1.trans h.2.1, fun b u hb => k.2.2 b u (h.2.2 b u hb)⟩

theorem Kp.refl (n₀ bf : Nat) (A : World) : Kp n₀ bf A A := ⟨Below.refl _ _, rfl, fun _ _ h => h⟩

/-- The slice's ints lie below n₀. -/
def IntsLow (n₀ : Nat) (W : World) (v : Value) (l : List Int) : Prop :=
  ∃ a cap, v = .slice a l.length cap ∧ ∀ j (hj : j < l.length), ∃ g off, a = some ⟨g, off, none⟩ ∧ g < n₀ ∧ W.cell? ⟨g, off + j, none⟩ = some (.int .i64 l[j])

theorem IntsLow.below {n₀ : Nat} {W W' : World} {v : Value} {l : List Int} (h : IntsLow n₀ W v l) (hb : Below n₀ W W') : IntsLow n₀ W' v l := by
  obtain ⟨a, cap, h1, h2⟩ := h
  refine ⟨a, cap, h1, fun j hj => ?_⟩
  obtain ⟨g, off, e1, e2, e3⟩ := h2 j hj
  exact ⟨g, off, e1, e2, (hb.cell (p := ⟨g, off + j, none⟩) e2).trans e3⟩

theorem IntsLow.of {w : World} {v : Value} {l : List Int} (h : IntsAt w v l) : IntsLow w.heap.size w v l := h

theorem cell_same {W W' : World} {b : Nat} (h : W'.heap[b]? = W.heap[b]?) (o : Nat) : W'.cell? ⟨b, o, none⟩ = W.cell? ⟨b, o, none⟩ := World.cell?_of_block h

set_option maxRecDepth 100000 in
set_option maxHeartbeats 2000000 in
theorem once1_in (n : Nat) (l bi n₀ B : Nat) (v : Value) (ids : List Int) (hl : ids.length ≤ 1048576) (J Jx : List Int → World → Prop) (W : World) (hB : B = W.heap.size) (hJ : OwnFrom B J)
    (hbi : W.cell? ⟨bi, 0, none⟩ = some v) (hv : IntsLow n₀ W v ids) (hn₀ : n₀ ≤ W.heap.size)
    (hY : ∀ m pre x W1, J pre W1 → pre.length < ids.length → YieldAt Fence.wide m Try.prog l #[.int .i64 x] W1 fun e W' => KeepsFrom B W1 W' ∧
      ((e = .returned (.bool true) ∧ J (pre ++ [x]) W' ∧ Below n₀ W1 W') ∨ (e = .returned (.bool false) ∧ Jx (pre ++ [x]) W')))
    (h0 : J [] W) :
    CallsIn Fence.wide n Try.prog 96 #[.func (.yield l) #[] #[], .pointer (some ⟨bi, 0, none⟩)] W fun e W' => (∃ v, e = .returned v) ∧
      ((∃ ys, ys = nub ids ∧ J ys W') ∨ (∃ pre, True ∧ Jx pre W')) := by
  have HV := hide hv
  obtain ⟨av, cv, rfl, -⟩ := hv
  have HY := hide hY
  have HJ := hide hJ
  have H0 := hide h0
  clear hY hJ h0
  have lbi : bi < W.heap.size := cell_lt' hbi
  have hmk := fun wx : World => (show (Instr.makeMap 114 none).run Try.prog wx = .ok (.map (some wx.heap.size)) (wx.alloc (.map #[] 0)) from by kernel_rfl)
  have hbm := (Below.refl W.heap.size W).alloc (Nat.le_refl _) (.map #[] 0)
  have HJm := hide (HJ.out [] W (W.alloc (.map #[] 0)) none H0.out (World.grownBy_alloc W _ none) (fun r e => by cases e))
  have HM0 := hide (MapR.made (T := keyI) W)
  have HVm := hide (HV.out.below (hbm.mono hn₀))
  have hbi2 := hbm.cell (p := ⟨bi, 0, none⟩) lbi
  rw [hbi] at hbi2
  have hbl2 : bi < (W.alloc (.map #[] 0)).heap.size := by simp; omega
  refine callsIn_of_wp Try.func96 rfl trivial ?_ rfl
  simp only [Try.ntmps96, List.size_toArray, List.length_cons, List.length_nil, Nat.reduceAdd, Nat.reduceSub, Array.replicate_succ, Array.replicate_zero, List.push_toArray, List.append_toArray, List.nil_append, List.cons_append]
  gi_wp2
  obtain ⟨bm, em⟩ : ∃ b, b = W.heap.size := ⟨_, rfl⟩
  rw [← em] at HM0 ⊢
  have HEm : Hid (B ≤ bm) := by show _ ≤ _; omega
  have hnm : n₀ ≤ bm := by omega
  have hsz1 : n₀ ≤ (W.alloc (.map #[] 0)).heap.size := by simp; omega
  clear hmk em hbi2 hbl2 hbm HV H0
  generalize W.alloc (.map #[] 0) = w1 at *
  gi_loopw [11] (fun i wr => ∃ k : Nat, k ≤ ids.length ∧ i = .int .i64 k ∧ Hid (J (nub (ids.take k)) wr) ∧ Hid (MapR keyI wr bm k (toldF (nub (ids.take k)))) ∧ Hid (IntsLow n₀ wr (.slice av ids.length cv) ids) ∧ Hid (n₀ ≤ wr.heap.size)) (fun i _ => ids.length - (intOf i).toNat)
  case atStart => exact ⟨0, Nat.zero_le _, rfl, HJm.out, HM0.out.congr (fun x => by simp [toldF, nub]), HVm.out, hsz1⟩
  case round =>
    clear HJm HM0 HVm
    obtain ⟨k, hk, rfl, HJr, HMr, HVr, HZr⟩ := hrel
    by_cases hlt : k < ids.length
    · obtain ⟨a2, c2, hsh, HA⟩ := HVr.out
      cases hsh
      obtain ⟨ga, oa, rfl, ha2, ha3⟩ := HA k hlt
      clear HA
      have hz := HZr.out
      have hga : ga < wr.heap.size := by omega
      have HT := hide (nub_snoc (ids.take k) ids[k])
      rw [← List.take_succ_eq_append_getElem hlt] at HT
      have hln : (nub (ids.take k)).length < ids.length := by
        have h1 := nub_length (ids.take k)
        rw [List.length_take] at h1
        omega
      have hb1 := (Below.refl wr.heap.size wr).alloc (Nat.le_refl _) (.cells #[] 115)
      have hM2 := HMr.out.at_ (hb1.block bm HMr.out.lt)
      have hlk := told_look HMr.out ids[k]
      have HJ2 := hide (HJ.out _ wr (wr.alloc (.cells #[] 115)) none HJr.out (World.grownBy_alloc wr _ none) (fun r e => by cases e))
      have HV2 := hide (HVr.out.below (hb1.mono hz))
      generalize ids[k] = x at *
      by_cases hm : x ∈ nub (ids.take k)
      · have HN : Hid (nub (ids.take (k + 1)) = nub (ids.take k)) := by show _ = _; rw [HT.out, if_pos hm]
        rw [decide_eq_true hm] at hlk
        have HM2 := hide (hM2.mono (Nat.le_succ k))
        have HZ2 : Hid (n₀ ≤ (wr.alloc (.cells #[] 115)).heap.size) := Nat.le_trans hz hb1.size
        clear hm HT hM2 hb1 HMr HJr HVr HZr hz
        gi_wp2
        go_roundw
        case rel => exact ⟨k + 1, by omega, by go_num, by show J _ _; rw [HN.out]; exact HJ2.out, by show MapR _ _ _ _ _; rw [HN.out]; exact HM2.out, HV2.out, HZ2.out⟩
        case measure => simp [intOf]; omega
      · have HN : Hid (nub (ids.take (k + 1)) = nub (ids.take k) ++ [x]) := by show _ = _; rw [HT.out, if_neg hm]
        rw [decide_eq_false hm] at hlk
        obtain ⟨w4, hrun, hM4, hg4, hs4⟩ := hM2.store (t := 114) Try.underlying114 x (.agg #[])
        change (Instr.mapUpdate 114 (.map (some bm)) (.int .i64 x) (.agg #[])).run Try.prog _ = .ok () w4 at hrun
        have hJ4 : J (nub (ids.take k)) w4 := HJ.out _ _ w4 (some bm) HJ2.out hg4 (fun r e => by
          cases e
          obtain ⟨es, clock, h1, _⟩ := hM2
          exact ⟨HEm.out, _, h1, rfl⟩)
        have hB4 : Below n₀ (wr.alloc (.cells #[] 115)) w4 := ⟨hg4.os, hg4.tape, hg4.output, hg4.size, fun q hq => hg4.block q (by simp; omega) (fun e => by cases e; omega)⟩
        have HV4 := hide (HV2.out.below hB4)
        have HM4 : Hid (MapR keyI w4 bm (k + 1) (toldF (nub (ids.take (k + 1))))) := by
          show MapR _ _ _ _ _
          rw [HN.out]
          exact hM4.congr (fun y => told_upd _ _ y)
        have HZ4 : Hid (n₀ ≤ w4.heap.size) := by show _ ≤ _; have h1 := hb1.size; have h2 := hg4.size; omega
        obtain ⟨fn, tmps, assign, body, hy, hR⟩ := HY.out (n - 1) _ x w4 hJ4 hln
        have HR := hide hR
        clear hm HT hM2 hM4 hb1 hg4 hs4 HMr HJr HVr HZr HJ2 HV2 hJ4 hB4 hz hR
        gi_wp2
        refine ⟨fun h => (by cases h), HR.out.mono ?_⟩
        rintro e W3 ⟨hkf, (⟨rfl, hJ3, hk3⟩ | ⟨rfl, hJx3⟩)⟩
        · have HJ3 := hide hJ3
          have HV3 := hide (HV4.out.below hk3)
          have HM3 : Hid (MapR keyI W3 bm (k + 1) (toldF (nub (ids.take (k + 1))))) := by
            obtain ⟨es, clock, h1, h2⟩ := HM4.out
            exact ⟨es, clock, hkf.same bm _ HEm.out h1 rfl, h2⟩
          have HZ3 : Hid (n₀ ≤ W3.heap.size) := Nat.le_trans HZ4.out hkf.size
          clear hJ3 hk3 hkf HV4 HM4 HZ4 HR
          gi_wp2
          go_roundw
          case rel => exact ⟨k + 1, by omega, by go_num, by show J _ _; rw [HN.out]; exact HJ3.out, HM3.out, HV3.out, HZ3.out⟩
          case measure => simp [intOf]; omega
        · gi_wp2
          refine bodyPost_ret (results_none rfl _ _ _) rfl ?_
          exact ⟨⟨_, rfl⟩, .inr ⟨_, trivial, hJx3⟩⟩
    · obtain rfl : k = ids.length := by omega
      rw [List.take_length] at HJr
      gi_wp2
      go_end0
      exact ⟨⟨_, rfl⟩, .inl ⟨_, rfl, HJr.out⟩⟩

/-- The function that once hands back tells each id once. -/
theorem once_tells (bi n₀ : Nat) (v : Value) (ids : List Int) (hl : ids.length ≤ 1048576) (w : World) (hbi : w.cell? ⟨bi, 0, none⟩ = some v) (hv : IntsLow n₀ w v ids) (hn₀ : n₀ ≤ w.heap.size) :
    Tells Try.prog 96 #[.pointer (some ⟨bi, 0, none⟩)] (fun x : Int => #[Value.int .i64 x]) (Below n₀) (fun ys => ys = nub ids) (fun _ => True) ids.length w := fun n l J Jx W hW hJ _ hY h0 =>
  once1_in n l bi n₀ _ v ids hl J Jx W rfl hJ ((hW.cell (p := ⟨bi, 0, none⟩) (cell_lt' hbi)).trans hbi) (hv.below (hW.mono hn₀)) (Nat.le_trans hn₀ hW.size) hY h0

set_option maxHeartbeats 400000 in
theorem once_calls (v : Value) (a : Option Addr) (len cap : Nat) (w : World) (hv : v = .slice a len cap) :
    Calls Try.prog 84 #[v] w fun e w' => e = .returned (.func (.func 96) #[] #[.pointer (some ⟨w.heap.size, 0, none⟩)]) ∧ w' = w.alloc (.cells #[v] 24) := by
  subst hv
  go_enter Try.func84, Try.ntmps84
  go_wp2
  go_ret
  exact ⟨rfl, rfl⟩

set_option maxHeartbeats 400000 in
theorem behind_calls (v : Value) (a : Option Addr) (len cap : Nat) (frm : Int) (w : World) (hv : v = .slice a len cap) :
    Calls Try.prog 52 #[v, .int .i64 frm] w fun e w' => e = .returned (.func (.func 83) #[] #[.pointer (some ⟨w.heap.size, 0, none⟩), .pointer (some ⟨w.heap.size + 1, 0, none⟩)]) ∧ w' = (w.alloc (.cells #[v] 24)).alloc (.cells #[.int .i64 frm] 3) := by
  subst hv
  go_enter Try.func52, Try.ntmps52
  go_wp2
  go_ret
  exact ⟨rfl, rfl⟩
end Go.Proofs.Ythkdgnohkdedpaa.P8
