/- The order of texts: what is less is not the same and not greater; no condition.
The program's isOnRing, knownOk, fingersOk, behindOk, hasNothing; condition: lists of at most 2^20.
The program's itemsOk; condition: at most 2^20 items, their texts of at most 2^20 bytes.
The program's shelvesOk; condition: at most 2^20 shelves, of at most 2^20 items, their texts of at most 2^20 bytes.
The program's PeerOk; condition: lists of at most 2^20, texts of at most 2^20 bytes.
How many keys a map has; lists without repetition; no condition.
What the program asks of a ring is what the specification asks; no condition. -/
import Derived.Test.YteladljgnbfcnaaGreatZA
import Derived.Test.YteladljgnbfcnaaGreatZRB
import Derived.Test.YteladljgnbfcnaaGreatZRA
import Derived.Test.YteladljgnbfcnaaGreatZRE
import Derived.WideLaws
namespace Go.Proofs.YteladljgnbfcnaaGreat.P9
open Go.RowKit P1

theorem bl_self : ∀ a : List UInt8, Op.bytesLess a a = false
  | [] => rfl
  | x :: a => by
    rw [Op.bytesLess, bl_self a]
    simp

theorem bl_asymm : ∀ {a b : List UInt8}, Op.bytesLess a b = true → Op.bytesLess b a = false
  | [], [], h => by simp [Op.bytesLess] at h
  | x :: a, [], h => by simp [Op.bytesLess] at h
  | [], y :: b, _ => rfl
  | x :: a, y :: b, h => by
    rw [Op.bytesLess] at h ⊢
    simp only [Bool.or_eq_true, Bool.and_eq_true, decide_eq_true_eq, beq_iff_eq] at h
    rcases h with h | ⟨h1, h2⟩
    · have e1 : ¬ y < x := fun h' => by
        have := UInt8.lt_iff_toNat_lt.1 h
        have := UInt8.lt_iff_toNat_lt.1 h'
        omega
      have e2 : ¬ y = x := fun h' => by
        subst h'
        have := UInt8.lt_iff_toNat_lt.1 h
        omega
      simp [e1, e2]
    · subst h1
      simp [bl_asymm h2]

theorem bl_ne {a b : List UInt8} (h : Op.bytesLess a b = true) : a ≠ b := by
  rintro rfl
  rw [bl_self] at h
  cases h

theorem bl_tri : ∀ {a b : List UInt8}, Op.bytesLess a b = false → a ≠ b → Op.bytesLess b a = true
  | [], [], _, h => absurd rfl h
  | x :: a, [], _, _ => rfl
  | [], y :: b, h, _ => by simp [Op.bytesLess] at h
  | x :: a, y :: b, h, hn => by
    rw [Op.bytesLess] at h ⊢
    simp only [Bool.or_eq_false_iff, decide_eq_false_iff_not, Bool.and_eq_false_iff] at h
    obtain ⟨h1, h2⟩ := h
    by_cases e : x = y
    · subst e
      have h3 : Op.bytesLess a b = false := by
        rcases h2 with h2 | h2
        · simp at h2
        · exact h2
      have := bl_tri h3 (fun e => hn (by rw [e]))
      simp [this]
    · have : y < x := by
        have e1 : x.toNat ≠ y.toNat := fun h' => e (UInt8.toNat_inj.1 h')
        have e2 : ¬ x.toNat < y.toNat := fun h' => h1 (UInt8.lt_iff_toNat_lt.2 h')
        exact UInt8.lt_iff_toNat_lt.2 (by omega)
      simp [this]

/-- 'not greater', as '<=' has it. -/
theorem bl_leq {a b : List UInt8} : (Op.bytesLess b a || b == a) = !Op.bytesLess a b := by
  cases h : Op.bytesLess a b with
  | true =>
    have h1 := bl_asymm h
    have h2 : (b == a) = false := by simpa using fun e : b = a => bl_ne h e.symm
    rw [h1, h2]
    rfl
  | false =>
    by_cases e : b = a
    · subst e
      simp
    · rw [bl_tri h (fun h => e h.symm)]
      rfl
end Go.Proofs.YteladljgnbfcnaaGreat.P9
namespace Go.Proofs.YteladljgnbfcnaaGreat.P9
set_option maxRecDepth 8000
open Go.RowKit P1 P8 Da

attribute [local go_sem] Oper.semAt_some

set_option maxHeartbeats 400000 in
theorem isOn_calls (x : Int) (w : World) : Calls Tryz.prog 42 #[.int .i64 x] w fun e w' => e = .returned (.bool (inB x 0 255)) ∧ w' = w := by
  by_cases h0 : 0 ≤ x
  · by_cases h1 : x < 256
    · have d0 : decide (0 ≤ x) = true := decide_eq_true h0
      have d1 : decide (x < 256) = true := decide_eq_true h1
      have hr : inB x 0 255 = true := decide_eq_true ⟨h0, by omega⟩
      rw [hr]
      go_enter Tryz.func42, Tryz.ntmps42
      go_wp2
      go_ret
      exact ⟨rfl, rfl⟩
    · have d0 : decide (0 ≤ x) = true := decide_eq_true h0
      have d1 : decide (x < 256) = false := decide_eq_false h1
      have hr : inB x 0 255 = false := decide_eq_false (by omega)
      rw [hr]
      go_enter Tryz.func42, Tryz.ntmps42
      go_wp2
      go_ret
      exact ⟨rfl, rfl⟩
  · have d0 : decide (0 ≤ x) = false := decide_eq_false h0
    have hr : inB x 0 255 = false := decide_eq_false (by omega)
    rw [hr]
    go_enter Tryz.func42, Tryz.ntmps42
    go_wp2
    go_ret
    exact ⟨rfl, rfl⟩

set_option maxHeartbeats 400000 in
theorem known_calls (x : Int) (w : World) : Calls Tryz.prog 44 #[.int .i64 x] w fun e w' => e = .returned (.bool (inB x (-1) 255)) ∧ w' = w := by
  by_cases h0 : x = -1
  · subst h0
    go_enter Tryz.func44, Tryz.ntmps44
    go_wp2_with fail
    go_ret
    exact ⟨rfl, rfl⟩
  · have d0 : (x == -1) = false := by simpa using h0
    have hr : inB x (-1) 255 = inB x 0 255 := by unfold inB; exact decide_eq_decide.2 (by omega)
    rw [hr]
    have C := hide (fun w => isOn_calls x w)
    generalize inB x 0 255 = r at *
    go_enter Tryz.func44, Tryz.ntmps44
    go_wp2_with fail
    refine (C.out _).mono ?_
    rintro e w1 ⟨rfl, rfl⟩
    go_wp2_with fail
    go_ret
    exact ⟨rfl, rfl⟩

theorem calls_near_same {P : Program} {f : FuncId} {args : Array Value} {B : Nat} {W : World} {p : Near B W} {v : Value}
    (h : Calls P f args p.w fun e w' => e = .returned v ∧ w' = p.w) : Calls P f args p.w fun e w'' => e = .returned v ∧ ∃ q : Near B W, w'' = q.w :=
  h.mono fun _ _ ⟨he, hw⟩ => ⟨he, p, hw⟩

/-- What is so of all so far. -/
theorem all_take_succ {α : Type} {l : List α} {f : α → Bool} {k : Nat} (h : k < l.length) (h1 : (l.take k).all f = true) (h2 : f l[k] = true) : (l.take (k + 1)).all f = true := by
  rw [List.take_succ_eq_append_getElem h, List.all_append, h1]
  simp [h2]

theorem all_not {α : Type} {l : List α} {f : α → Bool} {k : Nat} (h : k < l.length) (h2 : f l[k] = false) : l.all f = false := by
  rw [List.all_eq_false]
  exact ⟨l[k], List.getElem_mem h, by simp [h2]⟩

def fingersB (l : List Int) : Bool := l.all (fun x => inB x (-1) 255) && decide (l.length = 8)

set_option maxHeartbeats 1000000 in
theorem implFingersOk_calls (w : World) (v : Value) (l : List Int) (hv : IntsAt w v l) (hl : l.length ≤ 1048576) :
    Calls Tryz.prog 46 #[v] w fun e w' => e = .returned (.bool (fingersB l)) ∧ w' = w := by
  have HV := hide hv
  obtain ⟨a, cap, rfl, -⟩ := hv
  have HR0 : Hid (fingersB l = (l.all (fun x => inB x (-1) 255) && decide (l.length = 8))) := rfl
  go_enter Tryz.func46, Tryz.ntmps46
  go_wp2_with fail
  go_loopw [7] (fun i wr => ∃ k : Nat, k ≤ l.length ∧ i = .int .i64 k ∧ Hid ((l.take k).all (fun x => inB x (-1) 255) = true) ∧ wr = w) (fun i _ => l.length - (intOf i).toNat)
  case atStart => exact ⟨0, Nat.zero_le _, rfl, rfl, rfl⟩
  case round =>
    obtain ⟨k, hk, rfl, HN, hwr⟩ := hrel
    subst hwr
    by_cases hlt : k < l.length
    · obtain ⟨a2, c2, hsh, HA⟩ := HV.out
      cases hsh
      obtain ⟨g, off, rfl, hg, hc⟩ := HA k hlt
      have C := hide (fun wx => known_calls l[k] wx)
      have HS := hide (fun h => all_take_succ (f := fun x => inB x (-1) 255) hlt HN.out h)
      have HF : Hid (inB l[k] (-1) 255 = false → fingersB l = false) := fun h => by rw [HR0.out, all_not hlt h]; rfl
      clear HA HN
      generalize l[k] = x at *
      cases hx : inB x (-1) 255 with
      | true =>
        have HR := hide (HS.out hx)
        rw [hx] at C
        clear HS HF hx
        go_wp2_with fail
        refine (C.out _).mono ?_
        rintro e w1 ⟨rfl, rfl⟩
        go_wp2_with fail
        go_roundw
        case rel => exact ⟨k + 1, by omega, by go_num, HR.out, trivial⟩
        case measure => simp [intOf]; omega
      | false =>
        have HR := hide (HF.out hx)
        rw [hx] at C
        clear HS HF hx
        go_wp2_with fail
        refine (C.out _).mono ?_
        rintro e w1 ⟨rfl, rfl⟩
        go_wp2_with fail
        go_ret
        exact ⟨by rw [HR.out]; rfl, rfl⟩
    · obtain rfl : k = l.length := by omega
      rw [List.take_length] at HN
      have HR : Hid (fingersB l = ((l.length : Int) == 8)) := by show _ = _; rw [HR0.out, HN.out, Bool.true_and, Bool.eq_iff_iff]; simp; omega
      clear HN
      go_wp2_with fail
      go_ret
      exact ⟨by rw [HR.out]; rfl, rfl⟩

def behindB (p : Pr) : Bool := p.behind.all (fun x => inB x 0 255 && decide (x ≠ p.id)) && decide (p.behind.length ≤ 3)

set_option maxHeartbeats 1000000 in
theorem implBehind_calls (w : World) (p : Pr) (u3 u4 u5 : Value) (h3 : IntsAt w u3 p.behind) (hl : p.behind.length ≤ 1048576) :
    Calls Tryz.prog 45 #[prV p u3 u4 u5] w fun e w' => e = .returned (.bool (behindB p)) ∧ Below w.heap.size w w' := by
  have hb1 := (Below.refl w.heap.size w).alloc (Nat.le_refl _) (.cells #[.int .i64 p.id, .bool p.here, .int .i64 p.ahead, u3, u4, u5] 37)
  have H3 := hide (h3.below hb1 (Nat.le_refl _))
  obtain ⟨a3, c3, rfl, -⟩ := h3
  have G := Blk.new w #[.int .i64 p.id, .bool p.here, .int .i64 p.ahead, .slice a3 p.behind.length c3, u4, u5] 37
  have HB := hide hb1
  have HR0 : Hid (behindB p = (p.behind.all (fun x => inB x 0 255 && decide (x ≠ p.id)) && decide (p.behind.length ≤ 3))) := rfl
  clear hb1
  go_enter Tryz.func45, Tryz.ntmps45
  go_upto_region 1 with fail
  obtain ⟨b0, e0⟩ : ∃ b, b = w.heap.size := ⟨_, rfl⟩
  rw [← e0] at G ⊢
  clear e0
  generalize w.alloc (.cells #[.int .i64 p.id, .bool p.here, .int .i64 p.ahead, .slice a3 p.behind.length c3, u4, u5] 37) = w1 at *
  have d0 : w1.cell? ⟨b0, 0, none⟩ = some (.int .i64 p.id) := by rw [G.cell 0]; rfl
  have d3 : w1.cell? ⟨b0, 3, none⟩ = some (.slice a3 p.behind.length c3) := by rw [G.cell 3]; rfl
  have l0 := G.lt
  clear G
  go_wp2_with fail
  go_loopw [8] (fun i wr => ∃ k : Nat, k ≤ p.behind.length ∧ i = .int .i64 k ∧ Hid ((p.behind.take k).all (fun x => inB x 0 255 && decide (x ≠ p.id)) = true) ∧ wr = w1) (fun i _ => p.behind.length - (intOf i).toNat)
  case atStart => exact ⟨0, Nat.zero_le _, rfl, rfl, rfl⟩
  case round =>
    obtain ⟨k, hk, rfl, HN, hwr⟩ := hrel
    subst hwr
    by_cases hlt : k < p.behind.length
    · obtain ⟨a2, c2, hsh, HA⟩ := H3.out
      cases hsh
      obtain ⟨g, off, rfl, hg, hc⟩ := HA k hlt
      have C := hide (fun wx => isOn_calls p.behind[k] wx)
      have HS := hide (fun h => all_take_succ (f := fun x => inB x 0 255 && decide (x ≠ p.id)) hlt HN.out h)
      have HF : Hid ((inB p.behind[k] 0 255 && decide (p.behind[k] ≠ p.id)) = false → behindB p = false) := fun h => by rw [HR0.out, all_not hlt h]; rfl
      clear HA HN
      generalize p.behind[k] = x at *
      cases hx : inB x 0 255 with
      | true =>
        rw [hx] at C HF
        by_cases hy : x = p.id
        · have HR := hide (HF.out (by simp [hy]))
          have hyd : (x == p.id) = true := by simpa using hy
          clear HS HF hx hy
          go_wp2_with fail
          refine (C.out _).mono ?_
          rintro e w1 ⟨rfl, rfl⟩
          go_wp2_with fail
          go_ret
          exact ⟨by rw [HR.out]; rfl, HB.out⟩
        · have HR := hide (HS.out (by simp [hx, hy]))
          have hyd : (x == p.id) = false := by simpa using hy
          clear HS HF hx hy
          go_wp2_with fail
          refine (C.out _).mono ?_
          rintro e w1 ⟨rfl, rfl⟩
          go_wp2_with fail
          go_roundw
          case rel => exact ⟨k + 1, by omega, by go_num, HR.out, trivial⟩
          case measure => simp [intOf]; omega
      | false =>
        have HR := hide (HF.out (by rw [hx]; rfl))
        rw [hx] at C
        clear HS HF hx
        go_wp2_with fail
        refine (C.out _).mono ?_
        rintro e w1 ⟨rfl, rfl⟩
        go_wp2_with fail
        go_ret
        exact ⟨by rw [HR.out]; rfl, HB.out⟩
    · obtain rfl : k = p.behind.length := by omega
      rw [List.take_length] at HN
      have HR : Hid (behindB p = decide (p.behind.length ≤ 3)) := by show _ = _; rw [HR0.out, HN.out, Bool.true_and]
      clear HN
      go_wp2_with fail
      go_ret
      exact ⟨by rw [HR.out]; simp; omega, HB.out⟩

set_option maxHeartbeats 1000000 in
theorem hasNothing_calls (w : World) (p : Pr) (a3 a4 a5 : Option Addr) (c3 c4 c5 : Nat) (hs3 : p.behind.length ≤ 1048576) (hs4 : p.fingers.length ≤ 1048576) (hs5 : p.shelves.length ≤ 1048576) :
    Calls Tryz.prog 43 #[prV p (.slice a3 p.behind.length c3) (.slice a4 p.fingers.length c4) (.slice a5 p.shelves.length c5)] w fun e w' => e = .returned (.bool (awayOk p)) ∧ Below w.heap.size w w' := by
  have hb1 := (Below.refl w.heap.size w).alloc (Nat.le_refl _) (.cells #[.int .i64 p.id, .bool p.here, .int .i64 p.ahead, .slice a3 p.behind.length c3, .slice a4 p.fingers.length c4, .slice a5 p.shelves.length c5] 37)
  have G := Blk.new w #[.int .i64 p.id, .bool p.here, .int .i64 p.ahead, .slice a3 p.behind.length c3, .slice a4 p.fingers.length c4, .slice a5 p.shelves.length c5] 37
  have HB := hide hb1
  have HAO : Hid (awayOk p = (decide (p.ahead = 0) && decide (p.behind.length = 0) && decide (p.fingers.length = 0) && decide (p.shelves.length = 0))) := rfl
  clear hb1
  go_enter Tryz.func43, Tryz.ntmps43
  go_upto_region 1 with fail
  obtain ⟨b0, e0⟩ : ∃ b, b = w.heap.size := ⟨_, rfl⟩
  rw [← e0] at G ⊢
  clear e0
  generalize w.alloc (.cells #[.int .i64 p.id, .bool p.here, .int .i64 p.ahead, .slice a3 p.behind.length c3, .slice a4 p.fingers.length c4, .slice a5 p.shelves.length c5] 37) = w1 at *
  have d2 : w1.cell? ⟨b0, 2, none⟩ = some (.int .i64 p.ahead) := by rw [G.cell 2]; rfl
  have d3 : w1.cell? ⟨b0, 3, none⟩ = some (.slice a3 p.behind.length c3) := by rw [G.cell 3]; rfl
  have d4 : w1.cell? ⟨b0, 4, none⟩ = some (.slice a4 p.fingers.length c4) := by rw [G.cell 4]; rfl
  have d5 : w1.cell? ⟨b0, 5, none⟩ = some (.slice a5 p.shelves.length c5) := by rw [G.cell 5]; rfl
  have l0 := G.lt
  clear G
  generalize p.ahead = x2 at *
  generalize p.behind.length = x3 at *
  generalize p.fingers.length = x4 at *
  generalize p.shelves.length = x5 at *
  by_cases q1 : x2 = 0
  · rw [q1] at d2
    have e1 : decide (x2 = 0) = true := decide_eq_true q1
    rcases Nat.eq_zero_or_pos x3 with q2 | q2
    · subst q2
      rcases Nat.eq_zero_or_pos x4 with q3 | q3
      · subst q3
        rcases Nat.eq_zero_or_pos x5 with q4 | q4
        · subst q4
          go_wp2_with fail
          go_ret
          exact ⟨by rw [HAO.out]; simp [e1], HB.out⟩
        · have hq : ((x5 : Int) == 0) = false := by simp; omega
          have hr : decide (x5 = 0) = false := decide_eq_false (by omega)
          clear q4
          go_wp2_with fail
          go_ret
          exact ⟨by rw [HAO.out]; simp [hr], HB.out⟩
      · have hq : ((x4 : Int) == 0) = false := by simp; omega
        have hr : decide (x4 = 0) = false := decide_eq_false (by omega)
        clear q3
        go_wp2_with fail
        go_ret
        exact ⟨by rw [HAO.out]; simp [hr], HB.out⟩
    · have hq : ((x3 : Int) == 0) = false := by simp; omega
      have hr : decide (x3 = 0) = false := decide_eq_false (by omega)
      clear q2
      go_wp2_with fail
      go_ret
      exact ⟨by rw [HAO.out]; simp [hr], HB.out⟩
  · have hq : (x2 == 0) = false := by simpa using q1
    have hr : decide (x2 = 0) = false := decide_eq_false q1
    clear q1
    go_wp2_with fail
    go_ret
    exact ⟨by rw [HAO.out]; simp [hr], HB.out⟩
end Go.Proofs.YteladljgnbfcnaaGreat.P9
namespace Go.Proofs.YteladljgnbfcnaaGreat.P9
set_option maxRecDepth 8000
open Go.RowKit P1 P8 Da

set_option maxHeartbeats 2000000 in
theorem implItems_calls (w : World) (v : Value) (l : List It) (hv : ItemsAt w v l) (hl : l.length ≤ 1048576) (hlt6 : ∀ x ∈ l, x.t.length ≤ 1048576) :
    Calls Tryz.prog 63 #[v] w fun e w' => e = .returned (.bool (itemsOk l)) ∧ Below w.heap.size w w' := by
  have HV := hide hv
  obtain ⟨a, cap, rfl, -⟩ := hv.open_
  clear hv
  have HT := hide hlt6
  clear hlt6
  have HIO : Hid (itemsOk l = ((List.range l.length).all (itemOk l) && decide (l.length ≤ 300))) := rfl
  go_enter Tryz.func63, Tryz.ntmps63
  go_wp2_with fail
  go_loopw [7] (fun i wr => ∃ k : Nat, k ≤ l.length ∧ i = .int .i64 k ∧ Hid (∀ j, j < k → itemOk l j = true) ∧ Hid (Below w.heap.size w wr)) (fun i _ => l.length - (intOf i).toNat)
  case atStart => exact ⟨0, Nat.zero_le _, rfl, fun j hj => by omega, Below.refl _ _⟩
  case round =>
    obtain ⟨k, hk, rfl, HN, HB⟩ := hrel
    by_cases hlt : k < l.length
    · have hvr := HV.out.below HB.out (Nat.le_refl _)
      obtain ⟨a2, c2, hsh, HA⟩ := hvr.open_
      cases hsh
      obtain ⟨g, off, rfl, hg, f0, f1⟩ := HA k hlt
      have HF : Hid (itemOk l k = false → itemsOk l = false) := fun h => by rw [HIO.out, not_all_range hlt h]; rfl
      have HS : Hid (itemOk l k = true → ∀ j, j < k + 1 → itemOk l j = true) := fun h j hj => by
        rcases Nat.lt_or_ge j k with h1 | h1
        · exact HN.out j h1
        · obtain rfl : j = k := by omega
          exact h
      have hi : itemOk l k = (decide (l[k].t.length ≤ 600) && (decide (k = 0) || Op.bytesLess (((l[k - 1]?).map (·.t)).getD []) l[k].t)) := by unfold itemOk; simp [hlt]
      have HPV : Hid (∀ j, k = j + 1 → ∃ y : List UInt8, (((l[k - 1]?).map (·.t)).getD []) = y ∧ wr.cell? ⟨g, off + j * 2, none⟩ = some (.string ⟨y.toArray⟩)) := fun j e => by
        obtain ⟨g', off', e', _, f0', _⟩ := HA j (by omega)
        cases e'
        exact ⟨l[j].t, by subst e; simp [show j < l.length by omega], f0'⟩
      have hmx := HT.out l[k] (List.getElem_mem hlt)
      have HI := hide hi
      clear hi hvr HA HN
      generalize l[k].t = t1 at *
      generalize l[k].gone = g1 at *
      have hsz : (⟨t1.toArray⟩ : ByteArray).size = t1.length := rfl
      go_upto_region 4 with fail
      have hba := (Below.refl wr.heap.size wr).alloc (Nat.le_refl _) (.cells #[.string ⟨t1.toArray⟩, .bool g1] 86)
      have S := Blk.new wr #[.string ⟨t1.toArray⟩, .bool g1] 86
      have HBx := hide (HB.out.trans (hba.mono HB.out.size))
      have ng : g < (wr.alloc (.cells #[.string ⟨t1.toArray⟩, .bool g1] 86)).heap.size := Nat.lt_of_lt_of_le hg hba.size
      have HPW : Hid (∀ j, k = j + 1 → ∃ y : List UInt8, (((l[k - 1]?).map (·.t)).getD []) = y ∧ (wr.alloc (.cells #[.string ⟨t1.toArray⟩, .bool g1] 86)).cell? ⟨g, off + j * 2, none⟩ = some (.string ⟨y.toArray⟩)) := fun j e => by
        obtain ⟨y, h1, h2⟩ := HPV.out j e
        exact ⟨y, h1, (hba.cell (p := ⟨g, off + j * 2, none⟩) hg).trans h2⟩
      obtain ⟨bs, ebs⟩ : ∃ b, b = wr.heap.size := ⟨_, rfl⟩
      rw [← ebs] at S ⊢
      clear ebs hba hg f0 f1 HPV HB
      generalize wr.alloc (.cells #[.string ⟨t1.toArray⟩, .bool g1] 86) = wx at *
      have s0 : wx.cell? ⟨bs, 0, none⟩ = some (.string ⟨t1.toArray⟩) := by rw [S.cell 0]; rfl
      have sl := S.lt
      clear S
      by_cases h6 : 600 < t1.length
      · have HR : Hid (itemsOk l = false) := HF.out (by rw [HI.out, decide_eq_false (by omega)]; rfl)
        have hd : decide ((600 : Int) < ((t1.length : Nat) : Int)) = true := decide_eq_true (by omega)
        clear HI HS HF HPW h6
        go_wp2_with fail
        go_quiet (fail)
        have HBq := hide (below_drewN HBx.out nq)
        go_wp2_with fail
        go_ret
        exact ⟨by rw [HR.out]; rfl, HBq.out⟩
      · have hd : decide ((600 : Int) < ((t1.length : Nat) : Int)) = false := decide_eq_false (by omega)
        have h6' : t1.length ≤ 600 := by omega
        by_cases hk0 : k = 0
        · have HR := hide (HS.out (by rw [HI.out, decide_eq_true h6', decide_eq_true hk0]; rfl))
          have hd0 : decide (0 < k) = false := decide_eq_false (by omega)
          clear HI HS HF hk0 HPW h6 h6'
          go_wp2_with fail
          go_quiet (fail)
          have HBq := hide (below_drewN HBx.out nq)
          go_wp2_with fail
          go_roundw
          case rel => exact ⟨k + 1, by omega, by go_num, HR.out, HBq.out⟩
          case measure => simp [intOf]; omega
        · obtain ⟨j, rfl⟩ : ∃ j, k = j + 1 := ⟨k - 1, by omega⟩
          obtain ⟨t0, et0, f0'⟩ := HPW.out j rfl
          have hi2 := HI.out
          rw [decide_eq_true h6', decide_eq_false hk0, et0] at hi2
          have HI2 := hide hi2
          clear HI hi2 HPW et0 h6 h6' hk0
          cases hbl : Op.bytesLess t0 t1 with
          | true =>
            have hb2 : Op.bytesLess t1 t0 = false := bl_asymm hbl
            have hb3 : (t1 == t0) = false := by simpa using fun e : t1 = t0 => bl_ne hbl e.symm
            have HR := hide (HS.out (by rw [HI2.out]; simpa using hbl))
            clear HI2 HS HF
            go_wp2_with fail
            go_quiet (fail)
            have HBq := hide (below_drewN HBx.out nq)
            go_wp2_with fail
            go_roundw
            case rel => exact ⟨j + 1 + 1, by omega, by go_num, HR.out, HBq.out⟩
            case measure => simp [intOf]; omega
          | false =>
            have HR : Hid (itemsOk l = false) := HF.out (by rw [HI2.out]; simpa using hbl)
            have hb4 := bl_leq (a := t0) (b := t1)
            rw [hbl, Bool.not_false] at hb4
            clear HI2 HS HF hbl
            cases hb2 : Op.bytesLess t1 t0 with
            | true =>
              clear hb4
              go_wp2_with fail
              go_quiet (fail)
              have HBq := hide (below_drewN HBx.out nq)
              go_wp2_with fail
              go_ret
              exact ⟨by rw [HR.out]; rfl, HBq.out⟩
            | false =>
              have hb3 : (t1 == t0) = true := by simpa [hb2] using hb4
              clear hb4
              go_wp2_with fail
              go_quiet (fail)
              have HBq := hide (below_drewN HBx.out nq)
              go_wp2_with fail
              go_ret
              exact ⟨by rw [HR.out]; rfl, HBq.out⟩
    · obtain rfl : k = l.length := by omega
      have HR : Hid (itemsOk l = decide ((l.length : Int) ≤ 300)) := by show _ = _; rw [HIO.out, all_range HN.out, Bool.true_and, decide_eq_decide]; omega
      clear HN
      go_wp2_with fail
      go_ret
      exact ⟨by rw [HR.out]; simp, HB.out⟩
end Go.Proofs.YteladljgnbfcnaaGreat.P9
namespace Go.Proofs.YteladljgnbfcnaaGreat.P9
set_option maxRecDepth 8000
open Go.RowKit P1 P8 Da

def shelvesB (l : List Shf) : Bool := (List.range l.length).all (shelfOk l) && decide (l.length ≤ 80)

set_option maxHeartbeats 4000000 in
theorem implShelves_calls (w : World) (v : Value) (l : List Shf) (hv : ShelvesAt w v l) (hl : l.length ≤ 1048576) (hi : ∀ x ∈ l, x.items.length ≤ 1048576 ∧ ∀ y ∈ x.items, y.t.length ≤ 1048576) :
    Calls Tryz.prog 47 #[v] w fun e w' => e = .returned (.bool (shelvesB l)) ∧ Below w.heap.size w w' := by
  have HV := hide hv
  obtain ⟨a, cap, rfl, -⟩ := hv.open_
  have HI := hide hi
  clear hv hi
  have HSO : Hid (shelvesB l = ((List.range l.length).all (shelfOk l) && decide (l.length ≤ 80))) := rfl
  go_enter Tryz.func47, Tryz.ntmps47
  go_wp2_with fail
  go_loopw [7] (fun i wr => ∃ k : Nat, k ≤ l.length ∧ i = .int .i64 k ∧ Hid (∀ j, j < k → shelfOk l j = true) ∧ Hid (Below w.heap.size w wr)) (fun i _ => l.length - (intOf i).toNat)
  case atStart => exact ⟨0, Nat.zero_le _, rfl, fun j hj => by omega, Below.refl _ _⟩
  case round =>
    obtain ⟨k, hk, rfl, HN, HB⟩ := hrel
    by_cases hlt : k < l.length
    · have HVr := hide (HV.out.below HB.out (Nat.le_refl _))
      obtain ⟨a2, c2, hsh, HA⟩ := HVr.out.open_
      cases hsh
      obtain ⟨g, off, u, rfl, hg, f0, f1, hit⟩ := HA k hlt
      have hsk : shelfOk l k = (inB l[k].key 0 255 && (decide (k = 0) || decide (((l[k - 1]?).map (·.key)).getD 0 < l[k].key)) && itemsOk l[k].items) := by unfold shelfOk; simp [hlt]
      have hsm := HI.out l[k] (List.getElem_mem hlt)
      have HF : Hid (shelfOk l k = false → shelvesB l = false) := fun h => by rw [HSO.out, not_all_range hlt h]; rfl
      have HS : Hid (shelfOk l k = true → ∀ j, j < k + 1 → shelfOk l j = true) := fun h j hj => by
        rcases Nat.lt_or_ge j k with h1 | h1
        · exact HN.out j h1
        · obtain rfl : j = k := by omega
          exact h
      have HPV : Hid (∀ j, k = j + 1 → ∃ y, ((l[k - 1]?).map (·.key)).getD 0 = y ∧ wr.cell? ⟨g, off + j * 2, none⟩ = some (.int .i64 y)) := fun j e => by
        obtain ⟨g', off', u', e', _, f0', _⟩ := HA j (by omega)
        cases e'
        exact ⟨l[j].key, by subst e; simp [show j < l.length by omega], f0'⟩
      have HSK := hide hsk
      clear HA hsk HN HVr
      generalize l[k].key = key at *
      generalize l[k].items = its at *
      have HIT := hide hit
      obtain ⟨ai, ci, rfl, -⟩ := hit.open_
      clear hit
      go_upto_region 4 with fail
      have hba := (Below.refl wr.heap.size wr).alloc (Nat.le_refl _) (.cells #[.int .i64 key, .slice ai its.length ci] 72)
      have S := Blk.new wr #[.int .i64 key, .slice ai its.length ci] 72
      have HITx := hide (HIT.out.below hba (Nat.le_refl _))
      have HBx := hide (HB.out.trans (hba.mono HB.out.size))
      have ng : g < (wr.alloc (.cells #[.int .i64 key, .slice ai its.length ci] 72)).heap.size := Nat.lt_of_lt_of_le hg hba.size
      have HPW : Hid (∀ j, k = j + 1 → ∃ y, ((l[k - 1]?).map (·.key)).getD 0 = y ∧ (wr.alloc (.cells #[.int .i64 key, .slice ai its.length ci] 72)).cell? ⟨g, off + j * 2, none⟩ = some (.int .i64 y)) := fun j e => by
        obtain ⟨y, h1, h2⟩ := HPV.out j e
        exact ⟨y, h1, (hba.cell (p := ⟨g, off + j * 2, none⟩) hg).trans h2⟩
      obtain ⟨bs, ebs⟩ : ∃ b, b = wr.heap.size := ⟨_, rfl⟩
      rw [← ebs] at S ⊢
      clear ebs hba HIT hg f0 f1 HPV HB
      generalize wr.alloc (.cells #[.int .i64 key, .slice ai its.length ci] 72) = wx at *
      have n0 : ∀ p : Near wx.heap.size wx, p.w.cell? ⟨bs, 0, none⟩ = some (.int .i64 key) := fun p => by rw [(S.below p.h S.lt).cell 0]; rfl
      have n1 : ∀ p : Near wx.heap.size wx, p.w.cell? ⟨bs, 1, none⟩ = some (.slice ai its.length ci) := fun p => by rw [(S.below p.h S.lt).cell 1]; rfl
      have HPN : Hid (∀ j, k = j + 1 → ∃ y, ((l[k - 1]?).map (·.key)).getD 0 = y ∧ ∀ p : Near wx.heap.size wx, p.w.cell? ⟨g, off + j * 2, none⟩ = some (.int .i64 y)) := fun j e => by
        obtain ⟨y, h1, h2⟩ := HPW.out j e
        exact ⟨y, h1, fun p => (p.h.cell (p := ⟨g, off + j * 2, none⟩) ng).trans h2⟩
      clear S HPW ng
      have C1 := hide (fun wq => isOn_calls key wq)
      have C2 := hide (fun p : Near wx.heap.size wx => implItems_calls p.w _ its (HITx.out.below p.h (Nat.le_refl _)) hsm.1 hsm.2)
      have hnn := Near.some wx.heap.size wx
      clear HITx hsm
      cases hx : inB key 0 255 with
      | false =>
        have HR := hide (HF.out (by rw [HSK.out, hx]; rfl))
        rw [hx] at C1
        clear HSK HF HS hx HPN C2
        go_wp2_with fail
        refine wp_region_near wx.heap.size wx (Below.refl _ _) (by kernel_rfl) (by kernel_rfl) ?_
        repeat (go_big_quiet_step (fail))
        go_big_quiet_step (exact calls_near_same (C1.out _))
        repeat (go_big_quiet_step (fail))
        refine wpQuiet_nil ?_
        rintro w3 ⟨pq, rfl⟩
        have HBq := hide (HBx.out.trans (pq.h.mono HBx.out.size))
        go_wp2_with fail
        go_ret
        exact ⟨by rw [HR.out]; rfl, HBq.out⟩
      | true =>
        rw [hx, Bool.true_and] at HSK
        rw [hx] at C1
        clear hx
        by_cases hk0 : k = 0
        · have hd0 : decide (0 < k) = false := decide_eq_false (by omega)
          rw [decide_eq_true hk0, Bool.true_or, Bool.true_and] at HSK
          clear hk0 HPN
          cases hio : itemsOk its with
          | true =>
            have HR := hide (HS.out (by rw [HSK.out, hio]))
            rw [hio] at C2
            clear HSK HF HS hio
            go_wp2_with fail
            refine wp_region_near wx.heap.size wx (Below.refl _ _) (by kernel_rfl) (by kernel_rfl) ?_
            repeat (go_big_quiet_step (fail))
            go_big_quiet_step (exact calls_near_same (C1.out _))
            repeat (go_big_quiet_step (fail))
            go_big_quiet_step (exact calls_near (Nat.le_refl _) (C2.out _))
            repeat (go_big_quiet_step (fail))
            refine wpQuiet_nil ?_
            rintro w3 ⟨pq, rfl⟩
            have HBq := hide (HBx.out.trans (pq.h.mono HBx.out.size))
            go_wp2_with fail
            go_roundw
            case rel => exact ⟨k + 1, by omega, by go_num, HR.out, HBq.out⟩
            case measure => simp [intOf]; omega
          | false =>
            have HR := hide (HF.out (by rw [HSK.out, hio]))
            rw [hio] at C2
            clear HSK HF HS hio
            go_wp2_with fail
            refine wp_region_near wx.heap.size wx (Below.refl _ _) (by kernel_rfl) (by kernel_rfl) ?_
            repeat (go_big_quiet_step (fail))
            go_big_quiet_step (exact calls_near_same (C1.out _))
            repeat (go_big_quiet_step (fail))
            go_big_quiet_step (exact calls_near (Nat.le_refl _) (C2.out _))
            repeat (go_big_quiet_step (fail))
            refine wpQuiet_nil ?_
            rintro w3 ⟨pq, rfl⟩
            have HBq := hide (HBx.out.trans (pq.h.mono HBx.out.size))
            go_wp2_with fail
            go_ret
            exact ⟨by rw [HR.out]; rfl, HBq.out⟩
        · obtain ⟨j, rfl⟩ : ∃ j, k = j + 1 := ⟨k - 1, by omega⟩
          obtain ⟨y, ey, nj⟩ := HPN.out j rfl
          rw [decide_eq_false hk0, Bool.false_or, ey] at HSK
          clear hk0 HPN ey
          by_cases hy : y < key
          · have hyd : decide (key ≤ y) = false := decide_eq_false (by omega)
            rw [decide_eq_true hy, Bool.true_and] at HSK
            clear hy
            cases hio : itemsOk its with
            | true =>
              have HR := hide (HS.out (by rw [HSK.out, hio]))
              rw [hio] at C2
              clear HSK HF HS hio
              go_wp2_with fail
              refine wp_region_near wx.heap.size wx (Below.refl _ _) (by kernel_rfl) (by kernel_rfl) ?_
              repeat (go_big_quiet_step (fail))
              go_big_quiet_step (exact calls_near_same (C1.out _))
              repeat (go_big_quiet_step (fail))
              go_big_quiet_step (exact calls_near (Nat.le_refl _) (C2.out _))
              repeat (go_big_quiet_step (fail))
              refine wpQuiet_nil ?_
              rintro w3 ⟨pq, rfl⟩
              have HBq := hide (HBx.out.trans (pq.h.mono HBx.out.size))
              go_wp2_with fail
              go_roundw
              case rel => exact ⟨j + 1 + 1, by omega, by go_num, HR.out, HBq.out⟩
              case measure => simp [intOf]; omega
            | false =>
              have HR := hide (HF.out (by rw [HSK.out, hio]))
              rw [hio] at C2
              clear HSK HF HS hio
              go_wp2_with fail
              refine wp_region_near wx.heap.size wx (Below.refl _ _) (by kernel_rfl) (by kernel_rfl) ?_
              repeat (go_big_quiet_step (fail))
              go_big_quiet_step (exact calls_near_same (C1.out _))
              repeat (go_big_quiet_step (fail))
              go_big_quiet_step (exact calls_near (Nat.le_refl _) (C2.out _))
              repeat (go_big_quiet_step (fail))
              refine wpQuiet_nil ?_
              rintro w3 ⟨pq, rfl⟩
              have HBq := hide (HBx.out.trans (pq.h.mono HBx.out.size))
              go_wp2_with fail
              go_ret
              exact ⟨by rw [HR.out]; rfl, HBq.out⟩
          · have hyd : decide (key ≤ y) = true := decide_eq_true (by omega)
            have HR := hide (HF.out (by rw [HSK.out, decide_eq_false hy]; rfl))
            clear HSK HF HS hy C2
            go_wp2_with fail
            refine wp_region_near wx.heap.size wx (Below.refl _ _) (by kernel_rfl) (by kernel_rfl) ?_
            repeat (go_big_quiet_step (fail))
            go_big_quiet_step (exact calls_near_same (C1.out _))
            repeat (go_big_quiet_step (fail))
            refine wpQuiet_nil ?_
            rintro w3 ⟨pq, rfl⟩
            have HBq := hide (HBx.out.trans (pq.h.mono HBx.out.size))
            go_wp2_with fail
            go_ret
            exact ⟨by rw [HR.out]; rfl, HBq.out⟩
    · obtain rfl : k = l.length := by omega
      have HR : Hid (shelvesB l = decide ((l.length : Int) ≤ 80)) := by show _ = _; rw [HSO.out, all_range HN.out, Bool.true_and, decide_eq_decide]; omega
      clear HN
      go_wp2_with fail
      go_ret
      exact ⟨by rw [HR.out]; simp, HB.out⟩
end Go.Proofs.YteladljgnbfcnaaGreat.P9
namespace Go.Proofs.YteladljgnbfcnaaGreat.P9
set_option maxRecDepth 8000
open Go.RowKit P1 P8 Da

theorem range_all {α : Type} (d : α) (f : α → Bool) : ∀ l : List α, (List.range l.length).all (fun k => f ((l[k]?).getD d)) = l.all f
  | [] => rfl
  | x :: l => by
    rw [List.length_cons, List.range_succ_eq_map, List.all_cons, List.all_map, List.all_cons, ← range_all d f l]
    rfl

def peerOkI (p : Pr) : Bool := inB p.id 0 255 && if p.here then (inB p.ahead (-1) 255 && behindB p && fingersB p.fingers && shelvesB p.shelves) else awayOk p

theorem peerOkI_eq (p : Pr) : peerOkI p = peerOk p := by
  unfold peerOkI peerOk
  congr 1
  cases p.here with
  | false => rfl
  | true =>
    simp only [if_true]
    unfold hereOk behindB fingersB shelvesB
    have h1 : (List.range p.behind.length).all (behindOk p) = p.behind.all (fun x => inB x 0 255 && decide (x ≠ p.id)) := by
      exact range_all 0 (fun x => inB x 0 255 && decide (x ≠ p.id)) p.behind
    have h2 : (List.range p.fingers.length).all (fingerOk p) = p.fingers.all (fun x => inB x (-1) 255) := by
      exact range_all 0 (fun x => inB x (-1) 255) p.fingers
    rw [h1, h2]
    generalize inB p.ahead (-1) 255 = b1
    generalize p.behind.all _ = b2
    generalize p.fingers.all _ = b3
    generalize (List.range p.shelves.length).all _ = b4
    generalize decide (p.behind.length ≤ 3) = b5
    generalize decide (p.fingers.length = 8) = b6
    generalize decide (p.shelves.length ≤ 80) = b7
    cases b1 <;> cases b2 <;> cases b3 <;> cases b4 <;> cases b5 <;> cases b6 <;> cases b7 <;> rfl

set_option maxHeartbeats 2000000 in
theorem implPeerOk_calls (w : World) (p : Pr) (u3 u4 u5 : Value) (h3 : IntsAt w u3 p.behind) (h4 : IntsAt w u4 p.fingers) (h5 : ShelvesAt w u5 p.shelves) (hp : Small p) :
    Calls Tryz.prog 22 #[prV p u3 u4 u5] w fun e w' => e = .returned (.bool (peerOk p)) ∧ Below w.heap.size w w' := by
  rw [← peerOkI_eq]
  have hb1 := (Below.refl w.heap.size w).alloc (Nat.le_refl _) (.cells #[.int .i64 p.id, .bool p.here, .int .i64 p.ahead, u3, u4, u5] 37)
  have H3 := hide (h3.below hb1 (Nat.le_refl _))
  have H4 := hide (h4.below hb1 (Nat.le_refl _))
  have H5 := hide (h5.below hb1 (Nat.le_refl _))
  obtain ⟨a3, c3, rfl, -⟩ := h3
  obtain ⟨a4, c4, rfl, -⟩ := h4
  obtain ⟨a5, c5, rfl, -⟩ := h5.open_
  have G := Blk.new w #[.int .i64 p.id, .bool p.here, .int .i64 p.ahead, .slice a3 p.behind.length c3, .slice a4 p.fingers.length c4, .slice a5 p.shelves.length c5] 37
  have HB := hide hb1
  have HP := hide hp
  have HO : Hid (peerOkI p = (inB p.id 0 255 && if p.here then (inB p.ahead (-1) 255 && behindB p && fingersB p.fingers && shelvesB p.shelves) else awayOk p)) := rfl
  clear h5 hb1 hp
  go_enter Tryz.func22, Tryz.ntmps22
  go_upto_region 1 with fail
  obtain ⟨b0, e0⟩ : ∃ b, b = w.heap.size := ⟨_, rfl⟩
  rw [← e0] at G ⊢
  clear e0
  generalize w.alloc (.cells #[.int .i64 p.id, .bool p.here, .int .i64 p.ahead, .slice a3 p.behind.length c3, .slice a4 p.fingers.length c4, .slice a5 p.shelves.length c5] 37) = w1 at *
  have C0 := hide (fun wx => isOn_calls p.id wx)
  have C1 := hide (fun wx => known_calls p.ahead wx)
  have CN := hide (hasNothing_calls w1 p a3 a4 a5 c3 c4 c5 HP.out.b HP.out.f HP.out.s)
  have CB := hide (implBehind_calls w1 p _ (.slice a4 p.fingers.length c4) (.slice a5 p.shelves.length c5) H3.out HP.out.b)
  have CF := hide (fun wx (hb : Below w1.heap.size w1 wx) => implFingersOk_calls wx _ p.fingers (H4.out.below hb (Nat.le_refl _)) HP.out.f)
  have CS := hide (fun wx (hb : Below w1.heap.size w1 wx) => implShelves_calls wx _ p.shelves (H5.out.below hb (Nat.le_refl _)) HP.out.s HP.out.i)
  have d0 : w1.cell? ⟨b0, 0, none⟩ = some (.int .i64 p.id) := by rw [G.cell 0]; rfl
  have d1 : w1.cell? ⟨b0, 1, none⟩ = some (.bool p.here) := by rw [G.cell 1]; rfl
  have d2 : w1.cell? ⟨b0, 2, none⟩ = some (.int .i64 p.ahead) := by rw [G.cell 2]; rfl
  have d3 : w1.cell? ⟨b0, 3, none⟩ = some (.slice a3 p.behind.length c3) := by rw [G.cell 3]; rfl
  have d4 : w1.cell? ⟨b0, 4, none⟩ = some (.slice a4 p.fingers.length c4) := by rw [G.cell 4]; rfl
  have d5 : w1.cell? ⟨b0, 5, none⟩ = some (.slice a5 p.shelves.length c5) := by rw [G.cell 5]; rfl
  have l0 := G.lt
  have HG := hide G
  clear G H3 H4 H5 HP
  cases hi : inB p.id 0 255 with
  | false =>
    rw [hi] at C0 HO
    clear hi C1 CN CB CF CS
    go_wp2_with fail
    refine (C0.out _).mono ?_
    rintro e w2 ⟨rfl, rfl⟩
    go_wp2_with fail
    go_ret
    exact ⟨by rw [HO.out]; rfl, HB.out⟩
  | true =>
    rw [hi, Bool.true_and] at HO
    rw [hi] at C0
    clear hi
    go_wp2_with fail
    refine (C0.out _).mono ?_
    rintro e w2 ⟨rfl, rfl⟩
    clear C0
    cases hh : p.here with
    | false =>
      rw [hh] at d1
      have HO2 : Hid (peerOkI p = awayOk p) := by show _ = _; rw [HO.out, hh]; rfl
      rw [show prV p (.slice a3 p.behind.length c3) (.slice a4 p.fingers.length c4) (.slice a5 p.shelves.length c5) = .agg #[.int .i64 p.id, .bool false, .int .i64 p.ahead, .slice a3 p.behind.length c3, .slice a4 p.fingers.length c4, .slice a5 p.shelves.length c5] by rw [prV, hh]] at CN
      clear hh HO C1 CB CF CS
      go_wp2_with fail
      refine CN.out.mono ?_
      rintro e w3 ⟨rfl, hb3⟩
      have HB3 := hide (HB.out.trans (hb3.mono HB.out.size))
      clear hb3 HB CN d0 d1 d2 d3 d4 d5 l0
      go_wp2_with fail
      go_ret
      exact ⟨by rw [HO2.out]; rfl, HB3.out⟩
    | true =>
      rw [hh] at d1
      have HO2 : Hid (peerOkI p = (inB p.ahead (-1) 255 && behindB p && fingersB p.fingers && shelvesB p.shelves)) := by show _ = _; rw [HO.out, hh]; rfl
      rw [show prV p (.slice a3 p.behind.length c3) (.slice a4 p.fingers.length c4) (.slice a5 p.shelves.length c5) = .agg #[.int .i64 p.id, .bool true, .int .i64 p.ahead, .slice a3 p.behind.length c3, .slice a4 p.fingers.length c4, .slice a5 p.shelves.length c5] by rw [prV, hh]] at CB
      clear hh HO CN
      generalize inB p.ahead (-1) 255 = r1 at *
      generalize behindB p = r2 at *
      generalize fingersB p.fingers = r3 at *
      generalize shelvesB p.shelves = r4 at *
      cases r1 with
      | false =>
        clear CB CF CS
        go_wp2_with fail
        refine (C1.out _).mono ?_
        rintro e w3 ⟨rfl, rfl⟩
        go_wp2_with fail
        go_ret
        exact ⟨by rw [HO2.out]; rfl, HB.out⟩
      | true =>
        go_wp2_with fail
        refine (C1.out _).mono ?_
        rintro e w3 ⟨rfl, rfl⟩
        clear C1
        go_wp2_with fail
        refine CB.out.mono ?_
        rintro e w4 ⟨rfl, hb4⟩
        have HB4 := hide (HB.out.trans (hb4.mono HB.out.size))
        have G4 := HG.out.below hb4 HG.out.lt
        have CF4 := hide (CF.out w4 hb4)
        have CS4 := hide (CS.out w4 hb4)
        have d4 : w4.cell? ⟨b0, 4, none⟩ = some (.slice a4 p.fingers.length c4) := by rw [G4.cell 4]; rfl
        have d5 : w4.cell? ⟨b0, 5, none⟩ = some (.slice a5 p.shelves.length c5) := by rw [G4.cell 5]; rfl
        have l0 := G4.lt
        clear hb4 HB CB CF CS HG G4
        cases r2 with
        | false =>
          clear CF4 CS4
          go_wp2_with fail
          go_ret
          exact ⟨by rw [HO2.out]; rfl, HB4.out⟩
        | true =>
          go_wp2_with fail
          refine CF4.out.mono ?_
          rintro e w5 ⟨rfl, rfl⟩
          clear CF4
          cases r3 with
          | false =>
            clear CS4
            go_wp2_with fail
            go_ret
            exact ⟨by rw [HO2.out]; rfl, HB4.out⟩
          | true =>
            go_wp2_with fail
            refine CS4.out.mono ?_
            rintro e w6 ⟨rfl, hb6⟩
            have HB6 := hide (HB4.out.trans (hb6.mono HB4.out.size))
            clear CS4 hb6 HB4 d4 d5 l0
            go_wp2_with fail
            go_ret
            exact ⟨by rw [HO2.out]; rfl, HB6.out⟩
end Go.Proofs.YteladljgnbfcnaaGreat.P9
namespace Go.Proofs.YteladljgnbfcnaaGreat.Mp
open Go.RowKit P1 Go.MapKept

theorem nodup_le {α : Type} [DecidableEq α] : ∀ (l m : List α), l.Nodup → (∀ x ∈ l, x ∈ m) → l.length ≤ m.length
  | [], m, _, _ => by simp
  | x :: l, m, h, hs => by
    rw [List.nodup_cons] at h
    have hx : x ∈ m := hs x (by simp)
    have := nodup_le l (m.erase x) h.2 (fun y hy => (List.mem_erase_of_ne (fun e => h.1 (by rw [← e]; exact hy))).2 (hs y (by simp [hy])))
    rw [List.length_erase_of_mem hx] at this
    have h0 : 0 < m.length := List.length_pos_of_mem hx
    simp only [List.length_cons]
    omega

theorem MapR.count {P : Program} {k : TypeId} {α : Type} [DecidableEq α] {T : KT P k α} {w : World} {b n : Nat} {f : α → Option Value} (H : MapR T w b n f) {t e : TypeId} (ht : P.underlying t = some (.map k e)) (ty : TypeId)
    (S : List α) (hn : S.Nodup) (hs : ∀ x, x ∈ S ↔ (f x).isSome = true) : (Builtin.len_ #[t] ty #[.map (some b)]).run P w = .ok (goInt S.length) w := by
  obtain ⟨es, clock, h1, h2, h3⟩ := H
  have hk : P.underlying t = some (.map (P.mapKeyOf t) (P.mapElemOf t)) := by
    have e1 : P.mapKeyOf t = k := by unfold Program.mapKeyOf; rw [ht]
    have e2 : P.mapElemOf t = e := by unfold Program.mapElemOf; rw [ht]
    rw [e1, e2]; exact ht
  rw [run_len_map w t ty b es clock hk h1]
  congr 2
  -- the keys, as they are asked
  have hpair := ((stamped_iff es clock).1 h2.stamped).2.2
  have hkeys : ∃ K : List α, es.toList.map (·.key) = K.map T.kv := by
    have : ∀ l : List MapEntry, (∀ e ∈ l, ∃ y, e.key = T.kv y) → ∃ K : List α, l.map (·.key) = K.map T.kv := by
      intro l
      induction l with
      | nil => exact fun _ => ⟨[], rfl⟩
      | cons x l ih =>
        intro h
        obtain ⟨y, hy⟩ := h x (by simp)
        obtain ⟨K, hK⟩ := ih (fun e he => h e (by simp [he]))
        exact ⟨y :: K, by simp [hy, hK]⟩
    exact this _ h2.keys
  obtain ⟨K, hK⟩ := hkeys
  have hKn : K.Nodup := by
    have h4 : (K.map T.kv).Pairwise (· ≠ ·) := by rw [← hK, List.pairwise_map]; exact hpair
    rw [List.pairwise_map] at h4
    exact h4.imp (fun h e => h (by rw [e]))
  have hlen : es.size = K.length := by
    have := congrArg List.length hK
    simpa using this
  have hmem : ∀ x, x ∈ K ↔ x ∈ S := by
    intro x
    rw [hs]
    constructor
    · intro hx
      have h5 : T.kv x ∈ es.toList.map (·.key) := by rw [hK]; exact List.mem_map_of_mem hx
      obtain ⟨e, he, hke⟩ := List.mem_map.1 h5
      rw [(h2.val x e.val).2 ⟨e, he, hke, rfl⟩]
      rfl
    · intro hx
      obtain ⟨v, hv⟩ := Option.isSome_iff_exists.1 hx
      obtain ⟨e, he, hke, _⟩ := (h2.val x v).1 hv
      have h5 : T.kv x ∈ K.map T.kv := by rw [← hK]; exact List.mem_map.2 ⟨e, he, hke⟩
      obtain ⟨y, hy, e'⟩ := List.mem_map.1 h5
      rw [← T.inj _ _ e']
      exact hy
  have l1 := nodup_le K S hKn (fun x hx => (hmem x).1 hx)
  have l2 := nodup_le S K hn (fun x hx => (hmem x).2 hx)
  omega
end Go.Proofs.YteladljgnbfcnaaGreat.Mp

namespace Go.Proofs.YteladljgnbfcnaaGreat.P8
theorem nub_nodup (l : List Int) : (nub l).Nodup := by
  refine snoc_ind (P := fun l => (nub l).Nodup) ?_ ?_ l
  · exact List.nodup_nil
  · intro l x ih
    rw [nub_snoc]
    split
    · exact ih
    · rename_i hx
      rw [List.nodup_append]
      exact ⟨ih, by simp, fun a ha b hb e => by simp at hb; subst hb; subst e; exact hx ha⟩

theorem nub_same (l : List Int) : (nub l).length = l.length ↔ l.Nodup := by
  refine snoc_ind (P := fun l => (nub l).length = l.length ↔ l.Nodup) ?_ ?_ l
  · simp [nub]
  · intro l x ih
    rw [nub_snoc]
    have hl := nub_length l
    by_cases hx : x ∈ nub l
    · rw [if_pos hx]
      constructor
      · intro h
        simp only [List.length_append, List.length_singleton] at h
        omega
      · intro h
        rw [List.nodup_append] at h
        exact absurd rfl (h.2.2 x ((mem_nub l x).1 hx) x (by simp))
    · rw [if_neg hx]
      have hx' : x ∉ l := fun h => hx ((mem_nub l x).2 h)
      simp only [List.length_append, List.length_singleton, List.nodup_append]
      constructor
      · intro h
        exact ⟨ih.1 (by omega), by simp, fun a ha b hb e => by simp at hb; subst hb; subst e; exact hx' ha⟩
      · intro h
        have := ih.2 h.1
        omega
end Go.Proofs.YteladljgnbfcnaaGreat.P8
namespace Go.Proofs.YteladljgnbfcnaaGreat.P9
open Go.RowKit P1 P8 Da Mp

def stepI (l : List Pr) (p : Pr) (k : Nat) : Bool := (peerOk p && (decide (4 ≤ k) || p.here)) && (!p.here || (firstHere l p.behind).isSome)
def stepsI (l : List Pr) (k : Nat) : Bool := match l[k]? with | none => true | some p => stepI l p k

def ringOkI (l : List Pr) : Bool := (decide (4 ≤ l.length) && decide (l.length ≤ 8)) && decide ((nub (l.map (·.id))).length = l.length) && (List.range l.length).all (stepsI l)

theorem here_at {l : List Pr} (hn : (l.map (·.id)).Nodup) {k : Nat} (hk : k < l.length) (hh : l[k].here = true) : peerAt l l[k].id = (k : Int) := by
  unfold peerAt
  show ((hereIdx l l[k].id).map fun (i : Nat) => (i : Int)).getD (-1) = _
  cases hi : hereIdx l l[k].id with
  | none =>
    have := hereIdx_none hi hk rfl
    rw [hh] at this
    cases this
  | some j =>
    obtain ⟨hj, _, hid⟩ := hereIdx_some hi
    have : j = k := by
      rw [List.nodup_iff_pairwise_ne, List.pairwise_map, List.pairwise_iff_getElem] at hn
      rcases Nat.lt_trichotomy j k with h | h | h
      · exact absurd hid (hn j k hj hk h)
      · exact h
      · exact absurd hid.symm (hn k j hk hj h)
    subst this
    rfl

theorem peerOk_behind {p : Pr} (h : peerOk p = true) (hh : p.here = true) : ∀ x ∈ p.behind, 0 ≤ x := by
  rw [← peerOkI_eq] at h
  unfold peerOkI at h
  rw [hh] at h
  simp only [if_true, Bool.and_eq_true] at h
  have h1 : behindB p = true := h.2.1.1.2
  unfold behindB at h1
  rw [Bool.and_eq_true, List.all_eq_true] at h1
  intro x hx
  have := h1.1 x hx
  simp only [Bool.and_eq_true] at this
  exact (of_decide_eq_true this.1).1

theorem firstHere_pos {l : List Pr} {b : List Int} (hb : ∀ x ∈ b, 0 ≤ x) : decide (0 ≤ (firstHere l b).getD (-1)) = (firstHere l b).isSome := by
  cases h : firstHere l b with
  | none => rfl
  | some x =>
    have := hb x (List.mem_of_find?_eq_some h)
    simpa using this

theorem step_same {l : List Pr} (hn : (l.map (·.id)).Nodup) {k : Nat} (hk : k < l.length) : ((peerOk l[k] && (decide (4 ≤ k) || l[k].here)) && (!l[k].here || decide (0 ≤ nextOf l l[k].id))) = stepI l l[k] k := by
  unfold stepI
  cases hp : peerOk l[k] with
  | false => rfl
  | true =>
    cases hh : l[k].here with
    | false => simp
    | true =>
      have h1 : nextOf l l[k].id = (firstHere l l[k].behind).getD (-1) := nextOf_hit hk (here_at hn hk hh)
      rw [h1, firstHere_pos (peerOk_behind hp hh)]

theorem ids_nodup (l : List Pr) : (∀ k (hk : k < l.length), (List.range k).all (idsOk l l[k].id) = true) ↔ (l.map (·.id)).Nodup := by
  constructor
  · intro h
    rw [List.nodup_iff_pairwise_ne, List.pairwise_map, List.pairwise_iff_getElem]
    intro i j hi hj hij e
    have := h j hj
    rw [List.all_eq_true] at this
    have h2 := of_decide_eq_true (this i (List.mem_range.2 hij))
    rw [List.getElem?_eq_getElem hi] at h2
    exact h2 (by simp [e])
  · intro h k hk
    rw [List.all_eq_true]
    intro i hi
    have hik := List.mem_range.1 hi
    refine decide_eq_true ?_
    rw [List.getElem?_eq_getElem (by omega)]
    rw [List.nodup_iff_pairwise_ne, List.pairwise_map, List.pairwise_iff_getElem] at h
    have := h i k (by omega) hk hik
    simpa using this

theorem ringOkI_eq (l : List Pr) : ringOkI l = ringOk l := by
  unfold ringOkI ringOk
  have e1 : (decide (4 ≤ l.length) && decide (l.length ≤ 8)) = decide ((4 : Int) ≤ l.length ∧ (l.length : Int) ≤ 8) := by
    rw [← Bool.decide_and, decide_eq_decide]
    omega
  rw [e1, Bool.and_assoc]
  congr 1
  rw [Bool.eq_iff_iff, Bool.and_eq_true, List.all_eq_true, List.all_eq_true, decide_eq_true_eq]
  rw [show (nub (l.map (·.id))).length = l.length ↔ (l.map (·.id)).Nodup by rw [← nub_same]; simp]
  constructor
  · rintro ⟨hn, h⟩ k hk
    have hk' := List.mem_range.1 hk
    have h1 := h k hk
    unfold stepsI at h1
    unfold ringStep
    rw [List.getElem?_eq_getElem hk'] at h1 ⊢
    simp only at h1 ⊢
    rw [step_same hn hk', h1, (ids_nodup l).2 hn k hk']
    rfl
  · intro h
    have hn : (l.map (·.id)).Nodup := (ids_nodup l).1 (fun k hk => by
      have h1 := h k (List.mem_range.2 hk)
      unfold ringStep at h1
      rw [List.getElem?_eq_getElem hk] at h1
      simp only [Bool.and_eq_true] at h1
      exact h1.2)
    refine ⟨hn, fun k hk => ?_⟩
    have hk' := List.mem_range.1 hk
    have h1 := h k hk
    unfold ringStep at h1
    unfold stepsI
    rw [List.getElem?_eq_getElem hk'] at h1 ⊢
    simp only at h1 ⊢
    rw [Bool.and_eq_true] at h1
    rw [← step_same hn hk']
    exact h1.1
end Go.Proofs.YteladljgnbfcnaaGreat.P9
