/- The program's isOnRing, knownOk, fingersOk, behindOk, hasNothing; condition: lists of at most 2^20. -/
import Derived.Test.YtfckfgabeeeccaaRg6
namespace Go.Proofs.Ytfckfgabeeeccaa.P9
set_option maxRecDepth 8000
open Go.RowKit P1 P8 Da

attribute [local go_sem] Oper.semAt_some

set_option maxHeartbeats 400000 in
theorem isOn_calls (x : Int) (w : World) : Calls Try.prog 21 #[.int .i64 x] w fun e w' => e = .returned (.bool (inB x 0 255)) ∧ w' = w := by
  by_cases h0 : 0 ≤ x
  · by_cases h1 : x < 256
    · have d0 : decide (0 ≤ x) = true := decide_eq_true h0
      have d1 : decide (x < 256) = true := decide_eq_true h1
      have hr : inB x 0 255 = true := decide_eq_true ⟨h0, by omega⟩
      rw [hr]
      go_enter Try.func21, Try.ntmps21
      go_wp2
      go_ret
      exact ⟨rfl, rfl⟩
    · have d0 : decide (0 ≤ x) = true := decide_eq_true h0
      have d1 : decide (x < 256) = false := decide_eq_false h1
      have hr : inB x 0 255 = false := decide_eq_false (by omega)
      rw [hr]
      go_enter Try.func21, Try.ntmps21
      go_wp2
      go_ret
      exact ⟨rfl, rfl⟩
  · have d0 : decide (0 ≤ x) = false := decide_eq_false h0
    have hr : inB x 0 255 = false := decide_eq_false (by omega)
    rw [hr]
    go_enter Try.func21, Try.ntmps21
    go_wp2
    go_ret
    exact ⟨rfl, rfl⟩

set_option maxHeartbeats 400000 in
theorem known_calls (x : Int) (w : World) : Calls Try.prog 23 #[.int .i64 x] w fun e w' => e = .returned (.bool (inB x (-1) 255)) ∧ w' = w := by
  by_cases h0 : x = -1
  · subst h0
    go_enter Try.func23, Try.ntmps23
    go_wp2_with fail
    go_ret
    exact ⟨rfl, rfl⟩
  · have d0 : (x == -1) = false := by simpa using h0
    have hr : inB x (-1) 255 = inB x 0 255 := by unfold inB; exact decide_eq_decide.2 (by omega)
    rw [hr]
    have C := hide (fun w => isOn_calls x w)
    generalize inB x 0 255 = r at *
    go_enter Try.func23, Try.ntmps23
    go_wp2_with fail
    refine (C.out _).mono ?_
    rintro e w1 ⟨rfl, rfl⟩
    go_wp2_with fail
    go_ret
    exact ⟨rfl, rfl⟩

theorem calls_near_same {P : Program} {f : FuncId} {args : Array Value} {B : Nat} {W : World} {p : Near B W} {v : Value}
    (h : Calls P f args p.w fun e w' => e = .returned v ∧ w' = p.w) : Calls P f args p.w fun e w'' => e = .returned v ∧ ∃ q : Near B W, w'' = q.w :=
  h.mono fun _ _ ⟨he, hw⟩ => ⟨he, p, hw⟩

/-- What is so of all so far. -/
theorem all_take_succ {α : Type} {l : List α} {f : α → Bool} {k : Nat} (h : k < l.length) (h1 : (l.take k).all f = true) (h2 : f l[k] = true) : (l.take (k + 1)).all f = true := by
  rw [List.take_succ_eq_append_getElem h, List.all_append, h1]
  simp [h2]

theorem all_not {α : Type} {l : List α} {f : α → Bool} {k : Nat} (h : k < l.length) (h2 : f l[k] = false) : l.all f = false := by
  rw [List.all_eq_false]
  exact ⟨l[k], List.getElem_mem h, by simp [h2]⟩

def fingersB (l : List Int) : Bool := l.all (fun x => inB x (-1) 255) && decide (l.length = 8)

set_option maxHeartbeats 1000000 in
theorem implFingers_calls (w : World) (v : Value) (l : List Int) (hv : IntsAt w v l) (hl : l.length ≤ 1048576) :
    Calls Try.prog 25 #[v] w fun e w' => e = .returned (.bool (fingersB l)) ∧ w' = w := by
  have HV := hide hv
  obtain ⟨a, cap, rfl, -⟩ := hv
  have HR0 : Hid (fingersB l = (l.all (fun x => inB x (-1) 255) && decide (l.length = 8))) := rfl
  go_enter Try.func25, Try.ntmps25
  go_wp2_with fail
  go_loopw [7] (fun i wr => ∃ k : Nat, k ≤ l.length ∧ i = .int .i64 k ∧ Hid ((l.take k).all (fun x => inB x (-1) 255) = true) ∧ wr = w) (fun i _ => l.length - (intOf i).toNat)
  case atStart => exact ⟨0, Nat.zero_le _, rfl, rfl, rfl⟩
  case round =>
    obtain ⟨k, hk, rfl, HN, hwr⟩ := hrel
    subst hwr
    by_cases hlt : k < l.length
    · obtain ⟨a2, c2, hsh, HA⟩ := HV.out
      cases hsh
      obtain ⟨g, off, rfl, hg, hc⟩ := HA k hlt
      have C := hide (fun wx => known_calls l[k] wx)
      have HS := hide (fun h => all_take_succ (f := fun x => inB x (-1) 255) hlt HN.out h)
      have HF : Hid (inB l[k] (-1) 255 = false → fingersB l = false) := fun h => by rw [HR0.out, all_not hlt h]; rfl
      clear HA HN
      generalize l[k] = x at *
      cases hx : inB x (-1) 255 with
      | true =>
        have HR := hide (HS.out hx)
        rw [hx] at C
        clear HS HF hx
        go_wp2_with fail
        refine (C.out _).mono ?_
        rintro e w1 ⟨rfl, rfl⟩
        go_wp2_with fail
        go_roundw
        case rel => exact ⟨k + 1, by omega, by go_num, HR.out, trivial⟩
        case measure => simp [intOf]; omega
      | false =>
        have HR := hide (HF.out hx)
        rw [hx] at C
        clear HS HF hx
        go_wp2_with fail
        refine (C.out _).mono ?_
        rintro e w1 ⟨rfl, rfl⟩
        go_wp2_with fail
        go_ret
        exact ⟨by rw [HR.out]; rfl, rfl⟩
    · obtain rfl : k = l.length := by omega
      rw [List.take_length] at HN
      have HR : Hid (fingersB l = ((l.length : Int) == 8)) := by show _ = _; rw [HR0.out, HN.out, Bool.true_and, Bool.eq_iff_iff]; simp; omega
      clear HN
      go_wp2_with fail
      go_ret
      exact ⟨by rw [HR.out]; rfl, rfl⟩

def behindB (p : Pr) : Bool := p.behind.all (fun x => inB x 0 255 && decide (x ≠ p.id)) && decide (p.behind.length ≤ 3)

set_option maxHeartbeats 1000000 in
theorem implBehind_calls (w : World) (p : Pr) (u3 u4 u5 : Value) (h3 : IntsAt w u3 p.behind) (hl : p.behind.length ≤ 1048576) :
    Calls Try.prog 24 #[prV p u3 u4 u5] w fun e w' => e = .returned (.bool (behindB p)) ∧ Below w.heap.size w w' := by
  have hb1 := (Below.refl w.heap.size w).alloc (Nat.le_refl _) (.cells #[.int .i64 p.id, .bool p.here, .int .i64 p.ahead, u3, u4, u5] 30)
  have H3 := hide (h3.below hb1 (Nat.le_refl _))
  obtain ⟨a3, c3, rfl, -⟩ := h3
  have G := Blk.new w #[.int .i64 p.id, .bool p.here, .int .i64 p.ahead, .slice a3 p.behind.length c3, u4, u5] 30
  have HB := hide hb1
  have HR0 : Hid (behindB p = (p.behind.all (fun x => inB x 0 255 && decide (x ≠ p.id)) && decide (p.behind.length ≤ 3))) := rfl
  clear hb1
  go_enter Try.func24, Try.ntmps24
  go_upto_region 1 with fail
  obtain ⟨b0, e0⟩ : ∃ b, b = w.heap.size := ⟨_, rfl⟩
  rw [← e0] at G ⊢
  clear e0
  generalize w.alloc (.cells #[.int .i64 p.id, .bool p.here, .int .i64 p.ahead, .slice a3 p.behind.length c3, u4, u5] 30) = w1 at *
  have d0 : w1.cell? ⟨b0, 0, none⟩ = some (.int .i64 p.id) := by rw [G.cell 0]; rfl
  have d3 : w1.cell? ⟨b0, 3, none⟩ = some (.slice a3 p.behind.length c3) := by rw [G.cell 3]; rfl
  have l0 := G.lt
  clear G
  go_wp2_with fail
  go_loopw [8] (fun i wr => ∃ k : Nat, k ≤ p.behind.length ∧ i = .int .i64 k ∧ Hid ((p.behind.take k).all (fun x => inB x 0 255 && decide (x ≠ p.id)) = true) ∧ wr = w1) (fun i _ => p.behind.length - (intOf i).toNat)
  case atStart => exact ⟨0, Nat.zero_le _, rfl, rfl, rfl⟩
  case round =>
    obtain ⟨k, hk, rfl, HN, hwr⟩ := hrel
    subst hwr
    by_cases hlt : k < p.behind.length
    · obtain ⟨a2, c2, hsh, HA⟩ := H3.out
      cases hsh
      obtain ⟨g, off, rfl, hg, hc⟩ := HA k hlt
      have C := hide (fun wx => isOn_calls p.behind[k] wx)
      have HS := hide (fun h => all_take_succ (f := fun x => inB x 0 255 && decide (x ≠ p.id)) hlt HN.out h)
      have HF : Hid ((inB p.behind[k] 0 255 && decide (p.behind[k] ≠ p.id)) = false → behindB p = false) := fun h => by rw [HR0.out, all_not hlt h]; rfl
      clear HA HN
      generalize p.behind[k] = x at *
      cases hx : inB x 0 255 with
      | true =>
        rw [hx] at C HF
        by_cases hy : x = p.id
        · have HR := hide (HF.out (by simp [hy]))
          have hyd : (x == p.id) = true := by simpa using hy
          clear HS HF hx hy
          go_wp2_with fail
          refine (C.out _).mono ?_
          rintro e w1 ⟨rfl, rfl⟩
          go_wp2_with fail
          go_ret
          exact ⟨by rw [HR.out]; rfl, HB.out⟩
        · have HR := hide (HS.out (by simp [hx, hy]))
          have hyd : (x == p.id) = false := by simpa using hy
          clear HS HF hx hy
          go_wp2_with fail
          refine (C.out _).mono ?_
          rintro e w1 ⟨rfl, rfl⟩
          go_wp2_with fail
          go_roundw
          case rel => exact ⟨k + 1, by omega, by go_num, HR.out, trivial⟩
          case measure => simp [intOf]; omega
      | false =>
        have HR := hide (HF.out (by rw [hx]; rfl))
        rw [hx] at C
        clear HS HF hx
        go_wp2_with fail
        refine (C.out _).mono ?_
        rintro e w1 ⟨rfl, rfl⟩
        go_wp2_with fail
        go_ret
        exact ⟨by rw [HR.out]; rfl, HB.out⟩
    · obtain rfl : k = p.behind.length := by omega
      rw [List.take_length] at HN
      have HR : Hid (behindB p = decide (p.behind.length ≤ 3)) := by show _ = _; rw [HR0.out, HN.out, Bool.true_and]
      clear HN
      go_wp2_with fail
      go_ret
      exact ⟨by rw [HR.out]; simp; omega, HB.out⟩

set_option maxHeartbeats 1000000 in
theorem hasNothing_calls (w : World) (p : Pr) (a3 a4 a5 : Option Addr) (c3 c4 c5 : Nat) (hs3 : p.behind.length ≤ 1048576) (hs4 : p.fingers.length ≤ 1048576) (hs5 : p.shelves.length ≤ 1048576) :
    Calls Try.prog 22 #[prV p (.slice a3 p.behind.length c3) (.slice a4 p.fingers.length c4) (.slice a5 p.shelves.length c5)] w fun e w' => e = .returned (.bool (awayOk p)) ∧ Below w.heap.size w w' := by
  have hb1 := (Below.refl w.heap.size w).alloc (Nat.le_refl _) (.cells #[.int .i64 p.id, .bool p.here, .int .i64 p.ahead, .slice a3 p.behind.length c3, .slice a4 p.fingers.length c4, .slice a5 p.shelves.length c5] 30)
  have G := Blk.new w #[.int .i64 p.id, .bool p.here, .int .i64 p.ahead, .slice a3 p.behind.length c3, .slice a4 p.fingers.length c4, .slice a5 p.shelves.length c5] 30
  have HB := hide hb1
  have HAO : Hid (awayOk p = (decide (p.ahead = 0) && decide (p.behind.length = 0) && decide (p.fingers.length = 0) && decide (p.shelves.length = 0))) := rfl
  clear hb1
  go_enter Try.func22, Try.ntmps22
  go_upto_region 1 with fail
  obtain ⟨b0, e0⟩ : ∃ b, b = w.heap.size := ⟨_, rfl⟩
  rw [← e0] at G ⊢
  clear e0
  generalize w.alloc (.cells #[.int .i64 p.id, .bool p.here, .int .i64 p.ahead, .slice a3 p.behind.length c3, .slice a4 p.fingers.length c4, .slice a5 p.shelves.length c5] 30) = w1 at *
  have d2 : w1.cell? ⟨b0, 2, none⟩ = some (.int .i64 p.ahead) := by rw [G.cell 2]; rfl
  have d3 : w1.cell? ⟨b0, 3, none⟩ = some (.slice a3 p.behind.length c3) := by rw [G.cell 3]; rfl
  have d4 : w1.cell? ⟨b0, 4, none⟩ = some (.slice a4 p.fingers.length c4) := by rw [G.cell 4]; rfl
  have d5 : w1.cell? ⟨b0, 5, none⟩ = some (.slice a5 p.shelves.length c5) := by rw [G.cell 5]; rfl
  have l0 := G.lt
  clear G
  generalize p.ahead = x2 at *
  generalize p.behind.length = x3 at *
  generalize p.fingers.length = x4 at *
  generalize p.shelves.length = x5 at *
  by_cases q1 : x2 = 0
  · rw [q1] at d2
    have e1 : decide (x2 = 0) = true := decide_eq_true q1
    rcases Nat.eq_zero_or_pos x3 with q2 | q2
    · subst q2
      rcases Nat.eq_zero_or_pos x4 with q3 | q3
      · subst q3
        rcases Nat.eq_zero_or_pos x5 with q4 | q4
        · subst q4
          go_wp2_with fail
          go_ret
          exact ⟨by rw [HAO.out]; simp [e1], HB.out⟩
        · have hq : ((x5 : Int) == 0) = false := by simp; omega
          have hr : decide (x5 = 0) = false := decide_eq_false (by omega)
          clear q4
          go_wp2_with fail
          go_ret
          exact ⟨by rw [HAO.out]; simp [hr], HB.out⟩
      · have hq : ((x4 : Int) == 0) = false := by simp; omega
        have hr : decide (x4 = 0) = false := decide_eq_false (by omega)
        clear q3
        go_wp2_with fail
        go_ret
        exact ⟨by rw [HAO.out]; simp [hr], HB.out⟩
    · have hq : ((x3 : Int) == 0) = false := by simp; omega
      have hr : decide (x3 = 0) = false := decide_eq_false (by omega)
      clear q2
      go_wp2_with fail
      go_ret
      exact ⟨by rw [HAO.out]; simp [hr], HB.out⟩
  · have hq : (x2 == 0) = false := by simpa using q1
    have hr : decide (x2 = 0) = false := decide_eq_false q1
    clear q1
    go_wp2_with fail
    go_ret
    exact ⟨by rw [HAO.out]; simp [hr], HB.out⟩
end Go.Proofs.Ytfckfgabeeeccaa.P9
