/- slices.Grow of nothing and slices.Concat, over rows of ints; condition: at most 2^20 ints in all. -/
import Derived.Test.YthkdgnohkdedpaaRng3
import Derived.Test.YthkdgnohkdedpaaRecs
import Derived.Lib.AppendZeros
namespace Go.Proofs.Ythkdgnohkdedpaa.P8
set_option maxRecDepth 8000
open Go.RowKit P1 Rc

set_option maxHeartbeats 1000000 in
theorem grow_calls (w : World) (n : Nat) (hn : n ≤ 1048576) :
    Calls Try.prog 85 #[.slice none 0 0, .int .i64 n] w fun e w' => ∃ v, e = .returned v ∧ w'.ownsRow w.heap.size 3 1 v 0 [] ∧ Below w.heap.size w w' := by
  obtain ⟨i0, hi, hz0, hz1, hz2⟩ := info_parts info_i64
  by_cases h0 : n = 0
  · subst h0
    go_enter Try.func85, Try.ntmps85
    go_wp2
    go_ret
    exact ⟨_, rfl, ⟨rfl, .inl ⟨rfl, rfl⟩⟩, Below.refl _ _⟩
  · have hp : 0 < n := by omega
    have hrun := Lib.run_append_nil_zeros (P := Try.prog) w 24 3 24 3 i0 (.int .i64 0) .i64 .i64 Try.underlying24 Try.underlying3 hi hz0 n hp (by omega) (by omega) (by rw [hz2]; omega)
    have hge := grownCap_ge w n 0 3
    have hle := grownCap_le_maxLen w n 0 3 (by unfold maxLen; omega)
    go_enter Try.func85, Try.ntmps85
    go_wp2_with (at_builtin; refine Lib.wpList_append_run _ rfl _ _ _ _ rfl _ _ rfl rfl _ _ hrun ?_)
    go_ret
    generalize grownCap w n 0 3 = c at *
    refine ⟨_, rfl, ⟨rfl, .inr ⟨w.heap.size, c, Builtin.zeroCells #[.int .i64 0] n ++ Builtin.zeroCells #[.int .i64 0] (c - n), rfl, Nat.le_refl _, ?_, Nat.zero_le _, hle, ?_, ?_⟩⟩, ?_⟩
    · show (w.heap.push _)[w.heap.size]? = _
      rw [Array.getElem?_push_size]
    · simp [Builtin.zeroCells]
      omega
    · simp
    · exact ((Below.refl _ _).alloc (Nat.le_refl _) _).drew

/-- Ints as records of one. -/
def inR8 : RI Int := ⟨1, fun x => [x], fun _ => rfl, by decide⟩

theorem flat_in8 (l : List Int) : flat inR8 l = l := by simp [flat, inR8]

/-- What the first k rows hold. -/
def upTo (R : Nat → List Int) (k : Nat) : List Int := (List.range k).flatMap R

theorem upTo_succ (R : Nat → List Int) (k : Nat) : upTo R (k + 1) = upTo R k ++ R k := by simp [upTo, List.range_succ]

theorem upTo_le (R : Nat → List Int) : ∀ {j k : Nat}, j ≤ k → (upTo R j).length ≤ (upTo R k).length := by
  intro j k h
  induction k with
  | zero => rw [Nat.le_zero.1 h]; exact Nat.le_refl _
  | succ k ih =>
    rcases Nat.lt_or_ge j (k + 1) with h1 | h1
    · rw [upTo_succ, List.length_append]
      have := ih (by omega)
      omega
    · rw [show j = k + 1 by omega]; exact Nat.le_refl _

set_option maxHeartbeats 2000000 in
theorem concat_calls (w : World) (bR : Nat) (V : Nat → Value) (R : Nat → List Int) (B : Nat) (hR : ∀ d, d < 256 → w.cell? ⟨bR, d, none⟩ = some (V d) ∧ w.ownsRow B 3 1 (V d) (R d).length (cellsI (R d))) (hb : bR < w.heap.size) (hl : (upTo R 256).length ≤ 1048576) :
    Calls Try.prog 54 #[.slice (some ⟨bR, 0, none⟩) 256 256] w fun e w' => ∃ v, e = .returned v ∧ w'.ownsRow w.heap.size 3 1 v (upTo R 256).length (cellsI (upTo R 256)) ∧ Below w.heap.size w w' := by
  obtain ⟨i0, hi, hz0, hz1, hz2⟩ := info_parts info_i64
  have HR := hide hR
  have HU := hide (fun k => upTo_succ R k)
  have HL : Hid (∀ k, k ≤ 256 → (upTo R k).length ≤ 1048576) := fun k hk => Nat.le_trans (upTo_le R hk) hl
  have HU0 : Hid (upTo R 0 = []) := rfl
  clear hR
  generalize upTo R = U at *
  go_enter Try.func54, Try.ntmps54
  go_wp2
  go_loopw [3, 11] (fun z i wr => ∃ k : Nat, k ≤ 256 ∧ i = .int .i64 k ∧ z = .int .i64 ((U k).length : Nat) ∧ wr = w) (fun _ i _ => 256 - (intOf i).toNat)
  case atStart => exact ⟨0, Nat.zero_le _, rfl, by rw [HU0.out]; rfl, rfl⟩
  case round =>
    obtain ⟨k, hk, rfl, rfl, rfl⟩ := hrel
    by_cases hlt : k < 256
    · obtain ⟨hc, ho⟩ := HR.out k hlt
      obtain ⟨ak, ck, hsh⟩ := own_sh ho
      rw [hsh] at hc
      have hs : (U (k + 1)).length = (U k).length + (R k).length := by rw [HU.out, List.length_append]
      have hl1 := HL.out k hk
      have hl2 := HL.out (k + 1) hlt
      rw [hs] at hl2
      have HS := hide hs
      have hneg : decide ((((U k).length : Nat) : Int) + (((R k).length : Nat) : Int) < 0) = false := decide_eq_false (by omega)
      clear ho hsh hs
      generalize (U k).length = n1 at *
      generalize (R k).length = n2 at *
      go_wp2
      go_roundw
      case rel => exact ⟨k + 1, by omega, by go_num, by rw [HS.out]; go_num, trivial⟩
      case measure => simp [intOf]; omega
    · have hk6 : k = 256 := by omega
      subst hk6
      obtain ⟨wo, ewo⟩ : ∃ wo, wo = wr := ⟨_, rfl⟩
      subst ewo
      have HG := hide (grow_calls wo (U 256).length (HL.out 256 (Nat.le_refl _)))
      have hl6 := HL.out 256 (Nat.le_refl _)
      go_wp2_with fail
      refine HG.out.mono ?_
      rintro e w1 ⟨v1, rfl, ho1, hb1⟩
      have HO1 := hide ho1
      have HB1 := hide hb1
      obtain ⟨B0, eB⟩ : ∃ B, B = wo.heap.size := ⟨_, rfl⟩
      rw [← eB] at HO1 HB1
      have HEB := hide eB
      clear ho1 hb1 eB HG
      obtain ⟨a1, c1, hs1⟩ := own_sh HO1.out
      subst hs1
      go_wp2_with fail
      go_loopw [6, 27] (fun v i wx => ∃ k : Nat, k ≤ 256 ∧ i = .int .i64 k ∧ Hid (wx.ownsRow B0 3 1 v (U k).length (cellsI (U k))) ∧ Hid (Below B0 wo wx)) (fun _ i _ => 256 - (intOf i).toNat)
      case atStart => exact ⟨0, Nat.zero_le _, rfl, by show World.ownsRow _ _ _ _ _ _ _; rw [HU0.out]; exact HO1.out, HB1.out⟩
      case round =>
        clear HO1 HB1
        obtain ⟨k, hk, rfl, HO, HB⟩ := hrel
        by_cases hlt : k < 256
        · obtain ⟨hc0, ho0⟩ := HR.out k hlt
          obtain ⟨ak, ck, hsh⟩ := own_sh ho0
          have hb0 : bR < B0 := by rw [HEB.out]; exact hb
          have hc : wr.cell? ⟨bR, k, none⟩ = some (.slice ak (R k).length ck) := by rw [HB.out.cell (p := ⟨bR, k, none⟩) hb0, hc0, hsh]
          have hbx : bR < wr.heap.size := Nat.lt_of_lt_of_le hb HB.out.size
          have hBr : B0 ≤ wr.heap.size := by rw [HEB.out]; exact HB.out.size
          have HX := hide ((RowAt.of_own (R := inR8) (by rw [flat_in8]; exact ho0)).below HB.out (by rw [HEB.out]; exact Nat.le_refl _))
          rw [hsh] at HX
          have hs : (U (k + 1)).length = (U k).length + (R k).length := by rw [HU.out, List.length_append]
          have hl1 := HL.out k hk
          have hl2 := HL.out (k + 1) hlt
          rw [hs] at hl2
          have HS := hide hs
          have HC : Hid (cellsI (U (k + 1)) = cellsI (U k) ++ cellsI (flat inR8 (R k))) := by show _ = _; rw [HU.out, flat_in8]; simp [cellsI]
          clear hs hsh hc0 ho0
          obtain ⟨ao, co, hso⟩ := own_sh HO.out
          subst hso
          go_wp2_with (at_builtin; refine wpList_append_row (R := inR8) (B := B0) rfl (.tmp 31) (.tmp 32) 24 rfl 3 i0 (.int .i64 0) 8 Try.underlying24 hi hz0 hz1 hz2 rfl _ _ _ _ (R k) rfl HO.out rfl HX.out hBr (by unfold maxLen; omega) (by omega) ?_)
          intro v6 w6 hown hb6
          have HO6 : Hid (w6.ownsRow B0 3 1 v6 (U (k + 1)).length (cellsI (U (k + 1)))) := by
            show World.ownsRow _ _ _ _ _ _ _
            rw [HS.out, HC.out]
            exact hown
          have HB6 := hide (HB.out.trans hb6)
          clear hown hb6
          go_wp2
          go_roundw
          case rel => exact ⟨k + 1, by omega, by go_num, HO6.out, HB6.out⟩
          case measure => simp [intOf]; omega
        · have hk6 : k = 256 := by omega
          subst hk6
          go_wp2
          go_ret
          have hO := HO.out
          have hB := HB.out
          rw [HEB.out] at hO hB
          exact ⟨_, rfl, hO, hB⟩
end Go.Proofs.Ythkdgnohkdedpaa.P8
