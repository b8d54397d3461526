/- The contracts of spec.l01Figure and spec.Decimal: the decimal figures of every int. -/
import Derived.Test.YtnincclbpgfilabDoorRows
import Derived.Test.YtnincclbpgfilabDoorKit
import Derived.Test.YtnincclbpgfilabDoorDecP
import Derived.WalkKit
namespace Go.Proofs.YtnincclbpgfilabDoor.P1
open Go.RowKit

theorem digit_calls (x : Int) (h0 : 0 ≤ x) (h1 : x < 10) (w : World) : Calls Tryd.prog 15 #[.int .i64 x] w fun e w' => e = .returned (.int .u8 (48 + x)) ∧ w' = w := by
  go_enter Tryd.func15, Tryd.ntmps15
  go_wp2
  go_ret
  exact ⟨rfl, rfl⟩

/-- One byte in a row of its own, as a text. -/
theorem one_text (W : World) (z : Int) (h0 : 0 ≤ z) (h1 : z < 256) :
    (convert 33 9 (.slice (some ⟨W.heap.size, 0, none⟩) 1 1)).run Tryd.prog (W.alloc (.cells #[.int .u8 z] 5)) = .ok (.string ⟨[UInt8.ofNat z.toNat].toArray⟩) (W.alloc (.cells #[.int .u8 z] 5)) := by
  refine run_convert_bytes_back _ 33 9 5 ⟨W.heap.size, 0, none⟩ 1 [UInt8.ofNat z.toNat] Tryd.underlying33 Tryd.underlying5 Tryd.underlying9 ?_
  intro j hj
  obtain rfl : j = 0 := by simp at hj; exact hj
  have hb := byte_of z.toNat (by omega)
  simp only [List.getElem_cons_zero, hb]
  rw [show ((z.toNat : Nat) : Int) = z by omega]
  simp [Addr.add]

set_option maxHeartbeats 400000 in
theorem specDecimal_calls (N : Int) (h0 : -9223372036854775808 ≤ N) (h1 : N ≤ 9223372036854775807) (w : World) :
    Calls Tryd.prog 6 #[.int .i64 N] w fun e w' => e = .returned (.string ⟨(Lib.itoa N).toArray⟩) ∧ Below w.heap.size w w' := by
  by_cases hz : N = 0
  · subst hz
    go_enter Tryd.func6, Tryd.ntmps6
    go_wp2
    go_ret
    exact ⟨by simp [Lib.itoa, Lib.decDigits], Below.refl _ _⟩
  · have hzb : (N == 0) = false := by simpa using hz
    obtain ⟨below, Hb⟩ : ∃ b, Hid (b = decide (N < 0)) := ⟨_, hide rfl⟩
    have hlt : decide (N < 0) = below := Hb.out.symm
    go_enter Tryd.func6, Tryd.ntmps6
    go_wp2
    go_loopw [0, 4] (fun n v wr => ∃ c : Int, ∃ t : List UInt8, Dec N c t ∧ n = .int .i64 c ∧ v = .string ⟨t.toArray⟩ ∧ Below w.heap.size w wr) (fun n _ _ => (intOf n).natAbs)
    case atStart => exact ⟨N, [], Dec.start N hz, rfl, rfl, Below.refl _ _⟩
    case round =>
      obtain ⟨c, t, hd, rfl, rfl, hbel⟩ := hrel
      have hlen := hd.len h0 h1
      have hc0 : -9223372036854775808 ≤ c := by rcases Int.lt_or_le N 0 with h | h; · have := hd.low h; omega
                                                · have := hd.high h; omega
      have hc1 : c ≤ 9223372036854775807 := by rcases Int.lt_or_le N 0 with h | h; · have := hd.low h; omega
                                               · have := hd.high h; omega
      have Hd := hide hd
      clear hd
      by_cases hc : c = 0
      · subst hc
        have Hi := hide (itoa_of (Hd.out.none_ rfl))
        have hs1 : (⟨#[45]⟩ : ByteArray) ++ ⟨t.toArray⟩ = ⟨(45 :: t).toArray⟩ := ByteArray.mk_append_mk [45] t
        cases below with
        | true =>
          go_wp2
          go_ret
          refine ⟨?_, hbel⟩
          rw [Hi.out, if_pos (of_decide_eq_true hlt)]
          show Ending.returned (Value.string ((⟨#[45]⟩ : ByteArray) ++ ⟨t.toArray⟩)) = _
          rw [hs1]
        | false =>
          go_wp2
          go_ret
          refine ⟨?_, hbel⟩
          rw [Hi.out, if_neg (of_decide_eq_false hlt)]
          rfl
      · have hcb : (c != 0) = true := by simpa using hc
        have hmd := tmod_le c
        obtain ⟨hm1, hm2⟩ := hmd
        have Hab := hide (tdiv_abs c)
        have hq : -9223372036854775808 ≤ c.tdiv 10 ∧ c.tdiv 10 ≤ 9223372036854775807 := by have := Hab.out; omega
        obtain ⟨hq1, hq2⟩ := hq
        have hn := Hd.out.next hc Hab.out (tdiv_low c) (tdiv_high c)
        have hx : ∀ z : Int, z = ((c.natAbs % 10 : Nat) : Int) → UInt8.ofNat (48 + z).toNat = UInt8.ofNat (48 + c.natAbs % 10) := by
          intro z hz; rw [hz]; congr 1
        generalize UInt8.ofNat (48 + c.natAbs % 10) = b at hn hx
        have Hn := hide hn
        have Hx := hide hx
        clear hn hx Hd
        by_cases hd : c.tmod 10 < 0
        · have He := hide (tmod_neg c hd)
          go_wp2_with fail
          refine (digit_calls _ (by omega) (by omega) _).mono ?_
          rintro e wx ⟨rfl, rfl⟩
          have hcv := one_text wx (48 + -c.tmod 10) (by omega) (by omega)
          rw [Hx.out _ He.out] at hcv
          go_wp2
          go_roundw
          case rel => exact ⟨c.tdiv 10, _, Hn.out, rfl, congrArg Value.string (ByteArray.mk_append_mk [b] t), hbel.alloc hbel.size _⟩
          case measure =>
            have h1 := Hab.out
            show (c.tdiv 10).natAbs < c.natAbs
            omega
        · have He := hide (tmod_pos c hd)
          go_wp2_with fail
          refine (digit_calls _ (by omega) (by omega) _).mono ?_
          rintro e wx ⟨rfl, rfl⟩
          have hcv := one_text wx (48 + c.tmod 10) (by omega) (by omega)
          rw [Hx.out _ He.out] at hcv
          go_wp2
          go_roundw
          case rel => exact ⟨c.tdiv 10, _, Hn.out, rfl, congrArg Value.string (ByteArray.mk_append_mk [b] t), hbel.alloc hbel.size _⟩
          case measure =>
            have h1 := Hab.out
            show (c.tdiv 10).natAbs < c.natAbs
            omega
end Go.Proofs.YtnincclbpgfilabDoor.P1
