/- The contracts of chapter 3's small functions of the specification: l03Turn. -/
import Derived.Test.YtflicklgmhgpiaaDoorRows
import Derived.Test.YtflicklgmhgpiaaDoorArr
import Derived.Test.YtflicklgmhgpiaaDoorOrd
import Derived.Test.YtflicklgmhgpiaaDoorShaP
import Derived.Laws.BitsAllLaws
import Derived.WalkKit
namespace Go.Proofs.YtflicklgmhgpiaaDoor.P3
set_option maxRecDepth 8000
open Go.RowKit P1

theorem or_rot (n x : Nat) (hx : x < 4294967296) : bits .or .u32 ((x : Int) / 2 ^ n) ((x : Int) * 2 ^ (32 - n) % 4294967296) = ((rot n x : Nat) : Int) := by
  have h1 : x / 2 ^ n < 4294967296 := Nat.lt_of_le_of_lt (Nat.div_le_self _ _) hx
  have h := u32_or_nat (x / 2 ^ n) (x * 2 ^ (32 - n) % 4294967296) h1 (Nat.mod_lt _ (by decide))
  unfold rot
  rw [← h]
  simp

theorem or_lt32 (a b : Nat) (ha : a < 4294967296) (hb : b < 4294967296) : a ||| b < 4294967296 := Nat.or_lt_two_pow (n := 32) ha hb

theorem rot_lt (n x : Nat) (hx : x < 4294967296) : rot n x < 4294967296 :=
  or_lt32 _ _ (Nat.lt_of_le_of_lt (Nat.div_le_self _ _) hx) (Nat.mod_lt _ (by decide))

theorem or_word (y0 y1 y2 y3 : Nat) (h0 : y0 < 2 ^ 8) (h1 : y1 < 2 ^ 8) (h2 : y2 < 2 ^ 8) (h3 : y3 < 2 ^ 8) :
    bits .or .u32 (bits .or .u32 (bits .or .u32 ((y0 : Int) * 16777216) ((y1 : Int) * 65536)) ((y2 : Int) * 256)) (y3 : Int) = ((y0 * 16777216 + y1 * 65536 + y2 * 256 + y3 : Nat) : Int) := by
  have e1 := u32_or_nat (y0 * 16777216) (y1 * 65536) (by omega) (by omega)
  have o1 := Nat.two_pow_add_eq_or_of_lt (i := 24) (b := y1 * 65536) (by omega) y0
  have o2 := Nat.two_pow_add_eq_or_of_lt (i := 16) (b := y2 * 256) (by omega) (y0 * 256 + y1)
  have o3 := Nat.two_pow_add_eq_or_of_lt (i := 8) (b := y3) (by omega) (y0 * 65536 + y1 * 256 + y2)
  have p1 : y0 * 16777216 ||| y1 * 65536 = y0 * 16777216 + y1 * 65536 := by rw [show y0 * 16777216 = 2 ^ 24 * y0 by omega]; exact o1.symm
  have p2 : (y0 * 16777216 + y1 * 65536) ||| y2 * 256 = y0 * 16777216 + y1 * 65536 + y2 * 256 := by rw [show y0 * 16777216 + y1 * 65536 = 2 ^ 16 * (y0 * 256 + y1) by omega]; exact o2.symm
  have p3 : (y0 * 16777216 + y1 * 65536 + y2 * 256) ||| y3 = y0 * 16777216 + y1 * 65536 + y2 * 256 + y3 := by rw [show y0 * 16777216 + y1 * 65536 + y2 * 256 = 2 ^ 8 * (y0 * 65536 + y1 * 256 + y2) by omega]; exact o3.symm
  have e2 := u32_or_nat (y0 * 16777216 + y1 * 65536) (y2 * 256) (by omega) (by omega)
  have e3 := u32_or_nat (y0 * 16777216 + y1 * 65536 + y2 * 256) y3 (by omega) (by omega)
  rw [p1] at e1
  rw [p2] at e2
  rw [p3] at e3
  rw [← e3, ← e2, ← e1]
  rfl

theorem xor3 (a b c : Nat) (ha : a < 4294967296) (hb : b < 4294967296) (hc : c < 4294967296) : bits .xor .u32 (bits .xor .u32 (a : Int) (b : Int)) (c : Int) = ((a ^^^ b ^^^ c : Nat) : Int) := by
  rw [u32_xor_nat a b ha hb, u32_xor_nat (a ^^^ b) c (Nat.xor_lt_two_pow (n := 32) ha hb) hc]

theorem sig0_bits (x : Nat) (hx : x < 4294967296) : bits .xor .u32 (bits .xor .u32 (rot 7 x : Int) (rot 18 x : Int)) ((x : Int) / 8) = ((sig0 x : Nat) : Int) :=
  xor3 _ _ (x / 8) (rot_lt _ _ hx) (rot_lt _ _ hx) (by omega)

theorem sig1_bits (x : Nat) (hx : x < 4294967296) : bits .xor .u32 (bits .xor .u32 (rot 17 x : Int) (rot 19 x : Int)) ((x : Int) / 1024) = ((sig1 x : Nat) : Int) :=
  xor3 _ _ (x / 1024) (rot_lt _ _ hx) (rot_lt _ _ hx) (by omega)

theorem xor_lt32 (a b : Nat) (ha : a < 4294967296) (hb : b < 4294967296) : a ^^^ b < 4294967296 := Nat.xor_lt_two_pow (n := 32) ha hb

theorem sig0_lt (x : Nat) (hx : x < 4294967296) : sig0 x < 4294967296 := xor_lt32 _ _ (xor_lt32 _ _ (rot_lt _ _ hx) (rot_lt _ _ hx)) (by omega)

theorem sig1_lt (x : Nat) (hx : x < 4294967296) : sig1 x < 4294967296 := xor_lt32 _ _ (xor_lt32 _ _ (rot_lt _ _ hx) (rot_lt _ _ hx)) (by omega)

theorem Sig0_bits (x : Nat) (hx : x < 4294967296) : bits .xor .u32 (bits .xor .u32 (rot 2 x : Int) (rot 13 x : Int)) (rot 22 x : Int) = ((Sig0 x : Nat) : Int) :=
  xor3 _ _ _ (rot_lt _ _ hx) (rot_lt _ _ hx) (rot_lt _ _ hx)

theorem Sig1_bits (x : Nat) (hx : x < 4294967296) : bits .xor .u32 (bits .xor .u32 (rot 6 x : Int) (rot 11 x : Int)) (rot 25 x : Int) = ((Sig1 x : Nat) : Int) :=
  xor3 _ _ _ (rot_lt _ _ hx) (rot_lt _ _ hx) (rot_lt _ _ hx)

theorem Sig0_lt (x : Nat) (hx : x < 4294967296) : Sig0 x < 4294967296 := xor_lt32 _ _ (xor_lt32 _ _ (rot_lt _ _ hx) (rot_lt _ _ hx)) (rot_lt _ _ hx)

theorem Sig1_lt (x : Nat) (hx : x < 4294967296) : Sig1 x < 4294967296 := xor_lt32 _ _ (xor_lt32 _ _ (rot_lt _ _ hx) (rot_lt _ _ hx)) (rot_lt _ _ hx)

theorem and_lt32 (a b : Nat) (ha : a < 4294967296) : a &&& b < 4294967296 := Nat.lt_of_le_of_lt Nat.and_le_left ha

theorem ch_bits (e f g : Nat) (he : e < 4294967296) (hf : f < 4294967296) (hg : g < 4294967296) :
    bits .xor .u32 (bits .and .u32 (e : Int) (f : Int)) (bits .and .u32 (bits .xor .u32 (e : Int) 4294967295) (g : Int)) = ((ch e f g : Nat) : Int) := by
  have hn := xor_lt32 e 4294967295 he (by decide)
  have e1 := u32_and_nat e f he hf
  have e2 := u32_xor_nat e 4294967295 he (by decide)
  have e3 := u32_and_nat (e ^^^ 4294967295) g hn hg
  have e4 := u32_xor_nat (e &&& f) ((e ^^^ 4294967295) &&& g) (and_lt32 _ _ he) (and_lt32 _ _ hn)
  rw [e1, show (4294967295 : Int) = ((4294967295 : Nat) : Int) from rfl, e2, e3, e4]
  rfl

theorem ch_lt (e f g : Nat) (he : e < 4294967296) : ch e f g < 4294967296 :=
  xor_lt32 _ _ (and_lt32 _ _ he) (and_lt32 _ _ (xor_lt32 e 4294967295 he (by decide)))

theorem maj_bits (a b c : Nat) (ha : a < 4294967296) (hb : b < 4294967296) (hc : c < 4294967296) :
    bits .xor .u32 (bits .xor .u32 (bits .and .u32 (a : Int) (b : Int)) (bits .and .u32 (a : Int) (c : Int))) (bits .and .u32 (b : Int) (c : Int)) = ((maj a b c : Nat) : Int) := by
  rw [u32_and_nat a b ha hb, u32_and_nat a c ha hc, u32_and_nat b c hb hc]
  exact xor3 _ _ _ (and_lt32 _ _ ha) (and_lt32 _ _ ha) (and_lt32 _ _ hb)

theorem maj_lt (a b c : Nat) (ha : a < 4294967296) (hb : b < 4294967296) : maj a b c < 4294967296 :=
  xor_lt32 _ _ (xor_lt32 _ _ (and_lt32 _ _ ha) (and_lt32 _ _ ha)) (and_lt32 _ _ hb)

/-- A byte of a text, as a list's. -/
theorem index_byte (b : List UInt8) (i : Int) (j : Nat) (hij : i = j) (hj : j < b.length) (wx : World) :
    (Instr.index 9 (.string ⟨b.toArray⟩) (.int .i64 i)).run Tryd.prog wx = .ok (.int .u8 ((b.getD j 0).toNat : Int)) wx := by
  subst hij
  rw [run_index_string _ _ _ _ _ Tryd.underlying9]
  have hs : (⟨b.toArray⟩ : ByteArray).size = b.length := rfl
  rw [dif_pos ⟨by omega, by rw [hs]; omega⟩]
  have hg : b.getD j 0 = b[j] := by simp [List.getD_eq_getElem?_getD, hj]
  rw [hg]
  rfl

set_option maxHeartbeats 400000 in
theorem turn_calls (x : Nat) (hx : x < 4294967296) (n : Nat) (h0 : 0 < n) (h1 : n < 32) (w : World) :
    Calls Tryd.prog 56 #[.int .u32 x, .int .u64 n] w fun e w' => e = .returned (.int .u32 (rot n x : Nat)) ∧ w' = w := by
  go_enter Tryd.func56, Tryd.ntmps56
  go_wp2
  go_ret
  exact ⟨congrArg (fun z => Ending.returned (.int .u32 z)) (or_rot n x hx), rfl⟩
end Go.Proofs.YtflicklgmhgpiaaDoor.P3
