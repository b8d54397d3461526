/- The contracts of the program's small functions of chapter 3: rolled, turnPlace. -/
import Derived.Test.YtflicklgmhgpiaaDoorShaT
import Derived.Test.YtflicklgmhgpiaaDoorShaR
namespace Go.Proofs.YtflicklgmhgpiaaDoor.P3
set_option maxRecDepth 8000
open Go.RowKit P1

theorem and31 (n : Nat) (h0 : 0 < n) (h1 : n < 32) : bits .and .u64 (IntKind.u64.wrap (-(n : Int))) 31 = 32 - (n : Int) := by
  have h : ∀ n : Fin 32, 0 < n.val → bits .and .u64 (IntKind.u64.wrap (-(n.val : Int))) 31 = 32 - (n.val : Int) := by decide +kernel
  exact h ⟨n, h1⟩ h0

theorem or_rot' (n x : Nat) (hx : x < 4294967296) : bits .or .u32 ((x : Int) * 2 ^ (32 - n) % 4294967296) ((x : Int) / 2 ^ n) = ((rot n x : Nat) : Int) := by
  have h1 : x / 2 ^ n < 4294967296 := Nat.lt_of_le_of_lt (Nat.div_le_self _ _) hx
  have h := u32_or_nat (x * 2 ^ (32 - n) % 4294967296) (x / 2 ^ n) (Nat.mod_lt _ (by decide)) h1
  unfold rot
  rw [Nat.or_comm, ← h]
  simp

set_option maxHeartbeats 400000 in
theorem rl_calls (x : Nat) (hx : x < 4294967296) (n : Nat) (h0 : 0 < n) (h1 : n < 32) (w : World) :
    Calls Tryd.prog 59 #[.int .u32 x, .int .i64 (-(n : Int))] w fun e w' => e = .returned (.int .u32 (rot n x : Nat)) ∧ w' = w := by
  have ha := and31 n h0 h1
  go_enter Tryd.func59, Tryd.ntmps59
  go_wp2
  go_ret
  rw [show 32 - (32 - n) = n by omega]
  exact ⟨congrArg (fun z => Ending.returned (.int .u32 z)) (or_rot' n x hx), rfl⟩

set_option maxHeartbeats 400000 in
theorem roll_calls (x : Nat) (hx : x < 4294967296) (n : Nat) (h0 : 0 < n) (h1 : n < 32) (w : World) :
    Calls Tryd.prog 57 #[.int .u32 x, .int .i64 n] w fun e w' => e = .returned (.int .u32 (rot n x : Nat)) ∧ w' = w := by
  go_enter Tryd.func57, Tryd.ntmps57
  go_wp2_with fail
  refine (rl_calls x hx n h0 h1 _).mono ?_
  rintro e w1 ⟨rfl, rfl⟩
  go_wp2
  go_ret
  exact ⟨rfl, rfl⟩

set_option maxHeartbeats 400000 in
theorem place_calls (t i : Nat) (ht : t ≤ 64) (hi : i < 8) (w : World) :
    Calls Tryd.prog 58 #[.int .u64 t, .int .u64 i] w fun e w' => e = .returned (.int .u64 (pl t i : Nat)) ∧ w' = w := by
  go_enter Tryd.func58, Tryd.ntmps58
  go_wp2
  go_ret
  refine ⟨congrArg (fun z => Ending.returned (.int .u64 z)) ?_, rfl⟩
  rw [IntKind.wrap_u64, Int.tmod_eq_emod_of_nonneg (by omega)]
  unfold pl
  omega
end Go.Proofs.YtflicklgmhgpiaaDoor.P3
