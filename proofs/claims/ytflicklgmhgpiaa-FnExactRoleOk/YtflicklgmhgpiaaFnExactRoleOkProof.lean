/- For every role the program's RoleOk answers as the specification's (FnExactRoleOk returns true); no condition. -/
import Derived.Test.YtflicklgmhgpiaaRows
import Derived.Test.YtflicklgmhgpiaaFrame
import Derived.Test.YtflicklgmhgpiaaFrameC
import Derived.Test.YtflicklgmhgpiaaCrd3
import Derived.Test.YtflicklgmhgpiaaCrdI1
import Derived.WalkKit
import Derived.ProofKit
import Derived.OpenShut
import Derived.ShutString
import Derived.ChangeVars
namespace Go.Proofs.Ytflicklgmhgpiaa.fnExactRoleOk
set_option maxRecDepth 8000
open Go.ChangeShapes Go.WideShapes Go.ChangeAt Go.RowKit
open Go.ChangeMaps (open_string shut_string)
set_option linter.unusedVariables false

theorem own : ownKnob Try.prog.godebug = none := by kernel_rfl
theorem laidOut : laidOutB Try.prog = true := by kernel_rfl

open P1 P5 in
set_option maxHeartbeats 1000000 in
theorem walk (w : World) (a b : Int) :
    Calls Try.prog 3 #[roleV a b] w fun e w' => e = .returned (.bool true) ∧ Below w.heap.size w w' := by
  have HT := hide (fun wx => toRole_calls a b wx)
  have HS := hide (fun wx => specRole_calls a b wx)
  have HI := hide (fun wx => implRole_calls a b wx)
  generalize decide (roleOk a b) = r at HS HI
  simp only [roleV] at HT HS HI ⊢
  have HB := hide ((Below.refl w.heap.size w).alloc (Nat.le_refl _) (.cells #[.int .i64 a, .int .i64 b] 23))
  have HA := hide (Blk.new w #[.int .i64 a, .int .i64 b] 23)
  go_enter Try.func3, Try.ntmps3
  go_wp2_with fail
  obtain ⟨b0, e0⟩ : ∃ b, b = w.heap.size := ⟨_, rfl⟩
  rw [← e0] at HA ⊢
  clear e0
  generalize w.alloc (.cells #[.int .i64 a, .int .i64 b] 23) = w1 at *
  refine (HT.out _).mono ?_
  rintro e w2 ⟨rfl, hb⟩
  have HA := hide (HA.out.below hb HA.out.lt)
  have HB := hide (HB.out.trans (hb.mono HB.out.size))
  clear hb
  go_wp2_with fail
  refine (HS.out _).mono ?_
  rintro e w3 ⟨rfl, hb⟩
  have HA := hide (HA.out.below hb HA.out.lt)
  have HB := hide (HB.out.trans (hb.mono HB.out.size))
  clear hb
  have c0 : w3.cell? ⟨b0, 0, none⟩ = some (.int .i64 a) := by rw [HA.out.cell 0]; rfl
  have c1 : w3.cell? ⟨b0, 1, none⟩ = some (.int .i64 b) := by rw [HA.out.cell 1]; rfl
  have l0 := HA.out.lt
  go_wp2_with fail
  clear c0 c1 l0
  refine (HT.out _).mono ?_
  rintro e w4 ⟨rfl, hb⟩
  have HB := hide (HB.out.trans (hb.mono HB.out.size))
  clear hb
  go_wp2_with fail
  refine (HI.out _).mono ?_
  rintro e w5 ⟨rfl, hb⟩
  have HB := hide (HB.out.trans (hb.mono HB.out.size))
  clear hb
  have hne : (r != r) = false := by simp
  go_wp2_with fail
  go_ret
  exact ⟨rfl, HB.out⟩

set_option maxRecDepth 100000 in
theorem lifted (os : Os) (started : os.Started) (H : Type) (enc : TypeId × Value → H) :
    ReturnsInHanded {} Try.checked os 3 .any (Rows.fnExactRoleOkSpec.pre6 enc Try.prog Try.f3 Rows.fnExactRoleOkRow.domain false) (Rows.fnExactRoleOkSpec.post enc Try.prog Try.f3 false true false false) := by
  refine returnsInHanded_of_change (C := Try.checked) own started (by kernel_rfl) Try.func3
    (ChangeSpec.witness6 (enc := enc) (C := Try.checked) false ⟨#[], #[.agg #[.int .i64 0, .int .i64 0]], []⟩ 8 (by kernel_rfl) (by kernel_rfl) (by kernel_rfl) (by kernel_rfl)) ?_
  intro W base args ds gs before hval0 hW hcnd _
  have hval : ∀ (j : Nat) t v, Try.f3.params[j]? = some t → args[j]? = some v → Value.okWide Try.prog W .any base t v := hval0
  have hW' := hW
  obtain ⟨p, q, hA0, hV0, rfl, hfz, hnd⟩ := hW
  have hA : DataW.TrodAll enc Try.prog W 0 (fun _ => true) true Try.f3.params.toList args.toList ds p := hA0
  rw [Try.params3] at hA hval
  obtain ⟨v0, vs0, d0, ds0, p0, q0, hargs, rfl, rfl, h0, r0⟩ := trodAll_cons hA
  obtain ⟨rfl, rfl, rfl⟩ := trodAll_nil r0
  obtain rfl : args = #[v0] := by cases args; simp_all
  obtain ⟨rfl, rfl⟩ := trodVars_none hV0
  obtain ⟨a0, x0, rfl, b0, y0⟩ := Frame.open_role (hval 0 23 v0 rfl rfl) h0
  clear hA0 hval0
  refine (walk (w := W) a0 x0 ).mono fun e W' ⟨he, bel⟩ => ?_
  subst he
  exact ⟨_, rfl, Frame.post_law laidOut (by kernel_rfl) (by kernel_rfl) (by kernel_rfl) Try.underlying4 hW' rfl bel⟩

theorem over : Rows.FnExactRoleOkSaid :=
  OpenClaim.holds_of_wide 3 Try.f3 rfl rfl rfl rfl rfl rfl rfl ⟨rfl, rfl, rfl, rfl, rfl⟩ rfl rfl rfl rfl rfl (by kernel_rfl) Try.func3 (by kernel_rfl)
    (of_decide_eq_true (by kernel_rfl)) (by unfold Func.isWrapper; first | (rw [if_pos (by decide +kernel)]; kernel_rfl) | (rw [if_neg (by decide +kernel)]; exact ⟨rfl, rfl⟩))
    (fun os started H enc _ => lifted os started H enc)

theorem proved : Rows.FnExactRoleOkSaid := over
#print axioms proved
end Go.Proofs.Ytflicklgmhgpiaa.fnExactRoleOk
