/- For every list of words and every circle the program's MembersOf answers as the specification's, writes into no argument and keeps nothing of one, and its answer owns its memory (FnExactMembersOf returns true); no condition. -/
import Derived.Test.YtgnldmheiknbkaaRows
import Derived.Test.YtgnldmheiknbkaaZD
import Derived.Test.YtgnldmheiknbkaaZU
import Derived.Test.YtgnldmheiknbkaaZWMembersOf
import Derived.WalkKit
import Derived.ProofKit
import Derived.OpenShut
import Derived.ShutString
import Derived.ChangeVars
namespace Go.Proofs.Ytgnldmheiknbkaa.fnExactMembersOf
open Go.ChangeShapes Go.WideShapes Go.ChangeAt Go.RowKit
open Go.ChangeMaps (open_string shut_string)
set_option linter.unusedVariables false

theorem own : ownKnob Try.prog.godebug = none := by kernel_rfl
theorem laidOut : laidOutB Try.prog = true := by kernel_rfl

open P1 P5 P6 Rc in
theorem walk (w : World) (v : Value) (L : List Cr) (hv : RowAt crR w v L) (hlm : L.length ≤ maxLen) (a b : Int) :
    Calls Try.prog 8 #[v, roleV a b] w fun e w' => e = .returned (.bool true) ∧ Below w.heap.size w w' :=
  walkMembersOf w v L hv hlm a b

set_option maxRecDepth 100000 in
theorem lifted (os : Os) (started : os.Started) (H : Type) (enc : TypeId × Value → H) :
    ReturnsInHanded {} Try.checked os 8 .any (Rows.fnExactMembersOfSpec.pre6 enc Try.prog Try.f8 Rows.fnExactMembersOfRow.domain false) (Rows.fnExactMembersOfSpec.post enc Try.prog Try.f8 false true false false) := by
  refine returnsInHanded_of_change (C := Try.checked) own started (by kernel_rfl) Try.func8
    (ChangeSpec.witness6 (enc := enc) (C := Try.checked) false ⟨#[], #[.slice none 0 0, .agg #[.int .i64 0, .int .i64 0]], []⟩ 8 (by kernel_rfl) (by kernel_rfl) (by kernel_rfl) (by kernel_rfl)) ?_
  intro W base args ds gs before hval0 hW hcnd _
  have hval : ∀ (j : Nat) t v, Try.f8.params[j]? = some t → args[j]? = some v → Value.okWide Try.prog W .any base t v := hval0
  have hW' := hW
  obtain ⟨p, q, hA0, hV0, rfl, hfz, hnd⟩ := hW
  have hA : DataW.TrodAll enc Try.prog W 0 (fun _ => true) true Try.f8.params.toList args.toList ds p := hA0
  rw [Try.params8] at hA hval
  obtain ⟨v0, vs0, d0, ds0, p0, q0, hargs, rfl, rfl, h0, r0⟩ := trodAll_cons hA
  obtain ⟨v1, vs1, d1, ds1, p1, q1, rfl, rfl, rfl, h1, r1⟩ := trodAll_cons r0
  obtain ⟨rfl, rfl, rfl⟩ := trodAll_nil r1
  obtain rfl : args = #[v0, v1] := by cases args; simp_all
  obtain ⟨rfl, rfl⟩ := trodVars_none hV0
  obtain ⟨l0, y0, z0⟩ := Frame.open_creds (hval 0 60 v0 rfl rfl) h0
  obtain ⟨a1, x1, rfl, b1, y1⟩ := Frame.open_role (hval 1 52 v1 rfl rfl) h1
  clear hA0 hval0
  refine (walk (w := W) v0 l0 y0 z0 a1 x1 ).mono fun e W' ⟨he, bel⟩ => ?_
  subst he
  exact ⟨_, rfl, Frame.post_law laidOut (by kernel_rfl) (by kernel_rfl) (by kernel_rfl) Try.underlying4 hW' rfl bel⟩

theorem over : Rows.FnExactMembersOfSaid :=
  OpenClaim.holds_of_wide 8 Try.f8 rfl rfl rfl rfl rfl rfl rfl ⟨rfl, rfl, rfl, rfl, rfl⟩ rfl rfl rfl rfl rfl (by kernel_rfl) Try.func8 (by kernel_rfl)
    (of_decide_eq_true (by kernel_rfl)) (by unfold Func.isWrapper; first | (rw [if_pos (by decide +kernel)]; kernel_rfl) | (rw [if_neg (by decide +kernel)]; exact ⟨rfl, rfl⟩))
    (fun os started H enc _ => lifted os started H enc)

theorem proved : Rows.FnExactMembersOfSaid := over
#print axioms proved
end Go.Proofs.Ytgnldmheiknbkaa.fnExactMembersOf
