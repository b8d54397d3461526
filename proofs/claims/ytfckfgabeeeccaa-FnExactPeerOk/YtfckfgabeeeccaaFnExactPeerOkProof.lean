/- For every peer the program's PeerOk answers as the specification's and writes into no argument (FnExactPeerOk returns true); no condition. -/
import Derived.Test.YtfckfgabeeeccaaRows
import Derived.Test.YtfckfgabeeeccaaFrame
import Derived.Test.YtfckfgabeeeccaaFrameF
import Derived.Test.YtfckfgabeeeccaaWPeerOk
import Derived.WalkKit
import Derived.ProofKit
import Derived.OpenShut
import Derived.ShutString
import Derived.ChangeVars
namespace Go.Proofs.Ytfckfgabeeeccaa.fnExactPeerOk
open Go.ChangeShapes Go.WideShapes Go.ChangeAt Go.RowKit
open Go.ChangeMaps (open_string shut_string)
set_option linter.unusedVariables false

theorem own : ownKnob Try.prog.godebug = none := by kernel_rfl
theorem laidOut : laidOutB Try.prog = true := by kernel_rfl

theorem walk (w : World) (p : P9.Pr) (u3 u4 u5 : Value) (hf : P9.FitsP p) (h3 : P1.IntsAt w u3 p.behind) (h4 : P1.IntsAt w u4 p.fingers) (h5 : P9.ShelvesAt w u5 p.shelves) :
    Calls Try.prog 3 #[P9.prV p u3 u4 u5] w fun e w' => e = .returned (.bool true) ∧ Below w.heap.size w w' := P9.fnExactPeerOk_walk w p u3 u4 u5 hf h3 h4 h5

set_option maxRecDepth 100000 in
theorem lifted (os : Os) (started : os.Started) (H : Type) (enc : TypeId × Value → H) :
    ReturnsInHanded {} Try.checked os 3 .any (Rows.fnExactPeerOkSpec.pre6 enc Try.prog Try.f3 Rows.fnExactPeerOkRow.domain false) (Rows.fnExactPeerOkSpec.post enc Try.prog Try.f3 false true false false) := by
  refine returnsInHanded_of_change (C := Try.checked) own started (by kernel_rfl) Try.func3
    (ChangeSpec.witness6 (enc := enc) (C := Try.checked) false ⟨#[], #[.agg #[.int .i64 0, .bool false, .int .i64 0, .slice none 0 0, .slice none 0 0, .slice none 0 0]], []⟩ 8 (by kernel_rfl) (by kernel_rfl) (by kernel_rfl) (by kernel_rfl)) ?_
  intro W base args ds gs before hval0 hW hcnd _
  have hval : ∀ (j : Nat) t v, Try.f3.params[j]? = some t → args[j]? = some v → Value.okWide Try.prog W .any base t v := hval0
  have hW' := hW
  obtain ⟨p, q, hA0, hV0, rfl, hfz, hnd⟩ := hW
  have hA : DataW.TrodAll enc Try.prog W 0 (fun _ => true) true Try.f3.params.toList args.toList ds p := hA0
  rw [Try.params3] at hA hval
  obtain ⟨v0, vs0, d0, ds0, p0, q0, hargs, rfl, rfl, h0, r0⟩ := trodAll_cons hA
  obtain ⟨rfl, rfl, rfl⟩ := trodAll_nil r0
  obtain rfl : args = #[v0] := by cases args; simp_all
  obtain ⟨rfl, rfl⟩ := trodVars_none hV0
  obtain ⟨p0, t0, m0, o0, rfl, z0, q0, g0, k0⟩ := Frame.open_peer (hval 0 25 v0 rfl rfl) h0
  clear hA0 hval0
  refine (walk (w := W) p0 t0 m0 o0 z0 q0 g0 k0 ).mono fun e W' ⟨he, bel⟩ => ?_
  subst he
  exact ⟨_, rfl, Frame.post_law laidOut (by kernel_rfl) (by kernel_rfl) (by kernel_rfl) Try.underlying4 hW' rfl bel⟩

theorem over : Rows.FnExactPeerOkSaid :=
  OpenClaim.holds_of_wide 3 Try.f3 rfl rfl rfl rfl rfl rfl rfl ⟨rfl, rfl, rfl, rfl, rfl⟩ rfl rfl rfl rfl rfl (by kernel_rfl) Try.func3 (by kernel_rfl)
    (of_decide_eq_true (by kernel_rfl)) (by unfold Func.isWrapper; first | (rw [if_pos (by decide +kernel)]; kernel_rfl) | (rw [if_neg (by decide +kernel)]; exact ⟨rfl, rfl⟩))
    (fun os started H enc _ => lifted os started H enc)

theorem proved : Rows.FnExactPeerOkSaid := over
#print axioms proved
end Go.Proofs.Ytfckfgabeeeccaa.fnExactPeerOk
