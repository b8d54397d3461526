/- For every word the program's CredText answers as the specification's (FnExactCredText returns true); no condition. -/
import Derived.Test.YtflicklgmhgpiaaRows
import Derived.Test.YtflicklgmhgpiaaFrame
import Derived.Test.YtflicklgmhgpiaaFrameC
import Derived.Test.YtflicklgmhgpiaaCrd4
import Derived.Test.YtflicklgmhgpiaaCrdI2
import Derived.WalkKit
import Derived.ProofKit
import Derived.OpenShut
import Derived.ShutString
import Derived.ChangeVars
namespace Go.Proofs.Ytflicklgmhgpiaa.fnExactCredText
set_option maxRecDepth 8000
open Go.ChangeShapes Go.WideShapes Go.ChangeAt Go.RowKit
open Go.ChangeMaps (open_string shut_string)
set_option linter.unusedVariables false

theorem own : ownKnob Try.prog.godebug = none := by kernel_rfl
theorem laidOut : laidOutB Try.prog = true := by kernel_rfl

open P1 P5 in
set_option maxHeartbeats 1000000 in
theorem walk (w : World) (c : Cr) :
    Calls Try.prog 5 #[credV c] w fun e w' => e = .returned (.bool true) ∧ Below w.heap.size w w' := by
  have HT := hide (fun wx => toCred_calls c wx)
  have HS := hide (fun wx => specCredText_calls c wx)
  have HI := hide (fun wx => implCredText_calls c wx)
  generalize credT c = r at HS HI
  obtain ⟨k, ow, on, wh, aw, an, bw, bn, u, n⟩ := c
  simp only [credV] at HT HS HI ⊢
  have HB := hide ((Below.refl w.heap.size w).alloc (Nat.le_refl _) (.cells #[.int .i64 k, .int .i64 ow, .int .i64 on, .int .i64 wh, .int .i64 aw, .int .i64 an, .int .i64 bw, .int .i64 bn, .int .i64 u, .int .i64 n] 29))
  have HA := hide (Blk.new w #[.int .i64 k, .int .i64 ow, .int .i64 on, .int .i64 wh, .int .i64 aw, .int .i64 an, .int .i64 bw, .int .i64 bn, .int .i64 u, .int .i64 n] 29)
  go_enter Try.func5, Try.ntmps5
  go_wp2_with fail
  obtain ⟨b0, e0⟩ : ∃ b, b = w.heap.size := ⟨_, rfl⟩
  rw [← e0] at HA ⊢
  clear e0
  generalize w.alloc (.cells #[.int .i64 k, .int .i64 ow, .int .i64 on, .int .i64 wh, .int .i64 aw, .int .i64 an, .int .i64 bw, .int .i64 bn, .int .i64 u, .int .i64 n] 29) = w1 at *
  refine (HT.out _).mono ?_
  rintro e w2 ⟨rfl, hb⟩
  have HA := hide (HA.out.below hb HA.out.lt)
  have HB := hide (HB.out.trans (hb.mono HB.out.size))
  clear hb
  go_wp2_with fail
  refine (HS.out _).mono ?_
  rintro e w3 ⟨rfl, hb⟩
  have HA := hide (HA.out.below hb HA.out.lt)
  have HB := hide (HB.out.trans (hb.mono HB.out.size))
  clear hb
  have c0 : w3.cell? ⟨b0, 0, none⟩ = some (.int .i64 k) := by rw [HA.out.cell 0]; rfl
  have c1 : w3.cell? ⟨b0, 1, none⟩ = some (.int .i64 ow) := by rw [HA.out.cell 1]; rfl
  have c2 : w3.cell? ⟨b0, 2, none⟩ = some (.int .i64 on) := by rw [HA.out.cell 2]; rfl
  have c3 : w3.cell? ⟨b0, 3, none⟩ = some (.int .i64 wh) := by rw [HA.out.cell 3]; rfl
  have c4 : w3.cell? ⟨b0, 4, none⟩ = some (.int .i64 aw) := by rw [HA.out.cell 4]; rfl
  have c5 : w3.cell? ⟨b0, 5, none⟩ = some (.int .i64 an) := by rw [HA.out.cell 5]; rfl
  have c6 : w3.cell? ⟨b0, 6, none⟩ = some (.int .i64 bw) := by rw [HA.out.cell 6]; rfl
  have c7 : w3.cell? ⟨b0, 7, none⟩ = some (.int .i64 bn) := by rw [HA.out.cell 7]; rfl
  have c8 : w3.cell? ⟨b0, 8, none⟩ = some (.int .i64 u) := by rw [HA.out.cell 8]; rfl
  have c9 : w3.cell? ⟨b0, 9, none⟩ = some (.int .i64 n) := by rw [HA.out.cell 9]; rfl
  have l0 := HA.out.lt
  go_wp2_with fail
  clear c0 c1 c2 c3 c4 c5 c6 c7 c8 c9 l0
  refine (HT.out _).mono ?_
  rintro e w4 ⟨rfl, hb⟩
  have HB := hide (HB.out.trans (hb.mono HB.out.size))
  clear hb
  go_wp2_with fail
  refine (HI.out _).mono ?_
  rintro e w5 ⟨rfl, hb⟩
  have HB := hide (HB.out.trans (hb.mono HB.out.size))
  clear hb
  go_wp2_with fail
  go_ret
  exact ⟨rfl, HB.out⟩

set_option maxRecDepth 100000 in
theorem lifted (os : Os) (started : os.Started) (H : Type) (enc : TypeId × Value → H) :
    ReturnsInHanded {} Try.checked os 5 .any (Rows.fnExactCredTextSpec.pre6 enc Try.prog Try.f5 Rows.fnExactCredTextRow.domain false) (Rows.fnExactCredTextSpec.post enc Try.prog Try.f5 false true false false) := by
  refine returnsInHanded_of_change (C := Try.checked) own started (by kernel_rfl) Try.func5
    (ChangeSpec.witness6 (enc := enc) (C := Try.checked) false ⟨#[], #[.agg #[.int .i64 0, .int .i64 0, .int .i64 0, .int .i64 0, .int .i64 0, .int .i64 0, .int .i64 0, .int .i64 0, .int .i64 0, .int .i64 0]], []⟩ 8 (by kernel_rfl) (by kernel_rfl) (by kernel_rfl) (by kernel_rfl)) ?_
  intro W base args ds gs before hval0 hW hcnd _
  have hval : ∀ (j : Nat) t v, Try.f5.params[j]? = some t → args[j]? = some v → Value.okWide Try.prog W .any base t v := hval0
  have hW' := hW
  obtain ⟨p, q, hA0, hV0, rfl, hfz, hnd⟩ := hW
  have hA : DataW.TrodAll enc Try.prog W 0 (fun _ => true) true Try.f5.params.toList args.toList ds p := hA0
  rw [Try.params5] at hA hval
  obtain ⟨v0, vs0, d0, ds0, p0, q0, hargs, rfl, rfl, h0, r0⟩ := trodAll_cons hA
  obtain ⟨rfl, rfl, rfl⟩ := trodAll_nil r0
  obtain rfl : args = #[v0] := by cases args; simp_all
  obtain ⟨rfl, rfl⟩ := trodVars_none hV0
  obtain ⟨a0, rfl⟩ := Frame.open_cred (hval 0 29 v0 rfl rfl) h0
  clear hA0 hval0
  refine (walk (w := W) a0 ).mono fun e W' ⟨he, bel⟩ => ?_
  subst he
  exact ⟨_, rfl, Frame.post_law laidOut (by kernel_rfl) (by kernel_rfl) (by kernel_rfl) Try.underlying4 hW' rfl bel⟩

theorem over : Rows.FnExactCredTextSaid :=
  OpenClaim.holds_of_wide 5 Try.f5 rfl rfl rfl rfl rfl rfl rfl ⟨rfl, rfl, rfl, rfl, rfl⟩ rfl rfl rfl rfl rfl (by kernel_rfl) Try.func5 (by kernel_rfl)
    (of_decide_eq_true (by kernel_rfl)) (by unfold Func.isWrapper; first | (rw [if_pos (by decide +kernel)]; kernel_rfl) | (rw [if_neg (by decide +kernel)]; exact ⟨rfl, rfl⟩))
    (fun os started H enc _ => lifted os started H enc)

theorem proved : Rows.FnExactCredTextSaid := over
#print axioms proved
end Go.Proofs.Ytflicklgmhgpiaa.fnExactCredText
