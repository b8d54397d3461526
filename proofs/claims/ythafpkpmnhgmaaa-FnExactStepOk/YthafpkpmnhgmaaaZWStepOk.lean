/- The walk of FnExactStepOk; no condition. -/
import Derived.Test.YthafpkpmnhgmaaaZY
import Derived.Test.YthafpkpmnhgmaaaZW
import Derived.Test.YthafpkpmnhgmaaaZT
namespace Go.Proofs.Ythafpkpmnhgmaaa.P7
set_option maxRecDepth 8000
open Go.RowKit P1 P5 P6 Rc Rr

set_option maxHeartbeats 4000000 in
theorem walkStepOk (w : World) (v : Value) (L : List St) (hv : StepsAt w v L) (hlm : L.length ≤ maxLen) (hfm : ∀ s ∈ L, s.fr.length ≤ maxLen) (i : Int) :
    Calls Try.prog 5 #[v, .int .i64 i] w fun e w' => e = .returned (.bool true) ∧ Below w.heap.size w w' := by
  have HV0 := hide hv
  obtain ⟨a0, ca, hsh, -⟩ := hv
  unfold maxLen at hlm hfm
  have HSZ := hide (fun wx (h : StepsAt wx v L) => szSteps_calls wx v L h (by omega) (fun s hs => by have := hfm s hs; omega))
  clear hlm hfm
  have HIx := hide (fun wx B E vx vs (h : StepsOwn wx B E vx L vs) (hz : size L ≤ 1048576) => implStepOk_calls wx vx L i h.read h.cap_ (fun s hs => Nat.le_trans (fr_le hs) hz))
  have HSx := hide (fun wx B E vx vs (h : StepsOwn wx B E vx L vs) (hz : size L ≤ 1048576) => specStepOk_calls wx vx L i h.read (len_le hz) (fun s hs => Nat.le_trans (fr_le hs) hz))
  obtain ⟨r0, E0⟩ : ∃ r, r = stepOk L i := ⟨_, rfl⟩
  simp only [← E0] at HIx HSx
  clear E0
  have hrr : (r0 != r0) = false := by simp
  have HT := hide (fun wx (h : StepsAt wx v L) (hz : size L ≤ 1048576) => toSteps_calls wx v L h hz)
  have HBA := hide (Below.refl w.heap.size w)
  have HV := hide (HV0.out.below HBA.out (Nat.le_refl _))
  clear HV0
  subst hsh
  go_enter Try.func5, Try.ntmps5
  go_wp2_with fail
  obtain ⟨w1, ew1⟩ : ∃ w1, w1 = w := ⟨_, rfl⟩
  rw [← ew1]
  have HBA : Hid (Below w.heap.size w w1) := by rw [ew1]; exact HBA.out
  have HV : Hid (StepsAt w1 (.slice a0 L.length ca) L) := by rw [ew1]; exact HV.out
  clear ew1
  refine (HSZ.out w1 HV.out).mono ?_
  rintro e w2 ⟨⟨r, rfl, hr⟩, hb2⟩
  have HV := hide (HV.out.below hb2 (Nat.le_refl _))
  have HBA := hide (HBA.out.trans (hb2.mono HBA.out.size))
  clear hb2 HSZ
  rcases hr with rfl | ⟨hr0, hz⟩
  · go_wp2_with fail
    go_ret
    exact ⟨rfl, HBA.out⟩
  have hneg : decide (r < 0) = false := by simp; omega
  have HZ := hide hz
  have HLL := hide (len_le hz)
  have HB := hide (Below.refl w2.heap.size w2)
  have HVx : Hid (∀ wx, Below w2.heap.size w2 wx → StepsAt wx (.slice a0 L.length ca) L) := fun wx hb => HV.out.below hb (Nat.le_refl _)
  clear HV hz
  go_wp2_with fail
  clear hneg hr0
  refine (HT.out _ (HVx.out _ HB.out) HZ.out).mono ?_
  rintro e wA ⟨vA, vsA, rfl, hoA, hb⟩
  have HB := hide (HB.out.trans (hb.mono HB.out.size))
  have HOA := hide hoA
  clear hoA hb
  obtain ⟨aA, cA, hsA⟩ := own_shape HOA.out.row
  subst hsA
  go_wp2_with fail
  refine (HSx.out _ _ _ _ _ HOA.out HZ.out).mono ?_
  rintro e w3 ⟨rfl, hb⟩
  have HB := hide (HB.out.trans (hb.mono HB.out.size))
  clear hb HOA
  go_wp2_with fail
  refine (HT.out _ (HVx.out _ HB.out) HZ.out).mono ?_
  rintro e wX ⟨vX, vsX, rfl, hoX, hb⟩
  have HB := hide (HB.out.trans (hb.mono HB.out.size))
  have HOX := hide hoX
  clear hoX hb
  obtain ⟨aX, cX, hsX⟩ := own_shape HOX.out.row
  subst hsX
  go_wp2_with fail
  refine (HIx.out _ _ _ _ _ HOX.out HZ.out).mono ?_
  rintro e w4 ⟨rfl, hb⟩
  have HRX := hide (HOX.out.read.below hb (Nat.le_refl _))
  have HB := hide (HB.out.trans (hb.mono HB.out.size))
  clear hb HOX
  go_wp2_with fail
  refine (HT.out _ (HVx.out _ HB.out) HZ.out).mono ?_
  rintro e wZ ⟨vZ, vsZ, rfl, hoZ, hb⟩
  have HRX := hide (HRX.out.below hb (Nat.le_refl _))
  have HB := hide (HB.out.trans (hb.mono HB.out.size))
  have HOZ := hide hoZ
  clear hoZ hb
  obtain ⟨aZ, cZ, hsZ⟩ := own_shape HOZ.out.row
  subst hsZ
  go_wp2_with fail
  refine (eqSteps_calls wZ _ _ L HRX.out HOZ.out.read (by have := HLL.out; omega) (fun s hs => by have := fr_le hs; have := HZ.out; omega)).mono ?_
  rintro e w5 ⟨rfl, hb⟩
  have HB := hide (HB.out.trans (hb.mono HB.out.size))
  clear hb
  go_wp2_with fail
  go_ret
  exact ⟨rfl, HBA.out.trans (HB.out.mono HBA.out.size)⟩
end Go.Proofs.Ythafpkpmnhgmaaa.P7
