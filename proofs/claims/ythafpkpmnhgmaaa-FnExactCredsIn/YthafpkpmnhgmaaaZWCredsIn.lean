/- The walk of FnExactCredsIn; no condition. -/
import Derived.Test.YthafpkpmnhgmaaaZY
import Derived.Test.YthafpkpmnhgmaaaZW
import Derived.Test.YthafpkpmnhgmaaaZS
import Derived.Test.YthafpkpmnhgmaaaZT
namespace Go.Proofs.Ythafpkpmnhgmaaa.P7
set_option maxRecDepth 8000
open Go.RowKit P1 P5 P6 Rc Rr

set_option maxHeartbeats 4000000 in
theorem walkCredsIn (w : World) (v : Value) (L : List St) (hv : StepsAt w v L) (hlm : L.length ≤ maxLen) (hfm : ∀ s ∈ L, s.fr.length ≤ maxLen) :
    Calls Try.prog 8 #[v] w fun e w' => e = .returned (.bool true) ∧ Below w.heap.size w w' := by
  have HV0 := hide hv
  obtain ⟨a0, ca, hsh, -⟩ := hv
  unfold maxLen at hlm hfm
  have HSZ := hide (fun wx (h : StepsAt wx v L) => szSteps_calls wx v L h (by omega) (fun s hs => by have := hfm s hs; omega))
  clear hlm hfm
  have HIx := hide (fun wx vx (h : StepsAt wx vx L) (hz : size L ≤ 1048576) => implCredsIn_calls wx vx L h (len_le hz))
  have HSx := hide (fun wx vx (h : StepsAt wx vx L) (hz : size L ≤ 1048576) => specCredsIn_calls wx vx L h (len_le hz))
  have HAl := hide (fun (hz : size L ≤ 1048576) => (Nat.le_trans (credsIn_le L) (len_le hz) : (credsIn L).length ≤ 1048576))
  obtain ⟨A, EA⟩ : ∃ A, A = credsIn L := ⟨_, rfl⟩
  simp only [← EA] at HIx HSx HAl
  clear EA
  have HFA : Hid ((flat crR A).length = A.length * 10) := flat_length crR A
  have HT := hide (fun wx (h : StepsAt wx v L) (hz : size L ≤ 1048576) => toSteps_calls wx v L h hz)
  have HBA := hide (Below.refl w.heap.size w)
  have HV := hide (HV0.out.below HBA.out (Nat.le_refl _))
  clear HV0
  subst hsh
  go_enter Try.func8, Try.ntmps8
  go_wp2_with fail
  obtain ⟨w1, ew1⟩ : ∃ w1, w1 = w := ⟨_, rfl⟩
  rw [← ew1]
  have HBA : Hid (Below w.heap.size w w1) := by rw [ew1]; exact HBA.out
  have HV : Hid (StepsAt w1 (.slice a0 L.length ca) L) := by rw [ew1]; exact HV.out
  clear ew1
  refine (HSZ.out w1 HV.out).mono ?_
  rintro e w2 ⟨⟨r, rfl, hr⟩, hb2⟩
  have HV := hide (HV.out.below hb2 (Nat.le_refl _))
  have HBA := hide (HBA.out.trans (hb2.mono HBA.out.size))
  clear hb2 HSZ
  rcases hr with rfl | ⟨hr0, hz⟩
  · go_wp2_with fail
    go_ret
    exact ⟨rfl, HBA.out⟩
  have hneg : decide (r < 0) = false := by simp; omega
  have HZ := hide hz
  have HLL := hide (len_le hz)
  have HB := hide (Below.refl w2.heap.size w2)
  have HVx : Hid (∀ wx, Below w2.heap.size w2 wx → StepsAt wx (.slice a0 L.length ca) L) := fun wx hb => HV.out.below hb (Nat.le_refl _)
  clear HV hz
  go_wp2_with fail
  clear hneg hr0
  refine (HT.out _ (HVx.out _ HB.out) HZ.out).mono ?_
  rintro e wB ⟨vB, vsB, rfl, hoB, hb⟩
  have HB := hide (HB.out.trans (hb.mono HB.out.size))
  have HOB := hide hoB
  clear hoB hb
  obtain ⟨aB, cB, hsB⟩ := own_shape HOB.out.row
  subst hsB
  go_wp2_with fail
  refine (HSx.out _ _ HOB.out.read HZ.out).mono ?_
  rintro e wA ⟨vA, rfl, hoA, hb⟩
  have HB := hide (HB.out.trans (hb.mono HB.out.size))
  have HOA := hide hoA
  clear hoA hb HOB
  have hwz : w2.heap.size ≤ wA.heap.size := HB.out.size
  have HLA : Hid (∀ g, vA.ownBlock = some g → g < wA.heap.size) := fun g hg => (own_block HOA.out hg).choose_spec.2.2
  go_wp2_with fail
  refine (HT.out _ (HVx.out _ HB.out) HZ.out).mono ?_
  rintro e wX ⟨vX, vsX, rfl, hoX, hb⟩
  have HOA := hide (own_below HOA.out hb)
  have HB := hide (HB.out.trans (hb.mono HB.out.size))
  have hszX := hb.size
  have HOX := hide hoX
  clear hoX hb
  obtain ⟨aX, cX, hsX⟩ := own_shape HOX.out.row
  subst hsX
  have hwX : w2.heap.size ≤ wX.heap.size := HB.out.size
  go_wp2_with fail
  refine (HIx.out _ _ HOX.out.read HZ.out).mono ?_
  rintro e wG ⟨vG, rfl, hoG, hb⟩
  have hAG := own_apart HOA.out hoG
  have HLG : Hid (∀ g, vG.ownBlock = some g → wX.heap.size ≤ g) := fun g hg => (own_block hoG hg).choose_spec.2.1
  have HEX : wX.heap.size ≤ wG.heap.size := hb.size
  have HOX := hide (HOX.out.below hb (Nat.le_refl _))
  have HOA := hide (own_below HOA.out hb)
  have HB := hide (HB.out.trans (hb.mono HB.out.size))
  have HOG := hide hoG
  clear hoG hb
  go_wp2_with fail
  refine (eqCredS_calls wG vG vA A (RowAt.of_own HOG.out) (RowAt.of_own HOA.out) (by have := HAl.out HZ.out; omega)).mono ?_
  rintro e wE ⟨rfl, hb⟩
  have HEX : wX.heap.size ≤ wE.heap.size := Nat.le_trans HEX hb.size
  have HOA := hide (own_below HOA.out hb)
  have HOG := hide (own_below HOG.out hb)
  have HOX := hide (HOX.out.stay (fun g _ hg => hb.block g (by omega)))
  have HB := hide (HB.out.trans (hb.mono HB.out.size))
  clear hb
  go_wp2_with fail
  refine (HT.out wE (HVx.out _ HB.out) HZ.out).mono ?_
  rintro e wZ ⟨vZ, vsZ, rfl, hoZ, hb⟩
  have HEX : wX.heap.size ≤ wZ.heap.size := Nat.le_trans HEX hb.size
  have HOA := hide (own_below HOA.out hb)
  have HOG := hide (own_below HOG.out hb)
  have HOX := hide (HOX.out.stay (fun g _ hg => hb.block g (by omega)))
  have HB := hide (HB.out.trans (hb.mono HB.out.size))
  have HOZ := hide hoZ
  clear hoZ hb
  obtain ⟨aZ, cZ, hsZ⟩ := own_shape HOZ.out.row
  subst hsZ
  go_wp2_with fail
  refine (eqSteps_calls wZ _ _ L HOX.out.read HOZ.out.read (by have := HLL.out; omega) (fun s hs => by have := fr_le hs; have := HZ.out; omega)).mono ?_
  rintro e wF ⟨rfl, hb⟩
  have HEX : wX.heap.size ≤ wF.heap.size := Nat.le_trans HEX hb.size
  have HOA := hide (own_below HOA.out hb)
  have HOG := hide (own_below HOG.out hb)
  have HOX := hide (HOX.out.stay (fun g _ hg => hb.block g (by omega)))
  have HB := hide (HB.out.trans (hb.mono HB.out.size))
  clear hb HOZ
  have HKA := hide (kA_le L 1 L.length (Nat.le_refl _))
  go_wp2_with fail
  refine (markSteps_calls wF _ _ _ L vsX 1 HOX.out (by decide) HZ.out).mono ?_
  rintro e wM ⟨rfl, -, hwi⟩
  have HB := hide (HB.out.trans (hwi.below (by omega) |> fun h => h.mono (by omega)))
  have HOA := hide (own_stay (w' := wM) HOA.out (fun g hg => hwi.block g (own_block HOA.out hg).choose_spec.2.2 (.inl (HLA.out g hg))))
  have HOG := hide (own_stay (w' := wM) HOG.out (fun g hg => hwi.block g (own_block HOG.out hg).choose_spec.2.2 (.inr (HLG.out g hg))))
  clear hwi HOX HLA HLG HKA
  generalize hkk : kA L 1 L.length = kk at *
  clear hkk
  have hk1 : decide (((kk : Nat) : Int) < 0) = false := by simp
  go_wp2_with fail
  refine (eqCredS_calls wM vG vA A (RowAt.of_own HOG.out) (RowAt.of_own HOA.out) (by have := HAl.out HZ.out; omega)).mono ?_
  rintro e wN ⟨rfl, hb⟩
  have HOA := hide (own_below HOA.out hb)
  have HOG := hide (own_below HOG.out hb)
  have HB := hide (HB.out.trans (hb.mono HB.out.size))
  clear hb hk1
  have HAZ := hide (HAl.out HZ.out)
  have hAl : A.length ≤ 1048576 := HAZ.out
  go_wp2_with fail
  refine (markCredS_calls wN _ vG A.length (flat crR A) 1 HFA.out HOG.out (by decide) (by omega)).mono ?_
  rintro e wP ⟨rfl, hmk, hgr⟩
  have HB := hide (HB.out.grown hgr HB.out.size (fun k hk => Nat.le_trans hwX (HOG.out.lt k hk).1))
  have HOA := hide (HOA.out.kept hgr hAG)
  have HMK := hide hmk
  clear hgr hmk HOG hAG
  have HHD := hide (fun wx (h : wx.ownsRow wX.heap.size 39 10 vG A.length (cellsI (marks (1 : Nat) (A.length * 10)))) => heldCredS_calls wx _ vG A.length 1 h (by decide) (by omega))
  generalize hq3 : ((1 + A.length * 10 : Nat) : Int) = q3 at *
  have hq4 : decide (q3 < 0) = false := by simp; omega
  have hq5 : (q3 != q3) = false := by simp
  clear hq3
  go_wp2_with fail
  refine (HHD.out wP HMK.out).mono ?_
  rintro e wQ ⟨rfl, rfl⟩
  go_wp2_with fail
  refine (HT.out _ (HVx.out _ HB.out) HZ.out).mono ?_
  rintro e wH0 ⟨vH0, vsH0, rfl, hoH0, hb⟩
  have HOA := hide (own_below HOA.out hb)
  have HMK := hide (own_below HMK.out hb)
  have HB := hide (HB.out.trans (hb.mono HB.out.size))
  have HOH0 := hide hoH0
  clear hoH0 hb
  obtain ⟨aH0, cH0, hsH0⟩ := own_shape HOH0.out.row
  subst hsH0
  go_wp2_with fail
  refine (HIx.out _ _ HOH0.out.read HZ.out).mono ?_
  rintro e wH ⟨vH, rfl, hoH, hb⟩
  have HOA := hide (own_below HOA.out hb)
  have HMK := hide (own_below HMK.out hb)
  have HB := hide (HB.out.trans (hb.mono HB.out.size))
  have HOH := hide hoH
  clear hoH hb HOH0
  go_wp2_with fail
  refine (eqCredS_calls wH vH vA A (RowAt.of_own HOH.out) (RowAt.of_own HOA.out) (by omega)).mono ?_
  rintro e wR ⟨rfl, hb⟩
  have HMK := hide (own_below HMK.out hb)
  have HB := hide (HB.out.trans (hb.mono HB.out.size))
  clear hb
  go_wp2_with fail
  refine (HHD.out wR HMK.out).mono ?_
  rintro e wS ⟨rfl, rfl⟩
  go_wp2_with fail
  go_ret
  exact ⟨rfl, HBA.out.trans (HB.out.mono HBA.out.size)⟩
end Go.Proofs.Ythafpkpmnhgmaaa.P7
