/- The walk of FnExactRolesOf; no condition. -/
import Derived.Test.YtgnldmheiknbkaaZS
import Derived.Test.YtgnldmheiknbkaaZT
import Derived.Test.YtgnldmheiknbkaaZRecI
namespace Go.Proofs.Ytgnldmheiknbkaa.P6
set_option maxRecDepth 8000
open Go.RowKit P1 P5 Rc

set_option maxHeartbeats 4000000 in
theorem walkRolesOf (w : World) (v : Value) (L : List Cr) (hv : RowAt crR w v L) (hlm : L.length ≤ maxLen) (who : Int) :
    Calls Try.prog 9 #[v, .int .i64 who] w fun e w' => e = .returned (.bool true) ∧ Below w.heap.size w w' := by
  have HV0 := hide hv
  obtain ⟨a0, ca, hsh, -⟩ := hv.open_
  clear hv
  unfold maxLen at hlm
  by_cases hbig : 1048576 < L.length
  · subst hsh
    have hs := szCred_calls w a0 L.length ca (by omega)
    rw [if_pos hbig] at hs
    go_enter Try.func9, Try.ntmps9
    go_wp2_with fail
    refine hs.mono ?_
    rintro e w2 ⟨rfl, rfl⟩
    go_wp2_with fail
    go_ret
    exact ⟨rfl, Below.refl _ _⟩
  have hl : L.length ≤ 1048576 := by omega
  have HIx := hide (fun wx vx (h : RowAt crR wx vx L) => implRoles_calls wx vx L who h hl)
  have HSx := hide (fun wx vx (h : RowAt crR wx vx L) => specRoles_calls wx vx L who h hl)
  have hAl : (rolesOf L who).length ≤ 1048576 := rolesOf_le L who
  obtain ⟨A, EA⟩ : ∃ A, A = rolesOf L who := ⟨_, rfl⟩
  simp only [← EA] at HIx HSx hAl
  clear EA hbig hlm
  have HFL : Hid ((flat crR L).length = L.length * 10) := flat_length crR L
  have HFA : Hid ((flat roR A).length = A.length * 2) := flat_length roR A
  have HBA := hide (Below.refl w.heap.size w)
  have HV := hide (HV0.out.below HBA.out (Nat.le_refl _))
  rw [hsh] at HV ⊢
  clear HV0 hsh
  go_enter Try.func9, Try.ntmps9
  go_wp2_with fail
  obtain ⟨w1, ew1⟩ : ∃ w1, w1 = w := ⟨_, rfl⟩
  rw [← ew1]
  have HBA : Hid (Below w.heap.size w w1) := by rw [ew1]; exact HBA.out
  have HV : Hid (RowAt crR w1 (.slice a0 L.length ca) L) := by rw [ew1]; exact HV.out
  clear ew1
  have hs := szCred_calls w1 a0 L.length ca (by omega)
  rw [if_neg (by omega)] at hs
  refine hs.mono ?_
  rintro e w2 ⟨rfl, rfl⟩
  clear hs
  have hneg : decide ((1048576 : Int) - (L.length : Int) < 0) = false := by simp; omega
  have HB := hide (Below.refl w2.heap.size w2)
  have HVx : Hid (∀ wx, Below w2.heap.size w2 wx → RowAt crR wx (.slice a0 L.length ca) L) := fun wx hb => HV.out.below hb (Nat.le_refl _)
  have HT : Hid (∀ wx, RowAt crR wx (.slice a0 L.length ca) L → Calls Try.prog 39 #[.slice a0 L.length ca] wx fun e w' => ∃ v', e = .returned v' ∧ w'.ownsRow wx.heap.size 29 10 v' (L).length (cellsI (flat crR (L))) ∧ Below wx.heap.size wx w') := fun wx h => toCredS_calls wx _ L h hl
  clear HV
  go_wp2_with fail
  clear hneg
  refine (HT.out _ (HVx.out _ HB.out)).mono ?_
  rintro e wtA ⟨vt, rfl, hot, hb⟩
  have HRt := hide (RowAt.of_own hot)
  obtain ⟨at_, ct, hst⟩ := own_shape hot
  have HB := hide (HB.out.trans (hb.mono HB.out.size))
  clear hot hb
  subst hst
  go_wp2_with fail
  refine (HSx.out _ _ HRt.out).mono ?_
  rintro e wA ⟨vA, rfl, ho, hb⟩
  have HB := hide (HB.out.trans (hb.mono HB.out.size))
  have HOA := hide ho
  clear ho hb HRt
  have hwz : w2.heap.size ≤ wA.heap.size := HB.out.size
  go_wp2_with fail
  refine (HT.out wA (HVx.out _ HB.out)).mono ?_
  rintro e wX ⟨vX, rfl, hx, hb⟩
  have hAX := own_apart HOA.out hx
  have HB := hide (HB.out.trans (hb.mono HB.out.size))
  have HOA := hide (own_below HOA.out hb)
  have HOX := hide hx
  clear hx hb
  obtain ⟨wY, ewY⟩ : ∃ wY, wY = wX := ⟨_, rfl⟩
  rw [← ewY] at HOA HOX HB ⊢
  clear ewY
  have hwzY : w2.heap.size ≤ wY.heap.size := HB.out.size
  go_wp2_with fail
  refine (HIx.out wY vX (RowAt.of_own HOX.out)).mono ?_
  rintro e wG ⟨vG, rfl, hx, hb⟩
  have hAG := own_apart HOA.out hx
  have hGX := own_apart_r HOX.out hx
  have HB := hide (HB.out.trans (hb.mono HB.out.size))
  have HOA := hide (own_below HOA.out hb)
  have HOX := hide (own_below HOX.out hb)
  have HOG := hide hx
  clear hx hb
  go_wp2_with fail
  refine (eqRoleS_calls wG vG vA A (RowAt.of_own HOG.out) (RowAt.of_own HOA.out) (by omega)).mono ?_
  rintro e wE ⟨rfl, hb⟩
  have HOA := hide (own_below HOA.out hb)
  have HOX := hide (own_below HOX.out hb)
  have HOG := hide (own_below HOG.out hb)
  have HB := hide (HB.out.trans (hb.mono HB.out.size))
  clear hb
  go_wp2_with fail
  refine (HT.out wE (HVx.out _ HB.out)).mono ?_
  rintro e wZ ⟨vZ, rfl, hx, hb⟩
  have HOA := hide (own_below HOA.out hb)
  have HOX := hide (own_below HOX.out hb)
  have HOG := hide (own_below HOG.out hb)
  have HB := hide (HB.out.trans (hb.mono HB.out.size))
  have HRZ := hide (RowAt.of_own hx)
  clear hx hb
  go_wp2_with fail
  refine (eqCredS_calls wZ vX vZ L (RowAt.of_own HOX.out) HRZ.out (by omega)).mono ?_
  rintro e wF ⟨rfl, hb⟩
  have HOA := hide (own_below HOA.out hb)
  have HOX := hide (own_below HOX.out hb)
  have HOG := hide (own_below HOG.out hb)
  have HB := hide (HB.out.trans (hb.mono HB.out.size))
  clear hb HRZ
  go_wp2_with fail
  refine (markCredS_calls wF _ vX L.length (flat crR L) 1 HFL.out HOX.out (by decide) (by omega)).mono ?_
  rintro e wM ⟨rfl, -, hgr⟩
  have HB := hide (HB.out.grown hgr HB.out.size (fun k hk => Nat.le_trans hwz (HOX.out.lt k hk).1))
  have HOA := hide (HOA.out.kept hgr hAX)
  have HOG := hide (HOG.out.kept hgr hGX)
  clear hgr HOX hAX hGX
  have hk1 : decide ((((1 + L.length * 10 : Nat) : Int)) < 0) = false := by simp; omega
  go_wp2_with fail
  refine (eqRoleS_calls wM vG vA A (RowAt.of_own HOG.out) (RowAt.of_own HOA.out) (by omega)).mono ?_
  rintro e wN ⟨rfl, hb⟩
  have HOA := hide (own_below HOA.out hb)
  have HOG := hide (own_below HOG.out hb)
  have HB := hide (HB.out.trans (hb.mono HB.out.size))
  clear hb hk1
  go_wp2_with fail
  refine (markRoleS_calls wN _ vG A.length (flat roR A) 1 HFA.out HOG.out (by decide) (by omega)).mono ?_
  rintro e wP ⟨rfl, hmk, hgr⟩
  have HB := hide (HB.out.grown hgr HB.out.size (fun k hk => Nat.le_trans hwzY (HOG.out.lt k hk).1))
  have HOA := hide (HOA.out.kept hgr hAG)
  have HMK := hide hmk
  clear hgr hmk HOG hAG
  have HHD := hide (fun wx (h : wx.ownsRow wY.heap.size 27 2 vG A.length (cellsI (marks (1 : Nat) (A.length * 2)))) => heldRoleS_calls wx _ vG A.length 1 h (by decide) (by omega))
  generalize hq3 : ((1 + A.length * 2 : Nat) : Int) = q3 at *
  have hq4 : decide (q3 < 0) = false := by simp; omega
  have hq5 : (q3 != q3) = false := by simp
  clear hq3
  go_wp2_with fail
  refine (HHD.out wP HMK.out).mono ?_
  rintro e wQ ⟨rfl, rfl⟩
  go_wp2_with fail
  refine (HT.out _ (HVx.out _ HB.out)).mono ?_
  rintro e wtH ⟨vt, rfl, hot, hb⟩
  have HRt := hide (RowAt.of_own hot)
  obtain ⟨at_, ct, hst⟩ := own_shape hot
  have HOA := hide (own_below HOA.out hb)
  have HMK := hide (own_below HMK.out hb)
  have HB := hide (HB.out.trans (hb.mono HB.out.size))
  clear hot hb
  subst hst
  go_wp2_with fail
  refine (HIx.out _ _ HRt.out).mono ?_
  rintro e wH ⟨vH, rfl, ho, hb⟩
  have HOA := hide (own_below HOA.out hb)
  have HMK := hide (own_below HMK.out hb)
  have HB := hide (HB.out.trans (hb.mono HB.out.size))
  have HOH := hide ho
  clear ho hb HRt
  go_wp2_with fail
  refine (eqRoleS_calls wH vH vA A (RowAt.of_own HOH.out) (RowAt.of_own HOA.out) (by omega)).mono ?_
  rintro e wR ⟨rfl, hb⟩
  have HMK := hide (own_below HMK.out hb)
  have HB := hide (HB.out.trans (hb.mono HB.out.size))
  clear hb
  go_wp2_with fail
  refine (HHD.out wR HMK.out).mono ?_
  rintro e wS ⟨rfl, rfl⟩
  go_wp2_with fail
  go_ret
  exact ⟨rfl, HBA.out.trans (HB.out.mono HBA.out.size)⟩
end Go.Proofs.Ytgnldmheiknbkaa.P6
