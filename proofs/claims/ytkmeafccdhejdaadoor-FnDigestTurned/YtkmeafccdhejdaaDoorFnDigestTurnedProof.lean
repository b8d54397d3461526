/- For every code: what is told of a drawn text and of the same with one byte turned is as the law says (FnDigestTurned returns true); condition: the listed tables hold what their text lays, tied by the given tie. -/
import Derived.Test.YtkmeafccdhejdaaDoorRows
import Derived.Test.YtkmeafccdhejdaaDoorFrame
import Derived.Test.YtkmeafccdhejdaaDoorFrame2
import Derived.Test.YtkmeafccdhejdaaDoorShaH
import Derived.Test.YtkmeafccdhejdaaDoorShaHI
import Derived.Test.YtkmeafccdhejdaaDoorShaPadI
import Derived.Test.YtkmeafccdhejdaaDoorShaL
import Derived.Test.YtkmeafccdhejdaaDoorTextOf
import Derived.Test.YtkmeafccdhejdaaDoorTie
import Derived.Test.YtkmeafccdhejdaaDoorCards
import Derived.WalkKit
import Derived.ProofKit
import Derived.OpenShut
import Derived.ShutString
import Derived.ChangeVars
import Derived.SevenTiedAt
import Derived.LaidMore
import Derived.Stop.Joined
namespace Go.Proofs.YtkmeafccdhejdaaDoor.fnDigestTurned
open Go.ChangeShapes Go.WideShapes Go.ChangeAt Go.RowKit
open Go.ChangeMaps (open_string shut_string)
set_option linter.unusedVariables false

theorem own : ownKnob Tryd.prog.godebug = none := by kernel_rfl
theorem laidOut : laidOutB Tryd.prog = true := by kernel_rfl

theorem hexB_len (l : List UInt8) : (P1.hexB l).length = 2 * l.length := by
  induction l with
  | nil => rfl
  | cons b l ih => simp [P1.hexB, ih]; omega

theorem pad_ne (t u : List UInt8) (hl : t.length = u.length) (h : t ≠ u) : P3.pad t ≠ P3.pad u := by
  intro e
  apply h
  have := congrArg (List.take t.length) e
  simpa [P3.pad, hl] using this

open P1 in
set_option maxRecDepth 8000 in
set_option maxHeartbeats 2000000 in
theorem walk (w : World) (a : Option Addr) (len cap : Nat) (z : List Int) (hr : Frame.IsRow .u8 w a len cap z) (hG : P3.Glo w) :
    Calls Tryd.prog 5 #[.slice a len cap] w fun e w' => e = .returned (.bool true) ∧ Below w.heap.size w w' := by
  have Hr := hide hr
  have HG := hide hG
  clear hr hG
  by_cases hbig : 1048576 < len
  · have hd : decide (1048576 < (len : Int)) = true := by simp; omega
    go_enter Tryd.func5, Tryd.ntmps5
    go_wp2_with fail
    refine (Cu.big_calls _ a len cap).mono ?_
    rintro e w1 ⟨rfl, rfl⟩
    rw [hd]
    go_wp2
    go_ret
    exact ⟨rfl, Below.refl _ _⟩
  · have hd : decide (1048576 < (len : Int)) = false := by simp; omega
    have HC := hide (Cu.code_of_row Hr.out (by omega))
    clear Hr hbig
    go_enter Tryd.func5, Tryd.ntmps5
    go_wp2_with fail
    refine (Cu.big_calls _ a len cap).mono ?_
    rintro e w1 ⟨rfl, rfl⟩
    rw [hd]
    clear hd
    go_wp2_with fail
    refine (Cu.textOf_calls _ a len cap HC.out).mono ?_
    rintro e w2 ⟨t0, ht0, rfl, hb⟩
    have HB2 := hide hb
    have HC2 := hide (HC.out.below (fun k hk => hb.block k hk))
    clear hb HC
    have hcat : (⟨t0.toArray⟩ : ByteArray) ++ ⟨#[120]⟩ = ⟨(t0 ++ [120]).toArray⟩ := ByteArray.mk_append_mk t0 [120]
    go_wp2_with fail
    obtain ⟨t, Et⟩ : ∃ t, t = t0 ++ [120] := ⟨_, rfl⟩
    have htl : t.length = t0.length + 1 := by rw [Et]; simp
    rw [← Et]
    have ht200 : t.length ≤ 201 := by omega
    have htpos : 0 < t.length := by omega
    clear hcat Et htl ht0
    refine (Cu.places_calls _ a len cap (HC2.out.more HB2.out.size)).mono ?_
    rintro e w3 ⟨v, l, hl, hall, rfl, hown, hb⟩
    have HB3 := hide (HB2.out.trans (hb.mono HB2.out.size))
    obtain ⟨g, cp, hv, hg1, hg2, hcp, hcells, -⟩ := own_at hown (by omega)
    subst hv
    rw [hl] at *
    obtain ⟨l0, l1, l2, lr, rfl⟩ : ∃ l0 l1 l2 lr, l = l0 :: l1 :: l2 :: lr := by
      match l, hl with
      | l0 :: l1 :: l2 :: lr, _ => exact ⟨l0, l1, l2, lr, rfl⟩
    have hb0 := hall l0 (by simp)
    have hb1 := hall l1 (by simp)
    have hb2 := hall l2 (by simp)
    obtain ⟨n0, rfl⟩ := Int.eq_ofNat_of_zero_le hb0.1
    obtain ⟨n1, rfl⟩ := Int.eq_ofNat_of_zero_le hb1.1
    obtain ⟨n2, rfl⟩ := Int.eq_ofNat_of_zero_le hb2.1
    have q0 : w3.cell? ⟨g, 0, none⟩ = some (.int .i64 (n0 : Int)) := by rw [hcells 0 (by omega)]; rfl
    have q1 : w3.cell? ⟨g, 1, none⟩ = some (.int .i64 (n1 : Int)) := by rw [hcells 1 (by omega)]; rfl
    have q2 : w3.cell? ⟨g, 2, none⟩ = some (.int .i64 (n2 : Int)) := by rw [hcells 2 (by omega)]; rfl
    clear hcells hall hb0 hb1 hb2 hown hb HC2 HB2 hl
    have HT := hide (Cu.turned_calls w3 t htpos (by omega) g cp 12 n0 n1 hg2 (by omega) q0 q1)
    clear q0 q1
    go_wp2_with fail
    refine HT.out.mono ?_
    rintro e w4 ⟨c, k, hk, hne, rfl, hb4⟩
    have q3 : w4.cell? ⟨g, 2, none⟩ = some (.int .i64 (n2 : Int)) := by rw [hb4.cell (p := ⟨g, 2, none⟩) hg2]; exact q2
    have HB4 := hide (HB3.out.trans (hb4.mono HB3.out.size))
    obtain ⟨u, Eu⟩ : ∃ u, u = t.set k c := ⟨_, rfl⟩
    have hul : u.length = t.length := by rw [Eu]; simp
    have hun : t ≠ u := by
      rw [Eu]
      intro h
      apply hne
      have := congrArg (fun z => z[k]?) h
      simp [hk] at this
      exact this.symm
    rw [← Eu]
    clear Eu hne hb4 HT q2 HB3
    have HD := hide (fun wx (hg : P3.Glo wx) => P3.implDigest_calls t (by omega) wx hg.s hg.k)
    have HS := hide (fun wx => P3.specDigest_calls t (by omega) wx)
    have HDu := hide (fun wx (hg : P3.Glo wx) => P3.implDigest_calls u (by omega) wx hg.s hg.k)
    have HSu := hide (fun wx => P3.specDigest_calls u (by omega) wx)
    have HCt := hide (fun n wx (hg : P3.Glo wx) => P3.implCut_calls t (by omega) n wx hg)
    have HXu := hide (fun wx (hg : P3.Glo wx) => P3.implDigestHex_calls u (by omega) wx hg)
    have HPt := hide (fun wx => P3.implPad_calls t (by omega) wx)
    have HPu := hide (fun wx => P3.implPad_calls u (by omega) wx)
    have hpn := pad_ne t u hul.symm hun
    have hx64 : (hex ⟨(P3.digest u).toArray⟩).1.length = 64 := by
      rw [show hex ⟨(P3.digest u).toArray⟩ = (hexB (P3.digest u), true) from rfl]
      rw [hexB_len]
      rfl
    have hdl := P3.digest_length t
    have hm0 : P3.cutV t 0 = [] := rfl
    have hm33 : P3.cutV t 33 = [] := rfl
    have hmw : P3.cutV t (1 + (n2 : Int) % 32) = (P3.digest t).take (1 + n2 % 32) := by
      unfold P3.cutV
      rw [if_pos (by omega), show (1 + (n2 : Int) % 32).toNat = 1 + n2 % 32 by omega]
    have HC0 := hide (fun wx hg => HCt.out 0 wx hg)
    have HC33 := hide (fun wx hg => HCt.out 33 wx hg)
    have HCw := hide (fun wx hg => HCt.out (1 + (n2 : Int) % 32) wx hg)
    simp only [hm0] at HC0
    simp only [hm33] at HC33
    simp only [hmw] at HCw
    clear hm0 hm33 hmw HCt
    generalize P3.digest t = dt at *
    generalize (hex ⟨(P3.digest u).toArray⟩).1 = xu at *
    generalize P3.digest u = du at *
    generalize P3.pad t = pt at *
    generalize P3.pad u = pu at *
    have hsl := fun wx => P3.slice_to dt (1 + (n2 : Int) % 32) (by omega) (by rw [hdl]; omega) wx
    have e1 : (1 + (n2 : Int) % 32).toNat = 1 + n2 % 32 := by omega
    simp only [e1] at hsl
    have hpb : (!pt == pu) = true := by simpa using hpn
    have hxs : ((xu.length : Int) == 64) = true := by rw [hx64]; rfl
    obtain ⟨ct, Ect⟩ : ∃ ct, Hid (ct = dt.take (1 + n2 % 32)) := ⟨_, hide rfl⟩
    simp only [← Ect.out] at HCw hsl
    clear e1 hpn hx64 hun Ect hdl
    go_wp2_with fail
    refine (HD.out _ (HG.out.below HB4.out)).mono ?_
    rintro e w5 ⟨rfl, hb5⟩
    have HB5 := hide (HB4.out.trans (hb5.mono HB4.out.size))
    clear hb5 HB4 q3
    go_wp2_with fail
    refine (HS.out _).mono ?_
    rintro e w6 ⟨rfl, hb6⟩
    have HB6 := hide (HB5.out.trans (hb6.mono HB5.out.size))
    clear hb6 HB5
    go_wp2_with fail
    refine (HDu.out _ (HG.out.below HB6.out)).mono ?_
    rintro e w7 ⟨rfl, hb7⟩
    have HB7 := hide (HB6.out.trans (hb7.mono HB6.out.size))
    clear hb7 HB6
    go_wp2_with fail
    refine (HSu.out _).mono ?_
    rintro e w8 ⟨rfl, hb8⟩
    have HB8 := hide (HB7.out.trans (hb8.mono HB7.out.size))
    clear hb8 HB7
    go_wp2_with fail
    refine (HCw.out _ (HG.out.below HB8.out)).mono ?_
    rintro e w9 ⟨rfl, hb9⟩
    have HB9 := hide (HB8.out.trans (hb9.mono HB8.out.size))
    clear hb9 HB8
    go_wp2_with fail
    refine (HD.out _ (HG.out.below HB9.out)).mono ?_
    rintro e w10 ⟨rfl, hb10⟩
    have HB10 := hide (HB9.out.trans (hb10.mono HB9.out.size))
    clear hb10 HB9
    go_wp2_with fail
    refine (HC0.out _ (HG.out.below HB10.out)).mono ?_
    rintro e w11 ⟨rfl, hb11⟩
    have HB11 := hide (HB10.out.trans (hb11.mono HB10.out.size))
    clear hb11 HB10
    go_wp2_with fail
    refine (HC33.out _ (HG.out.below HB11.out)).mono ?_
    rintro e w12 ⟨rfl, hb12⟩
    have HB12 := hide (HB11.out.trans (hb12.mono HB11.out.size))
    clear hb12 HB11
    go_wp2_with fail
    refine (HXu.out _ (HG.out.below HB12.out)).mono ?_
    rintro e w13 ⟨rfl, hb13⟩
    have HB13 := hide (HB12.out.trans (hb13.mono HB12.out.size))
    clear hb13 HB12
    go_wp2_with fail
    refine (HPt.out _).mono ?_
    rintro e w14 ⟨rfl, hb14⟩
    have HB14 := hide (HB13.out.trans (hb14.mono HB13.out.size))
    clear hb14 HB13
    go_wp2_with fail
    refine (HPu.out _).mono ?_
    rintro e w15 ⟨rfl, hb15⟩
    have HB15 := hide (HB14.out.trans (hb15.mono HB14.out.size))
    clear hb15 HB14
    go_wp2
    go_ret
    exact ⟨rfl, HB15.out⟩

def laidL : List (String × DataW Unit) := [("loop.example/g00474/impl.startNumbers", Rows.laid_loop_example_g00474_impl_startNumbers), ("loop.example/g00474/impl.turnNumbers", Rows.laid_loop_example_g00474_impl_turnNumbers)]

theorem door_met (os : Os) (args : Array Value) : laidMetH Tryd.prog laidL ((World.doorLaid Tryd.prog 400 os).forCall (fun _ _ => 0) ⟨#[], args, []⟩).memory :=
  laidMetH_of_parts3 (fuel := 8) (laidMet_of_run' 8 (by kernel_rfl) (by kernel_rfl)) (by kernel_rfl) (by kernel_rfl)

set_option maxRecDepth 100000 in
theorem lifted (os : Os) (started : os.Started) (H : Type) (enc : TypeId × Value → H) :
    ReturnsInHanded {} Tryd.checked os 5 .any (fun w args => (Rows.fnDigestTurnedSpec.pre enc Tryd.prog Tryd.f5 [] false w args ∧ laidMetH Tryd.prog laidL w) ∧ sizedMet enc Tryd.prog Tryd.f5 (OpenSpec.ofChange Rows.fnDigestTurnedSpec) false w args)
      (Rows.fnDigestTurnedSpec.post enc Tryd.prog Tryd.f5 false true false false) := by
  refine returnsInHanded_of_change_and (C := Tryd.checked) (X := fun w _ => laidMetH Tryd.prog laidL w) (fun _ _ _ hh h => h.of_heap hh) own started (by kernel_rfl) Tryd.func5
    (ChangeSpec.witness_shaped (enc := enc) (C := Tryd.checked) (os := os) (X := fun w _ => laidMetH Tryd.prog laidL w) false (World.doorLaid Tryd.prog 400 os) #[.slice none 0 0] 8 rfl (World.shaped_of_RefB (by kernel_rfl) (by kernel_rfl)) (by kernel_rfl) (by kernel_rfl) (by kernel_rfl) (door_met os _)) ?_
  intro W base args ds gs before hval0 hW _ _ hL _
  have hval : ∀ (j : Nat) t v, Tryd.f5.params[j]? = some t → args[j]? = some v → Value.okWide Tryd.prog W .any base t v := hval0
  have hW' := hW
  obtain ⟨p, q, hA0, hV0, rfl, hfz, hnd⟩ := hW
  have hA : DataW.TrodAll enc Tryd.prog W 0 (fun _ => true) true Tryd.f5.params.toList args.toList ds p := hA0
  rw [Tryd.params5] at hA hval
  obtain ⟨v0, vs0, d0, ds0, p0, q0, hargs, rfl, rfl, h0, r0⟩ := trodAll_cons hA
  obtain ⟨rfl, rfl, rfl⟩ := trodAll_nil r0
  obtain rfl : args = #[v0] := by cases args; simp_all
  obtain ⟨g0, g1, rfl⟩ : ∃ g0 g1, gs = [g0, g1] := Frame.vars_2 rfl hV0
  obtain ⟨a0, len0, cap0, rfl⟩ := okWide_slice Tryd.underlying22 (hval 0 22 v0 rfl rfl)
  obtain ⟨z0, w0⟩ := Frame.open_row (k := .u8) Tryd.underlying22 Tryd.underlying5 (by kernel_rfl) h0
  clear hA0 hval0
  refine (walk (w := W) a0 len0 cap0 z0 w0 (P3.glo_of_laid (l := laidL) (by kernel_rfl) (List.Mem.head _) (List.Mem.tail _ (List.Mem.head _)) hL)).mono fun e W' ⟨he, bel⟩ => ?_
  subst he
  exact ⟨_, rfl, Frame.post_law laidOut (by kernel_rfl) (by kernel_rfl) (by kernel_rfl) Tryd.underlying4 hW' rfl bel⟩

theorem over : Rows.FnDigestTurnedSaid :=
  OpenClaim.holds_of_wide 5 Tryd.f5 rfl rfl rfl rfl rfl rfl rfl ⟨rfl, rfl, rfl, rfl, rfl⟩ rfl rfl rfl rfl rfl (by kernel_rfl) Tryd.func5 (by kernel_rfl)
    (of_decide_eq_true (by kernel_rfl)) (by unfold Func.isWrapper; first | (rw [if_pos (by decide +kernel)]; kernel_rfl) | (rw [if_neg (by decide +kernel)]; exact ⟨rfl, rfl⟩))
    (fun os started H enc _ => lifted os started H enc)

theorem proved : Rows.FnDigestTurnedCardSaid :=
  Claim7.holds_tied_plain_at .later [] [.data, .data] true (true, "f1292d61ad92dddede17e9ed7a1ab2e25f36a7adc5bee8d82c1fdb439a375a17") false
    over (fun _ h => by cases h) (by kernel_rfl) (fun _ h => by cases h) fnDigestTurned_row_tie rfl ⟨rfl, rfl⟩ (by kernel_rfl) rfl
    (fun f fn hf hfn => by
      obtain rfl : f = 5 := Option.some.inj ((show Tryd.prog.funcNamed "loop.example/g00474/laws.FnDigestTurned" = some 5 by kernel_rfl).symm.trans hf) |>.symm
      obtain rfl : fn = Tryd.f5 := (Option.some.inj (Tryd.func5.symm.trans hfn)).symm
      exact ⟨by kernel_rfl, fun j t ht => by
        rw [Tryd.params5] at ht
        have hm : t ∈ [22] := by simpa using Array.mem_of_getElem? ht
        have hall : ([22].all fun u => !Tryd.prog.wantsStandIn u) = true := by kernel_rfl
        exact (show Tryd.prog.wantsStandIn t = false by simpa using List.all_eq_true.1 hall t hm)⟩)
    (by kernel_rfl)
#print axioms proved
end Go.Proofs.YtkmeafccdhejdaaDoor.fnDigestTurned
