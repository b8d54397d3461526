/- For every list of numbers and text the program's ShaBlock answers as the specification's, in memory of its own, and writes into no argument (FnExactShaBlock returns true); condition: the listed table holds what its text lays, tied by the given tie. -/
import Derived.Test.YtkmeafccdhejdaaDoorRows
import Derived.Test.YtkmeafccdhejdaaDoorFrame
import Derived.Test.YtkmeafccdhejdaaDoorShaK
import Derived.Test.YtkmeafccdhejdaaDoorShaKI
import Derived.Test.YtkmeafccdhejdaaDoorShaL
import Derived.Test.YtkmeafccdhejdaaDoorIntS
import Derived.Test.YtkmeafccdhejdaaDoorTie
import Derived.Test.YtkmeafccdhejdaaDoorCards
import Derived.WalkKit
import Derived.ProofKit
import Derived.OpenShut
import Derived.ShutString
import Derived.ChangeVars
import Derived.SevenTiedAt
import Derived.LaidMore
import Derived.Stop.Joined
namespace Go.Proofs.YtkmeafccdhejdaaDoor.fnExactShaBlock
open Go.ChangeShapes Go.WideShapes Go.ChangeAt Go.RowKit
open Go.ChangeMaps (open_string shut_string)
set_option linter.unusedVariables false

theorem own : ownKnob Tryd.prog.godebug = none := by kernel_rfl
theorem laidOut : laidOutB Tryd.prog = true := by kernel_rfl

open P1 in
set_option maxHeartbeats 2000000 in
theorem walk (w : World) (a : Option Addr) (len cap : Nat) (z : List Int) (hr : Frame.IsRow .i64 w a len cap z) (s : ByteArray) (hs : s.size ≤ maxLen) (hK : P3.KeyT w) :
    Calls Tryd.prog 6 #[.slice a len cap, .string s] w fun e w' => e = .returned (.bool true) ∧ Below w.heap.size w w' := by
  have HK := hide hK
  clear hK
  obtain ⟨b, hb⟩ : ∃ b : List UInt8, s = ⟨b.toArray⟩ := ⟨s.data.toList, by simp⟩
  subst hb
  have hsz : (⟨b.toArray⟩ : ByteArray).size = b.length := rfl
  rw [hsz] at hs
  unfold maxLen at hs
  have hia := IntsAt.of_row hr
  have hlen : (z.take len).length = len := by
    rcases hr with ⟨_, rfl, _, rfl⟩ | ⟨_, _, h1, _, h3, _⟩
    · rfl
    · rw [List.length_take]; omega
  obtain ⟨l, El⟩ : ∃ l, l = z.take len := ⟨_, rfl⟩
  rw [← El] at hia hlen
  clear El hr
  have hcm : cap ≤ 9223372036854775807 ∨ True := .inr trivial
  clear hcm
  obtain ⟨u, hu⟩ : ∃ u : Value, u = .slice a len cap := ⟨_, rfl⟩
  have HIA := hide hia
  clear hia
  by_cases h1 : 1048576 < len
  · go_enter Tryd.func6, Tryd.ntmps6
    go_wp2
    go_ret
    exact ⟨rfl, Below.refl _ _⟩
  · by_cases h2 : 1048576 < b.length
    · go_enter Tryd.func6, Tryd.ntmps6
      go_wp2
      go_ret
      exact ⟨rfl, Below.refl _ _⟩
    · have hl : l.length ≤ 1048576 := by omega
      obtain ⟨V, EV⟩ : ∃ V, Hid (V = P3.shaV l b) := ⟨_, hide rfl⟩
      have hV : V.length ≤ 1048576 := by
        rw [EV.out]
        unfold P3.shaV
        split
        · show 8 ≤ 1048576
          omega
        · exact hl
      have HSP := hide (fun wx v hv => P3.specBlock_calls wx v l b hv hl)
      have HIP := hide (fun wx v hv (hk : P3.KeyT wx) => P3.implBlock_calls wx v l b hv hl hk)
      simp only [← EV.out] at HSP HIP
      have HTO := hide (fun wx hb => toInts_calls wx (.slice a len cap) l (HIA.out.below (B := w.heap.size) (w' := wx) hb (Nat.le_refl _)) (by omega))
      have HEQ := hide (fun (wx : World) v v' (m : List Int) (hm : m.length ≤ 1048576) (h : IntsAt wx v m) (h' : IntsAt wx v' m) => eqInts_calls wx v v' m m h h' (by omega) (by omega))
      clear EV HIA hu u
      go_enter Tryd.func6, Tryd.ntmps6
      go_wp2_with fail
      refine (HTO.out w (Below.refl _ _)).mono ?_
      rintro e w1 ⟨va, rfl, hoa, hb1⟩
      have hia1 := IntsAt.of_own hoa
      have HB1 := hide hb1
      clear hoa hb1
      go_wp2_with fail
      refine (HSP.out w1 va hia1).mono ?_
      rintro e w2 ⟨vw, rfl, how, hb2⟩
      have HOW := hide how
      have HB2 := hide (HB1.out.trans (hb2.mono HB1.out.size))
      clear how hb2 hia1
      go_wp2_with fail
      refine (HTO.out w2 HB2.out).mono ?_
      rintro e w3 ⟨vx, rfl, hox, hb3⟩
      have HOX := hide hox
      have HOW3 := hide (own_below HOW.out hb3)
      have HB3 := hide (HB2.out.trans (hb3.mono HB2.out.size))
      have HWX := hide (own_apart HOW.out hox)
      have hz2 : w.heap.size ≤ w2.heap.size := HB2.out.size
      clear hox hb3 HOW
      go_wp2_with fail
      refine (HIP.out w3 vx (IntsAt.of_own HOX.out) (HK.out.below HB3.out HK.out.lt)).mono ?_
      rintro e w4 ⟨vg, rfl, hog, hb4⟩
      have HOG := hide hog
      have HOX4 := hide (own_below HOX.out hb4)
      have HOW4 := hide (own_below HOW3.out hb4)
      have HB4 := hide (HB3.out.trans (hb4.mono HB3.out.size))
      have HGX := hide (own_apart_r HOX.out hog)
      have HWG := hide (own_apart HOW3.out hog)
      have hz3 : w.heap.size ≤ w3.heap.size := HB3.out.size
      clear hog hb4 HOX HOW3
      go_wp2_with fail
      refine (HEQ.out w4 vg vw V hV (IntsAt.of_own HOG.out) (IntsAt.of_own HOW4.out)).mono ?_
      rintro e w5 ⟨rfl, n5, rfl⟩
      have HB5 : Hid (Below w.heap.size w (w4.drewN n5)) := below_drewN HB4.out n5
      have HOG5 : Hid ((w4.drewN n5).ownsRow w3.heap.size 3 1 vg V.length (cellsI V)) := HOG.out
      have HOX5 : Hid ((w4.drewN n5).ownsRow w2.heap.size 3 1 vx l.length (cellsI l)) := HOX4.out
      have HOW5 : Hid ((w4.drewN n5).ownsRow w1.heap.size 3 1 vw V.length (cellsI V)) := HOW4.out
      clear HOG HOX4 HOW4 HB4
      generalize w4.drewN n5 = w5 at *
      go_wp2_with fail
      refine (HTO.out w5 HB5.out).mono ?_
      rintro e w6 ⟨vy, rfl, hoy, hb6⟩
      have HOG6 := hide (own_below HOG5.out hb6)
      have HOX6 := hide (own_below HOX5.out hb6)
      have HOW6 := hide (own_below HOW5.out hb6)
      have HB6 := hide (HB5.out.trans (hb6.mono HB5.out.size))
      have hiy := IntsAt.of_own hoy
      clear hoy hb6 HOG5 HOX5 HOW5 HB5
      go_wp2_with fail
      refine (HEQ.out w6 vx vy l hl (IntsAt.of_own HOX6.out) hiy).mono ?_
      rintro e w7 ⟨rfl, n7, rfl⟩
      have HB7 : Hid (Below w.heap.size w (w6.drewN n7)) := below_drewN HB6.out n7
      have HOG7 : Hid ((w6.drewN n7).ownsRow w3.heap.size 3 1 vg V.length (cellsI V)) := HOG6.out
      have HOX7 : Hid ((w6.drewN n7).ownsRow w2.heap.size 3 1 vx l.length (cellsI l)) := HOX6.out
      have HOW7 : Hid ((w6.drewN n7).ownsRow w1.heap.size 3 1 vw V.length (cellsI V)) := HOW6.out
      clear HOG6 HOX6 HOW6 HB6 hiy
      generalize w6.drewN n7 = w7 at *
      go_wp2_with fail
      refine (markInts_calls w7 w2.heap.size vx l 1 HOX7.out (by omega) (by omega)).mono ?_
      rintro e w8 ⟨rfl, hom, hgm⟩
      have HOG8 := hide (HOG7.out.kept hgm HGX.out)
      have HOW8 := hide (HOW7.out.kept hgm HWX.out)
      have HB8 : Hid (Below w.heap.size w w8) := HB7.out.grown hgm HB7.out.size (fun k hk => Nat.le_trans hz2 (hom.lt k hk).1)
      have hk0 : decide ((((1 + l.length : Nat) : Int)) < 0) = false := by simp; omega
      clear hom hgm HOX7 HOG7 HOW7 HB7
      go_wp2_with fail
      refine (HEQ.out w8 vg vw V hV (IntsAt.of_own HOG8.out) (IntsAt.of_own HOW8.out)).mono ?_
      rintro e w9 ⟨rfl, n9, rfl⟩
      have HB9 : Hid (Below w.heap.size w (w8.drewN n9)) := below_drewN HB8.out n9
      have HOG9 : Hid ((w8.drewN n9).ownsRow w3.heap.size 3 1 vg V.length (cellsI V)) := HOG8.out
      have HOW9 : Hid ((w8.drewN n9).ownsRow w1.heap.size 3 1 vw V.length (cellsI V)) := HOW8.out
      clear HOG8 HOW8 HB8 hk0
      generalize w8.drewN n9 = w9 at *
      go_wp2_with fail
      refine (markInts_calls w9 w3.heap.size vg V 1 HOG9.out (by omega) (by omega)).mono ?_
      rintro e w10 ⟨rfl, hom, hgm⟩
      have HOM := hide hom
      have HOW10 := hide (HOW9.out.kept hgm HWG.out)
      have HB10 : Hid (Below w.heap.size w w10) := HB9.out.grown hgm HB9.out.size (fun k hk => Nat.le_trans hz3 (hom.lt k hk).1)
      clear hgm HOG9 HOW9 HB9 hom
      go_wp2_with fail
      refine (heldInts_calls w10 vg 1 V.length (IntsAt.of_own (B := w3.heap.size) (e := 3) (by rw [marks_length]; exact HOM.out)) (by omega) (by omega)).mono ?_
      rintro e w11 ⟨rfl, rfl⟩
      go_wp2_with fail
      refine (HTO.out _ HB10.out).mono ?_
      rintro e w12 ⟨vz, rfl, hoz, hb12⟩
      have HOM12 := hide (own_below HOM.out hb12)
      have HOW12 := hide (own_below HOW10.out hb12)
      have HB12 := hide (HB10.out.trans (hb12.mono HB10.out.size))
      have hiz := IntsAt.of_own hoz
      clear hoz hb12 HOM HOW10 HB10
      go_wp2_with fail
      refine (HIP.out w12 vz hiz (HK.out.below HB12.out HK.out.lt)).mono ?_
      rintro e w13 ⟨vh, rfl, hoh, hb13⟩
      have HOM13 := hide (own_below HOM12.out hb13)
      have HOW13 := hide (own_below HOW12.out hb13)
      have HB13 := hide (HB12.out.trans (hb13.mono HB12.out.size))
      have hih := IntsAt.of_own hoh
      clear hoh hb13 HOM12 HOW12 HB12 hiz
      go_wp2_with fail
      refine (HEQ.out w13 vh vw V hV hih (IntsAt.of_own HOW13.out)).mono ?_
      rintro e w14 ⟨rfl, n14, rfl⟩
      have HB14 : Hid (Below w.heap.size w (w13.drewN n14)) := below_drewN HB13.out n14
      have HOM14 : Hid ((w13.drewN n14).ownsRow w3.heap.size 3 1 vg V.length (cellsI (marks ((1 : Nat) : Int) V.length))) := HOM13.out
      clear hih HOM13 HOW13 HB13
      generalize w13.drewN n14 = w14 at *
      go_wp2_with fail
      refine (heldInts_calls w14 vg 1 V.length (IntsAt.of_own (B := w3.heap.size) (e := 3) (by rw [marks_length]; exact HOM14.out)) (by omega) (by omega)).mono ?_
      rintro e w15 ⟨rfl, rfl⟩
      go_wp2
      go_ret
      exact ⟨rfl, HB14.out⟩

def laidL : List (String × DataW Unit) := [("loop.example/g00474/impl.turnNumbers", Rows.laid_loop_example_g00474_impl_turnNumbers)]

theorem door_met (os : Os) (args : Array Value) : laidMetH Tryd.prog laidL ((World.doorLaid Tryd.prog 400 os).forCall (fun _ _ => 0) ⟨#[], args, []⟩).memory :=
  laidMetH_of_parts3 (fuel := 8) (laidMet_of_run' 8 (by kernel_rfl) (by kernel_rfl)) (by kernel_rfl) (by kernel_rfl)

set_option maxRecDepth 100000 in
theorem lifted (os : Os) (started : os.Started) (H : Type) (enc : TypeId × Value → H) :
    ReturnsInHanded {} Tryd.checked os 6 .any (fun w args => (Rows.fnExactShaBlockSpec.pre enc Tryd.prog Tryd.f6 [] false w args ∧ laidMetH Tryd.prog laidL w) ∧ sizedMet enc Tryd.prog Tryd.f6 (OpenSpec.ofChange Rows.fnExactShaBlockSpec) false w args)
      (Rows.fnExactShaBlockSpec.post enc Tryd.prog Tryd.f6 false true false false) := by
  refine returnsInHanded_of_change_and (C := Tryd.checked) (X := fun w _ => laidMetH Tryd.prog laidL w) (fun _ _ _ hh h => h.of_heap hh) own started (by kernel_rfl) Tryd.func6
    (ChangeSpec.witness_shaped (enc := enc) (C := Tryd.checked) (os := os) (X := fun w _ => laidMetH Tryd.prog laidL w) false (World.doorLaid Tryd.prog 400 os) #[.slice none 0 0, .string ByteArray.empty] 8 rfl (World.shaped_of_RefB (by kernel_rfl) (by kernel_rfl)) (by kernel_rfl) (by kernel_rfl) (by kernel_rfl) (door_met os _)) ?_
  intro W base args ds gs before hval0 hW _ _ hL _
  have hval : ∀ (j : Nat) t v, Tryd.f6.params[j]? = some t → args[j]? = some v → Value.okWide Tryd.prog W .any base t v := hval0
  have hW' := hW
  obtain ⟨p, q, hA0, hV0, rfl, hfz, hnd⟩ := hW
  have hA : DataW.TrodAll enc Tryd.prog W 0 (fun _ => true) true Tryd.f6.params.toList args.toList ds p := hA0
  rw [Tryd.params6] at hA hval
  obtain ⟨v0, vs0, d0, ds0, p0, q0, hargs, rfl, rfl, h0, r0⟩ := trodAll_cons hA
  obtain ⟨v1, vs1, d1, ds1, p1, q1, rfl, rfl, rfl, h1, r1⟩ := trodAll_cons r0
  obtain ⟨rfl, rfl, rfl⟩ := trodAll_nil r1
  obtain rfl : args = #[v0, v1] := by cases args; simp_all
  obtain ⟨g0, rfl⟩ : ∃ g0, gs = [g0] := Frame.vars_1 rfl hV0
  obtain ⟨a0, len0, cap0, rfl⟩ := okWide_slice Tryd.underlying24 (hval 0 24 v0 rfl rfl)
  obtain ⟨z0, w0⟩ := Frame.open_row (k := .i64) Tryd.underlying24 Tryd.underlying3 (by kernel_rfl) h0
  obtain ⟨a1, rfl, rfl, rfl, w1⟩ := open_string Tryd.underlying9 (hval 1 9 v1 rfl rfl) h1
  clear hA0 hval0
  refine (walk (w := W) a0 len0 cap0 z0 w0 a1 w1 (P3.key_of_laid (l := laidL) (by kernel_rfl) (List.Mem.head _) hL)).mono fun e W' ⟨he, bel⟩ => ?_
  subst he
  exact ⟨_, rfl, Frame.post_law laidOut (by kernel_rfl) (by kernel_rfl) (by kernel_rfl) Tryd.underlying4 hW' rfl bel⟩

theorem over : Rows.FnExactShaBlockSaid :=
  OpenClaim.holds_of_wide 6 Tryd.f6 rfl rfl rfl rfl rfl rfl rfl ⟨rfl, rfl, rfl, rfl, rfl⟩ rfl rfl rfl rfl rfl (by kernel_rfl) Tryd.func6 (by kernel_rfl)
    (of_decide_eq_true (by kernel_rfl)) (by unfold Func.isWrapper; first | (rw [if_pos (by decide +kernel)]; kernel_rfl) | (rw [if_neg (by decide +kernel)]; exact ⟨rfl, rfl⟩))
    (fun os started H enc _ => lifted os started H enc)

theorem proved : Rows.FnExactShaBlockCardSaid :=
  Claim7.holds_tied_plain_at .later [] [.data] true (true, "f1292d61ad92dddede17e9ed7a1ab2e25f36a7adc5bee8d82c1fdb439a375a17") false
    over (fun _ h => by cases h) (by kernel_rfl) (fun _ h => by cases h) fnExactShaBlock_row_tie rfl ⟨rfl, rfl⟩ (by kernel_rfl) rfl
    (fun f fn hf hfn => by
      obtain rfl : f = 6 := Option.some.inj ((show Tryd.prog.funcNamed "loop.example/g00474/laws.FnExactShaBlock" = some 6 by kernel_rfl).symm.trans hf) |>.symm
      obtain rfl : fn = Tryd.f6 := (Option.some.inj (Tryd.func6.symm.trans hfn)).symm
      exact ⟨by kernel_rfl, fun j t ht => by
        rw [Tryd.params6] at ht
        have hm : t ∈ [24, 9] := by simpa using Array.mem_of_getElem? ht
        have hall : ([24, 9].all fun u => !Tryd.prog.wantsStandIn u) = true := by kernel_rfl
        exact (show Tryd.prog.wantsStandIn t = false by simpa using List.all_eq_true.1 hall t hm)⟩)
    (by kernel_rfl)
#print axioms proved
end Go.Proofs.YtkmeafccdhejdaaDoor.fnExactShaBlock
