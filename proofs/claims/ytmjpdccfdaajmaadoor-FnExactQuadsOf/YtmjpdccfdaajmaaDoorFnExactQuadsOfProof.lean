/- For every text the program's QuadsOf answers as the specification's, in memory of its own (FnExactQuadsOf returns true); condition: the listed tables hold what their text lays, tied by the given tie. -/
import Derived.Test.YtmjpdccfdaajmaaDoorRows
import Derived.Test.YtmjpdccfdaajmaaDoorFrame
import Derived.Test.YtmjpdccfdaajmaaDoorFrame2
import Derived.Test.YtmjpdccfdaajmaaDoorSgn2
import Derived.Test.YtmjpdccfdaajmaaDoorSgnI2
import Derived.Test.YtmjpdccfdaajmaaDoorShaL
import Derived.Test.YtmjpdccfdaajmaaDoorIntS
import Derived.Test.YtmjpdccfdaajmaaDoorTie
import Derived.Test.YtmjpdccfdaajmaaDoorCards
import Derived.WalkKit
import Derived.ProofKit
import Derived.OpenShut
import Derived.ShutString
import Derived.ChangeVars
import Derived.SevenTiedAt
import Derived.LaidMore
import Derived.Stop.Joined
namespace Go.Proofs.YtmjpdccfdaajmaaDoor.fnExactQuadsOf
set_option maxRecDepth 8000
open Go.ChangeShapes Go.WideShapes Go.ChangeAt Go.RowKit
open Go.ChangeMaps (open_string shut_string)
set_option linter.unusedVariables false

theorem own : ownKnob Tryd.prog.godebug = none := by kernel_rfl
theorem laidOut : laidOutB Tryd.prog = true := by kernel_rfl

open P1 in
set_option maxHeartbeats 1000000 in
theorem walk (s : ByteArray) (hs : s.size ≤ maxLen) (w : World) (hG : P3.Glo w) :
    Calls Tryd.prog 6 #[.string s] w fun e w' => e = .returned (.bool true) ∧ Below w.heap.size w w' := by
  obtain ⟨t, ht⟩ : ∃ t : List UInt8, s = ⟨t.toArray⟩ := ⟨s.data.toList, by simp⟩
  subst ht
  have hsz : (⟨t.toArray⟩ : ByteArray).size = t.length := rfl
  rw [hsz] at hs
  unfold maxLen at hs
  by_cases h : 1048576 < t.length
  · go_enter Tryd.func6, Tryd.ntmps6
    go_wp2
    go_ret
    exact ⟨rfl, Below.refl _ _⟩
  have H1 := hide (fun wx => P4.specQuads_calls t (by omega) wx)
  have H2 := hide (fun wx (hg : P3.Glo wx) => P4.implQuads_calls t (by omega) wx hg)
  have HG := hide hG
  clear hG
  have hl8 := P4.quads_length t
  obtain ⟨L, EL⟩ : ∃ L, Hid (L = P4.quads t) := ⟨_, hide rfl⟩
  rw [← EL.out] at hl8
  simp only [← EL.out] at H1 H2
  clear EL
  go_enter Tryd.func6, Tryd.ntmps6
  go_wp2_with fail
  refine (H1.out _).mono ?_
  rintro e w1 ⟨vw, rfl, how, hb1⟩
  have HOW := hide how
  have HB1 := hide hb1
  clear how hb1
  go_wp2_with fail
  refine (H2.out _ (HG.out.below HB1.out)).mono ?_
  rintro e w2 ⟨vg, rfl, hog, hb2⟩
  have HOG := hide hog
  have HOW2 := hide (own_below HOW.out hb2)
  have HB2 := hide (HB1.out.trans (hb2.mono HB1.out.size))
  have hsz1 : w.heap.size ≤ w1.heap.size := HB1.out.size
  have HOW1 := HOW
  clear hog hb2 HB1
  have hiw : IntsAt w2 vw L := IntsAt.of_own (by rw [hl8]; exact HOW2.out)
  have hig : IntsAt w2 vg L := IntsAt.of_own (by rw [hl8]; exact HOG.out)
  have hE := hide (eqInts_calls w2 vg vw L L hig hiw (by omega) (by omega))
  have HIW := hide hiw
  clear hiw hig
  go_wp2_with fail
  refine hE.out.mono ?_
  rintro e w3 ⟨rfl, n3, rfl⟩
  have hog3 : (w2.drewN n3).ownsRow w1.heap.size 3 1 vg L.length (cellsI L) := by rw [hl8]; exact HOG.out
  have hM := hide (markInts_calls (w2.drewN n3) w1.heap.size vg L 1 hog3 (by omega) (by omega))
  have hblk : vw.ownBlock = none ∨ vw.ownBlock ≠ vg.ownBlock := own_apart HOW1.out HOG.out
  have HBK := hide hblk
  rw [hl8] at hM
  have HB3 : Hid (Below w.heap.size w (w2.drewN n3)) := below_drewN HB2.out n3
  have HOW3 : Hid ((w2.drewN n3).ownsRow w.heap.size 3 1 vw 11 (cellsI L)) := HOW2.out
  clear hog3 hblk HOG HOW2 HB2 hE HIW
  generalize w2.drewN n3 = w3 at *
  go_wp2_with fail
  refine hM.out.mono ?_
  rintro e w4 ⟨rfl, hom, hgm⟩
  have HOM := hide hom
  have HOW4 := hide (HOW3.out.kept hgm HBK.out)
  have HB4 : Hid (Below w.heap.size w w4) := HB3.out.grown hgm HB3.out.size (fun k hk => Nat.le_trans hsz1 (hom.lt k hk).1)
  clear hgm hM HOW3 HB3
  have him : IntsAt w4 vg (marks 1 11) := IntsAt.of_own (by rw [marks_length]; exact HOM.out)
  have hH := hide (heldInts_calls w4 vg 1 11 him (by omega) (by omega))
  clear him hom
  go_wp2_with fail
  refine hH.out.mono ?_
  rintro e w5 ⟨rfl, rfl⟩
  go_wp2_with fail
  refine (H2.out _ (HG.out.below HB4.out)).mono ?_
  rintro e w6 ⟨vh, rfl, hoh, hb6⟩
  have HOM6 := hide (own_below HOM.out hb6)
  have hiw6 : IntsAt w6 vw L := IntsAt.of_own (by rw [hl8]; exact own_below HOW4.out hb6)
  have hih6 : IntsAt w6 vh L := IntsAt.of_own (by rw [hl8]; exact hoh)
  have HE6 := hide (eqInts_calls w6 vh vw L L hih6 hiw6 (by omega) (by omega))
  have HB6 := hide (HB4.out.trans (hb6.mono HB4.out.size))
  clear hoh hb6 hiw6 hih6 HOM HOW4 HB4 hH
  go_wp2_with fail
  refine HE6.out.mono ?_
  rintro e w7 ⟨rfl, n7, rfl⟩
  have him7 : IntsAt (w6.drewN n7) vg (marks 1 11) := IntsAt.of_own (B := w1.heap.size) (e := 3) (by rw [marks_length]; exact HOM6.out)
  have hH7 := hide (heldInts_calls (w6.drewN n7) vg 1 11 him7 (by omega) (by omega))
  have HB7 : Hid (Below w.heap.size w (w6.drewN n7)) := below_drewN HB6.out n7
  clear him7 HE6 HB6 HOM6
  go_wp2_with fail
  refine hH7.out.mono ?_
  rintro e w8 ⟨rfl, rfl⟩
  go_wp2
  go_ret
  exact ⟨rfl, HB7.out⟩

def laidL : List (String × DataW Unit) := [("loop.example/g00474/impl.startNumbers", Rows.laid_loop_example_g00474_impl_startNumbers), ("loop.example/g00474/impl.turnNumbers", Rows.laid_loop_example_g00474_impl_turnNumbers)]

theorem door_met (os : Os) (args : Array Value) : laidMetH Tryd.prog laidL ((World.doorLaid Tryd.prog 400 os).forCall (fun _ _ => 0) ⟨#[], args, []⟩).memory :=
  laidMetH_of_parts3 (fuel := 8) (laidMet_of_run' 8 (by kernel_rfl) (by kernel_rfl)) (by kernel_rfl) (by kernel_rfl)

set_option maxRecDepth 100000 in
theorem lifted (os : Os) (started : os.Started) (H : Type) (enc : TypeId × Value → H) :
    ReturnsInHanded {} Tryd.checked os 6 .any (fun w args => (Rows.fnExactQuadsOfSpec.pre enc Tryd.prog Tryd.f6 [] false w args ∧ laidMetH Tryd.prog laidL w) ∧ sizedMet enc Tryd.prog Tryd.f6 (OpenSpec.ofChange Rows.fnExactQuadsOfSpec) false w args)
      (Rows.fnExactQuadsOfSpec.post enc Tryd.prog Tryd.f6 false true false false) := by
  refine returnsInHanded_of_change_and (C := Tryd.checked) (X := fun w _ => laidMetH Tryd.prog laidL w) (fun _ _ _ hh h => h.of_heap hh) own started (by kernel_rfl) Tryd.func6
    (ChangeSpec.witness_shaped (enc := enc) (C := Tryd.checked) (os := os) (X := fun w _ => laidMetH Tryd.prog laidL w) false (World.doorLaid Tryd.prog 400 os) #[.string ByteArray.empty] 8 rfl (World.shaped_of_RefB (by kernel_rfl) (by kernel_rfl)) (by kernel_rfl) (by kernel_rfl) (by kernel_rfl) (door_met os _)) ?_
  intro W base args ds gs before hval0 hW _ _ hL _
  have hval : ∀ (j : Nat) t v, Tryd.f6.params[j]? = some t → args[j]? = some v → Value.okWide Tryd.prog W .any base t v := hval0
  have hW' := hW
  obtain ⟨p, q, hA0, hV0, rfl, hfz, hnd⟩ := hW
  have hA : DataW.TrodAll enc Tryd.prog W 0 (fun _ => true) true Tryd.f6.params.toList args.toList ds p := hA0
  rw [Tryd.params6] at hA hval
  obtain ⟨v0, vs0, d0, ds0, p0, q0, hargs, rfl, rfl, h0, r0⟩ := trodAll_cons hA
  obtain ⟨rfl, rfl, rfl⟩ := trodAll_nil r0
  obtain rfl : args = #[v0] := by cases args; simp_all
  obtain ⟨g0, g1, rfl⟩ : ∃ g0 g1, gs = [g0, g1] := Frame.vars_2 rfl hV0
  obtain ⟨a0, rfl, rfl, rfl, w0⟩ := open_string Tryd.underlying9 (hval 0 9 v0 rfl rfl) h0
  clear hA0 hval0
  refine (walk (w := W) a0 w0 (P3.glo_of_laid (l := laidL) (by kernel_rfl) (List.Mem.head _) (List.Mem.tail _ (List.Mem.head _)) hL)).mono fun e W' ⟨he, bel⟩ => ?_
  subst he
  exact ⟨_, rfl, Frame.post_law laidOut (by kernel_rfl) (by kernel_rfl) (by kernel_rfl) Tryd.underlying4 hW' rfl bel⟩

theorem over : Rows.FnExactQuadsOfSaid :=
  OpenClaim.holds_of_wide 6 Tryd.f6 rfl rfl rfl rfl rfl rfl rfl ⟨rfl, rfl, rfl, rfl, rfl⟩ rfl rfl rfl rfl rfl (by kernel_rfl) Tryd.func6 (by kernel_rfl)
    (of_decide_eq_true (by kernel_rfl)) (by unfold Func.isWrapper; first | (rw [if_pos (by decide +kernel)]; kernel_rfl) | (rw [if_neg (by decide +kernel)]; exact ⟨rfl, rfl⟩))
    (fun os started H enc _ => lifted os started H enc)

theorem proved : Rows.FnExactQuadsOfCardSaid :=
  Claim7.holds_tied_plain_at .later [] [.data, .data] true (true, "aa1adb48561e607e46777e14f28cf636de1e75f818937dd87a97c0e7c82d1b1f") false
    over (fun _ h => by cases h) (by kernel_rfl) (fun _ h => by cases h) fnExactQuadsOf_row_tie rfl ⟨rfl, rfl⟩ (by kernel_rfl) rfl
    (fun f fn hf hfn => by
      obtain rfl : f = 6 := Option.some.inj ((show Tryd.prog.funcNamed "loop.example/g00474/laws.FnExactQuadsOf" = some 6 by kernel_rfl).symm.trans hf) |>.symm
      obtain rfl : fn = Tryd.f6 := (Option.some.inj (Tryd.func6.symm.trans hfn)).symm
      exact ⟨by kernel_rfl, fun j t ht => by
        rw [Tryd.params6] at ht
        have hm : t ∈ [9] := by simpa using Array.mem_of_getElem? ht
        have hall : ([9].all fun u => !Tryd.prog.wantsStandIn u) = true := by kernel_rfl
        exact (show Tryd.prog.wantsStandIn t = false by simpa using List.all_eq_true.1 hall t hm)⟩)
    (by kernel_rfl)
#print axioms proved
end Go.Proofs.YtmjpdccfdaajmaaDoor.fnExactQuadsOf
