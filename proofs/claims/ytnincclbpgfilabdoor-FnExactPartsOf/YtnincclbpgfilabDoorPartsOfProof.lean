/- For every line the program's PartsOf answers as the specification's (FnExactPartsOf returns true); condition: the two listed tables of Go's library hold what their text lays, tied by the given tie. -/
import Derived.Test.YtnincclbpgfilabDoorParI
import Derived.Test.YtnincclbpgfilabDoorTie
import Derived.Test.YtnincclbpgfilabDoorCards
import Derived.WalkKit
import Derived.ProofKit
import Derived.OpenShut
import Derived.ShutString
import Derived.SevenTiedAt
namespace Go.Proofs.YtnincclbpgfilabDoor.fnExactPartsOf
open Go.ChangeShapes Go.WideShapes Go.ChangeAt Go.RowKit
open Go.ChangeMaps (open_string shut_string)
set_option linter.unusedVariables false

theorem own : ownKnob Tryd.prog.godebug = none := by kernel_rfl

theorem own_apart {a b : World} {B B' : Nat} {v v' : Value} {n n' : Nat} {xs xs' : List Value} (h : a.ownsRow B 9 1 v n xs) (h' : a.ownsRow B' 9 1 v' n' xs') (hlt : ∀ k, v.ownBlock = some k → k < B') (hg : a.grownBy b v'.ownBlock) : b.ownsRow B 9 1 v n xs := by
  refine h.kept hg ?_
  cases hv : v.ownBlock with
  | none => exact .inl rfl
  | some k =>
    refine .inr ?_
    intro e
    have h1 := hlt k hv
    have h2 := (h'.lt k e.symm).1
    omega

set_option maxHeartbeats 1000000 in
theorem walk (a0 : ByteArray) (w0 : a0.size ≤ maxLen) (w : World) (ht : P1.Blanks w) :
    Calls Tryd.prog 5 #[.string a0] w fun e w' => e = .returned (.bool true) ∧ Below w.heap.size w w' := by
  unfold maxLen at w0
  have Ht := P1.hide ht
  clear ht
  by_cases hs : a0.size ≤ 1048576
  · go_enter Tryd.func5, Tryd.ntmps5
    go_wp2_with fail
    refine (P1.specPartsOf_calls a0 hs _).mono ?_
    rintro e w1 ⟨v0, ps, b, rfl, ht1, ho1, hb1⟩
    have H1 := P1.hide ht1
    have hn : ps.length ≤ 10 := ht1.len
    have hlt0 : ∀ k, v0.ownBlock = some k → k < w1.heap.size := fun k hk => (ho1.lt k hk).2
    have Hlt0 := P1.hide hlt0
    have HT1 := P1.hide (Ht.out.on Ht.out.lt hb1)
    clear ht1 hlt0
    go_wp2_with fail
    refine (P1.implPartsOf_calls a0 hs _ HT1.out).mono ?_
    rintro e w2 ⟨v1, ps2, b2, rfl, ht2, ho2, hb2⟩
    obtain ⟨e1, e2⟩ := ht2.same H1.out
    subst e1
    subst e2
    clear ht2
    have hB2 : Below w.heap.size w w2 := hb1.trans (hb2.mono hb1.size)
    have ho1' := P1.own_on ho1 hb2
    clear ho1
    go_wp2_with fail
    refine (P1.eqStringS_calls ps2 _ _ v1 v0 _ (by omega) ho2 ho1').mono ?_
    rintro e w3 ⟨rfl, hb3⟩
    have hB3 : Below w.heap.size w w3 := hB2.trans (hb3.mono hB2.size)
    have hoA := P1.own_on ho1' hb3
    have hoB := P1.own_on ho2 hb3
    have hw13 : w1.heap.size ≤ w3.heap.size := Nat.le_trans hb2.size hb3.size
    have hw1 := hb1.size
    clear ho1' ho2 hb3 hB2 hb1 hb2
    go_wp2_with fail
    refine (P1.markStringS_calls ps2 1 _ v1 _ (by omega) (by omega) (by omega) hoB).mono ?_
    rintro e w4 ⟨rfl, hoM, hgr⟩
    have hoA4 := own_apart hoA hoB Hlt0.out hgr
    have hB4 : Below w.heap.size w w4 := hB3.grown hgr hB3.size (fun k hk => Nat.le_trans hw1 (hoB.lt k hk).1)
    have HT4 := P1.hide (Ht.out.on Ht.out.lt hB4)
    clear hoA hoB hgr hB3 hw13
    obtain ⟨n, Hn⟩ : ∃ n, Hid (n = ps2.length) := ⟨_, P1.hide rfl⟩
    rw [← Hn.out] at hoM hn ⊢
    go_wp2_with fail
    refine (P1.heldStringS_calls n 1 _ v1 _ (by omega) (by omega) (by omega) hoM).mono ?_
    rintro e w5 ⟨rfl, hb5⟩
    have hB5 : Below w.heap.size w w5 := hB4.trans (hb5.mono hB4.size)
    have hoM5 := P1.own_on hoM hb5
    have hoA5 := P1.own_on hoA4 hb5
    have HT5 := P1.hide (Ht.out.on Ht.out.lt hB5)
    clear hoM hoA4 hb5 hB4 HT4
    go_wp2_with fail
    refine (P1.implPartsOf_calls a0 hs _ HT5.out).mono ?_
    rintro e w6 ⟨v2, ps3, b3, rfl, ht3, ho3, hb6⟩
    obtain ⟨e1, e2⟩ := ht3.same H1.out
    subst e1
    subst e2
    clear ht3
    have hB6 : Below w.heap.size w w6 := hB5.trans (hb6.mono hB5.size)
    have hoM6 := P1.own_on hoM5 hb6
    have hoA6 := P1.own_on hoA5 hb6
    clear hoM5 hoA5 hb6 hB5
    go_wp2_with fail
    refine (P1.eqStringS_calls ps3 _ _ v2 v0 _ (by rw [← Hn.out]; omega) ho3 hoA6).mono ?_
    rintro e w7 ⟨rfl, hb7⟩
    have hB7 : Below w.heap.size w w7 := hB6.trans (hb7.mono hB6.size)
    have hoM7 := P1.own_on hoM6 hb7
    clear hoM6 hoA6 ho3 hb7 hB6
    go_wp2_with fail
    refine (P1.heldStringS_calls n 1 _ v1 _ (by omega) (by omega) (by omega) hoM7).mono ?_
    rintro e w8 ⟨rfl, hb8⟩
    have hB8 : Below w.heap.size w w8 := hB7.trans (hb8.mono hB7.size)
    clear hoM7 hb8 hB7
    go_wp2
    go_ret
    exact ⟨rfl, hB8⟩
  · go_enter Tryd.func5, Tryd.ntmps5
    go_wp2
    go_ret
    exact ⟨rfl, Below.refl _ _⟩

theorem door_met (os : Os) (args : Array Value) : laidMetH Tryd.prog P1.laid2 ((World.doorLaid Tryd.prog 48 os).forCall (fun _ _ => 0) ⟨#[], args, []⟩).memory :=
  laidMetH_of_parts3 (fuel := 8) (laidMet_of_run' 8 (by kernel_rfl) (by kernel_rfl)) (by kernel_rfl) (by kernel_rfl)

set_option maxRecDepth 100000 in
theorem lifted (os : Os) (started : os.Started) (H : Type) (enc : TypeId × Value → H) :
    ReturnsInHanded {} Tryd.checked os 5 .any (fun w args => (Rows.fnExactPartsOfSpec.pre enc Tryd.prog Tryd.f5 [] false w args ∧ laidMetH Tryd.prog P1.laid2 w) ∧ sizedMet enc Tryd.prog Tryd.f5 (OpenSpec.ofChange Rows.fnExactPartsOfSpec) false w args)
      (Rows.fnExactPartsOfSpec.post enc Tryd.prog Tryd.f5 false true false false) := by
  refine returnsInHanded_of_change_and (C := Tryd.checked) (X := fun w _ => laidMetH Tryd.prog P1.laid2 w) (fun _ _ _ hh h => h.of_heap hh) own started (by kernel_rfl) Tryd.func5
    (ChangeSpec.witness_shaped (enc := enc) (C := Tryd.checked) (os := os) (X := fun w _ => laidMetH Tryd.prog P1.laid2 w) false (World.doorLaid Tryd.prog 48 os) #[.string ByteArray.empty] 8 rfl (World.shaped_of_RefB (by kernel_rfl) (by kernel_rfl)) (by kernel_rfl) (by kernel_rfl) (by kernel_rfl) (door_met os _)) ?_
  intro W base args ds gs before hval0 hW _ _ hL _
  have hval : ∀ (j : Nat) t v, Tryd.f5.params[j]? = some t → args[j]? = some v → Value.okWide Tryd.prog W .any base t v := hval0
  have hW' := hW
  obtain ⟨p, q, hA0, hV, rfl, hfz, hnd⟩ := hW
  have hA : DataW.TrodAll enc Tryd.prog W 0 (fun _ => true) true Tryd.f5.params.toList args.toList ds p := hA0
  rw [Tryd.params5] at hA hval
  obtain ⟨v0, d0, rfl, rfl, h0⟩ := trodAll_one hA
  obtain ⟨rfl, rfl⟩ := trodVars_none hV
  obtain ⟨a0, rfl, rfl, rfl, w0⟩ := open_string Tryd.underlying9 (hval 0 9 v0 rfl rfl) h0
  clear hA0 hval0
  simp only [List.append_nil] at hW'
  refine (walk a0 w0 W (P1.blanks_of_laid hL)).mono fun e W' ⟨he, bel⟩ => ?_
  subst he
  exact ⟨_, rfl, _, _, _, [], [], [], hW', (trodAll_cons_mk (shut_bool Tryd.underlying4 _) trodAll_mk0), (trodAll_cons_mk (shut_string Tryd.underlying9 w0) trodAll_mk0), rfl, bel.frame _, fun h => by cases h⟩

theorem over : Rows.FnExactPartsOfSaid :=
  OpenClaim.holds_of_wide 5 Tryd.f5 rfl rfl rfl rfl rfl rfl rfl ⟨rfl, rfl, rfl, rfl, rfl⟩ rfl rfl rfl rfl rfl (by kernel_rfl) Tryd.func5 (by kernel_rfl)
    (of_decide_eq_true (by kernel_rfl)) (by unfold Func.isWrapper; first | (rw [if_pos (by decide +kernel)]; kernel_rfl) | (rw [if_neg (by decide +kernel)]; exact ⟨rfl, rfl⟩))
    (fun os started H enc _ => lifted os started H enc)

theorem proved : Rows.FnExactPartsOfCardSaid :=
  Claim7.holds_tied_plain_at .later [] [.listed, .data] true (true, "4c06f91a8ff72fb019972602b8aae85c5037a908a5027926417b1fd8f9889472") false
    over (fun _ h => by cases h) (by kernel_rfl) (fun _ h => by cases h) fnExactPartsOf_row_tie rfl ⟨rfl, rfl⟩ (by kernel_rfl) rfl
    (fun f fn hf hfn => by
      obtain rfl : f = 5 := Option.some.inj ((show Tryd.prog.funcNamed "loop.example/g00474/laws.FnExactPartsOf" = some 5 by kernel_rfl).symm.trans hf) |>.symm
      obtain rfl : fn = Tryd.f5 := (Option.some.inj (Tryd.func5.symm.trans hfn)).symm
      exact ⟨by kernel_rfl, fun j t ht => by
        rw [Tryd.params5] at ht
        have hm : t ∈ [9] := by simpa using Array.mem_of_getElem? ht
        have hall : ([9].all fun u => !Tryd.prog.wantsStandIn u) = true := by kernel_rfl
        exact (show Tryd.prog.wantsStandIn t = false by simpa using List.all_eq_true.1 hall t hm)⟩)
    (by kernel_rfl)
#print axioms proved
end Go.Proofs.YtnincclbpgfilabDoor.fnExactPartsOf
