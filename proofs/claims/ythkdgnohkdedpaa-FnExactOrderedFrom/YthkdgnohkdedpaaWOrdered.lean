/- FnExactOrderedFrom walked: for every list of ids and every one; no condition. -/
import Derived.Test.YthkdgnohkdedpaaRng3
import Derived.Test.YthkdgnohkdedpaaRng8
namespace Go.Proofs.Ythkdgnohkdedpaa.P8
set_option maxRecDepth 8000
open Go.RowKit P1

theorem own_drewN {w : World} {B : Nat} {e : TypeId} {size : Nat} {v : Value} {n : Nat} {xs : List Value} (h : w.ownsRow B e size v n xs) (m : Nat) : (w.drewN m).ownsRow B e size v n xs := h

set_option maxHeartbeats 4000000 in
theorem exactOrdered_walk (w : World) (a0 : Option Addr) (len cap : Nat) (z : List Int) (hr : Frame.IsRow .i64 w a0 len cap z) (a : Int) :
    Calls Try.prog 5 #[.slice a0 len cap, .int .i64 a] w fun e w' => e = .returned (.bool true) ∧ Below w.heap.size w w' := by
  have hcap : len ≤ maxLen := by
    rcases hr with ⟨_, rfl, _⟩ | ⟨_, _, h1, h2, _⟩
    · unfold maxLen; omega
    · omega
  unfold maxLen at hcap
  have hi := IntsAt.of_row hr
  have hlen : (z.take len).length = len := by
    rcases hr with ⟨_, rfl, _, rfl⟩ | ⟨_, _, h1, h2, h3, _⟩
    · rfl
    · rw [List.length_take]; omega
  clear hr
  generalize z.take len = l at *
  subst hlen
  by_cases h : 1048576 < l.length
  · go_enter Try.func5, Try.ntmps5
    go_wp2
    go_ret
    exact ⟨rfl, Below.refl _ _⟩
  have hl : l.length ≤ 1048576 := by omega
  have HI := hide hi
  have HS := hide (fun wx vx (hx : IntsAt wx vx l) => specOrdered_calls wx vx l a hx hl)
  have HP := hide (fun wx vx (hx : IntsAt wx vx l) => implOrdered_calls wx vx l a hx hl)
  have hOl := ordered_length a l
  generalize ordered a l = O at *
  clear hi
  go_enter Try.func5, Try.ntmps5
  go_wp2_with fail
  refine (toInts_calls w _ l HI.out (by omega)).mono ?_
  rintro e w1 ⟨v1, rfl, ho1, hb1⟩
  have HO1 := hide (IntsAt.of_own ho1)
  have HB1 := hide hb1
  clear ho1 hb1
  go_wp2_with fail
  refine (HS.out w1 v1 HO1.out).mono ?_
  rintro e w2 ⟨vw, rfl, how2, hb2⟩
  have HB2 := hide (HB1.out.trans (hb2.mono HB1.out.size))
  have HW2 := hide (own_mono how2 HB1.out.size)
  have HI2 := hide (HI.out.below HB2.out (Nat.le_refl _))
  clear HO1 HB1 HS how2 hb2
  go_wp2_with fail
  refine (toInts_calls w2 _ l HI2.out (by omega)).mono ?_
  rintro e w3 ⟨vx, rfl, hox3, hb3⟩
  have HB3 := hide (HB2.out.trans (hb3.mono HB2.out.size))
  have HAWX := hide (own_apart HW2.out hox3)
  have HW3 := hide (own_below HW2.out hb3)
  have HX3 := hide (own_mono hox3 HB2.out.size)
  clear hox3 hb3 HB2 HW2 HI2
  go_wp2_with fail
  refine (HP.out w3 vx (IntsAt.of_own HX3.out)).mono ?_
  rintro e w4 ⟨vg, rfl, hog4, hb4⟩
  have HB4 := hide (HB3.out.trans (hb4.mono HB3.out.size))
  have HAGX := hide (own_apart_r HX3.out hog4)
  have HAWG := hide (own_apart HW3.out hog4)
  have HW4 := hide (own_below HW3.out hb4)
  have HX4 := hide (own_below HX3.out hb4)
  have HG4 := hide (own_mono hog4 HB3.out.size)
  have HE4 := hide (eqInts_calls w4 vg vw O O (IntsAt.of_own HG4.out) (IntsAt.of_own HW4.out) (by omega) (by omega))
  rw [decide_eq_true (rfl : O = O)] at HE4
  clear hog4 hb4 HB3 HW3 HX3
  go_wp2_with fail
  refine HE4.out.mono ?_
  rintro e w5 ⟨rfl, n5, rfl⟩
  have HB5 : Hid (Below w.heap.size w (w4.drewN n5)) := below_drewN HB4.out n5
  have HW5 := hide (own_drewN HW4.out n5)
  have HX5 := hide (own_drewN HX4.out n5)
  have HG5 := hide (own_drewN HG4.out n5)
  clear HE4 HB4 HW4 HX4 HG4
  generalize w4.drewN n5 = w5 at *
  have HI5 := hide (HI.out.below HB5.out (Nat.le_refl _))
  go_wp2_with fail
  refine (toInts_calls w5 _ l HI5.out (by omega)).mono ?_
  rintro e w6 ⟨v6, rfl, ho6, hb6⟩
  have HB6 := hide (HB5.out.trans (hb6.mono HB5.out.size))
  have HW6 := hide (own_below HW5.out hb6)
  have HX6 := hide (own_below HX5.out hb6)
  have HG6 := hide (own_below HG5.out hb6)
  have HE6 := hide (eqInts_calls w6 vx v6 l l (IntsAt.of_own HX6.out) (IntsAt.of_own ho6) (by omega) (by omega))
  rw [decide_eq_true (rfl : l = l)] at HE6
  clear ho6 hb6 HB5 HW5 HX5 HG5 HI5
  go_wp2_with fail
  refine HE6.out.mono ?_
  rintro e w7 ⟨rfl, n7, rfl⟩
  have HB7 : Hid (Below w.heap.size w (w6.drewN n7)) := below_drewN HB6.out n7
  have HW7 := hide (own_drewN HW6.out n7)
  have HX7 := hide (own_drewN HX6.out n7)
  have HG7 := hide (own_drewN HG6.out n7)
  clear HE6 HB6 HW6 HX6 HG6
  generalize w6.drewN n7 = w7 at *
  have HM := hide (markInts_calls w7 _ vx l 1 HX7.out (by omega) (by omega))
  go_wp2_with fail
  refine HM.out.mono ?_
  rintro e w8 ⟨rfl, hox8, hg8⟩
  have HB8 : Hid (Below w.heap.size w w8) := HB7.out.grown hg8 HB7.out.size (fun k hk => (hox8.lt k hk).1)
  have HW8 := hide (HW7.out.kept hg8 HAWX.out)
  have HG8 := hide (HG7.out.kept hg8 HAGX.out)
  have HE8 := hide (eqInts_calls w8 vg vw O O (IntsAt.of_own HG8.out) (IntsAt.of_own HW8.out) (by omega) (by omega))
  rw [decide_eq_true (rfl : O = O)] at HE8
  have hk0 : decide (((1 + l.length : Nat) : Int) < 0) = false := decide_eq_false (by omega)
  clear hox8 hg8 HM HB7 HW7 HX7 HG7 HAWX HAGX
  go_wp2_with fail
  refine HE8.out.mono ?_
  rintro e w9 ⟨rfl, n9, rfl⟩
  have HB9 : Hid (Below w.heap.size w (w8.drewN n9)) := below_drewN HB8.out n9
  have HW9 := hide (own_drewN HW8.out n9)
  have HG9 := hide (own_drewN HG8.out n9)
  clear HE8 HB8 HW8 HG8 hk0
  generalize w8.drewN n9 = w9 at *
  have HM := hide (markInts_calls w9 _ vg O 1 HG9.out (by omega) (by omega))
  go_wp2_with fail
  refine HM.out.mono ?_
  rintro e wA ⟨rfl, hogA, hgA⟩
  have HBA : Hid (Below w.heap.size w wA) := HB9.out.grown hgA HB9.out.size (fun k hk => (hogA.lt k hk).1)
  have HWA := hide (HW9.out.kept hgA HAWG.out)
  have HGA := hide hogA
  have HHA := hide (heldInts_calls wA vg 1 O.length (IntsAt.of_own (by rw [marks_length]; exact hogA)) (by omega) (by omega))
  clear hogA hgA HM HB9 HW9 HG9 HAWG
  go_wp2_with fail
  refine HHA.out.mono ?_
  rintro e wB ⟨rfl, rfl⟩
  have hq0 : decide (((1 + O.length : Nat) : Int) < 0) = false := decide_eq_false (by omega)
  have HIA := hide (HI.out.below HBA.out (Nat.le_refl _))
  clear HHA
  go_wp2_with fail
  refine (toInts_calls wB _ l HIA.out (by omega)).mono ?_
  rintro e wC ⟨vC, rfl, hoC, hbC⟩
  have HBC := hide (HBA.out.trans (hbC.mono HBA.out.size))
  have HWC := hide (own_below HWA.out hbC)
  have HGC := hide (own_below HGA.out hbC)
  have HC := hide (HP.out wC vC (IntsAt.of_own hoC))
  clear hoC hbC HBA HWA HGA HIA HP
  go_wp2_with fail
  refine HC.out.mono ?_
  rintro e wD ⟨vD, rfl, hoD, hbD⟩
  have HBD := hide (HBC.out.trans (hbD.mono HBC.out.size))
  have HGD := hide (own_below HGC.out hbD)
  have HED := hide (eqInts_calls wD vD vw O O (IntsAt.of_own hoD) (IntsAt.of_own (own_below HWC.out hbD)) (by omega) (by omega))
  rw [decide_eq_true (rfl : O = O)] at HED
  clear hoD hbD HBC HWC HGC HC
  go_wp2_with fail
  refine HED.out.mono ?_
  rintro e wE ⟨rfl, nE, rfl⟩
  have HBE : Hid (Below w.heap.size w (wD.drewN nE)) := below_drewN HBD.out nE
  have HGE := hide (own_drewN HGD.out nE)
  clear HED HBD HGD
  generalize wD.drewN nE = wE at *
  have HHE := hide (heldInts_calls wE vg 1 O.length (IntsAt.of_own (by rw [marks_length]; exact HGE.out)) (by omega) (by omega))
  go_wp2_with fail
  refine HHE.out.mono ?_
  rintro e wF ⟨rfl, rfl⟩
  go_wp2
  go_ret
  exact ⟨rfl, HBE.out⟩
end Go.Proofs.Ythkdgnohkdedpaa.P8
