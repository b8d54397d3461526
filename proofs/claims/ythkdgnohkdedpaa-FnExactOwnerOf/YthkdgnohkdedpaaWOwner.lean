/- FnExactOwnerOf walked: for every list of ids and every key; no condition. -/
import Derived.Test.YthkdgnohkdedpaaRng2
import Derived.Test.YthkdgnohkdedpaaRng5
namespace Go.Proofs.Ythkdgnohkdedpaa.P8
set_option maxRecDepth 8000
open Go.RowKit P1

set_option maxHeartbeats 2000000 in
theorem exactOwner_walk (w : World) (a : Option Addr) (len cap : Nat) (z : List Int) (hr : Frame.IsRow .i64 w a len cap z) (key : Int) :
    Calls Try.prog 4 #[.slice a len cap, .int .i64 key] w fun e w' => e = .returned (.bool true) ∧ Below w.heap.size w w' := by
  have hcap : len ≤ maxLen := by
    rcases hr with ⟨_, rfl, _⟩ | ⟨_, _, h1, h2, _⟩
    · unfold maxLen; omega
    · omega
  unfold maxLen at hcap
  have hi := IntsAt.of_row hr
  have hlen : (z.take len).length = len := by
    rcases hr with ⟨_, rfl, _, rfl⟩ | ⟨_, _, h1, h2, h3, _⟩
    · rfl
    · rw [List.length_take]; omega
  clear hr
  generalize z.take len = l at *
  subst hlen
  by_cases h : 1048576 < l.length
  · go_enter Try.func4, Try.ntmps4
    go_wp2
    go_ret
    exact ⟨rfl, Below.refl _ _⟩
  have hl : l.length ≤ 1048576 := by omega
  have HI := hide hi
  obtain ⟨r, ER⟩ : ∃ r, r = ownerOf key l := ⟨_, rfl⟩
  have HS := hide (fun wx vx (hx : IntsAt wx vx l) => specOwner_calls wx vx l key hx hl)
  have HP := hide (fun wx vx (hx : IntsAt wx vx l) => implOwner_calls wx vx l key hx hl)
  simp only [← ER] at HS HP
  clear hi ER
  have hrr : (r != r) = false := by simp
  go_enter Try.func4, Try.ntmps4
  go_wp2_with fail
  refine (toInts_calls w _ l HI.out (by omega)).mono ?_
  rintro e w1 ⟨v1, rfl, ho1, hb1⟩
  have HO1 := hide (IntsAt.of_own ho1)
  have HB1 := hide hb1
  clear ho1 hb1
  go_wp2_with fail
  refine (HS.out w1 v1 HO1.out).mono ?_
  rintro e w2 ⟨rfl, n2, rfl⟩
  have HI2 : Hid (IntsAt (w1.drewN n2) (.slice a l.length cap) l) := HI.out.below (below_drewN HB1.out n2) (Nat.le_refl _)
  have HB2 : Hid (Below w.heap.size w (w1.drewN n2)) := below_drewN HB1.out n2
  clear HO1 HB1 HS
  generalize w1.drewN n2 = w2 at *
  go_wp2_with fail
  refine (toInts_calls w2 _ l HI2.out (by omega)).mono ?_
  rintro e w3 ⟨v3, rfl, ho3, hb3⟩
  have HO3 := hide (IntsAt.of_own ho3)
  have HB3 := hide (HB2.out.trans (hb3.mono HB2.out.size))
  clear ho3 hb3 HB2
  go_wp2_with fail
  refine (HP.out w3 v3 HO3.out).mono ?_
  rintro e w4 ⟨rfl, hb4⟩
  have HO4 := hide (HO3.out.below hb4 (Nat.le_refl _))
  have HB4 := hide (HB3.out.trans (hb4.mono HB3.out.size))
  have HI4 := hide (HI.out.below HB4.out (Nat.le_refl _))
  clear hb4 HB3 HO3 HP HI2
  go_wp2_with fail
  refine (toInts_calls w4 _ l HI4.out (by omega)).mono ?_
  rintro e w5 ⟨v5, rfl, ho5, hb5⟩
  have HE := hide (eqInts_calls w5 v3 v5 l l (HO4.out.below hb5 (Nat.le_refl _)) (IntsAt.of_own ho5) (by omega) (by omega))
  have HB5 := hide (HB4.out.trans (hb5.mono HB4.out.size))
  rw [decide_eq_true (rfl : l = l)] at HE
  clear ho5 hb5 HB4 HO4 HI4
  go_wp2_with fail
  refine HE.out.mono ?_
  rintro e w6 ⟨rfl, n6, rfl⟩
  have HB6 : Hid (Below w.heap.size w (w5.drewN n6)) := below_drewN HB5.out n6
  clear HE HB5
  go_wp2
  go_ret
  exact ⟨rfl, HB6.out⟩
end Go.Proofs.Ythkdgnohkdedpaa.P8
