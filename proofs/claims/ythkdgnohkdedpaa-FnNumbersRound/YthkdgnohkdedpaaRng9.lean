/- The draws of chapter 8: numbers, ids, ids of a ring; what is drawn is some of its kind, in memory of its own. -/
import Derived.Test.YthkdgnohkdedpaaPick
import Derived.Test.YthkdgnohkdedpaaRng3
namespace Go.Proofs.Ythkdgnohkdedpaa.P8
set_option maxRecDepth 8000
open Go.RowKit P1 Cu

theorem once8_calls (B g : Nat) (w : World) (hc : Cur B w g) (n : Nat) (hn : 0 < n) (hm : n ≤ 256) :
    Calls Try.prog 57 #[.pointer (some ⟨g, 0, none⟩), .int .i64 n] w fun e w' => ∃ b : Bool, e = .returned (.bool b) ∧ Cur B w' g ∧ w.grownBy w' (some g) := by
  have HC := hide hc
  clear hc
  go_enter Try.func57, Try.ntmps57
  go_wp2_with fail
  refine (below_calls B g _ HC.out n hn (by omega)).mono ?_
  rintro e w2 ⟨x, hx, rfl, hc2, hg2⟩
  have HC2 := hide hc2
  have HG2 := hide hg2
  clear hc2 hg2
  go_wp2_with fail
  go_ret
  exact ⟨_, rfl, HC2.out, HG2.out⟩

/-- What a drawn number leaves. -/
def NumR (B g : Nat) (w : World) (e : Ending) (w' : World) : Prop := ∃ x : Int, e = .returned (.int .i64 x) ∧ Cur B w' g ∧ w.grownBy w' (some g)

theorem num_calls (B g : Nat) (w : World) (hc : Cur B w g) :
    Calls Try.prog 55 #[.pointer (some ⟨g, 0, none⟩)] w fun e w' => NumR B g w e w' := by
  have HP := hide (pick_calls B g w hc [0, 5, 100, 128, 255, 256, -1, 9223372036854775807, -9223372036854775808] (by decide) (by decide) 9 rfl _ rfl)
  clear hc
  go_enter Try.func55, Try.ntmps55
  go_wp2_with fail
  refine HP.out.mono ?_
  rintro e w2 ⟨x, hx, rfl, hc2, hg2⟩
  have HC2 := hide hc2
  have HG2 := hide hg2
  clear hc2 hg2 hx
  go_wp2_with fail
  go_ret
  exact ⟨_, rfl, HC2.out, HG2.out⟩

/-- What drawn ids leave. -/
def IdsR (B g : Nat) (w : World) (e : Ending) (w' : World) : Prop := ∃ v l, l.length ≤ 7 ∧ e = .returned v ∧ w'.ownsRow w.heap.size 3 1 v l.length (cellsI l) ∧ Cur B w' g ∧ w.grownBy w' (some g)

theorem grown_more {w w1 w2 : World} {g B : Nat} (h : w.grownBy w1 (some g)) (hb : Below B w1 w2) (hB : w.heap.size ≤ B) : w.grownBy w2 (some g) :=
  ⟨hb.os.trans h.os, hb.tape.trans h.tape, hb.output.trans h.output, Nat.le_trans h.size hb.size, fun i hi hne => (hb.block i (by omega)).trans (h.block i hi hne)⟩

set_option maxHeartbeats 1000000 in
theorem ids_calls (B g : Nat) (w : World) (hc : Cur B w g) :
    Calls Try.prog 56 #[.pointer (some ⟨g, 0, none⟩)] w fun e w' => IdsR B g w e w' := by
  obtain ⟨i0, hi, hz0, hz1, hz2⟩ := info_parts info_int
  have hgw := hc.2.1
  have hb0 : Below w.heap.size w (w.alloc (.cells #[] 3)) := (Below.refl _ _).alloc (Nat.le_refl _) _
  have HC0 := hide (cur_below hc hb0 hgw)
  have HS0 := hide (own_lit0 w)
  have HG0 := hide (grown_more (grown_refl w (some g)) hb0 (Nat.le_refl _))
  clear hc hb0
  go_enter Try.func56, Try.ntmps56
  go_wp2
  obtain ⟨B2, eB⟩ : ∃ B, B = w.heap.size := ⟨_, rfl⟩
  rw [← eB] at HS0 ⊢
  have HEB := hide eB
  have hgB : g < B2 := by omega
  clear eB
  generalize w.alloc (.cells #[] 3) = w1 at *
  go_loopw [3, 4] (fun v i wr => ∃ l : List Int, l.length ≤ 7 ∧ i = .int .i64 l.length ∧ Hid (wr.ownsRow B2 3 1 v l.length (cellsI l)) ∧ Hid (Cur B wr g) ∧ Hid (w.grownBy wr (some g))) (fun _ i _ => 8 - (intOf i).toNat)
  case atStart => exact ⟨[], Nat.zero_le _, rfl, HS0.out, HC0.out, HG0.out⟩
  case round =>
    clear HS0 HC0 HG0
    obtain ⟨l, hl, rfl, HO, HC, HG⟩ := hrel
    go_wp2_with fail
    refine (below_calls B g _ HC.out 7 (by decide) (by decide)).mono ?_
    rintro e w3 ⟨y, hy, rfl, hc3, hg3⟩
    have HC3 := hide hc3
    have HO3 := hide (own_kept HO.out hg3 hgB)
    have HG3 := hide (grown_trans HG.out hg3)
    clear hc3 hg3 HO HC HG
    by_cases hlt : l.length < y
    · go_wp2_with fail
      refine (below_calls B g _ HC3.out 256 (by decide) (by decide)).mono ?_
      rintro e w4 ⟨x, hx, rfl, hc4, hg4⟩
      have HC4 := hide hc4
      have HO4 := hide (own_kept HO3.out hg4 hgB)
      have HG4 := hide (grown_trans HG3.out hg4)
      have hsz4 : B2 ≤ w4.heap.size := by rw [HEB.out]; exact HG4.out.size
      clear hc4 hg4 HO3 HC3 HG3
      go_wp2_with (at_builtin; refine wpList_append_one (cs := #[.int .i64 x]) (Below.refl B2 _) hsz4 rfl (.tmp 12) (.tmp 15) 24 rfl 3 i0 (.int .i64 0) 1 8 Try.underlying24 hi hz0 hz1 hz2 rfl (by decide) rfl (by simp [Value.oneCell']) _ _ _ rfl HO4.out 1 rfl (by omega) (by omega) ?_)
      intro v' w5 hown5 hbel5
      have HO5 := hide (own_snocI hown5)
      have HC5 := hide (cur_below HC4.out hbel5 hgB)
      have HG5 := hide (grown_more HG4.out hbel5 (by have := HEB.out; omega))
      clear hown5 hbel5 HO4 HC4 HG4
      go_wp2
      go_roundw
      case rel => exact ⟨l ++ [(x : Int)], by simp; omega, by simp, HO5.out, HC5.out, HG5.out⟩
      case measure => simp [intOf]; omega
    · have hle : y ≤ l.length := by omega
      go_wp2
      go_ret
      exact ⟨_, l, hl, rfl, by have := HO3.out; rw [HEB.out] at this; exact this, HC3.out, HG3.out⟩
end Go.Proofs.Ythkdgnohkdedpaa.P8
