/- The draws of chapter 4: some text of four, some numbers; only the cursor is written. -/
import Derived.Test.YtmjpdccfdaajmaaDoorPick
import Derived.Test.YtmjpdccfdaajmaaDoorStrB
namespace Go.Proofs.YtmjpdccfdaajmaaDoor.Cu
set_option maxRecDepth 8000
open Go.RowKit P1

/-- What a pick of a text leaves. -/
def PickS (B g : Nat) (l : List (List UInt8)) (w : World) (e : Ending) (w' : World) : Prop := ∃ x, x ∈ l ∧ e = .returned (.string ⟨x.toArray⟩) ∧ Cur B w' g ∧ w.grownBy w' (some g)

set_option maxHeartbeats 400000 in
theorem pickS_calls (B g : Nat) (w : World) (hc : Cur B w g) (l : List (List UInt8)) (hl0 : 0 < l.length) (hl : l.length ≤ 65536) (n : Nat) (hn : n = l.length) (cs : Array Value) (hcs : cs = (cellsS l).toArray) :
    Calls Tryd.prog 88 #[.pointer (some ⟨g, 0, none⟩), .slice (some ⟨w.heap.size, 0, none⟩) n n] (w.alloc (.cells cs 9)) fun e w' => PickS B g l w e w' := by
  have hg := hc.2.1
  have hb : Below w.heap.size w (w.alloc (.cells cs 9)) := (Below.refl _ _).alloc (Nat.le_refl _) _
  have hc2 := cur_below hc hb hg
  have hcell : ∀ j (hj : j < l.length), (w.alloc (.cells cs 9)).cell? ⟨w.heap.size, j, none⟩ = some (.string ⟨(l[j]).toArray⟩) := by
    intro j hj
    have hh : (w.alloc (.cells cs 9)).heap[w.heap.size]? = some (.cells cs 9) := by
      show (w.heap.push _)[w.heap.size]? = _
      simp
    have hc : (w.alloc (.cells cs 9)).cell? ⟨w.heap.size, j, none⟩ = cs[j]? := by
      simp only [World.cell?, hh]
      rfl
    rw [hc, hcs]
    simp [cellsS, hj]
  obtain ⟨gl, hgl⟩ : ∃ gl, gl = w.heap.size := ⟨_, rfl⟩
  have hglt : gl < (w.alloc (.cells cs 9)).heap.size := by rw [hgl]; simp
  have hgg : grown_ok w (w.alloc (.cells cs 9)) := hb
  obtain ⟨w1, hw1⟩ : ∃ w1, w1 = w.alloc (.cells cs 9) := ⟨_, rfl⟩
  rw [← hw1] at hc2 hcell hglt hgg ⊢
  have hne : gl ≠ g := by omega
  rw [← hgl] at hcell ⊢
  have HC := hide hc2
  have HCell := hide hcell
  have HG := hide hgg
  clear hb hc hcell hgg hw1 hgl hc2 hcs
  subst hn
  go_enter Tryd.func88, Tryd.ntmps88
  go_wp2_with fail
  refine (below_calls B g _ HC.out l.length hl0 (by omega)).mono ?_
  rintro e w2 ⟨x, hx, rfl, hc2, hg2⟩
  have hcx := HCell.out x hx
  have hcx2 : w2.cell? ⟨gl, x, none⟩ = some (.string ⟨(l[x]).toArray⟩) := by
    rw [World.cell?_of_block (w := w1) (hg2.block gl hglt (by intro h; cases h; exact hne rfl))]
    exact hcx
  have hmem : l[x] ∈ l := List.getElem_mem _
  have HC2 := hide hc2
  have HG2 := hide hg2
  obtain ⟨z, Ez⟩ : ∃ z, Hid (z = l[x]) := ⟨_, hide rfl⟩
  rw [← Ez.out] at hcx2 hmem
  have HME := hide hmem
  clear hc2 hg2 hcx hmem Ez
  go_wp2
  go_ret
  exact ⟨z, HME.out, rfl, HC2.out, HG.out.then_ HG2.out⟩

/-- The texts of chapter 4's draws. -/
def fourTexts : List (List UInt8) := [[], [97], [119, 111, 114, 100], [115, 111, 109, 101, 32, 116, 101, 120, 116, 32, 104, 101, 114, 101]]

theorem fourTexts_le (x : List UInt8) (h : x ∈ fourTexts) : x.length ≤ 14 := by
  simp only [fourTexts, List.mem_cons, List.not_mem_nil, or_false] at h
  rcases h with rfl | rfl | rfl | rfl <;> decide

set_option maxHeartbeats 400000 in
theorem text4_calls (B g : Nat) (w : World) (hc : Cur B w g) :
    Calls Tryd.prog 66 #[.pointer (some ⟨g, 0, none⟩)] w fun e w' => PickS B g fourTexts w e w' := by
  have HC := hide hc
  clear hc
  go_enter Tryd.func66, Tryd.ntmps66
  go_wp2_with fail
  refine (pickS_calls B g w HC.out fourTexts (by decide) (by decide) 4 rfl _ rfl).mono ?_
  rintro e w1 ⟨x, hx, rfl, hc1, hg1⟩
  have HX := hide hx
  have HC1 := hide hc1
  have HG1 := hide hg1
  clear hx hc1 hg1
  go_wp2_with fail
  go_ret
  exact ⟨x, HX.out, rfl, HC1.out, HG1.out⟩

/-- The numbers that a chain's draw picks from. -/
def chainNs : List Int := [0, 1, 2, 3, 4, -1, 9223372036854775807]

set_option maxHeartbeats 400000 in
theorem drawChain_calls (w : World) (a : Option Addr) (len cap : Nat) (hc : Code w.heap.size w (.slice a len cap) len) :
    Calls Tryd.prog 27 #[.slice a len cap] w fun e w' => ∃ (x : List UInt8) (n : Int), x.length ≤ 14 ∧ n ∈ chainNs ∧ e = .returned (.tuple #[.string ⟨x.toArray⟩, .int .i64 n]) ∧ Below w.heap.size w w' := by
  have Hc := hide hc
  clear hc
  go_enter Tryd.func27, Tryd.ntmps27
  go_wp2_with fail
  refine (new_calls _ a len cap Hc.out).mono ?_
  rintro e w1 ⟨rfl, hc1, hb1⟩
  have Hc1 := hide hc1
  have Hb1 := hide hb1
  clear hc1 hb1
  go_wp2_with fail
  refine (pick_calls _ _ w1 Hc1.out chainNs (by decide) (by decide) 7 rfl _ rfl).mono ?_
  rintro e w2 ⟨n, hn, rfl, hc2, hg2⟩
  have HN := hide hn
  have Hc2 := hide hc2
  have Hb2 := hide (Hb1.out.trans (below_of_grown hg2 (Nat.le_refl _) Hb1.out.size))
  clear hn hc2 hg2
  go_wp2_with fail
  refine (text4_calls _ _ _ Hc2.out).mono ?_
  rintro e w3 ⟨x, hx, rfl, hc3, hg3⟩
  have HX := hide (fourTexts_le x hx)
  have Hb3 := hide (Hb2.out.trans (below_of_grown hg3 (Nat.le_refl _) Hb2.out.size))
  clear hx hc3 hg3
  go_wp2_with fail
  go_ret2
  exact ⟨x, n, HX.out, HN.out, rfl, Hb3.out⟩

/-- The seeds of chapter 4's draws. -/
def seeds : List Int := [0, 7, 1000000, 1000001, -1]

set_option maxHeartbeats 400000 in
theorem drawSecret_calls (w : World) (a : Option Addr) (len cap : Nat) (hc : Code w.heap.size w (.slice a len cap) len) :
    Calls Tryd.prog 28 #[.slice a len cap] w fun e w' => ∃ s l i : Int, s ∈ seeds ∧ (0 ≤ l ∧ l < 5) ∧ (-1 ≤ i ∧ i < 10) ∧ e = .returned (.tuple #[.int .i64 s, .int .i64 l, .int .i64 i]) ∧ Below w.heap.size w w' := by
  have Hc := hide hc
  clear hc
  go_enter Tryd.func28, Tryd.ntmps28
  go_wp2_with fail
  refine (new_calls _ a len cap Hc.out).mono ?_
  rintro e w1 ⟨rfl, hc1, hb1⟩
  have Hc1 := hide hc1
  have Hb1 := hide hb1
  clear hc1 hb1
  go_wp2_with fail
  refine (pick_calls _ _ w1 Hc1.out seeds (by decide) (by decide) 5 rfl _ rfl).mono ?_
  rintro e w2 ⟨n, hn, rfl, hc2, hg2⟩
  have HN := hide hn
  have Hc2 := hide hc2
  have Hb2 := hide (Hb1.out.trans (below_of_grown hg2 (Nat.le_refl _) Hb1.out.size))
  clear hn hc2 hg2
  go_wp2_with fail
  refine (below_calls _ _ _ Hc2.out 5 (by decide) (by decide)).mono ?_
  rintro e w3 ⟨x, hx, rfl, hc3, hg3⟩
  have Hc3 := hide hc3
  have Hb3 := hide (Hb2.out.trans (below_of_grown hg3 (Nat.le_refl _) Hb2.out.size))
  clear hc3 hg3
  go_wp2_with fail
  refine (below_calls _ _ _ Hc3.out 11 (by decide) (by decide)).mono ?_
  rintro e w4 ⟨y, hy, rfl, hc4, hg4⟩
  have Hb4 := hide (Hb3.out.trans (below_of_grown hg4 (Nat.le_refl _) Hb3.out.size))
  clear hc4 hg4
  go_wp2_with fail
  refine bodyPost_ret (v := .tuple #[.int .i64 n, .int .i64 (x : Int), .int .i64 ((y : Int) - 1)]) (by simp [results, Tryd.results28, go_sem]) rfl ⟨n, x, (y : Int) - 1, HN.out, by omega, by omega, rfl, Hb4.out⟩
end Go.Proofs.YtmjpdccfdaajmaaDoor.Cu
