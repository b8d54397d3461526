/- The draws of texts and places: some text of the length that was asked, some numbers within their bounds; only the cursor is written.
The draws that pick out of a written list: some member of it; only the cursor is written.
The draws of chapter 4: some text of four, some numbers; only the cursor is written. -/
import Derived.Test.YtckldfknhmhkgaaZD
import Derived.Test.YtckldfknhmhkgaaZA
namespace Go.Proofs.Ytckldfknhmhkgaa.Cu
set_option maxRecDepth 8000
open Go.RowKit P1

theorem cur_below {B C g : Nat} {w w' : World} (h : Cur B w g) (hb : Below C w w') (hg : g < C) : Cur B w' g := by
  obtain ⟨h1, h2, v, n, i, z, h3, h4, h5, h6, h7, h8⟩ := h
  have hc : ∀ o, w'.cell? ⟨g, o, none⟩ = w.cell? ⟨g, o, none⟩ := fun o => hb.cell (p := ⟨g, o, none⟩) hg
  exact ⟨h1, Nat.lt_of_lt_of_le h2 hb.size, v, n, i, z, h3.below (fun k hk => hb.block k (by omega)), h4, by rw [hc]; exact h5, by rw [hc]; exact h6, by rw [hc]; exact h7, fun o => by rw [hb.frozen (p := ⟨g, o, none⟩) hg]; exact h8 o⟩

theorem grown_below {w w0 w' : World} {r : Option Nat} (h : w.grownBy w0 r) (hb : Below w.heap.size w0 w') : w.grownBy w' r :=
  ⟨hb.os.trans h.os, hb.tape.trans h.tape, hb.output.trans h.output, Nat.le_trans h.size hb.size, fun k hk hne => (hb.block k hk).trans (h.block k hk hne)⟩

theorem own_kept {w w' : World} {B e size n g : Nat} {v : Value} {xs : List Value} (h : w.ownsRow B e size v n xs) (hg : w.grownBy w' (some g)) (hlt : g < B) : w'.ownsRow B e size v n xs := by
  refine h.kept hg ?_
  cases hb : v.ownBlock with
  | none => exact .inl rfl
  | some k =>
    right
    intro e
    have h1 : k = g := by simpa using e
    have h2 := (h.lt k hb).1
    omega

/-- What a drawn text leaves. -/
def TextR (B g m : Nat) (w : World) (e : Ending) (w' : World) : Prop := ∃ l : List UInt8, l.length = m ∧ e = .returned (.string ⟨l.toArray⟩) ∧ Cur B w' g ∧ w.grownBy w' (some g)

theorem info_byte : (Try.prog.info? 5).map (fun i => (i.zero, i.size, i.bytes)) = some (some (.int .u8 0), 1, 1) := by kernel_rfl

theorem byte_cast (x : Nat) (hx : x < 256) : ((UInt8.ofNat x).toNat : Int) = (x : Int) := by simp; omega

theorem info_int : (Try.prog.info? 3).map (fun i => (i.zero, i.size, i.bytes)) = some (some (.int .i64 0), 1, 8) := by kernel_rfl

/-- Twelve places below 10000, in memory of their own. -/
def PlacesR (w : World) (e : Ending) (w' : World) : Prop := ∃ v, ∃ l : List Int, l.length = 12 ∧ (∀ x ∈ l, 0 ≤ x ∧ x < 10000) ∧ e = .returned v ∧ w'.ownsRow w.heap.size 3 1 v l.length (cellsI l) ∧ Below w.heap.size w w'

set_option maxHeartbeats 400000 in
theorem places_calls (w : World) (a : Option Addr) (len cap : Nat) (hc : Code w.heap.size w (.slice a len cap) len) :
    Calls Try.prog 6 #[.slice a len cap] w fun e w' => PlacesR w e w' := by
  have Hc := hide hc
  clear hc
  obtain ⟨i0, hi, hz0, hz1, hz2⟩ := info_parts info_int
  go_enter Try.func6, Try.ntmps6
  go_wp2_with fail
  refine (new_calls _ a len cap Hc.out).mono ?_
  rintro e w1 ⟨rfl, hc1, hb1⟩
  have Hc1 := hide hc1
  have Hb1 := hide hb1
  clear hc1 hb1
  go_wp2_with fail
  refine (byte_calls _ _ _ Hc1.out).mono ?_
  rintro e w2 ⟨x, hx, rfl, hc2, hg2⟩
  have hlt := hc2.2.1
  have Hc2 := hide hc2
  have Hb2 := hide (Hb1.out.trans (below_of_grown hg2 (Nat.le_refl _) Hb1.out.size))
  clear hc2 hg2
  go_wp2
  go_loopw [4, 5] (fun v i wr => ∃ l : List Int, l.length ≤ 12 ∧ i = .int .i64 l.length ∧ (∀ x ∈ l, 0 ≤ x ∧ x < 10000) ∧ wr.ownsRow w2.heap.size 3 1 v l.length (cellsI l) ∧ Cur w.heap.size wr w.heap.size ∧ Below w.heap.size w wr ∧ w2.heap.size ≤ wr.heap.size) (fun _ i _ => 12 - (intOf i).toNat)
  case atStart =>
    have hb : Below w2.heap.size w2 (w2.alloc (.cells #[] 3)) := (Below.refl _ _).alloc (Nat.le_refl _) _
    exact ⟨[], Nat.zero_le _, rfl, by simp, World.ownsRow_lit _ _ 0 (Nat.le_refl _) (by decide) rfl, cur_below Hc2.out hb hlt, Hb2.out.trans (hb.mono (Nat.le_of_lt hlt)), hb.size⟩
  case round =>
    obtain ⟨l, hl, rfl, hall, hown, hcur, hbel, hsz⟩ := hrel
    have Hown := hide hown
    have Hcur := hide hcur
    have Hbel := hide hbel
    have Hall := hide hall
    clear hown hcur hbel hall
    by_cases h12 : l.length < 12
    · go_wp2_with fail
      refine (below_calls _ _ _ Hcur.out 10000 (by decide) (by decide)).mono ?_
      rintro e w3 ⟨y, hy, rfl, hc3, hg3⟩
      have Hc3 := hide hc3
      have Hown3 := hide (own_kept Hown.out hg3 hlt)
      have Hb3 := hide (Hbel.out.trans (below_of_grown hg3 (Nat.le_refl _) Hbel.out.size))
      have hsz3 : w2.heap.size ≤ w3.heap.size := Nat.le_trans hsz hg3.size
      clear hc3 hg3
      go_wp2_with (at_builtin; refine wpList_append_one (cs := #[.int .i64 y]) (Below.refl w2.heap.size _) hsz3 rfl (.tmp 15) (.tmp 18) 24 rfl 3 i0 (.int .i64 0) 1 8 Try.underlying24 hi hz0 hz1 hz2 rfl (by decide) rfl (by simp [Value.oneCell']) _ _ _ rfl Hown3.out 1 rfl (by omega) (by omega) ?_)
      intro v' w4 hown4 hbel4
      have Hown4 := hide hown4
      have Hbel4 := hide hbel4
      have hsz4 := hbel4.size
      clear hown4 hbel4
      go_wp2
      go_roundw
      case rel =>
        refine ⟨l ++ [(y : Int)], by simp; omega, by simp, ?_, own_snocI Hown4.out, cur_below Hc3.out Hbel4.out hlt, Hb3.out.trans (Hbel4.out.mono (Nat.le_of_lt hlt)), by omega⟩
        intro x hx
        rcases List.mem_append.1 hx with h | h
        · exact Hall.out x h
        · simp at h; omega
      case measure => simp [intOf]; omega
    · go_wp2
      go_ret
      exact ⟨_, l, by omega, Hall.out, rfl, own_mono Hown.out (Nat.le_of_lt hlt), Hbel.out⟩

theorem big_calls (w : World) (a : Option Addr) (len cap : Nat) :
    Calls Try.prog 4 #[.slice a len cap] w fun e w' => e = .returned (.bool (decide (1048576 < (len : Int)))) ∧ w' = w := by
  go_enter Try.func4, Try.ntmps4
  go_wp2
  go_ret
  exact ⟨rfl, rfl⟩
end Go.Proofs.Ytckldfknhmhkgaa.Cu
namespace Go.Proofs.Ytckldfknhmhkgaa.Cu
set_option maxRecDepth 8000
open Go.RowKit P1

/-- What a pick leaves. -/
def PickR (B g : Nat) (l : List Int) (w : World) (e : Ending) (w' : World) : Prop := ∃ x, x ∈ l ∧ e = .returned (.int .i64 x) ∧ Cur B w' g ∧ w.grownBy w' (some g)

/-- A world with something more. -/
def grown_ok (w w1 : World) : Prop := Below w.heap.size w w1

theorem grown_ok.then_ {w w1 w2 : World} {r : Option Nat} (h : grown_ok w w1) (k : w1.grownBy w2 r) : w.grownBy w2 r :=
  ⟨k.os.trans h.os, k.tape.trans h.tape, k.output.trans h.output, Nat.le_trans h.size k.size, fun i hi hne => (k.block i (Nat.lt_of_lt_of_le hi h.size) hne).trans (h.block i hi)⟩

set_option maxHeartbeats 400000 in
theorem pick_calls (B g : Nat) (w : World) (hc : Cur B w g) (l : List Int) (hl0 : 0 < l.length) (hl : l.length ≤ 65536) (n : Nat) (hn : n = l.length) (cs : Array Value) (hcs : cs = (cellsI l).toArray) :
    Calls Try.prog 34 #[.pointer (some ⟨g, 0, none⟩), .slice (some ⟨w.heap.size, 0, none⟩) n n] (w.alloc (.cells cs 3)) fun e w' => PickR B g l w e w' := by
  have hg := hc.2.1
  have hb : Below w.heap.size w (w.alloc (.cells cs 3)) := (Below.refl _ _).alloc (Nat.le_refl _) _
  have hc2 := cur_below hc hb hg
  have hcell : ∀ j (hj : j < l.length), (w.alloc (.cells cs 3)).cell? ⟨w.heap.size, j, none⟩ = some (.int .i64 l[j]) := by
    intro j hj
    have hh : (w.alloc (.cells cs 3)).heap[w.heap.size]? = some (.cells cs 3) := by
      show (w.heap.push _)[w.heap.size]? = _
      simp
    have hc : (w.alloc (.cells cs 3)).cell? ⟨w.heap.size, j, none⟩ = cs[j]? := by
      simp only [World.cell?, hh]
      rfl
    rw [hc, hcs]
    simp [cellsI, hj]
  obtain ⟨gl, hgl⟩ : ∃ gl, gl = w.heap.size := ⟨_, rfl⟩
  have hglt : gl < (w.alloc (.cells cs 3)).heap.size := by rw [hgl]; simp
  have hgg : grown_ok w (w.alloc (.cells cs 3)) := hb
  obtain ⟨w1, hw1⟩ : ∃ w1, w1 = w.alloc (.cells cs 3) := ⟨_, rfl⟩
  rw [← hw1] at hc2 hcell hglt hgg ⊢
  have hne : gl ≠ g := by omega
  rw [← hgl] at hcell ⊢
  have HC := hide hc2
  have HCell := hide hcell
  have HG := hide hgg
  clear hb hc hcell hgg hw1 hgl hc2 hcs
  subst hn
  go_enter Try.func34, Try.ntmps34
  go_wp2_with fail
  refine (below_calls B g _ HC.out l.length hl0 (by omega)).mono ?_
  rintro e w2 ⟨x, hx, rfl, hc2, hg2⟩
  have hcx := HCell.out x hx
  have hcx2 : w2.cell? ⟨gl, x, none⟩ = some (.int .i64 l[x]) := by
    rw [World.cell?_of_block (w := w1) (hg2.block gl hglt (by intro h; cases h; exact hne rfl))]
    exact hcx
  have hmem : l[x] ∈ l := List.getElem_mem _
  have HC2 := hide hc2
  have HG2 := hide hg2
  have HME := hide hmem
  clear hc2 hg2 hcx hmem
  go_wp2
  go_ret
  exact ⟨l[x], HME.out, rfl, HC2.out, HG.out.then_ HG2.out⟩
end Go.Proofs.Ytckldfknhmhkgaa.Cu
namespace Go.Proofs.Ytckldfknhmhkgaa.Cu
set_option maxRecDepth 8000
open Go.RowKit P1

/-- What a pick of a text leaves. -/
def PickS (B g : Nat) (l : List (List UInt8)) (w : World) (e : Ending) (w' : World) : Prop := ∃ x, x ∈ l ∧ e = .returned (.string ⟨x.toArray⟩) ∧ Cur B w' g ∧ w.grownBy w' (some g)

set_option maxHeartbeats 400000 in
theorem pickS_calls (B g : Nat) (w : World) (hc : Cur B w g) (l : List (List UInt8)) (hl0 : 0 < l.length) (hl : l.length ≤ 65536) (n : Nat) (hn : n = l.length) (cs : Array Value) (hcs : cs = (cellsS l).toArray) :
    Calls Try.prog 49 #[.pointer (some ⟨g, 0, none⟩), .slice (some ⟨w.heap.size, 0, none⟩) n n] (w.alloc (.cells cs 9)) fun e w' => PickS B g l w e w' := by
  have hg := hc.2.1
  have hb : Below w.heap.size w (w.alloc (.cells cs 9)) := (Below.refl _ _).alloc (Nat.le_refl _) _
  have hc2 := cur_below hc hb hg
  have hcell : ∀ j (hj : j < l.length), (w.alloc (.cells cs 9)).cell? ⟨w.heap.size, j, none⟩ = some (.string ⟨(l[j]).toArray⟩) := by
    intro j hj
    have hh : (w.alloc (.cells cs 9)).heap[w.heap.size]? = some (.cells cs 9) := by
      show (w.heap.push _)[w.heap.size]? = _
      simp
    have hc : (w.alloc (.cells cs 9)).cell? ⟨w.heap.size, j, none⟩ = cs[j]? := by
      simp only [World.cell?, hh]
      rfl
    rw [hc, hcs]
    simp [cellsS, hj]
  obtain ⟨gl, hgl⟩ : ∃ gl, gl = w.heap.size := ⟨_, rfl⟩
  have hglt : gl < (w.alloc (.cells cs 9)).heap.size := by rw [hgl]; simp
  have hgg : grown_ok w (w.alloc (.cells cs 9)) := hb
  obtain ⟨w1, hw1⟩ : ∃ w1, w1 = w.alloc (.cells cs 9) := ⟨_, rfl⟩
  rw [← hw1] at hc2 hcell hglt hgg ⊢
  have hne : gl ≠ g := by omega
  rw [← hgl] at hcell ⊢
  have HC := hide hc2
  have HCell := hide hcell
  have HG := hide hgg
  clear hb hc hcell hgg hw1 hgl hc2 hcs
  subst hn
  go_enter Try.func49, Try.ntmps49
  go_wp2_with fail
  refine (below_calls B g _ HC.out l.length hl0 (by omega)).mono ?_
  rintro e w2 ⟨x, hx, rfl, hc2, hg2⟩
  have hcx := HCell.out x hx
  have hcx2 : w2.cell? ⟨gl, x, none⟩ = some (.string ⟨(l[x]).toArray⟩) := by
    rw [World.cell?_of_block (w := w1) (hg2.block gl hglt (by intro h; cases h; exact hne rfl))]
    exact hcx
  have hmem : l[x] ∈ l := List.getElem_mem _
  have HC2 := hide hc2
  have HG2 := hide hg2
  obtain ⟨z, Ez⟩ : ∃ z, Hid (z = l[x]) := ⟨_, hide rfl⟩
  rw [← Ez.out] at hcx2 hmem
  have HME := hide hmem
  clear hc2 hg2 hcx hmem Ez
  go_wp2
  go_ret
  exact ⟨z, HME.out, rfl, HC2.out, HG.out.then_ HG2.out⟩

/-- The texts of chapter 4's draws. -/
def fourTexts : List (List UInt8) := [[], [97], [119, 111, 114, 100], [115, 111, 109, 101, 32, 116, 101, 120, 116, 32, 104, 101, 114, 101]]

theorem fourTexts_le (x : List UInt8) (h : x ∈ fourTexts) : x.length ≤ 14 := by
  simp only [fourTexts, List.mem_cons, List.not_mem_nil, or_false] at h
  rcases h with rfl | rfl | rfl | rfl <;> decide

/-- The numbers that a chain's draw picks from. -/
def chainNs : List Int := [0, 1, 2, 3, 4, -1, 9223372036854775807]

/-- The seeds of chapter 4's draws. -/
def seeds : List Int := [0, 7, 1000000, 1000001, -1]
end Go.Proofs.Ytckldfknhmhkgaa.Cu
