/- The draws of texts and places: some text of the length that was asked, some numbers within their bounds; only the cursor is written.
The draws that pick out of a written list: some member of it; only the cursor is written.
The draws of chapter 4: some text of four, some numbers; only the cursor is written. -/
import Derived.Test.YtiaifoklndcpaaaGreatZD
import Derived.Test.YtiaifoklndcpaaaGreatZA
namespace Go.Proofs.YtiaifoklndcpaaaGreat.Cu
set_option maxRecDepth 8000
open Go.RowKit P1

theorem cur_below {B C g : Nat} {w w' : World} (h : Cur B w g) (hb : Below C w w') (hg : g < C) : Cur B w' g := by
  obtain ⟨h1, h2, v, n, i, z, h3, h4, h5, h6, h7, h8⟩ := h
  have hc : ∀ o, w'.cell? ⟨g, o, none⟩ = w.cell? ⟨g, o, none⟩ := fun o => hb.cell (p := ⟨g, o, none⟩) hg
  exact ⟨h1, Nat.lt_of_lt_of_le h2 hb.size, v, n, i, z, h3.below (fun k hk => hb.block k (by omega)), h4, by rw [hc]; exact h5, by rw [hc]; exact h6, by rw [hc]; exact h7, fun o => by rw [hb.frozen (p := ⟨g, o, none⟩) hg]; exact h8 o⟩

theorem grown_below {w w0 w' : World} {r : Option Nat} (h : w.grownBy w0 r) (hb : Below w.heap.size w0 w') : w.grownBy w' r :=
  ⟨hb.os.trans h.os, hb.tape.trans h.tape, hb.output.trans h.output, Nat.le_trans h.size hb.size, fun k hk hne => (hb.block k hk).trans (h.block k hk hne)⟩

theorem own_kept {w w' : World} {B e size n g : Nat} {v : Value} {xs : List Value} (h : w.ownsRow B e size v n xs) (hg : w.grownBy w' (some g)) (hlt : g < B) : w'.ownsRow B e size v n xs := by
  refine h.kept hg ?_
  cases hb : v.ownBlock with
  | none => exact .inl rfl
  | some k =>
    right
    intro e
    have h1 : k = g := by simpa using e
    have h2 := (h.lt k hb).1
    omega

/-- What a drawn text leaves. -/
def TextR (B g m : Nat) (w : World) (e : Ending) (w' : World) : Prop := ∃ l : List UInt8, l.length = m ∧ e = .returned (.string ⟨l.toArray⟩) ∧ Cur B w' g ∧ w.grownBy w' (some g)

theorem info_byte : (Tryz.prog.info? 5).map (fun i => (i.zero, i.size, i.bytes)) = some (some (.int .u8 0), 1, 1) := by kernel_rfl

theorem byte_cast (x : Nat) (hx : x < 256) : ((UInt8.ofNat x).toNat : Int) = (x : Int) := by simp; omega

theorem info_int : (Tryz.prog.info? 3).map (fun i => (i.zero, i.size, i.bytes)) = some (some (.int .i64 0), 1, 8) := by kernel_rfl

/-- Twelve places below 10000, in memory of their own. -/
def PlacesR (w : World) (e : Ending) (w' : World) : Prop := ∃ v, ∃ l : List Int, l.length = 12 ∧ (∀ x ∈ l, 0 ≤ x ∧ x < 10000) ∧ e = .returned v ∧ w'.ownsRow w.heap.size 3 1 v l.length (cellsI l) ∧ Below w.heap.size w w'

theorem big_calls (w : World) (a : Option Addr) (len cap : Nat) :
    Calls Tryz.prog 4 #[.slice a len cap] w fun e w' => e = .returned (.bool (decide (1048576 < (len : Int)))) ∧ w' = w := by
  go_enter Tryz.func4, Tryz.ntmps4
  go_wp2
  go_ret
  exact ⟨rfl, rfl⟩
end Go.Proofs.YtiaifoklndcpaaaGreat.Cu
namespace Go.Proofs.YtiaifoklndcpaaaGreat.Cu
open Go.RowKit P1

/-- What a pick leaves. -/
def PickR (B g : Nat) (l : List Int) (w : World) (e : Ending) (w' : World) : Prop := ∃ x, x ∈ l ∧ e = .returned (.int .i64 x) ∧ Cur B w' g ∧ w.grownBy w' (some g)

/-- A world with something more. -/
def grown_ok (w w1 : World) : Prop := Below w.heap.size w w1

theorem grown_ok.then_ {w w1 w2 : World} {r : Option Nat} (h : grown_ok w w1) (k : w1.grownBy w2 r) : w.grownBy w2 r :=
  ⟨k.os.trans h.os, k.tape.trans h.tape, k.output.trans h.output, Nat.le_trans h.size k.size, fun i hi hne => (k.block i (Nat.lt_of_lt_of_le hi h.size) hne).trans (h.block i hi)⟩
end Go.Proofs.YtiaifoklndcpaaaGreat.Cu
namespace Go.Proofs.YtiaifoklndcpaaaGreat.Cu
set_option maxRecDepth 8000
open Go.RowKit P1

/-- What a pick of a text leaves. -/
def PickS (B g : Nat) (l : List (List UInt8)) (w : World) (e : Ending) (w' : World) : Prop := ∃ x, x ∈ l ∧ e = .returned (.string ⟨x.toArray⟩) ∧ Cur B w' g ∧ w.grownBy w' (some g)

set_option maxHeartbeats 400000 in
theorem pickS_calls (B g : Nat) (w : World) (hc : Cur B w g) (l : List (List UInt8)) (hl0 : 0 < l.length) (hl : l.length ≤ 65536) (n : Nat) (hn : n = l.length) (cs : Array Value) (hcs : cs = (cellsS l).toArray) :
    Calls Tryz.prog 73 #[.pointer (some ⟨g, 0, none⟩), .slice (some ⟨w.heap.size, 0, none⟩) n n] (w.alloc (.cells cs 9)) fun e w' => PickS B g l w e w' := by
  have hg := hc.2.1
  have hb : Below w.heap.size w (w.alloc (.cells cs 9)) := (Below.refl _ _).alloc (Nat.le_refl _) _
  have hc2 := cur_below hc hb hg
  have hcell : ∀ j (hj : j < l.length), (w.alloc (.cells cs 9)).cell? ⟨w.heap.size, j, none⟩ = some (.string ⟨(l[j]).toArray⟩) := by
    intro j hj
    have hh : (w.alloc (.cells cs 9)).heap[w.heap.size]? = some (.cells cs 9) := by
      show (w.heap.push _)[w.heap.size]? = _
      simp
    have hc : (w.alloc (.cells cs 9)).cell? ⟨w.heap.size, j, none⟩ = cs[j]? := by
      simp only [World.cell?, hh]
      rfl
    rw [hc, hcs]
    simp [cellsS, hj]
  obtain ⟨gl, hgl⟩ : ∃ gl, gl = w.heap.size := ⟨_, rfl⟩
  have hglt : gl < (w.alloc (.cells cs 9)).heap.size := by rw [hgl]; simp
  have hgg : grown_ok w (w.alloc (.cells cs 9)) := hb
  obtain ⟨w1, hw1⟩ : ∃ w1, w1 = w.alloc (.cells cs 9) := ⟨_, rfl⟩
  rw [← hw1] at hc2 hcell hglt hgg ⊢
  have hne : gl ≠ g := by omega
  rw [← hgl] at hcell ⊢
  have HC := hide hc2
  have HCell := hide hcell
  have HG := hide hgg
  clear hb hc hcell hgg hw1 hgl hc2 hcs
  subst hn
  go_enter Tryz.func73, Tryz.ntmps73
  go_wp2_with fail
  refine (below_calls B g _ HC.out l.length hl0 (by omega)).mono ?_
  rintro e w2 ⟨x, hx, rfl, hc2, hg2⟩
  have hcx := HCell.out x hx
  have hcx2 : w2.cell? ⟨gl, x, none⟩ = some (.string ⟨(l[x]).toArray⟩) := by
    rw [World.cell?_of_block (w := w1) (hg2.block gl hglt (by intro h; cases h; exact hne rfl))]
    exact hcx
  have hmem : l[x] ∈ l := List.getElem_mem _
  have HC2 := hide hc2
  have HG2 := hide hg2
  obtain ⟨z, Ez⟩ : ∃ z, Hid (z = l[x]) := ⟨_, hide rfl⟩
  rw [← Ez.out] at hcx2 hmem
  have HME := hide hmem
  clear hc2 hg2 hcx hmem Ez
  go_wp2
  go_ret
  exact ⟨z, HME.out, rfl, HC2.out, HG.out.then_ HG2.out⟩

/-- The texts of chapter 4's draws. -/
def fourTexts : List (List UInt8) := [[], [97], [119, 111, 114, 100], [115, 111, 109, 101, 32, 116, 101, 120, 116, 32, 104, 101, 114, 101]]

theorem fourTexts_le (x : List UInt8) (h : x ∈ fourTexts) : x.length ≤ 14 := by
  simp only [fourTexts, List.mem_cons, List.not_mem_nil, or_false] at h
  rcases h with rfl | rfl | rfl | rfl <;> decide

/-- The numbers that a chain's draw picks from. -/
def chainNs : List Int := [0, 1, 2, 3, 4, -1, 9223372036854775807]

/-- The seeds of chapter 4's draws. -/
def seeds : List Int := [0, 7, 1000000, 1000001, -1]
end Go.Proofs.YtiaifoklndcpaaaGreat.Cu
