/- Slices of steps that came in as arguments: what the walk is told of them; no condition. -/
import Derived.Test.YthafpkpmnhgmaaaZU
import Derived.Test.YthafpkpmnhgmaaaZV
import Derived.Deep.Strs
namespace Go.Proofs.Ythafpkpmnhgmaaa.Frame
set_option maxRecDepth 8000
open Go.RowKit Go.ChangeShapes Go.WideShapes Go.Deep P1 P5 P6 P7 Rc

instance : Inhabited St := ⟨St.zero⟩

/-- A slice of ints that came in. -/
theorem trod_ints {H : Type} {enc : TypeId × Value → H} {W : World} {spare : Nat → Bool} {held : Bool} {fuel : Nat} {c : Value} {x : DataW H × List MemPlace} (h : DataW.trod enc Try.prog W 0 spare held fuel 28 [c] = some x) : ∃ l, IntsAt W c l ∧ l.length ≤ maxLen := by
  rcases open_ints Try.underlying28 Try.underlying3 (by kernel_rfl) h with ⟨hcs, _⟩ | ⟨a, len, cap, zs, hcs, _, hl, hm, hz, _, hc, _⟩
  · simp only [List.cons.injEq, and_true] at hcs
    subst hcs
    exact ⟨[], ⟨none, 0, rfl, fun j hj => by simp at hj⟩, by simp⟩
  · simp only [List.cons.injEq, and_true] at hcs
    subst hcs
    have hlz : len ≤ zs.length := by rw [hz]; split <;> omega
    obtain ⟨g, off, f⟩ := a
    refine ⟨zs.take len, ⟨some ⟨g, off, f⟩, cap, by rw [List.length_take]; congr 1; omega, fun j hj => ?_⟩, by rw [List.length_take]; omega⟩
    have hj' : j < zs.length := by rw [List.length_take] at hj; omega
    have h1 := hc j hj'
    have hspot : f = none := by simpa [Addr.add] using World.cell?_spot (hc 0 (by omega))
    subst hspot
    rw [add_plain] at h1
    refine ⟨g, off, rfl, World.block_lt_of_cell? _ _ h1, ?_⟩
    rw [h1]
    simp [List.getD_eq_getElem?_getD, hj']

theorem trod_step {H : Type} {enc : TypeId × Value → H} {W : World} {spare : Nat → Bool} {held : Bool} {fuel : Nat} {cs : List Value} {x : DataW H × List MemPlace} (h : DataW.trod enc Try.prog W 0 spare held fuel 120 cs = some x) :
    ∃ (s : St) (u : Value), cs = stC s u ∧ IntsAt W u s.fr ∧ s.fr.length ≤ maxLen := by
  have c14 : Try.prog.cellsOf 120 = 14 := by kernel_rfl
  have c10 : Try.prog.cellsOf 68 = 10 := by kernel_rfl
  have c3 : Try.prog.cellsOf 118 = 3 := by kernel_rfl
  have c1 : Try.prog.cellsOf 28 = 1 := by kernel_rfl
  obtain ⟨y0, y1, y2, n, _, hl, k0, k1, k2⟩ := trod_struct3 Try.underlying120 h
  rw [c14] at hl
  match cs, hl with
  | [z0, z1, z2, z3, z4, z5, z6, z7, z8, z9, z10, z11, z12, z13], _ =>
    simp only [c10, c3, c1, List.drop_zero, List.drop_succ_cons, List.take_succ_cons, List.take_zero] at k0 k1 k2
    obtain ⟨c, e0⟩ := trod_cred k0
    obtain ⟨f, e1⟩ := trod_fact k1
    obtain ⟨fr, hfr, hlen⟩ := trod_ints k2
    refine ⟨⟨c, f, fr⟩, z13, ?_, hfr, hlen⟩
    simp only [Value.cells, List.cons.injEq, and_true] at e0
    simp only [faR, List.map_cons, List.map_nil, List.cons.injEq, and_true] at e1
    obtain ⟨rfl, rfl, rfl, rfl, rfl, rfl, rfl, rfl, rfl, rfl⟩ := e0
    obtain ⟨rfl, rfl, rfl⟩ := e1
    rfl

theorem open_steps {H : Type} {enc : TypeId × Value → H} {W : World} {r : Reach} {base : Nat} {spare : Nat → Bool} {held : Bool} {v : Value} {d : DataW H} {ps : List MemPlace} (hval : Value.okWide Try.prog W r base 52 v) (h : DataW.Trod enc Try.prog W 0 spare held 52 v d ps) :
    ∃ l : List St, StepsAt W v l ∧ l.length ≤ maxLen ∧ ∀ s ∈ l, s.fr.length ≤ maxLen := by
  obtain ⟨a, len, cap, hv⟩ := okWide_slice Try.underlying52 hval
  obtain ⟨fuel, hf⟩ := h
  subst hv
  have c14 : Try.prog.cellsOf 120 = 14 := by kernel_rfl
  rcases open_slice Try.underlying52 hf with ⟨hcs, _⟩ | ⟨a', len', cap', m, n, D, Pl, hcs, hb, hl, hm, hmm, _, hx⟩
  · simp only [Value.cells, List.cons.injEq, and_true, Value.slice.injEq] at hcs
    obtain ⟨rfl, rfl, rfl⟩ := hcs
    exact ⟨[], ⟨none, 0, rfl, fun j hj => by simp at hj⟩, by simp, by simp⟩
  · simp only [Value.cells, List.cons.injEq, and_true, Value.slice.injEq] at hcs
    obtain ⟨rfl, rfl, rfl⟩ := hcs
    have hlm : len ≤ m := by rw [hmm]; split <;> omega
    have each : ∀ i, i < len → ∃ y : St × Value, W.cells? 0 (a'.add (i * 14)) 14 = some (stC y.1 y.2) ∧ IntsAt W y.2 y.1.fr ∧ y.1.fr.length ≤ maxLen := fun i hi => by
      obtain ⟨cs', h1, h2⟩ := hx i (by omega)
      obtain ⟨s, u, rfl, h3, h4⟩ := trod_step h2
      rw [c14] at h1
      exact ⟨(s, u), h1, h3, h4⟩
    haveI : Inhabited (St × Value) := ⟨(St.zero, .nilIface)⟩
    obtain ⟨Y, hY⟩ := choose_lt each
    refine ⟨(List.range len).map fun i => (Y i).1, ⟨some a', cap, by simp, fun j hj => ?_⟩, by simp; omega, ?_⟩
    · have hj' : j < len := by simpa using hj
      obtain ⟨h1, h2, _⟩ := hY j hj'
      have hcell := (World.cells?_some h1).2.2
      have h00 : W.cell? ((a'.add (0 * 14)).add 0) = some (.int .i64 (Y 0).1.c.k) := (World.cells?_some (hY 0 (by omega)).1).2.2 0 (by decide)
      obtain ⟨g, off, f⟩ := a'
      have hspot : f = none := by simpa [Addr.add] using World.cell?_spot h00
      subst hspot
      have hblk : g < W.heap.size := by simpa [Addr.add] using World.block_lt_of_cell? _ _ h00
      refine ⟨g, off, rfl, hblk, fun i hi => ?_, (Y j).2, ?_, ?_⟩
      · have h3 := hcell i (by omega)
        rw [add_plain, add_plain] at h3
        rw [h3]
        simp only [List.getElem_map, List.getElem_range]
        unfold stC
        rw [List.getElem?_append_left (by simpa [ints] using hi), List.getElem?_map]
      · have h3 := hcell 13 (by omega)
        rw [add_plain, add_plain] at h3
        exact h3
      · simpa using h2
    · intro s hs
      simp only [List.mem_map, List.mem_range] at hs
      obtain ⟨i, hi, rfl⟩ := hs
      exact (hY i hi).2.2
end Go.Proofs.Ythafpkpmnhgmaaa.Frame
