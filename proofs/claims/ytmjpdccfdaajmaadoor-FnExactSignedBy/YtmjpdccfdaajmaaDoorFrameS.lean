/- A signature that came in as an argument: what the walk is told of it; no condition. -/
import Derived.Test.YtmjpdccfdaajmaaDoorStrB
import Derived.Deep.Strs
import Derived.ProofKit
import Derived.OpenShut
namespace Go.Proofs.YtmjpdccfdaajmaaDoor.Frame
set_option maxRecDepth 8000
open Go.RowKit Go.ChangeShapes Go.WideShapes Go.Deep P1

/-- A slice of texts that came in. -/
def TextsIn (w : World) (v : Value) (l : List (List UInt8)) : Prop := TextsAt w v l ∧ l.length ≤ maxLen ∧ ∀ x ∈ l, x.length ≤ maxLen

theorem open_texts {H : Type} {enc : TypeId × Value → H} {W : World} {spare : Nat → Bool} {held : Bool} {fuel : Nat} {c : Value} {x : DataW H × List MemPlace} (h : DataW.trod enc Tryd.prog W 0 spare held fuel 27 [c] = some x) : ∃ l, TextsIn W c l := by
  rcases open_strs Tryd.underlying27 Tryd.underlying9 (by kernel_rfl) h with ⟨hcs, _⟩ | ⟨a, len, cap, m, Sx, hcs, _, hl, hm, hmm, _, hc⟩
  · simp only [List.cons.injEq, and_true] at hcs
    subst hcs
    exact ⟨[], ⟨none, 0, rfl, fun j hj => by simp at hj⟩, by simp, by simp⟩
  · simp only [List.cons.injEq, and_true] at hcs
    subst hcs
    have hlm : len ≤ m := by rw [hmm]; split <;> omega
    obtain ⟨g, off, f⟩ := a
    refine ⟨(List.range len).map fun i => (Sx i).data.toList, ⟨some ⟨g, off, f⟩, cap, by simp, fun j hj => ?_⟩, by simp; omega, ?_⟩
    · have hj' : j < len := by simpa using hj
      have hspot : f = none := by simpa [Addr.add] using World.cell?_spot (hc 0 (by omega)).1
      subst hspot
      have h1 := (hc j (by omega)).1
      rw [add_plain] at h1
      refine ⟨g, off, rfl, World.block_lt_of_cell? _ _ h1, ?_⟩
      rw [h1]
      simp
    · intro x hx
      simp only [List.mem_map, List.mem_range] at hx
      obtain ⟨i, hi, rfl⟩ := hx
      have := (hc i (by omega)).2
      simpa using this

theorem open_sig {H : Type} {enc : TypeId × Value → H} {W : World} {r : Reach} {base : Nat} {spare : Nat → Bool} {held : Bool} {v : Value} {d : DataW H} {ps : List MemPlace} (hval : Value.okWide Tryd.prog W r base 56 v) (h : DataW.Trod enc Tryd.prog W 0 spare held 56 v d ps) :
    ∃ leaf vE vW E Wy, v = .agg #[.int .i64 leaf, vE, vW] ∧ (-9223372036854775808 ≤ leaf ∧ leaf ≤ 9223372036854775807) ∧ TextsIn W vE E ∧ TextsIn W vW Wy := by
  obtain ⟨fuel, hf⟩ := h
  obtain ⟨cs, rfl, hsz⟩ := okWide_struct Tryd.underlying56 hval
  have h3 : Tryd.prog.cellsOf 56 = 3 := by kernel_rfl
  have c1 : Tryd.prog.cellsOf 3 = 1 := by kernel_rfl
  have c2 : Tryd.prog.cellsOf 27 = 1 := by kernel_rfl
  rw [h3] at hsz
  obtain ⟨y0, y1, y2, n, _, _, k0, k1, k2⟩ := trod_struct3 Tryd.underlying56 hf
  obtain ⟨l⟩ := cs
  match l, hsz with
  | [a, b, c], _ =>
    simp only [Value.cells, c1, c2, List.drop_zero, List.drop_succ_cons, List.take_succ_cons, List.take_zero] at k0 k1 k2
    obtain ⟨leaf, e0, _, wf⟩ := DataW.trod_int Tryd.underlying3 k0
    simp only [List.cons.injEq, and_true] at e0
    subst e0
    obtain ⟨E, hE⟩ := open_texts k1
    obtain ⟨Wy, hW⟩ := open_texts k2
    exact ⟨leaf, b, c, E, Wy, rfl, bounds_i64 wf, hE, hW⟩
end Go.Proofs.YtmjpdccfdaajmaaDoor.Frame
