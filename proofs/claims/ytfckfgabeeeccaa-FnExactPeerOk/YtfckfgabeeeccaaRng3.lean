/- The specification's l08Has, OrderedFrom; condition: at most 2^20 ids. -/
import Derived.Test.YtfckfgabeeeccaaRng2
import Derived.Test.YtfckfgabeeeccaaDraw
namespace Go.Proofs.Ytfckfgabeeeccaa.P8
open Go.RowKit P1

theorem ins_snoc (a x z : Int) : ∀ l : List Int, (∃ y ∈ l, ahd a x < ahd a y) → ins a x (l ++ [z]) = ins a x l ++ [z] := by
  intro l
  induction l with
  | nil => rintro ⟨y, hy, _⟩; cases hy
  | cons y l ih =>
    intro h
    show (if ahd a x < ahd a y then _ else y :: ins a x (l ++ [z])) = (if ahd a x < ahd a y then _ else _) ++ [z]
    by_cases hy : ahd a x < ahd a y
    · rw [if_pos hy, if_pos hy]; rfl
    · rw [if_neg hy, if_neg hy, ih]
      · rfl
      · obtain ⟨u, hu, hlt⟩ := h
        rcases List.mem_cons.1 hu with rfl | hu
        · exact absurd hlt hy
        · exact ⟨u, hu, hlt⟩

/-- How far the putting in has come. -/
def Part (a x : Int) (out : List Int) (k : Nat) (nx : List Int) (put : Bool) : Prop :=
  (put = false ∧ nx = out.take k ∧ ∀ y ∈ out.take k, ahd a y ≤ ahd a x) ∨ (put = true ∧ nx = ins a x (out.take k) ∧ ∃ y ∈ out.take k, ahd a x < ahd a y)

theorem Part.start (a x : Int) (out : List Int) : Part a x out 0 [] false := .inl ⟨rfl, rfl, by simp⟩

theorem Part.put {a x : Int} {out nx : List Int} {k : Nat} (h : Part a x out k nx true) (hk : k < out.length) : Part a x out (k + 1) (nx ++ [out[k]]) true := by
  rcases h with ⟨h, _⟩ | ⟨_, rfl, h⟩
  · cases h
  · refine .inr ⟨rfl, ?_, ?_⟩
    · rw [List.take_succ_eq_append_getElem hk, ins_snoc _ _ _ _ h]
    · rw [List.take_succ_eq_append_getElem hk]
      obtain ⟨y, hy, hlt⟩ := h
      exact ⟨y, List.mem_append_left _ hy, hlt⟩

theorem Part.now {a x : Int} {out nx : List Int} {k : Nat} (h : Part a x out k nx false) (hk : k < out.length) (hlt : ahd a x < ahd a out[k]) : Part a x out (k + 1) ((nx ++ [x]) ++ [out[k]]) true := by
  rcases h with ⟨_, rfl, h⟩ | ⟨h, _⟩
  · refine .inr ⟨rfl, ?_, ?_⟩
    · rw [List.take_succ_eq_append_getElem hk, ins_skip _ _ _ _ h, ins_head _ _ _ (by simpa using hlt)]
      simp
    · rw [List.take_succ_eq_append_getElem hk]
      exact ⟨out[k], List.mem_append_right _ (List.mem_singleton.2 rfl), hlt⟩
  · cases h

theorem Part.not {a x : Int} {out nx : List Int} {k : Nat} (h : Part a x out k nx false) (hk : k < out.length) (hlt : ¬ ahd a x < ahd a out[k]) : Part a x out (k + 1) (nx ++ [out[k]]) false := by
  rcases h with ⟨_, rfl, h⟩ | ⟨h, _⟩
  · refine .inl ⟨rfl, ?_, ?_⟩
    · rw [List.take_succ_eq_append_getElem hk]
    · rw [List.take_succ_eq_append_getElem hk]
      intro y hy
      rcases List.mem_append.1 hy with hy | hy
      · exact h y hy
      · simp only [List.mem_singleton] at hy
        subst hy
        omega
  · cases h

theorem Part.len {a x : Int} {out nx : List Int} {k : Nat} {put : Bool} (h : Part a x out k nx put) : nx.length ≤ k + 1 := by
  rcases h with ⟨_, rfl, _⟩ | ⟨_, rfl, _⟩
  · rw [List.length_take]; omega
  · rw [ins_length, List.length_take]; omega

theorem Part.endF {a x : Int} {out nx : List Int} (h : Part a x out out.length nx false) : nx ++ [x] = ins a x out := by
  rcases h with ⟨_, rfl, h⟩ | ⟨h, _⟩
  · rw [List.take_length] at h ⊢
    have := ins_skip a x out [] h
    rw [List.append_nil] at this
    rw [this]
    rfl
  · cases h

theorem Part.endT {a x : Int} {out nx : List Int} (h : Part a x out out.length nx true) : nx = ins a x out := by
  rcases h with ⟨h, _⟩ | ⟨_, rfl, _⟩
  · cases h
  · rw [List.take_length]

theorem own_lit0 (w : World) : (w.alloc (.cells #[] 3)).ownsRow w.heap.size 3 1 (.slice (some ⟨w.heap.size, 0, none⟩) 0 0) ([] : List Int).length (cellsI []) :=
  World.ownsRow_lit (base := w.heap.size) (e := 3) (size := 1) w #[] 0 (Nat.le_refl _) (by decide) rfl

theorem own_sh {w : World} {B : Nat} {e : TypeId} {size : Nat} {v : Value} {n : Nat} {xs : List Value} (h : w.ownsRow B e size v n xs) : ∃ a c, v = .slice a n c := by
  rcases h.2 with ⟨rfl, hn⟩ | ⟨g, cap, cur, rfl, _⟩
  · exact ⟨none, 0, by rw [hn]⟩
  · exact ⟨_, _, rfl⟩
end Go.Proofs.Ytfckfgabeeeccaa.P8
