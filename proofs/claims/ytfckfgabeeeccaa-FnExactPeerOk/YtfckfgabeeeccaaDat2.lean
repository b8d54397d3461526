/- Data in memory that a call owns: a cell written over, a row made; no condition. -/
import Derived.Test.YtfckfgabeeeccaaDat
import Derived.Test.YtfckfgabeeeccaaRecs
namespace Go.Proofs.Ytfckfgabeeeccaa.Da
open Go.RowKit P1 Rc

theorem OwnsAll.cur_ne {W : World} {cur : Array Value} {u : Value} {q : Nat} : ∀ (ds : List Dt) {k : Nat} {fp : List Nat}, OwnsAll W cur k ds fp → q < k → OwnsAll W (cur.setIfInBounds q u) k ds fp := by
  intro ds
  induction ds with
  | nil => intro k fp h _; unfold OwnsAll at h ⊢; exact h
  | cons x ds ih =>
    intro k fp h hq
    unfold OwnsAll at h ⊢
    obtain ⟨u0, f1, f2, h1, h2, h3, h4, h5⟩ := h
    exact ⟨u0, f1, f2, by rw [Array.getElem?_setIfInBounds_ne (by omega)]; exact h1, h2, ih h3 (by omega), h4, h5⟩

/-- One cell of a row is another datum now. -/
theorem OwnsAll.put {W W' : World} {cur : Array Value} {u : Value} {d : Dt} {f : List Nat} (hu : Owns W' u d f) : ∀ (ds : List Dt) {k : Nat} {fp : List Nat} {i : Nat}, OwnsAll W cur k ds fp → i < ds.length → (∀ g ∈ fp, W'.heap[g]? = W.heap[g]?) → (∀ g ∈ f, g ∉ fp) →
    ∃ fp', OwnsAll W' (cur.setIfInBounds (k + i) u) k (ds.set i d) fp' ∧ ∀ g ∈ fp', g ∈ fp ∨ g ∈ f := by
  intro ds
  induction ds with
  | nil => intro k fp i _ hi; simp at hi
  | cons x ds ih =>
    intro k fp i h hi hk hf
    unfold OwnsAll at h
    obtain ⟨u0, f1, f2, h1, h2, h3, rfl, h5⟩ := h
    have hlt : k < cur.size := (Array.getElem?_eq_some_iff.1 h1).1
    cases i with
    | zero =>
      refine ⟨f ++ f2, ?_, fun g hg => ?_⟩
      · rw [List.set_cons_zero]
        unfold OwnsAll
        have h3' : OwnsAll W' (cur.setIfInBounds k u) (k + 1) ds f2 := OwnsAll.cur_ne _ (h3.stay (fun q hq => hk q (by simp [hq]))) (by omega)
        exact ⟨u, f, f2, by rw [Nat.add_zero]; simp [hlt], hu, by rw [Nat.add_zero]; exact h3', rfl, fun g hg h' => hf g hg (by simp [h'])⟩
      · rcases List.mem_append.1 hg with hg | hg
        · exact .inr hg
        · exact .inl (by simp [hg])
    | succ i =>
      obtain ⟨fp', h6, h7⟩ := ih h3 (i := i) (by simpa using hi) (fun q hq => hk q (by simp [hq])) (fun g hg h' => hf g hg (by simp [h']))
      refine ⟨f1 ++ fp', ?_, fun g hg => ?_⟩
      · rw [List.set_cons_succ]
        unfold OwnsAll
        refine ⟨u0, f1, fp', ?_, h2.stay (fun q hq => hk q (by simp [hq])), by rw [show k + (i + 1) = k + 1 + i by omega]; exact h6, rfl, fun g hg h' => ?_⟩
        · rw [Array.getElem?_setIfInBounds_ne (by omega)]
          exact h1
        · rcases h7 g h' with h8 | h8
          · exact h5 g hg h8
          · exact hf g h8 (by simp [hg])
      · rcases List.mem_append.1 hg with hg | hg
        · exact .inl (by simp [hg])
        · rcases h7 g hg with h8 | h8
          · exact .inl (by simp [h8])
          · exact .inr h8
theorem heap_setCell_same {W : World} {g i : Nat} {cur : Array Value} {e : TypeId} {fz : Nat × Nat} (h : W.heap[g]? = some (.cells cur e fz)) (u : Value) : (W.setCell ⟨g, i, none⟩ u).heap[g]? = some (.cells (cur.setIfInBounds i u) e fz) := by
  obtain ⟨hlt, hk⟩ := Array.getElem?_eq_some_iff.1 h
  show (W.heap.modify g _)[g]? = _
  rw [Array.getElem?_eq_getElem (by rw [Array.size_modify]; exact hlt), Array.getElem_modify_self, hk]
  rfl

/-- A cell of an owned row written over by what the call owns besides. -/
theorem Owns.put {W : World} {g n cap : Nat} {e : TypeId} {sz : Nat} {ds : List Dt} {fps : List Nat} (h : Owns W (.slice (some ⟨g, 0, none⟩) n cap) (.row e sz ds) (g :: fps)) {i : Nat} (hi : i < ds.length) {u : Value} {d : Dt} {f : List Nat} (hu : Owns W u d f) (hf : ∀ q ∈ f, q ≠ g ∧ q ∉ fps) :
    ∃ fps', Owns (W.setCell ⟨g, i, none⟩ u) (.slice (some ⟨g, 0, none⟩) n cap) (.row e sz (ds.set i d)) (g :: fps') ∧ ∀ q ∈ fps', q ∈ fps ∨ q ∈ f := by
  unfold Owns at h
  rcases h with ⟨h, _⟩ | ⟨g', n', cap', cur, fps', h1, h2, h3, h4, h5, h6, h7, h8, h9⟩
  · cases h
  · cases h1
    cases h7
    have hother : ∀ q, q ≠ g → (W.setCell ⟨g, i, none⟩ u).heap[q]? = W.heap[q]? := fun q hq => Below.heap_setCell _ _ _ _ hq
    have hu' : Owns (W.setCell ⟨g, i, none⟩ u) u d f := hu.stay (fun q hq => hother q (hf q hq).1)
    obtain ⟨fp', k1, k2⟩ := OwnsAll.put hu' _ h9 hi (fun q hq => hother q (fun e => h8 (e ▸ hq))) (fun q hq => (hf q hq).2)
    rw [Nat.zero_add] at k1
    refine ⟨fp', ?_, k2⟩
    unfold Owns
    refine .inr ⟨g, n, cap, cur.setIfInBounds i u, fp', rfl, heap_setCell_same h2 u, h3, h4, by simpa using h5, by simpa using h6, rfl, fun h' => ?_, k1⟩
    rcases k2 g h' with h10 | h10
    · exact h8 h10
    · exact (hf g h10).1 rfl

/-- What is no row owns no block. -/
theorem owns_leaf {W : World} (v : Value) : Owns W v (.leaf v) [] := by
  unfold Owns
  exact ⟨rfl, rfl⟩

theorem owns_nil {W : World} (e : TypeId) (sz : Nat) : Owns W (.slice none 0 0) (.row e sz []) [] := by
  unfold Owns
  exact .inl ⟨rfl, rfl, rfl⟩

/-- A new block whose cells own nothing. -/
theorem OwnsAll.plain {W : World} {cur : Array Value} : ∀ {ds : List Dt} {k : Nat}, (∀ i d, ds[i]? = some d → ∃ u, cur[k + i]? = some u ∧ Owns W u d []) → OwnsAll W cur k ds [] := by
  intro ds
  induction ds with
  | nil => intro k _; unfold OwnsAll; rfl
  | cons x ds ih =>
    intro k h
    unfold OwnsAll
    obtain ⟨u, h1, h2⟩ := h 0 x rfl
    refine ⟨u, [], [], by simpa using h1, h2, ih (fun i d hi => ?_), rfl, by simp⟩
    obtain ⟨u', h3, h4⟩ := h (i + 1) d (by simpa using hi)
    exact ⟨u', by rw [show k + 1 + i = k + (i + 1) by omega]; exact h3, h4⟩

/-- A row of ints that the call owns, as a datum. -/
theorem owns_of_row {W : World} {B : Nat} {e : TypeId} {v : Value} {l : List Value} {n : Nat} (h : W.ownsRow B e 1 v n l) : ∃ fp, Owns W v (.row e 1 (l.map Dt.leaf)) fp ∧ (∀ g, g ∈ fp ↔ v.ownBlock = some g) := by
  obtain ⟨h0, h⟩ := h
  rcases h with ⟨rfl, rfl⟩ | ⟨g, cap, cur, rfl, h1, h2, h3, h4, h5, h6⟩
  · refine ⟨[], ?_, by simp [Value.ownBlock]⟩
    have : l = [] := List.eq_nil_of_length_eq_zero (by simpa using h0)
    subst this
    exact owns_nil e 1
  · refine ⟨[g], ?_, by simp [Value.ownBlock, eq_comm]⟩
    unfold Owns
    refine .inr ⟨g, n, cap, cur, [], rfl, h2, h3, h4, h5, by simpa using h0, rfl, by simp, OwnsAll.plain (fun i d hi => ?_)⟩
    rw [List.getElem?_map] at hi
    cases hl : l[i]? with
    | none => rw [hl] at hi; cases hi
    | some u =>
      rw [hl] at hi
      obtain rfl : Dt.leaf u = d := by simpa using hi
      refine ⟨u, ?_, owns_leaf u⟩
      have hlt : i < n * 1 := by
        have := (List.getElem?_eq_some_iff.1 hl).1
        omega
      rw [← h6, List.getElem?_take_of_lt hlt] at hl
      rw [Nat.zero_add]
      simpa using hl
end Go.Proofs.Ytfckfgabeeeccaa.Da
