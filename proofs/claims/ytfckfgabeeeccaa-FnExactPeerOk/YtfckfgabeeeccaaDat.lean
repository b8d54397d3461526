/- Data in memory, however deep: a tree of cells and rows; that a value reads as such a tree, and that it owns all of it; no condition. -/
import Derived.Test.YtfckfgabeeeccaaIntS
namespace Go.Proofs.Ytfckfgabeeeccaa.Da
open Go.RowKit P1

/-- A datum: one cell's value, or a row whose elements have so many cells each. -/
inductive Dt : Type where
  | leaf : Value → Dt
  | row : TypeId → Nat → List Dt → Dt

mutual
/-- The value c reads as the datum. -/
def Reads (W : World) : Value → Dt → Prop
  | c, .leaf v => c = v
  | c, .row _ sz ds => ∃ a n cap, c = .slice a n cap ∧ ds.length = n * sz ∧ ReadsAll W a 0 ds
/-- From the k-th cell of the row on. -/
def ReadsAll (W : World) (a : Option Addr) : Nat → List Dt → Prop
  | _, [] => True
  | k, d :: ds => (∃ g off u, a = some ⟨g, off, none⟩ ∧ g < W.heap.size ∧ W.cell? ⟨g, off + k, none⟩ = some u ∧ Reads W u d) ∧ ReadsAll W a (k + 1) ds
end

theorem ReadsAll.at_ {W : World} {a : Option Addr} : ∀ {ds : List Dt} {k : Nat}, ReadsAll W a k ds → ∀ {i : Nat} {d : Dt}, ds[i]? = some d → ∃ g off u, a = some ⟨g, off, none⟩ ∧ g < W.heap.size ∧ W.cell? ⟨g, off + (k + i), none⟩ = some u ∧ Reads W u d := by
  intro ds
  induction ds with
  | nil => intro k _ i d h; simp at h
  | cons x ds ih =>
    intro k h i d hi
    unfold ReadsAll at h
    cases i with
    | zero =>
      obtain rfl : x = d := by simpa using hi
      exact h.1
    | succ i =>
      obtain ⟨g, off, u, e1, e2, e3, e4⟩ := ih h.2 (i := i) (d := d) (by simpa using hi)
      exact ⟨g, off, u, e1, e2, by rw [show k + (i + 1) = k + 1 + i by omega]; exact e3, e4⟩

theorem ReadsAll.of {W : World} {a : Option Addr} : ∀ {ds : List Dt} {k : Nat}, (∀ i d, ds[i]? = some d → ∃ g off u, a = some ⟨g, off, none⟩ ∧ g < W.heap.size ∧ W.cell? ⟨g, off + (k + i), none⟩ = some u ∧ Reads W u d) → ReadsAll W a k ds := by
  intro ds
  induction ds with
  | nil => intro k _; unfold ReadsAll; trivial
  | cons x ds ih =>
    intro k h
    unfold ReadsAll
    refine ⟨h 0 x rfl, ih (fun i d hi => ?_)⟩
    obtain ⟨g, off, u, e1, e2, e3, e4⟩ := h (i + 1) d (by simpa using hi)
    exact ⟨g, off, u, e1, e2, by rw [show k + 1 + i = k + (i + 1) by omega]; exact e3, e4⟩

mutual
theorem Reads.below {B : Nat} {W W' : World} (hb : Below B W W') (hB : W.heap.size ≤ B) : ∀ {d : Dt} {c : Value}, Reads W c d → Reads W' c d
  | .leaf v, c, h => by
    unfold Reads at h ⊢
    exact h
  | .row e sz ds, c, h => by
    unfold Reads at h ⊢
    obtain ⟨a, n, cap, h1, h2, h3⟩ := h
    exact ⟨a, n, cap, h1, h2, ReadsAll.below hb hB h3⟩
theorem ReadsAll.below {B : Nat} {W W' : World} (hb : Below B W W') (hB : W.heap.size ≤ B) : ∀ {ds : List Dt} {a : Option Addr} {k : Nat}, ReadsAll W a k ds → ReadsAll W' a k ds
  | [], a, k, _ => by unfold ReadsAll; trivial
  | d :: ds, a, k, h => by
    unfold ReadsAll at h ⊢
    obtain ⟨⟨g, off, u, e1, e2, e3, e4⟩, h2⟩ := h
    exact ⟨⟨g, off, u, e1, Nat.lt_of_lt_of_le e2 hb.size, (hb.cell (p := ⟨g, off + k, none⟩) (by show g < B; omega)).trans e3, Reads.below hb hB e4⟩, ReadsAll.below hb hB h2⟩
end

/-- A row, opened: the cells of its elements. -/
theorem Reads.open_ {W : World} {c : Value} {e : TypeId} {sz : Nat} {ds : List Dt} (h : Reads W c (.row e sz ds)) {n : Nat} (hn : ds.length = n * sz) (hs : 0 < sz) :
    ∃ a cap, c = .slice a n cap ∧ ∀ (j i : Nat) (d : Dt), ds[j * sz + i]? = some d → ∃ g off u, a = some ⟨g, off, none⟩ ∧ g < W.heap.size ∧ W.cell? ⟨g, off + (j * sz + i), none⟩ = some u ∧ Reads W u d := by
  unfold Reads at h
  obtain ⟨a, n', cap, h1, h2, h3⟩ := h
  have e : n' = n := Nat.eq_of_mul_eq_mul_right hs (h2.symm.trans hn)
  subst e
  refine ⟨a, cap, h1, fun j i d hd => ?_⟩
  obtain ⟨g, off, u, e1, e2, e3, e4⟩ := h3.at_ hd
  exact ⟨g, off, u, e1, e2, by rw [Nat.zero_add] at e3; exact e3, e4⟩

mutual
/-- The value c owns the datum, in just these blocks, none of them twice. -/
def Owns (W : World) : Value → Dt → List Nat → Prop
  | c, .leaf v, fp => c = v ∧ fp = []
  | c, .row e sz ds, fp => (c = .slice none 0 0 ∧ ds = [] ∧ fp = []) ∨
      ∃ g n cap cur fps, c = .slice (some ⟨g, 0, none⟩) n cap ∧ W.heap[g]? = some (.cells cur e (0, 0)) ∧ n ≤ cap ∧ cap ≤ maxLen ∧ cur.size = cap * sz ∧ ds.length = n * sz ∧ fp = g :: fps ∧ g ∉ fps ∧ OwnsAll W cur 0 ds fps
/-- From the k-th cell on. -/
def OwnsAll (W : World) (cur : Array Value) : Nat → List Dt → List Nat → Prop
  | _, [], fp => fp = []
  | k, d :: ds, fp => ∃ u f1 f2, cur[k]? = some u ∧ Owns W u d f1 ∧ OwnsAll W cur (k + 1) ds f2 ∧ fp = f1 ++ f2 ∧ ∀ g ∈ f1, g ∉ f2
end

mutual
theorem Owns.stay {W W' : World} : ∀ {d : Dt} {c : Value} {fp : List Nat}, Owns W c d fp → (∀ g ∈ fp, W'.heap[g]? = W.heap[g]?) → Owns W' c d fp
  | .leaf v, c, fp, h, _ => by
    unfold Owns at h ⊢
    exact h
  | .row e sz ds, c, fp, h, hk => by
    unfold Owns at h ⊢
    rcases h with h | ⟨g, n, cap, cur, fps, h1, h2, h3, h4, h5, h6, rfl, h8, h9⟩
    · exact .inl h
    · exact .inr ⟨g, n, cap, cur, fps, h1, (hk g (by simp)).trans h2, h3, h4, h5, h6, rfl, h8, OwnsAll.stay h9 (fun q hq => hk q (by simp [hq]))⟩
theorem OwnsAll.stay {W W' : World} : ∀ {ds : List Dt} {cur : Array Value} {k : Nat} {fp : List Nat}, OwnsAll W cur k ds fp → (∀ g ∈ fp, W'.heap[g]? = W.heap[g]?) → OwnsAll W' cur k ds fp
  | [], cur, k, fp, h, _ => by
    unfold OwnsAll at h ⊢
    exact h
  | d :: ds, cur, k, fp, h, hk => by
    unfold OwnsAll at h ⊢
    obtain ⟨u, f1, f2, h1, h2, h3, rfl, h5⟩ := h
    exact ⟨u, f1, f2, h1, Owns.stay h2 (fun q hq => hk q (by simp [hq])), OwnsAll.stay h3 (fun q hq => hk q (by simp [hq])), rfl, h5⟩
end

mutual
theorem Owns.lt {W : World} : ∀ {d : Dt} {c : Value} {fp : List Nat}, Owns W c d fp → ∀ g ∈ fp, g < W.heap.size
  | .leaf v, c, fp, h, g, hg => by
    unfold Owns at h
    rw [h.2] at hg
    cases hg
  | .row e sz ds, c, fp, h, g, hg => by
    unfold Owns at h
    rcases h with ⟨_, _, rfl⟩ | ⟨b, n, cap, cur, fps, h1, h2, h3, h4, h5, h6, rfl, h8, h9⟩
    · cases hg
    · rcases List.mem_cons.1 hg with rfl | hg
      · exact (Array.getElem?_eq_some_iff.1 h2).1
      · exact OwnsAll.lt h9 g hg
theorem OwnsAll.lt {W : World} : ∀ {ds : List Dt} {cur : Array Value} {k : Nat} {fp : List Nat}, OwnsAll W cur k ds fp → ∀ g ∈ fp, g < W.heap.size
  | [], cur, k, fp, h, g, hg => by
    unfold OwnsAll at h
    rw [h] at hg
    cases hg
  | d :: ds, cur, k, fp, h, g, hg => by
    unfold OwnsAll at h
    obtain ⟨u, f1, f2, h1, h2, h3, rfl, h5⟩ := h
    rcases List.mem_append.1 hg with hg | hg
    · exact Owns.lt h2 g hg
    · exact OwnsAll.lt h3 g hg
end

mutual
theorem Owns.reads {W : World} : ∀ {d : Dt} {c : Value} {fp : List Nat}, Owns W c d fp → Reads W c d
  | .leaf v, c, fp, h => by
    unfold Owns at h
    unfold Reads
    exact h.1
  | .row e sz ds, c, fp, h => by
    unfold Owns at h
    unfold Reads
    rcases h with ⟨rfl, rfl, _⟩ | ⟨b, n, cap, cur, fps, rfl, h2, h3, h4, h5, h6, rfl, h8, h9⟩
    · exact ⟨none, 0, 0, rfl, by simp, by unfold ReadsAll; trivial⟩
    · exact ⟨_, n, cap, rfl, h6, OwnsAll.reads h2 h9⟩
theorem OwnsAll.reads {W : World} {b : Nat} {cur : Array Value} {e : TypeId} (hb : W.heap[b]? = some (.cells cur e (0, 0))) : ∀ {ds : List Dt} {k : Nat} {fp : List Nat}, OwnsAll W cur k ds fp → ReadsAll W (some ⟨b, 0, none⟩) k ds
  | [], k, fp, h => by unfold ReadsAll; trivial
  | d :: ds, k, fp, h => by
    unfold OwnsAll at h
    unfold ReadsAll
    obtain ⟨u, f1, f2, h1, h2, h3, _, _⟩ := h
    exact ⟨⟨b, 0, u, rfl, (Array.getElem?_eq_some_iff.1 hb).1, by simp only [World.cell?, hb, Nat.zero_add]; exact h1, Owns.reads h2⟩, OwnsAll.reads hb h3⟩
end
end Go.Proofs.Ytfckfgabeeeccaa.Da
