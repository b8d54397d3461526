/- Rows of records that are copied one by one, as data; no condition. -/
import Derived.Test.YtfckfgabeeeccaaDat2
import Derived.Test.YtfckfgabeeeccaaRowR
namespace Go.Proofs.Ytfckfgabeeeccaa.Da
open Go.RowKit P1 Rc Rr

/-- The first k as they should be, the others as they were made. -/
def halfR {α β : Type} (f : α → List β) (z : List β) (l : List α) (k : Nat) : List (List β) := (l.take k).map f ++ List.replicate (l.length - k) z

section
variable {α β : Type} {f : α → List β} {z : List β} {n : Nat}

theorem halfR_all (hf : ∀ x, (f x).length = n) (hz : z.length = n) (l : List α) (k : Nat) : ∀ r ∈ halfR f z l k, r.length = n := by
  intro r hr
  rcases List.mem_append.1 hr with hr | hr
  · obtain ⟨x, _, rfl⟩ := List.mem_map.1 hr
    exact hf x
  · rw [List.eq_of_mem_replicate hr]
    exact hz

theorem halfR_length (l : List α) (k : Nat) (hk : k ≤ l.length) : (halfR f z l k).length = l.length := by
  simp [halfR]
  omega

theorem halfR_set (l : List α) (k : Nat) (hk : k < l.length) : (halfR f z l k).set k (f l[k]) = halfR f z l (k + 1) := by
  unfold halfR
  have h1 : ((l.take k).map f).length = k := by simp; omega
  rw [List.set_append_right _ _ (by omega), h1, Nat.sub_self, show l.length - k = (l.length - (k + 1)) + 1 by omega, List.replicate_succ, List.set_cons_zero, List.take_succ_eq_append_getElem hk, List.map_append, List.append_assoc]
  rfl

theorem halfR_end (l : List α) : (halfR f z l l.length).flatten = l.flatMap f := by
  simp [halfR, List.flatMap_def]

theorem halfR_flat (hf : ∀ x, (f x).length = n) (hz : z.length = n) (l : List α) (k : Nat) (hk : k ≤ l.length) : (halfR f z l k).flatten.length = l.length * n := by
  rw [flatten_length (n := n) _ (halfR_all hf hz l k), halfR_length l k hk]

/-- The next record written over. -/
theorem halfR_next (hf : ∀ x, (f x).length = n) (hz : z.length = n) (l : List α) (k : Nat) (hk : k < l.length) : setMany (halfR f z l k).flatten (k * n) (f l[k]) = (halfR f z l (k + 1)).flatten := by
  rw [flatten_set (halfR f z l k) k (f l[k]) (halfR_all hf hz l k) (hf _) (by rw [halfR_length l k (Nat.le_of_lt hk)]; exact hk), halfR_set l k hk]
end

/-- A row whose cells own nothing, as a datum. -/
theorem owns_of_cells {W : World} {B : Nat} {e : TypeId} {sz : Nat} {v : Value} {X : List Value} {n : Nat} (h : W.ownsRow B e sz v n X) (ds : List Dt) (hlen : ds.length = n * sz) (hc : ∀ (i : Nat) (d : Dt), ds[i]? = some d → ∃ u, X[i]? = some u ∧ Owns W u d []) :
    ∃ fp, Owns W v (.row e sz ds) fp ∧ (∀ g, g ∈ fp ↔ v.ownBlock = some g) := by
  obtain ⟨h0, h⟩ := h
  rcases h with ⟨rfl, rfl⟩ | ⟨g, cap, cur, rfl, h1, h2, h3, h4, h5, h6⟩
  · refine ⟨[], ?_, by simp [Value.ownBlock]⟩
    have : ds = [] := List.eq_nil_of_length_eq_zero (by simpa using hlen)
    subst this
    exact owns_nil e sz
  · refine ⟨[g], ?_, by simp [Value.ownBlock, eq_comm]⟩
    unfold Owns
    refine .inr ⟨g, n, cap, cur, [], rfl, h2, h3, h4, h5, hlen, rfl, by simp, OwnsAll.plain (fun i d hi => ?_)⟩
    obtain ⟨u, hu1, hu2⟩ := hc i d hi
    refine ⟨u, ?_, hu2⟩
    have hlt : i < n * sz := by
      have := (List.getElem?_eq_some_iff.1 hi).1
      omega
    rw [← h6, List.getElem?_take_of_lt hlt] at hu1
    rw [Nat.zero_add]
    simpa using hu1

/-- What make leaves, as data. -/
theorem owns_made {W : World} {B : Nat} {e : TypeId} {sz : Nat} {v : Value} {n : Nat} {zs : List Value} {zd : List Dt} (h : W.ownsRow B e sz v n (List.replicate n zs).flatten) (hz : zs.length = sz) (hd : zd.length = sz) (hs : 0 < sz) (hc : ∀ (i : Nat) (d : Dt), zd[i]? = some d → ∃ u, zs[i]? = some u ∧ Owns W u d []) :
    ∃ fp, Owns W v (.row e sz (List.replicate n zd).flatten) fp ∧ (∀ g, g ∈ fp ↔ v.ownBlock = some g) := by
  have hall : ∀ r ∈ List.replicate n zd, r.length = sz := fun r hr => by rw [List.eq_of_mem_replicate hr, hd]
  have hall2 : ∀ r ∈ List.replicate n zs, r.length = sz := fun r hr => by rw [List.eq_of_mem_replicate hr, hz]
  have hlen : (List.replicate n zd).flatten.length = n * sz := by rw [flatten_length _ hall, List.length_replicate]
  refine owns_of_cells h _ hlen (fun i d hi => ?_)
  have hlt : i < n * sz := by rw [← hlen]; exact (List.getElem?_eq_some_iff.1 hi).1
  have h1 : i / sz < n := (Nat.div_lt_iff_lt_mul hs).2 hlt
  have h2 : i % sz < sz := Nat.mod_lt _ hs
  have h3 : i / sz * sz + i % sz = i := by rw [Nat.mul_comm]; exact Nat.div_add_mod i sz
  rw [← h3, flatten_get _ (i / sz) (i % sz) zd hall (by simp [h1]) h2] at hi
  obtain ⟨u, hu1, hu2⟩ := hc _ d hi
  refine ⟨u, ?_, hu2⟩
  rw [← h3, flatten_get _ (i / sz) (i % sz) zs hall2 (by simp [h1]) h2]
  exact hu1

/-- What lies in a cell of an owned row, and that it may be written. -/
theorem Owns.cell {W : World} {g n cap : Nat} {e : TypeId} {sz : Nat} {ds : List Dt} {fps : List Nat} (h : Owns W (.slice (some ⟨g, 0, none⟩) n cap) (.row e sz ds) (g :: fps)) {i : Nat} (hi : i < ds.length) :
    (∃ u, W.cell? ⟨g, i, none⟩ = some u) ∧ W.frozen? ⟨g, i, none⟩ = false ∧ g < W.heap.size := by
  have hr := h.reads
  unfold Reads at hr
  obtain ⟨a, n', cap', h1, h2, h3⟩ := hr
  cases h1
  obtain ⟨g', off, u, e1, e2, e3, _⟩ := h3.at_ (List.getElem?_eq_getElem hi)
  cases e1
  refine ⟨⟨u, by simpa using e3⟩, ?_, e2⟩
  unfold Owns at h
  rcases h with ⟨h, _⟩ | ⟨g', n', cap', cur, fps', k1, k2, _⟩
  · cases h
  · cases k1
    simp [World.frozen?, k2]
end Go.Proofs.Ytfckfgabeeeccaa.Da
