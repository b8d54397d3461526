/- A row of records as it lies in memory, copied cell by cell, and then written over record by record by what the call owns; no condition.
slices.Clone of rows of items, shelves and peers: the cells as they lay, in a row of its own; condition: at most 2^20 of them.
The program's copiedShelf; condition: at most 2^20 items.
The program's copiedPeer; condition: lists of at most 2^20, texts of at most 2^20 bytes.
The program's copiedRing; condition: at most 2^20 peers, their lists of at most 2^20, texts of at most 2^20 bytes. -/
import Derived.Test.YteladljgnbfcnaaGreatDoorZRI
import Derived.Test.YteladljgnbfcnaaGreatDoorZRK
import Derived.Test.YteladljgnbfcnaaGreatDoorZRO
import Derived.Test.YteladljgnbfcnaaGreatDoorZA
import Derived.Lib.SliceRun
namespace Go.Proofs.YteladljgnbfcnaaGreatDoor.P9
open Go.RowKit P1 P8 Da Ap Rr Rc

/-- The cells X lie from the address on. -/
def NewsAt (w : World) (a : Option Addr) (X : List Value) : Prop := ∀ j u, X[j]? = some u → ∃ g off, a = some ⟨g, off, none⟩ ∧ g < w.heap.size ∧ w.cell? ⟨g, off + j, none⟩ = some u

theorem NewsAt.below {B : Nat} {w w' : World} {a : Option Addr} {X : List Value} (h : NewsAt w a X) (hb : Below B w w') (hB : w.heap.size ≤ B) : NewsAt w' a X := fun j u hj => by
  obtain ⟨g, off, e, hg, hc⟩ := h j u hj
  exact ⟨g, off, e, Nat.lt_of_lt_of_le hg hb.size, (hb.cell (p := ⟨g, off + j, none⟩) (by show g < B; omega)).trans hc⟩

theorem NewsAt.news {w : World} {a : Option Addr} {X : List Value} (h : NewsAt w a X) : ∀ j u, X[j]? = some u → ∃ g off, a = some ⟨g, off, none⟩ ∧ w.cell? ⟨g, off + j, none⟩ = some u := fun j u hj => by
  obtain ⟨g, off, e, -, hc⟩ := h j u hj
  exact ⟨g, off, e, hc⟩

/-- What lies at a place of a row. -/
def cellOr (w : World) (a : Option Addr) (j : Nat) : Value := match a with | some ⟨g, off, _⟩ => (w.cell? ⟨g, off + j, none⟩).getD (.bool false) | none => .bool false

theorem cellOr_of {w : World} {g off j : Nat} {u : Value} (h : w.cell? ⟨g, off + j, none⟩ = some u) : cellOr w (some ⟨g, off, none⟩) j = u := by
  show (w.cell? ⟨g, off + j, none⟩).getD _ = u
  rw [h]
  rfl

/-- A peer's six cells as they lie in the row X. -/
structure SixAt (w : World) (X : List Value) (k : Nat) (p : Pr) (u3 u4 u5 : Value) : Prop where
  c0 : X[k * 6]? = some (.int .i64 p.id)
  c1 : X[k * 6 + 1]? = some (.bool p.here)
  c2 : X[k * 6 + 2]? = some (.int .i64 p.ahead)
  c3 : X[k * 6 + 3]? = some u3
  c4 : X[k * 6 + 4]? = some u4
  c5 : X[k * 6 + 5]? = some u5
  behind : IntsAt w u3 p.behind
  fingers : IntsAt w u4 p.fingers
  shelves : ShelvesAt w u5 p.shelves

theorem ints_one {w : World} {u : Value} {l : List Int} (h : IntsAt w u l) : u.oneCell' = true := by
  obtain ⟨a, c, rfl, -⟩ := h
  rfl

theorem six_of {n k : Nat} (h : k < n * 6) : ∃ j i, j < n ∧ k = j * 6 + i ∧ (i = 0 ∨ i = 1 ∨ i = 2 ∨ i = 3 ∨ i = 4 ∨ i = 5) := ⟨k / 6, k % 6, by omega, by omega, by omega⟩

theorem peers_raw {w : World} {a : Option Addr} {n c : Nat} {l : List Pr} (h : PeersAt w (.slice a n c) l) :
    ∃ X : List Value, X.length = l.length * 6 ∧ NewsAt w a X ∧ (∀ u ∈ X, u.oneCell' = true) ∧ ∀ k (hk : k < l.length), ∃ u3 u4 u5, SixAt w X k l[k] u3 u4 u5 := by
  obtain ⟨a', c', e, HA⟩ := h.open_
  cases e
  have get : ∀ j, j < l.length * 6 → ((List.range (l.length * 6)).map (cellOr w a))[j]? = some (cellOr w a j) := fun j hj => by simp [hj]
  have cell : ∀ j (hj : j < l.length), ∃ g off u3 u4 u5, a = some ⟨g, off, none⟩ ∧ g < w.heap.size ∧ PeerCells w g (off + j * 6) l[j] u3 u4 u5 ∧ cellOr w a (j * 6) = .int .i64 l[j].id ∧ cellOr w a (j * 6 + 1) = .bool l[j].here ∧ cellOr w a (j * 6 + 2) = .int .i64 l[j].ahead ∧ cellOr w a (j * 6 + 3) = u3 ∧ cellOr w a (j * 6 + 4) = u4 ∧ cellOr w a (j * 6 + 5) = u5 := fun j hj => by
    obtain ⟨g, off, u3, u4, u5, rfl, hg, hc⟩ := HA j hj
    exact ⟨g, off, u3, u4, u5, rfl, hg, hc, cellOr_of hc.id, cellOr_of (by rw [← Nat.add_assoc]; exact hc.here), cellOr_of (by rw [← Nat.add_assoc]; exact hc.ahead), cellOr_of (by rw [← Nat.add_assoc]; exact hc.c3), cellOr_of (by rw [← Nat.add_assoc]; exact hc.c4), cellOr_of (by rw [← Nat.add_assoc]; exact hc.c5)⟩
  refine ⟨(List.range (l.length * 6)).map (cellOr w a), by simp, fun j u hj => ?_, fun u hu => ?_, fun k hk => ?_⟩
  · have hlt : j < l.length * 6 := by simpa using (List.getElem?_eq_some_iff.1 hj).1
    rw [get j hlt] at hj
    have hj := Option.some.inj hj
    obtain ⟨q, i, hq, rfl, hi⟩ := six_of hlt
    obtain ⟨g, off, u3, u4, u5, ea, hg, hc, e0, e1, e2, e3, e4, e5⟩ := cell q hq
    refine ⟨g, off, ea, hg, ?_⟩
    rw [← hj, ← Nat.add_assoc]
    rcases hi with rfl | rfl | rfl | rfl | rfl | rfl
    · rw [Nat.add_zero, Nat.add_zero, e0]; exact hc.id
    · rw [e1]; exact hc.here
    · rw [e2]; exact hc.ahead
    · rw [e3]; exact hc.c3
    · rw [e4]; exact hc.c4
    · rw [e5]; exact hc.c5
  · obtain ⟨j, hj, rfl⟩ := List.mem_map.1 hu
    obtain ⟨q, i, hq, rfl, hi⟩ := six_of (List.mem_range.1 hj)
    obtain ⟨g, off, u3, u4, u5, ea, hg, hc, e0, e1, e2, e3, e4, e5⟩ := cell q hq
    rcases hi with rfl | rfl | rfl | rfl | rfl | rfl
    · rw [Nat.add_zero, e0]; rfl
    · rw [e1]; rfl
    · rw [e2]; rfl
    · rw [e3]; exact ints_one hc.behind
    · rw [e4]; exact ints_one hc.fingers
    · rw [e5]
      obtain ⟨a5, c5, h5, -⟩ := hc.shelves.open_
      rw [h5]
      rfl
  · obtain ⟨g, off, u3, u4, u5, ea, hg, hc, e0, e1, e2, e3, e4, e5⟩ := cell k hk
    exact ⟨u3, u4, u5, by rw [get _ (by omega), e0], by rw [get _ (by omega), e1], by rw [get _ (by omega), e2], by rw [get _ (by omega), e3], by rw [get _ (by omega), e4], by rw [get _ (by omega), e5], hc.behind, hc.fingers, hc.shelves⟩

/-- A shelf's two cells. -/
structure TwoAt (w : World) (X : List Value) (k : Nat) (s : Shf) (u : Value) : Prop where
  c0 : X[k * 2]? = some (.int .i64 s.key)
  c1 : X[k * 2 + 1]? = some u
  items : ItemsAt w u s.items

theorem two_of {n k : Nat} (h : k < n * 2) : ∃ j i, j < n ∧ k = j * 2 + i ∧ (i = 0 ∨ i = 1) := ⟨k / 2, k % 2, by omega, by omega, by omega⟩

theorem shelves_raw {w : World} {a : Option Addr} {n c : Nat} {l : List Shf} (h : ShelvesAt w (.slice a n c) l) :
    ∃ X : List Value, X.length = l.length * 2 ∧ NewsAt w a X ∧ (∀ u ∈ X, u.oneCell' = true) ∧ ∀ k (hk : k < l.length), ∃ u, TwoAt w X k l[k] u := by
  obtain ⟨a', c', e, HA⟩ := h.open_
  cases e
  have get : ∀ j, j < l.length * 2 → ((List.range (l.length * 2)).map (cellOr w a))[j]? = some (cellOr w a j) := fun j hj => by simp [hj]
  have cell : ∀ j (hj : j < l.length), ∃ g off u, a = some ⟨g, off, none⟩ ∧ g < w.heap.size ∧ w.cell? ⟨g, off + j * 2, none⟩ = some (.int .i64 l[j].key) ∧ w.cell? ⟨g, off + j * 2 + 1, none⟩ = some u ∧ ItemsAt w u l[j].items ∧ cellOr w a (j * 2) = .int .i64 l[j].key ∧ cellOr w a (j * 2 + 1) = u := fun j hj => by
    obtain ⟨g, off, u, rfl, hg, h0, h1, hi⟩ := HA j hj
    exact ⟨g, off, u, rfl, hg, h0, h1, hi, cellOr_of h0, cellOr_of (by rw [← Nat.add_assoc]; exact h1)⟩
  refine ⟨(List.range (l.length * 2)).map (cellOr w a), by simp, fun j u hj => ?_, fun u hu => ?_, fun k hk => ?_⟩
  · have hlt : j < l.length * 2 := by simpa using (List.getElem?_eq_some_iff.1 hj).1
    rw [get j hlt] at hj
    have hj := Option.some.inj hj
    obtain ⟨q, i, hq, rfl, hi⟩ := two_of hlt
    obtain ⟨g, off, u1, ea, hg, h0, h1, hit, e0, e1⟩ := cell q hq
    refine ⟨g, off, ea, hg, ?_⟩
    rw [← hj, ← Nat.add_assoc]
    rcases hi with rfl | rfl
    · rw [Nat.add_zero, Nat.add_zero, e0]; exact h0
    · rw [e1]; exact h1
  · obtain ⟨j, hj, rfl⟩ := List.mem_map.1 hu
    obtain ⟨q, i, hq, rfl, hi⟩ := two_of (List.mem_range.1 hj)
    obtain ⟨g, off, u1, ea, hg, h0, h1, hit, e0, e1⟩ := cell q hq
    rcases hi with rfl | rfl
    · rw [Nat.add_zero, e0]; rfl
    · rw [e1]
      obtain ⟨a5, c5, h5, -⟩ := hit.open_
      rw [h5]
      rfl
  · obtain ⟨g, off, u1, ea, hg, h0, h1, hit, e0, e1⟩ := cell k hk
    exact ⟨u1, by rw [get _ (by omega), e0], by rw [get _ (by omega), e1], hit⟩

/-- A row of plain cells that the call made, as data. -/
theorem owns_leaves {W : World} {B : Nat} {e : TypeId} {sz : Nat} {v : Value} {X : List Value} {n : Nat} (h : W.ownsRow B e sz v n X) : ∃ fp, Owns W v (.row e sz (X.map Dt.leaf)) fp ∧ ∀ g ∈ fp, B ≤ g := by
  obtain ⟨fp, h1, h2⟩ := owns_of_cells h (X.map Dt.leaf) (by rw [List.length_map]; exact h.1) (fun i d hd => by
    rw [List.getElem?_map] at hd
    cases hx : X[i]? with
    | none => rw [hx] at hd; cases hd
    | some u =>
      rw [hx] at hd
      cases hd
      exact ⟨u, rfl, owns_leaf u⟩)
  exact ⟨fp, h1, fun g hg => (h.lt g ((h2 g).1 hg)).1⟩

/-- One cell of an owned row written over by what is owned besides. -/
theorem put_at {W : World} {g n c : Nat} {e : TypeId} {sz : Nat} {ds : List Dt} {fp : List Nat} (h : Owns W (.slice (some ⟨g, 0, none⟩) n c) (.row e sz ds) fp) {i : Nat} (hi : i < ds.length) {u : Value} {d : Dt} {f : List Nat} (hu : Owns W u d f) (hf : ∀ q ∈ f, q ∉ fp) :
    ∃ fp', Owns (W.setCell ⟨g, i, none⟩ u) (.slice (some ⟨g, 0, none⟩) n c) (.row e sz (ds.set i d)) fp' ∧ ∀ q ∈ fp', q ∈ fp ∨ q ∈ f := by
  obtain ⟨fps, rfl⟩ := Owns.head h
  obtain ⟨fps', h1, h2⟩ := h.put hi hu (fun q hq => ⟨fun e => hf q hq (by simp [e]), fun e => hf q hq (by simp [e])⟩)
  refine ⟨g :: fps', h1, fun q hq => ?_⟩
  rcases List.mem_cons.1 hq with rfl | hq
  · exact .inl (by simp)
  · exact (h2 q hq).imp (fun h => by simp [h]) id

theorem owns_own {W : World} {g n c : Nat} {e : TypeId} {sz : Nat} {ds : List Dt} {fp : List Nat} (h : Owns W (.slice (some ⟨g, 0, none⟩) n c) (.row e sz ds) fp) : g ∈ fp := by
  obtain ⟨fps, rfl⟩ := Owns.head h
  simp

/-- Six cells of it. -/
theorem put_six {W : World} {g n c : Nat} {e : TypeId} {sz : Nat} {ds : List Dt} {fp : List Nat} (h : Owns W (.slice (some ⟨g, 0, none⟩) n c) (.row e sz ds) fp) {i : Nat} (hi : i + 5 < ds.length) {v0 v1 v2 u3 u4 u5 : Value} {d3 d4 d5 : Dt} {f3 f4 f5 : List Nat}
    (h3 : Owns W u3 d3 f3) (h4 : Owns W u4 d4 f4) (h5 : Owns W u5 d5 f5) (n3 : ∀ q ∈ f3, q ∉ fp) (n4 : ∀ q ∈ f4, q ∉ fp) (n5 : ∀ q ∈ f5, q ∉ fp) (d34 : ∀ q ∈ f3, q ∉ f4) (d35 : ∀ q ∈ f3, q ∉ f5) (d45 : ∀ q ∈ f4, q ∉ f5) :
    ∃ fp', Owns ((((((W.setCell ⟨g, i, none⟩ v0).setCell ⟨g, i + 1, none⟩ v1).setCell ⟨g, i + 2, none⟩ v2).setCell ⟨g, i + 3, none⟩ u3).setCell ⟨g, i + 4, none⟩ u4).setCell ⟨g, i + 5, none⟩ u5)
      (.slice (some ⟨g, 0, none⟩) n c) (.row e sz (setMany ds i [.leaf v0, .leaf v1, .leaf v2, d3, d4, d5])) fp' ∧ ∀ q ∈ fp', q ∈ fp ∨ q ∈ f3 ∨ q ∈ f4 ∨ q ∈ f5 := by
  have hg := owns_own h
  have e3 : ∀ q ∈ f3, q ≠ g := fun q hq e => n3 q hq (by rw [e]; exact hg)
  have e4 : ∀ q ∈ f4, q ≠ g := fun q hq e => n4 q hq (by rw [e]; exact hg)
  have e5 : ∀ q ∈ f5, q ≠ g := fun q hq e => n5 q hq (by rw [e]; exact hg)
  obtain ⟨p0, k0, j0⟩ := put_at h (by omega : i < ds.length) (owns_leaf v0) (by simp)
  have K3 := owns_set h3 (b := g) (i := i) e3 v0
  have K4 := owns_set h4 (b := g) (i := i) e4 v0
  have K5 := owns_set h5 (b := g) (i := i) e5 v0
  obtain ⟨p1, k1, j1⟩ := put_at (i := i + 1) k0 (by rw [List.length_set]; omega) (owns_leaf v1) (by simp)
  have K3 := owns_set K3 (b := g) (i := i + 1) e3 v1
  have K4 := owns_set K4 (b := g) (i := i + 1) e4 v1
  have K5 := owns_set K5 (b := g) (i := i + 1) e5 v1
  obtain ⟨p2, k2, j2⟩ := put_at (i := i + 2) k1 (by rw [List.length_set, List.length_set]; omega) (owns_leaf v2) (by simp)
  have K3 := owns_set K3 (b := g) (i := i + 2) e3 v2
  have K4 := owns_set K4 (b := g) (i := i + 2) e4 v2
  have K5 := owns_set K5 (b := g) (i := i + 2) e5 v2
  have in2 : ∀ q ∈ p2, q ∈ fp := fun q hq => by
    rcases j2 q hq with h | h
    · rcases j1 q h with h | h
      · rcases j0 q h with h | h
        · exact h
        · cases h
      · cases h
    · cases h
  obtain ⟨p3, k3, j3⟩ := put_at (i := i + 3) k2 (by rw [List.length_set, List.length_set, List.length_set]; omega) K3 (fun q hq h => n3 q hq (in2 q h))
  have K4 := owns_set K4 (b := g) (i := i + 3) e4 u3
  have K5 := owns_set K5 (b := g) (i := i + 3) e5 u3
  obtain ⟨p4, k4, j4⟩ := put_at (i := i + 4) k3 (by rw [List.length_set, List.length_set, List.length_set, List.length_set]; omega) K4 (fun q hq h => (j3 q h).elim (fun h => n4 q hq (in2 q h)) (fun h => d34 q h hq))
  have K5 := owns_set K5 (b := g) (i := i + 4) e5 u4
  obtain ⟨p5, k5, j5⟩ := put_at (i := i + 5) k4 (by rw [List.length_set, List.length_set, List.length_set, List.length_set, List.length_set]; omega) K5 (fun q hq h => (j4 q h).elim (fun h => (j3 q h).elim (fun h => n5 q hq (in2 q h)) (fun h => d35 q h hq)) (fun h => d45 q h hq))
  refine ⟨p5, k5, fun q hq => ?_⟩
  rcases j5 q hq with h | h
  · rcases j4 q h with h | h
    · rcases j3 q h with h | h
      · exact .inl (in2 q h)
      · exact .inr (.inl h)
    · exact .inr (.inr (.inl h))
  · exact .inr (.inr (.inr h))

/-- Two cells of it. -/
theorem put_two {W : World} {g n c : Nat} {e : TypeId} {sz : Nat} {ds : List Dt} {fp : List Nat} (h : Owns W (.slice (some ⟨g, 0, none⟩) n c) (.row e sz ds) fp) {i : Nat} (hi : i + 1 < ds.length) {v0 u1 : Value} {d1 : Dt} {f1 : List Nat}
    (h1 : Owns W u1 d1 f1) (n1 : ∀ q ∈ f1, q ∉ fp) :
    ∃ fp', Owns ((W.setCell ⟨g, i, none⟩ v0).setCell ⟨g, i + 1, none⟩ u1) (.slice (some ⟨g, 0, none⟩) n c) (.row e sz (setMany ds i [.leaf v0, d1])) fp' ∧ ∀ q ∈ fp', q ∈ fp ∨ q ∈ f1 := by
  have hg := owns_own h
  have e1 : ∀ q ∈ f1, q ≠ g := fun q hq e => n1 q hq (by rw [e]; exact hg)
  obtain ⟨p0, k0, j0⟩ := put_at h (by omega : i < ds.length) (owns_leaf v0) (by simp)
  have K1 := owns_set h1 (b := g) (i := i) e1 v0
  have in0 : ∀ q ∈ p0, q ∈ fp := fun q hq => (j0 q hq).elim id (fun h => by cases h)
  obtain ⟨p1, k1, j1⟩ := put_at (i := i + 1) k0 (by rw [List.length_set]; omega) K1 (fun q hq h => n1 q hq (in0 q h))
  exact ⟨p1, k1, fun q hq => (j1 q hq).imp (in0 q) id⟩

/-- The first k records as they should be, the others as they lay. -/
def halfD {α : Type} (f : α → List Dt) (n : Nat) (l : List α) (X : List Value) (k : Nat) : List Dt := (l.take k).flatMap f ++ (X.drop (k * n)).map Dt.leaf

theorem halfD_zero {α : Type} (f : α → List Dt) (n : Nat) (l : List α) (X : List Value) : halfD f n l X 0 = X.map Dt.leaf := by simp [halfD]

theorem halfD_end {α : Type} (f : α → List Dt) (n : Nat) (l : List α) (X : List Value) (hX : X.length = l.length * n) : halfD f n l X l.length = l.flatMap f := by
  unfold halfD
  rw [List.drop_eq_nil_of_le (by omega), List.take_length]
  simp

theorem halfD_length {α : Type} {f : α → List Dt} {n : Nat} (hf : ∀ x, (f x).length = n) {l : List α} {X : List Value} (hX : X.length = l.length * n) {k : Nat} (hk : k ≤ l.length) : (halfD f n l X k).length = l.length * n := by
  unfold halfD
  rw [List.length_append, flatMap_length f n hf, List.length_map, List.length_drop, hX, List.length_take, Nat.min_eq_left hk, ← Nat.sub_mul, ← Nat.add_mul]
  congr 1
  omega

theorem halfD_next {α : Type} {f : α → List Dt} {n : Nat} (hf : ∀ x, (f x).length = n) {l : List α} {X : List Value} (hX : X.length = l.length * n) {k : Nat} (hk : k < l.length) : setMany (halfD f n l X k) (k * n) (f l[k]) = halfD f n l X (k + 1) := by
  unfold halfD
  have hA : ((l.take k).flatMap f).length = k * n := by rw [flatMap_length f n hf, List.length_take, Nat.min_eq_left (by omega)]
  have hkn : k * n + n ≤ l.length * n := by
    rw [← Nat.succ_mul]
    exact Nat.mul_le_mul_right n hk
  have e1 : X.drop (k * n) = (X.drop (k * n)).take n ++ X.drop ((k + 1) * n) := by
    rw [Nat.add_mul, Nat.one_mul, ← List.drop_drop, List.take_append_drop]
  have e2 : (X.drop (k * n)).map Dt.leaf = ((X.drop (k * n)).take n).map Dt.leaf ++ (X.drop ((k + 1) * n)).map Dt.leaf := by
    rw [← List.map_append, ← e1]
  have hr : (((X.drop (k * n)).take n).map Dt.leaf).length = (f l[k]).length := by
    rw [List.length_map, List.length_take, List.length_drop, hX, hf]
    omega
  rw [e2]
  have := setMany_skip (f l[k]) ((l.take k).flatMap f) (((X.drop (k * n)).take n).map Dt.leaf ++ (X.drop ((k + 1) * n)).map Dt.leaf) 0
  simp only [hA, Nat.add_zero] at this
  rw [this, setMany_here _ _ _ hr, List.take_succ_eq_append_getElem hk, List.flatMap_append, List.append_assoc]
  simp

/-- What one reads at a place of it that is still as it lay. -/
theorem halfD_get {α : Type} {f : α → List Dt} {n : Nat} (hf : ∀ x, (f x).length = n) {l : List α} {X : List Value} {k : Nat} (hk : k ≤ l.length) {i : Nat} {u : Value} (hu : X[k * n + i]? = some u) : (halfD f n l X k)[k * n + i]? = some (.leaf u) := by
  unfold halfD
  have hA : ((l.take k).flatMap f).length = k * n := by rw [flatMap_length f n hf, List.length_take, Nat.min_eq_left hk]
  rw [List.getElem?_append_right (by omega), hA, List.getElem?_map, List.getElem?_drop, show k * n + (k * n + i - k * n) = k * n + i by omega, hu]
  rfl

theorem leaf_cell {W : World} {g n c : Nat} {e : TypeId} {sz : Nat} {ds : List Dt} {fp : List Nat} (h : Owns W (.slice (some ⟨g, 0, none⟩) n c) (.row e sz ds) fp) {i : Nat} {u : Value} (hi : ds[i]? = some (.leaf u)) : W.cell? ⟨g, i, none⟩ = some u := by
  have hr := h.reads
  unfold Reads at hr
  obtain ⟨a, n', cap', h1, h2, h3⟩ := hr
  cases h1
  obtain ⟨g', off, u', e1, e2, e3, e4⟩ := h3.at_ hi
  cases e1
  unfold Reads at e4
  subst e4
  simpa using e3

theorem free_cell {W : World} {g n c : Nat} {e : TypeId} {sz : Nat} {ds : List Dt} {fp : List Nat} (h : Owns W (.slice (some ⟨g, 0, none⟩) n c) (.row e sz ds) fp) {i : Nat} (hi : i < ds.length) : (∃ u, W.cell? ⟨g, i, none⟩ = some u) ∧ W.frozen? ⟨g, i, none⟩ = false ∧ g < W.heap.size := by
  obtain ⟨fps, rfl⟩ := Owns.head h
  exact h.cell hi

theorem half_shelves {l : List Shf} {X : List Value} (hX : X.length = l.length * 2) {k : Nat} (hk : k ≤ l.length) : (halfD (shC T0) 2 l X k).length = l.length * 2 := halfD_length (f := shC T0) (n := 2) (fun _ => rfl) hX hk
theorem half_peers {l : List Pr} {X : List Value} (hX : X.length = l.length * 6) {k : Nat} (hk : k ≤ l.length) : (halfD (prC T0) 6 l X k).length = l.length * 6 := halfD_length (f := prC T0) (n := 6) (fun _ => rfl) hX hk
end Go.Proofs.YteladljgnbfcnaaGreatDoor.P9
namespace Go.Proofs.YteladljgnbfcnaaGreatDoor.P9
set_option maxRecDepth 8000
open Go.RowKit P1 P8 Da Ap Rr Rc

set_option maxHeartbeats 1000000 in
theorem cloneItems_calls (w : World) (a : Option Addr) (n c : Nat) (X : List Value) (hX : X.length = n * 2) (hN : NewsAt w a X) (h1 : ∀ u ∈ X, u.oneCell' = true) (hl : n ≤ 1048576) :
    Calls Tryz.prog 126 #[.slice a n c] w fun e w' => ∃ v', e = .returned v' ∧ w'.ownsRow w.heap.size 82 2 v' n X ∧ Below w.heap.size w w' := by
  obtain ⟨i0, hi, hz0, hz1, hz2⟩ := info_parts info_item
  have HI := hide hN
  have q22 : ∀ (w : World) (a : Option Addr) (n c n' c' : Nat), (binOp .eql 83 (.slice a n c) (.slice none n' c')).run Tryz.prog w = .ok (.bool a.isNone) w := fun w a n c n' c' => Lib.run_eql_slice_nil w _ _ a n c n' c' Tryz.underlying83
  cases a with
  | none =>
    have h0 : X = [] := by
      cases X with
      | nil => rfl
      | cons x xs =>
        obtain ⟨g, off, e2, -⟩ := HI.out 0 x rfl
        cases e2
    clear HI hN
    subst h0
    have hn : n = 0 := by simp at hX; omega
    subst hn
    go_enter Tryz.func126, Tryz.ntmps126
    go_wp2_with fail
    go_ret
    exact ⟨_, rfl, ⟨rfl, .inl ⟨rfl, rfl⟩⟩, Below.refl _ _⟩
  | some a =>
    have hmade := World.ownsRow_made (e := 82) (base := w.heap.size) (size := 2) w #[] 0 (Nat.le_refl _) (Nat.zero_le _) (by simp)
    have hba := (Below.refl w.heap.size w).alloc (Nat.le_refl _) (.cells #[] 82)
    have HX := hide (HI.out.below hba (Nat.le_refl _)).news
    have HB := hide hba
    have HM := hide hmade
    have H1 := hide h1
    have HL := hide hX
    clear HI hba hmade h1 hX hN
    go_enter Tryz.func126, Tryz.ntmps126
    go_wp2_with (at_builtin; refine wpList_append_any rfl (.tmp 5) (.tmp 6) 83 rfl w.heap.size 82 i0 (.agg #[.string ByteArray.empty, .bool false]) 2 24 Tryz.underlying83 hi hz0 hz1 hz2 rfl (by decide) _ _ _ rfl HM.out (some a) n c rfl X HL.out HX.out H1.out (by unfold maxLen; omega) (by omega) HB.out.size ?_)
    intro v6 w6 hown hg6
    have HO := hide hown
    have HG := hide (HB.out.grown hg6 HB.out.size (fun j hj => (HM.out.lt j hj).1))
    clear hown hg6 HX HM HB H1 HL
    go_wp2_with fail
    go_ret
    exact ⟨_, rfl, by simpa using HO.out, HG.out⟩

set_option maxHeartbeats 1000000 in
theorem cloneShelves_calls (w : World) (a : Option Addr) (n c : Nat) (X : List Value) (hX : X.length = n * 2) (hN : NewsAt w a X) (h1 : ∀ u ∈ X, u.oneCell' = true) (hl : n ≤ 1048576) :
    Calls Tryz.prog 112 #[.slice a n c] w fun e w' => ∃ v', e = .returned v' ∧ w'.ownsRow w.heap.size 100 2 v' n X ∧ Below w.heap.size w w' := by
  obtain ⟨i0, hi, hz0, hz1, hz2⟩ := info_parts info_shelf
  have HI := hide hN
  have q22 : ∀ (w : World) (a : Option Addr) (n c n' c' : Nat), (binOp .eql 30 (.slice a n c) (.slice none n' c')).run Tryz.prog w = .ok (.bool a.isNone) w := fun w a n c n' c' => Lib.run_eql_slice_nil w _ _ a n c n' c' Tryz.underlying30
  cases a with
  | none =>
    have h0 : X = [] := by
      cases X with
      | nil => rfl
      | cons x xs =>
        obtain ⟨g, off, e2, -⟩ := HI.out 0 x rfl
        cases e2
    clear HI hN
    subst h0
    have hn : n = 0 := by simp at hX; omega
    subst hn
    go_enter Tryz.func112, Tryz.ntmps112
    go_wp2_with fail
    go_ret
    exact ⟨_, rfl, ⟨rfl, .inl ⟨rfl, rfl⟩⟩, Below.refl _ _⟩
  | some a =>
    have hmade := World.ownsRow_made (e := 100) (base := w.heap.size) (size := 2) w #[] 0 (Nat.le_refl _) (Nat.zero_le _) (by simp)
    have hba := (Below.refl w.heap.size w).alloc (Nat.le_refl _) (.cells #[] 100)
    have HX := hide (HI.out.below hba (Nat.le_refl _)).news
    have HB := hide hba
    have HM := hide hmade
    have H1 := hide h1
    have HL := hide hX
    clear HI hba hmade h1 hX hN
    go_enter Tryz.func112, Tryz.ntmps112
    go_wp2_with (at_builtin; refine wpList_append_any rfl (.tmp 5) (.tmp 6) 30 rfl w.heap.size 100 i0 (.agg #[.int .i64 0, .slice none 0 0]) 2 32 Tryz.underlying30 hi hz0 hz1 hz2 rfl (by decide) _ _ _ rfl HM.out (some a) n c rfl X HL.out HX.out H1.out (by unfold maxLen; omega) (by omega) HB.out.size ?_)
    intro v6 w6 hown hg6
    have HO := hide hown
    have HG := hide (HB.out.grown hg6 HB.out.size (fun j hj => (HM.out.lt j hj).1))
    clear hown hg6 HX HM HB H1 HL
    go_wp2_with fail
    go_ret
    exact ⟨_, rfl, by simpa using HO.out, HG.out⟩

set_option maxHeartbeats 1000000 in
theorem clonePeers_calls (w : World) (a : Option Addr) (n c : Nat) (X : List Value) (hX : X.length = n * 6) (hN : NewsAt w a X) (h1 : ∀ u ∈ X, u.oneCell' = true) (hl : n ≤ 1048576) :
    Calls Tryz.prog 92 #[.slice a n c] w fun e w' => ∃ v', e = .returned v' ∧ w'.ownsRow w.heap.size 32 6 v' n X ∧ Below w.heap.size w w' := by
  obtain ⟨i0, hi, hz0, hz1, hz2⟩ := info_parts info_peer
  have HI := hide hN
  have q22 : ∀ (w : World) (a : Option Addr) (n c n' c' : Nat), (binOp .eql 24 (.slice a n c) (.slice none n' c')).run Tryz.prog w = .ok (.bool a.isNone) w := fun w a n c n' c' => Lib.run_eql_slice_nil w _ _ a n c n' c' Tryz.underlying24
  cases a with
  | none =>
    have h0 : X = [] := by
      cases X with
      | nil => rfl
      | cons x xs =>
        obtain ⟨g, off, e2, -⟩ := HI.out 0 x rfl
        cases e2
    clear HI hN
    subst h0
    have hn : n = 0 := by simp at hX; omega
    subst hn
    go_enter Tryz.func92, Tryz.ntmps92
    go_wp2_with fail
    go_ret
    exact ⟨_, rfl, ⟨rfl, .inl ⟨rfl, rfl⟩⟩, Below.refl _ _⟩
  | some a =>
    have hmade := World.ownsRow_made (e := 32) (base := w.heap.size) (size := 6) w #[] 0 (Nat.le_refl _) (Nat.zero_le _) (by simp)
    have hba := (Below.refl w.heap.size w).alloc (Nat.le_refl _) (.cells #[] 32)
    have HX := hide (HI.out.below hba (Nat.le_refl _)).news
    have HB := hide hba
    have HM := hide hmade
    have H1 := hide h1
    have HL := hide hX
    clear HI hba hmade h1 hX hN
    go_enter Tryz.func92, Tryz.ntmps92
    go_wp2_with (at_builtin; refine wpList_append_any rfl (.tmp 5) (.tmp 6) 24 rfl w.heap.size 32 i0 (.agg #[.int .i64 0, .bool false, .int .i64 0, .slice none 0 0, .slice none 0 0, .slice none 0 0]) 6 96 Tryz.underlying24 hi hz0 hz1 hz2 rfl (by decide) _ _ _ rfl HM.out (some a) n c rfl X HL.out HX.out H1.out (by unfold maxLen; omega) (by omega) HB.out.size ?_)
    intro v6 w6 hown hg6
    have HO := hide hown
    have HG := hide (HB.out.grown hg6 HB.out.size (fun j hj => (HM.out.lt j hj).1))
    clear hown hg6 HX HM HB H1 HL
    go_wp2_with fail
    go_ret
    exact ⟨_, rfl, by simpa using HO.out, HG.out⟩
end Go.Proofs.YteladljgnbfcnaaGreatDoor.P9
namespace Go.Proofs.YteladljgnbfcnaaGreatDoor.P9
set_option maxRecDepth 8000
open Go.RowKit P1 P8 Da Ap Rr Rc

theorem items_at {w : World} {a : Option Addr} {c : Nat} {l : List It} (h : ItemsAt w (.slice a l.length c) l) : NewsAt w a (cellsT l) := by
  intro j u hj
  obtain ⟨g, off, e, hc⟩ := items_news h j u hj
  refine ⟨g, off, e, ?_, hc⟩
  rcases Nat.lt_or_ge g w.heap.size with h' | h'
  · exact h'
  · unfold World.cell? at hc
    rw [Array.getElem?_eq_none h'] at hc
    simp at hc

set_option maxHeartbeats 2000000 in
theorem copiedShelf_calls (w : World) (key : Int) (u : Value) (l : List It) (hu : ItemsAt w u l) (hl : l.length ≤ 1048576) :
    Calls Tryz.prog 113 #[.agg #[.int .i64 key, u]] w fun e w' => ∃ v f, e = .returned (.agg #[.int .i64 key, v]) ∧ Owns w' v (itemsD T0 l) f ∧ (∀ q ∈ f, w.heap.size ≤ q) ∧ Below w.heap.size w w' := by
  have HV := hide hu
  obtain ⟨a, c, rfl, -⟩ := hu.open_
  have hb1 := (Below.refl w.heap.size w).alloc (Nat.le_refl _) (.cells #[.int .i64 key, .slice a l.length c] 100)
  have hb2 := hb1.alloc hb1.size (.cells #[.int .i64 0, .slice none 0 0] 100)
  have A0 := Blk.new w #[.int .i64 key, .slice a l.length c] 100
  have A1 := Blk.new (w.alloc (.cells #[.int .i64 key, .slice a l.length c] 100)) #[.int .i64 0, .slice none 0 0] 100
  have hn := (Below.refl (w.alloc (.cells #[.int .i64 key, .slice a l.length c] 100)).heap.size (w.alloc (.cells #[.int .i64 key, .slice a l.length c] 100))).alloc (Nat.le_refl _) (.cells #[.int .i64 0, .slice none 0 0] 100)
  have A0' := A0.below hn A0.lt
  have e1 : (w.alloc (.cells #[.int .i64 key, .slice a l.length c] 100)).heap.size = w.heap.size + 1 := by simp
  rw [e1] at A1
  have HV1 := hide (HV.out.below hb2 (Nat.le_refl _))
  have HB := hide hb2
  clear hu HV hb1 hb2 A0 hn e1
  go_enter Tryz.func113, Tryz.ntmps113
  go_upto_region 1 with fail
  obtain ⟨s, es⟩ : ∃ s, s = w.heap.size := ⟨_, rfl⟩
  rw [← es] at A0' A1 ⊢
  have HS : Hid (w.heap.size = s) := es.symm
  clear es
  generalize (w.alloc (.cells #[.int .i64 key, .slice a l.length c] 100)).alloc (.cells #[.int .i64 0, .slice none 0 0] 100) = w1 at *
  have HC := hide (cloneItems_calls w1 a l.length c (cellsT l) (cellsT_len l) (items_at HV1.out) (cellsT_one l) hl)
  have c1 := blk_free_cell A0' 1 rfl
  have l0 := A0'.lt
  have l1 := A1.lt
  go_wp2_with fail
  refine HC.out.mono ?_
  rintro e w2 ⟨v2, rfl, ho2, hb2⟩
  obtain ⟨a2, c2, hsh⟩ := own_sh ho2
  subst hsh
  obtain ⟨f, o2, hf⟩ := items_owned ho2
  have B0 := A0'.below hb2 A0'.lt
  have B1 := A1.below hb2 A1.lt
  have HB2 := hide (HB.out.trans (hb2.mono HB.out.size))
  have hw0 := HS.out
  have HF : Hid (∀ q ∈ f, s + 1 < q) := fun q hq => by have := hf q hq; omega
  have HO := hide o2
  clear c1 l0 HC HV1 HB ho2 hb2 A0' A1 o2 hf l1
  have k1 := blk_free_cell B0 1 rfl
  have f1 := B0.free 1
  have kl := B0.lt
  go_upto_region 2 with fail
  have D0 := B0.set 1 (.slice a2 l.length c2)
  have D1 := B1.other (p := ⟨s, 1, none⟩) (by show s + 1 ≠ s; omega) (.slice a2 l.length c2)
  simp only [List.set_cons_succ, List.set_cons_zero] at D0
  have HO3 := hide (owns_set HO.out (b := s) (i := 1) (fun q hq => by have := HF.out q hq; omega) (.slice a2 l.length c2))
  have HB3 := hide (HB2.out.setCell (p := ⟨s, 1, none⟩) (by show _ ≤ s; omega) (.slice a2 l.length c2))
  clear B0 B1 k1 f1 kl HB2 HO
  generalize w2.setCell ⟨s, 1, none⟩ (.slice a2 l.length c2) = w3 at *
  have m0 := blk_free_cell D0 0 rfl
  have m1 := blk_free_cell D0 1 rfl
  have ml := D0.lt
  have n0 := blk_free_cell D1 0 rfl
  have n1 := blk_free_cell D1 1 rfl
  have g0 := D1.free 0
  have g1 := D1.free 1
  have nl := D1.lt
  go_wp2_with fail
  have Rd := (D1.set 0 (.int .i64 key)).set 1 (.slice a2 l.length c2)
  have x0 := blk_free_cell Rd 0 rfl
  have x1 := blk_free_cell Rd 1 rfl
  refine bodyPost_ret (v := .agg #[.int .i64 key, .slice a2 l.length c2]) (by simp [results, Tryz.results113, go_sem, x0, x1]) rfl ⟨_, f, rfl, owns_set (owns_set HO3.out (b := s + 1) (i := 0) (fun q hq => by have := HF.out q hq; omega) _) (b := s + 1) (i := 1) (fun q hq => by have := HF.out q hq; omega) _, fun q hq => by have := HF.out q hq; omega, (HB3.out.setCell (p := ⟨s + 1, 0, none⟩) (by show _ ≤ s + 1; omega) _).setCell (p := ⟨s + 1, 1, none⟩) (by show _ ≤ s + 1; omega) _⟩
end Go.Proofs.YteladljgnbfcnaaGreatDoor.P9
namespace Go.Proofs.YteladljgnbfcnaaGreatDoor.P9
set_option maxRecDepth 8000
open Go.RowKit P1 P8 Da Ap Rr Rc

set_option maxRecDepth 100000 in
set_option maxHeartbeats 4000000 in
theorem copiedPeer_calls (w : World) (p : Pr) (u3 u4 u5 : Value) (h3 : IntsAt w u3 p.behind) (h4 : IntsAt w u4 p.fingers) (h5 : ShelvesAt w u5 p.shelves) (hp : Small p) :
    Calls Tryz.prog 93 #[prV p u3 u4 u5] w fun e w' => ∃ v3 v4 v5 f3 f4 f5, e = .returned (prV p v3 v4 v5) ∧ PeerOwn w' w.heap.size p v3 v4 v5 f3 f4 f5 ∧ Below w.heap.size w w' := by
  obtain ⟨id, here, ahead, be, fi, sh⟩ := p
  have hs3 := hp.b
  have hs4 := hp.f
  have hs5 := hp.s
  have HI := hide hp.i
  dsimp only at h3 h4 h5 hs3 hs4 hs5 HI
  unfold prV
  have H3 := hide h3
  have H4 := hide h4
  have H5 := hide h5
  obtain ⟨a3, c3, rfl, -⟩ := h3
  obtain ⟨a4, c4, rfl, -⟩ := h4
  obtain ⟨a5, c5, e5, -⟩ := h5.open_
  subst e5
  clear h5 hp
  have hb1 := (Below.refl w.heap.size w).alloc (Nat.le_refl _) (.cells #[.int .i64 id, .bool here, .int .i64 ahead, .slice a3 be.length c3, .slice a4 fi.length c4, .slice a5 sh.length c5] 32)
  have hb2 := hb1.alloc hb1.size (.cells #[.int .i64 0, .bool false, .int .i64 0, .slice none 0 0, .slice none 0 0, .slice none 0 0] 32)
  have A0 := Blk.new w #[.int .i64 id, .bool here, .int .i64 ahead, .slice a3 be.length c3, .slice a4 fi.length c4, .slice a5 sh.length c5] 32
  have A1 := Blk.new (w.alloc (.cells #[.int .i64 id, .bool here, .int .i64 ahead, .slice a3 be.length c3, .slice a4 fi.length c4, .slice a5 sh.length c5] 32)) #[.int .i64 0, .bool false, .int .i64 0, .slice none 0 0, .slice none 0 0, .slice none 0 0] 32
  have hn (wq : World) (o : Obj) : Below wq.heap.size wq (wq.alloc o) := (Below.refl _ _).alloc (Nat.le_refl _) o
  have A0' := A0.below (hn _ (.cells #[.int .i64 0, .bool false, .int .i64 0, .slice none 0 0, .slice none 0 0, .slice none 0 0] 32)) A0.lt
  have e1 : (w.alloc (.cells #[.int .i64 id, .bool here, .int .i64 ahead, .slice a3 be.length c3, .slice a4 fi.length c4, .slice a5 sh.length c5] 32)).heap.size = w.heap.size + 1 := by simp
  rw [e1] at A1
  have HB := hide hb2
  clear hb1 hb2 A0 hn e1
  go_enter Tryz.func93, Tryz.ntmps93
  go_upto_region 1 with fail
  obtain ⟨s, es⟩ : ∃ s, s = w.heap.size := ⟨_, rfl⟩
  rw [← es] at A0' A1 ⊢
  have HS : Hid (w.heap.size = s) := es.symm
  clear es
  generalize (w.alloc (.cells #[.int .i64 id, .bool here, .int .i64 ahead, .slice a3 be.length c3, .slice a4 fi.length c4, .slice a5 sh.length c5] 32)).alloc (.cells #[.int .i64 0, .bool false, .int .i64 0, .slice none 0 0, .slice none 0 0, .slice none 0 0] 32) = w1 at *
  have HD0 := hide A0'
  have HD1 := hide A1
  have hl0 := A0'.lt
  have hl1 := A1.lt
  clear A0' A1
  -- those behind it, and its fingers
  have n3 : ∀ p : Near w1.heap.size w1, p.w.cell? ⟨s, 3, none⟩ = some (.slice a3 be.length c3) := fun p => by rw [(HD0.out.below p.h HD0.out.lt).cell 3]; rfl
  have n4 : ∀ p : Near w1.heap.size w1, p.w.cell? ⟨s, 4, none⟩ = some (.slice a4 fi.length c4) := fun p => by rw [(HD0.out.below p.h HD0.out.lt).cell 4]; rfl
  have hnn := Near.some w1.heap.size w1
  refine wp_region_open (fun wd => ∃ p : Near w1.heap.size w1, wd = p.w) ⟨⟨_, (Below.refl _ _).drew⟩, rfl⟩ (by kernel_rfl) ?_
  rintro wd ⟨pd, rfl⟩
  refine wpAny_of_K (c := 7) (D := fun w' => ∃ p : Near w1.heap.size w1, w' = p.w) _ _ _ _ ?_
  refine wpAnyK_seg_lit4 0 2 6 8 rfl (by decide) (by decide) (by kernel_rfl) (by kernel_rfl) (by kernel_rfl) (by kernel_rfl) (fun _ _ _ _ _ h => h) ⟨pd, rfl⟩ ?_
  simp only [List.take_succ_cons, List.take_zero, List.drop_zero]
  repeat (go_big_quiet_step (fail))
  refine wpQuiet_nil ?_
  refine wpAnyK_seg_lit4 3 2 6 6 rfl (by decide) (by decide) (by kernel_rfl) (by kernel_rfl) (by kernel_rfl) (by kernel_rfl) (fun _ _ _ _ _ h => h) ⟨pd, rfl⟩ ?_
  simp only [List.take_succ_cons, List.take_zero, List.drop_succ_cons, List.drop_zero]
  repeat (go_big_quiet_step (fail))
  refine wpQuiet_nil ?_
  clear n3 n4
  have hps := pd.h.size
  have HCa := hide (clone_calls pd.w _ be (H3.out.below (HB.out.trans (pd.h.mono HB.out.size)) (Nat.le_refl _)) (by omega))
  refine wpAnyK_call 2 (by kernel_rfl) rfl rfl 111 _ _ rfl (run_enter Tryz.func111 (by kernel_rfl) (by kernel_rfl)) #[.slice a3 be.length c3] rfl (fun u' w' => w'.ownsRow pd.w.heap.size 3 1 u' be.length (cellsI be) ∧ Below pd.w.heap.size pd.w w') (HCa.out.mono (fun e w' ⟨v, he, ho, hb⟩ => ⟨_, he, ho, hb⟩)) ?_
  rintro v3 wA ⟨hoA, hbA⟩
  have hqA := pd.h.trans (hbA.mono hps)
  refine ⟨⟨⟨_, hqA⟩, rfl⟩, ?_⟩
  simp only [Act.put, List.setIfInBounds_toArray, List.set_cons_succ, List.set_cons_zero]
  refine wpAnyK_seg_lit4 6 1 6 4 rfl (by decide) (by decide) (by kernel_rfl) (by kernel_rfl) (by kernel_rfl) (by kernel_rfl) (fun _ _ _ _ _ h => h) ⟨⟨_, hqA⟩, rfl⟩ ?_
  simp only [List.take_succ_cons, List.take_zero, List.drop_succ_cons, List.drop_zero]
  repeat (go_big_quiet_step (fail))
  refine wpQuiet_nil ?_
  clear hnn
  have HCb := hide (clone_calls wA _ fi (H4.out.below (HB.out.trans (hqA.mono HB.out.size)) (Nat.le_refl _)) (by omega))
  refine wpAnyK_call 5 (by kernel_rfl) rfl rfl 111 _ _ rfl (run_enter Tryz.func111 (by kernel_rfl) (by kernel_rfl)) #[.slice a4 fi.length c4] rfl (fun u' w' => w'.ownsRow wA.heap.size 3 1 u' fi.length (cellsI fi) ∧ Below wA.heap.size wA w') (HCb.out.mono (fun e w' ⟨v, he, ho, hb⟩ => ⟨_, he, ho, hb⟩)) ?_
  rintro v4 wB ⟨hoB, hbB⟩
  have hqB := hqA.trans (hbB.mono hqA.size)
  refine ⟨⟨⟨_, hqB⟩, rfl⟩, ?_⟩
  simp only [Act.put, List.setIfInBounds_toArray, List.set_cons_succ, List.set_cons_zero]
  refine wpAnyK_last (by kernel_rfl) (by decide) ?_
  refine wpAny_rest 7 rfl (by kernel_rfl) ?_
  simp only [List.drop_succ_cons, List.drop_zero]
  obtain ⟨b3, d3, hsh⟩ := own_sh hoA
  subst hsh
  obtain ⟨b4, d4, hsh⟩ := own_sh hoB
  subst hsh
  obtain ⟨f3, o3, g3⟩ := ints_owned hoA
  obtain ⟨f4, o4, g4⟩ := ints_owned hoB
  have o3B := owns_below o3 hbB
  have hzA := hqA.size
  have hzB := hbB.size
  have hw0 := HS.out
  have HF3 : Hid (∀ q ∈ f3, s + 1 < q ∧ q < wA.heap.size) := fun q hq => by
    have := g3 q hq
    have := o3.lt q hq
    exact ⟨by omega, by omega⟩
  have HF4 : Hid (∀ q ∈ f4, wA.heap.size ≤ q ∧ s + 1 < q) := fun q hq => by have := g4 q hq; exact ⟨by omega, by omega⟩
  have D0 := HD0.out.below hqB HD0.out.lt
  have D1 := HD1.out.below hqB HD1.out.lt
  have HBB := hide (HB.out.trans (hqB.mono HB.out.size))
  have HO3 := hide o3B
  have HO4 := hide o4
  have HZ4 : Hid (∀ q ∈ f4, q < wB.heap.size) := o4.lt
  clear HCa HCb hoA hoB hbA hbB hqA hqB o3 o4 o3B g3 g4 hps HD0 HD1 HB hw0 hl0
  have k3 := blk_free_cell D0 3 rfl
  have k4 := blk_free_cell D0 4 rfl
  have r3 := D0.free 3
  have r4 := D0.free 4
  have kl := D0.lt
  go_upto_region 2 with fail
  have E0 := (D0.set 3 (.slice b3 be.length d3)).set 4 (.slice b4 fi.length d4)
  have E1 := (D1.other (p := ⟨s, 3, none⟩) (by show s + 1 ≠ s; omega) (.slice b3 be.length d3)).other (p := ⟨s, 4, none⟩) (by show s + 1 ≠ s; omega) (.slice b4 fi.length d4)
  simp only [List.set_cons_succ, List.set_cons_zero] at E0
  have HP3 := hide (owns_set (owns_set HO3.out (b := s) (i := 3) (fun q hq => by have := (HF3.out q hq).1; omega) (.slice b3 be.length d3)) (b := s) (i := 4) (fun q hq => by have := (HF3.out q hq).1; omega) (.slice b4 fi.length d4))
  have HP4 := hide (owns_set (owns_set HO4.out (b := s) (i := 3) (fun q hq => by have := (HF4.out q hq).2; omega) (.slice b3 be.length d3)) (b := s) (i := 4) (fun q hq => by have := (HF4.out q hq).2; omega) (.slice b4 fi.length d4))
  have hw0 := HS.out
  have HBC := hide ((HBB.out.setCell (p := ⟨s, 3, none⟩) (by show _ ≤ s; omega) (.slice b3 be.length d3)).setCell (p := ⟨s, 4, none⟩) (by show _ ≤ s; omega) (.slice b4 fi.length d4))
  have hsz : ((wB.setCell ⟨s, 3, none⟩ (.slice b3 be.length d3)).setCell ⟨s, 4, none⟩ (.slice b4 fi.length d4)).heap.size = wB.heap.size := by simp
  clear D0 D1 k3 k4 r3 r4 HO3 HO4 HBB hw0
  generalize (wB.setCell ⟨s, 3, none⟩ (.slice b3 be.length d3)).setCell ⟨s, 4, none⟩ (.slice b4 fi.length d4) = wC at *
  rw [← hsz] at HZ4 kl hzB
  clear hsz
  -- its shelves, as they lie
  obtain ⟨X, hX, hXn0, hX1, hXs⟩ := shelves_raw H5.out
  have hXn := hXn0.below HBC.out (Nat.le_refl _)
  have HC := hide (cloneShelves_calls wC a5 sh.length c5 X hX hXn hX1 hs5)
  have HX := hide hX
  have HXS := hide hXs
  have k5 := blk_free_cell E0 5 rfl
  clear hX hXn hX1 hXs hXn0
  go_wp2_with fail
  refine HC.out.mono ?_
  rintro e wD ⟨v5, rfl, hoD, hbD⟩
  obtain ⟨b5, d5, hsh⟩ := own_sh hoD
  subst hsh
  obtain ⟨f5, o5, g5⟩ := owns_leaves hoD
  have F0 := E0.below hbD E0.lt
  have F1 := E1.below hbD E1.lt
  have HBD := hide (HBC.out.trans (hbD.mono HBC.out.size))
  have HQ3 := hide (owns_below HP3.out hbD)
  have HQ4 := hide (owns_below HP4.out hbD)
  have HG5 : Hid (∀ q ∈ f5, wC.heap.size ≤ q) := g5
  have HO5 := hide o5
  clear k5 kl HC hoD hbD E0 E1 HBC HP3 HP4 o5 g5
  have r5 := F0.free 5
  have k5 := blk_free_cell F0 5 rfl
  have kl := F0.lt
  go_upto_region 3 with fail
  have G0 := F0.set 5 (.slice b5 sh.length d5)
  have G1 := F1.other (p := ⟨s, 5, none⟩) (by show s + 1 ≠ s; omega) (.slice b5 sh.length d5)
  simp only [List.set_cons_succ, List.set_cons_zero] at G0
  have hw0 := HS.out
  have HSZ : Hid (s + 1 < wC.heap.size ∧ wA.heap.size ≤ wC.heap.size ∧ w.heap.size ≤ wC.heap.size) := by
    show _ ∧ _ ∧ _
    omega
  have HP5 := hide (owns_set HO5.out (b := s) (i := 5) (fun q hq => by have := HG5.out q hq; have := HSZ.out.1; omega) (.slice b5 sh.length d5))
  have HP3 := hide (owns_set HQ3.out (b := s) (i := 5) (fun q hq => by have := (HF3.out q hq).1; omega) (.slice b5 sh.length d5))
  have HP4 := hide (owns_set HQ4.out (b := s) (i := 5) (fun q hq => by have := (HF4.out q hq).2; omega) (.slice b5 sh.length d5))
  have HBE := hide (HBD.out.setCell (p := ⟨s, 5, none⟩) (by show _ ≤ s; omega) (.slice b5 sh.length d5))
  clear F0 F1 r5 k5 kl HBD HQ3 HQ4 HO5 hzA hzB hl1
  generalize wD.setCell ⟨s, 5, none⟩ (.slice b5 sh.length d5) = wE at *
  obtain ⟨z, ez⟩ : ∃ z, z = wC.heap.size := ⟨_, rfl⟩
  rw [← ez] at HSZ HG5 HZ4
  have HF3z : Hid (∀ q ∈ f3, s + 1 < q ∧ q < z) := fun q hq => ⟨(HF3.out q hq).1, Nat.lt_of_lt_of_le (HF3.out q hq).2 HSZ.out.2.1⟩
  have HF4z : Hid (∀ q ∈ f4, s + 1 < q ∧ q < z) := fun q hq => ⟨(HF4.out q hq).2, HZ4.out q hq⟩
  have HD34 : Hid (∀ q ∈ f3, q ∉ f4) := fun q h3 h4 => by have := (HF3.out q h3).2; have := (HF4.out q h4).1; omega
  have HSz : Hid (s + 1 < z ∧ w.heap.size ≤ z) := ⟨HSZ.out.1, HSZ.out.2.2⟩
  clear HSZ HF3 HF4 HZ4 ez
  have m5 := blk_free_cell G0 5 rfl
  have ml := G0.lt
  have HG0 := hide G0
  have HG1 := hide G1
  clear G0 G1 hw0
  go_wp2_with fail
  clear m5 ml
  go_loopw [20] (fun i wr => ∃ k : Nat, k ≤ sh.length ∧ i = .int .i64 k ∧ ∃ fps, Hid (Owns wr (.slice b5 sh.length d5) (.row 100 2 (halfD (shC T0) 2 sh X k)) fps) ∧ Hid (∀ q ∈ fps, z ≤ q) ∧ Hid (Below z wE wr)) (fun i _ => sh.length - (intOf i).toNat)
  case atStart => exact ⟨0, Nat.zero_le _, rfl, f5, by rw [halfD_zero]; exact HP5.out, HG5.out, Below.refl _ _⟩
  case round =>
    clear HP5 HG5
    obtain ⟨k, hk, rfl, fps, HR, HFP, HBW⟩ := hrel
    have HBr := hide (HBE.out.trans (HBW.out.mono HSz.out.2))
    have D0r := HG0.out.below HBW.out (Nat.lt_trans (Nat.lt_succ_self s) HSz.out.1)
    by_cases hlt : k < sh.length
    · obtain ⟨g5, hb5⟩ : ∃ g, b5 = some ⟨g, 0, none⟩ := by
        rcases HR.out.shape (n := sh.length) (half_shelves HX.out hk) (by decide) with ⟨_, _, h0⟩ | ⟨g, c, e⟩
        · omega
        · cases e
          exact ⟨g, rfl⟩
      subst hb5
      obtain ⟨u, hT⟩ := HXS.out k hlt
      have c0 := leaf_cell HR.out (halfD_get (f := shC T0) (n := 2) (i := 0) (fun _ => rfl) hk hT.c0)
      have c1 := leaf_cell HR.out (halfD_get (f := shC T0) (n := 2) (i := 1) (fun _ => rfl) hk hT.c1)
      rw [Nat.add_zero] at c0
      have hgl := (free_cell HR.out (i := k * 2) (by rw [half_shelves HX.out hk]; omega)).2.2
      have HIT := hide (hT.items.below HBr.out (Nat.le_refl _))
      have hil := (HI.out sh[k] (List.getElem_mem hlt)).1
      have HT := hide (halfD_next (f := shC T0) (n := 2) (fun _ => rfl) HX.out hlt)
      obtain ⟨ai, ci, hsi, -⟩ := hT.items.open_
      subst hsi
      clear hT
      generalize sh[k] = q at *
      obtain ⟨key, its⟩ := q
      dsimp only at c0 c1 hil HT HIT
      go_upto_region 6 with fail
      have hba := (Below.refl wr.heap.size wr).alloc (Nat.le_refl _) (.cells #[.int .i64 key, .slice ai its.length ci] 100)
      have S := Blk.new wr #[.int .i64 key, .slice ai its.length ci] 100
      have D0x := D0r.below hba D0r.lt
      have HRx := hide (owns_below HR.out hba)
      have HITx := hide (HIT.out.below hba (Nat.le_refl _))
      have HBWx := hide (HBW.out.trans (hba.mono (Nat.le_trans (Nat.le_of_lt (Nat.lt_of_le_of_lt (HFP.out g5 (owns_own HR.out)) hgl)) (Nat.le_refl _))))
      have hgx : g5 < (wr.alloc (.cells #[.int .i64 key, .slice ai its.length ci] 100)).heap.size := Nat.lt_of_lt_of_le hgl hba.size
      obtain ⟨bs, ebs⟩ : ∃ b, b = wr.heap.size := ⟨_, rfl⟩
      rw [← ebs] at S ⊢
      clear ebs hba HR HIT HBW c0 c1 hgl D0r
      generalize wr.alloc (.cells #[.int .i64 key, .slice ai its.length ci] 100) = wx at *
      have n5 : ∀ p : Near wx.heap.size wx, p.w.cell? ⟨s, 5, none⟩ = some (.slice (some ⟨g5, 0, none⟩) sh.length d5) := fun p => by rw [(D0x.below p.h D0x.lt).cell 5]; rfl
      have nb0 : ∀ p : Near wx.heap.size wx, p.w.cell? ⟨bs, 0, none⟩ = some (.int .i64 key) := fun p => by rw [(S.below p.h S.lt).cell 0]; rfl
      have nb1 : ∀ p : Near wx.heap.size wx, p.w.cell? ⟨bs, 1, none⟩ = some (.slice ai its.length ci) := fun p => by rw [(S.below p.h S.lt).cell 1]; rfl
      have hnn := Near.some wx.heap.size wx
      have hsl := D0x.lt
      have hbl := S.lt
      refine wp_region_open (fun wd => ∃ p : Near wx.heap.size wx, wd = p.w) ⟨⟨_, (Below.refl _ _).drew⟩, rfl⟩ (by kernel_rfl) ?_
      rintro wd ⟨pd, rfl⟩
      refine wpAny_of_K (c := 5) (D := fun w' => ∃ p : Near wx.heap.size wx, w' = p.w) _ _ _ _ ?_
      refine wpAnyK_seg_lit4 0 4 6 3 rfl (by decide) (by decide) (by kernel_rfl) (by kernel_rfl) (by kernel_rfl) (by kernel_rfl) (fun _ _ _ _ _ h => h) ⟨pd, rfl⟩ ?_
      simp only [List.take_succ_cons, List.take_zero, List.drop_zero]
      repeat (go_big_quiet_step (fail))
      refine wpQuiet_nil ?_
      clear n5 nb0 nb1 hnn hsl hbl
      have hps := pd.h.size
      have HCs := hide (copiedShelf_calls pd.w key _ its (HITx.out.below pd.h (Nat.le_refl _)) hil)
      refine wpAnyK_call 4 (by kernel_rfl) rfl rfl 113 _ _ rfl (run_enter Tryz.func113 (by kernel_rfl) (by kernel_rfl)) #[.agg #[.int .i64 key, .slice ai its.length ci]] rfl (fun u' w' => ∃ v f, u' = .agg #[.int .i64 key, v] ∧ Owns w' v (itemsD T0 its) f ∧ (∀ q ∈ f, pd.w.heap.size ≤ q) ∧ Below pd.w.heap.size pd.w w') (HCs.out.mono (fun e w' ⟨v, f, he, ho, hf, hb⟩ => ⟨_, he, v, f, rfl, ho, hf, hb⟩)) ?_
      rintro u' wq ⟨vi, f, rfl, hoi, hfi, hbi⟩
      have hbq := pd.h.trans (hbi.mono hps)
      refine ⟨⟨⟨_, hbq⟩, rfl⟩, ?_⟩
      simp only [Act.put, List.setIfInBounds_toArray, List.set_cons_succ, List.set_cons_zero]
      refine wpAnyK_last (by kernel_rfl) (by decide) ?_
      refine wpAny_rest 5 rfl (by kernel_rfl) ?_
      simp only [List.drop_succ_cons, List.drop_zero]
      obtain ⟨bi, mi, di, hsi⟩ : ∃ b m d, vi = .slice b m d := by
        obtain ⟨x, y, h, -⟩ := ItemsAt.open_ ⟨_, hoi.reads⟩
        exact ⟨_, _, _, h⟩
      subst hsi
      have hRq := owns_below HRx.out hbq
      have hxz : z ≤ wx.heap.size := Nat.le_trans (HFP.out g5 (owns_own HRx.out)) (Nat.le_of_lt hgx)
      have HBWq := hide (HBWx.out.trans (hbq.mono hxz))
      have hlen := half_shelves HX.out hk
      obtain ⟨⟨y0, q0⟩, r0, gq⟩ := free_cell hRq (i := k * 2) (by rw [hlen]; omega)
      obtain ⟨⟨y1, q1⟩, r1, -⟩ := free_cell hRq (i := k * 2 + 1) (by rw [hlen]; omega)
      obtain ⟨fps', HP, hfp⟩ := put_two (i := k * 2) (v0 := .int .i64 key) hRq (by rw [hlen]; omega) hoi (fun q hq h => by
        have h1 := HRx.out.lt q h
        have h2 := hfi q hq
        omega)
      have eT : setMany (halfD (shC T0) 2 sh X k) (k * 2) [.leaf (.int .i64 key), itemsD T0 its] = halfD (shC T0) 2 sh X (k + 1) := HT.out
      rw [eT] at HP
      have HRn := hide HP
      have HFn : Hid (∀ q ∈ fps', z ≤ q) := fun q hq => (hfp q hq).elim (HFP.out q) (fun h => by have := hfi q h; omega)
      have hgz := HFP.out g5 (owns_own HRx.out)
      have HBn := hide ((HBWq.out.setCell (p := ⟨g5, k * 2, none⟩) hgz (.int .i64 key)).setCell (p := ⟨g5, k * 2 + 1, none⟩) hgz (.slice bi mi di))
      clear HP hfp hRq hbq hbi hoi hfi HRx HFP HITx HBWx HBWq HT HCs hps hgx hxz hlen D0x S eT
      go_wp2_with fail
      go_roundw
      case rel => exact ⟨k + 1, by omega, by go_num, fps', HRn.out, HFn.out, HBn.out⟩
      case measure => simp [intOf]; omega
    · obtain rfl : k = sh.length := by omega
      have hR := HR.out
      rw [halfD_end _ _ _ _ HX.out] at hR
      have D1r := HG1.out.below HBW.out HSz.out.1
      have H3r := hide (HP3.out.stay (W' := wr) (fun q hq => HBW.out.block q (HF3z.out q hq).2))
      have H4r := hide (HP4.out.stay (W' := wr) (fun q hq => HBW.out.block q (HF4z.out q hq).2))
      have HRr := hide hR
      clear hR HR HBW HBE HG0 HG1 HP3 HP4
      have t0 := blk_free_cell D0r 0 rfl
      have t1 := blk_free_cell D0r 1 rfl
      have t2 := blk_free_cell D0r 2 rfl
      have t3 := blk_free_cell D0r 3 rfl
      have t4 := blk_free_cell D0r 4 rfl
      have t5 := blk_free_cell D0r 5 rfl
      have tl := D0r.lt
      have k0 := blk_free_cell D1r 0 rfl
      have k1 := blk_free_cell D1r 1 rfl
      have k2 := blk_free_cell D1r 2 rfl
      have k3 := blk_free_cell D1r 3 rfl
      have k4 := blk_free_cell D1r 4 rfl
      have k5 := blk_free_cell D1r 5 rfl
      have kf0 := D1r.free 0
      have kf1 := D1r.free 1
      have kf2 := D1r.free 2
      have kf3 := D1r.free 3
      have kf4 := D1r.free 4
      have kf5 := D1r.free 5
      have kl := D1r.lt
      go_wp2_with fail
      have Rd := six_set D1r (.int .i64 id) (.bool here) (.int .i64 ahead) (.slice b3 be.length d3) (.slice b4 fi.length d4) (.slice b5 sh.length d5)
      have x0 := blk_free_cell Rd 0 rfl
      have x1 := blk_free_cell Rd 1 rfl
      have x2 := blk_free_cell Rd 2 rfl
      have x3 := blk_free_cell Rd 3 rfl
      have x4 := blk_free_cell Rd 4 rfl
      have x5 := blk_free_cell Rd 5 rfl
      have hw0 := HS.out
      refine bodyPost_ret (v := .agg #[.int .i64 id, .bool here, .int .i64 ahead, .slice b3 be.length d3, .slice b4 fi.length d4, .slice b5 sh.length d5]) (by simp [results, Tryz.results93, go_sem, x0, x1, x2, x3, x4, x5]) rfl ⟨_, _, _, f3, f4, fps, rfl, ?_, six_below HBr.out (by omega) _ _ _ _ _ _⟩
      have hz := HSz.out
      exact ⟨H3r.out.stay (fun q hq => six_other (by have := (HF3z.out q hq).1; omega)), H4r.out.stay (fun q hq => six_other (by have := (HF4z.out q hq).1; omega)), HRr.out.stay (fun q hq => six_other (by have := HFP.out q hq; omega)),
        fun q hq => by have := (HF3z.out q hq).1; omega, fun q hq => by have := (HF4z.out q hq).1; omega, fun q hq => by have := HFP.out q hq; omega,
        HD34.out, fun q h3 h5 => by have := (HF3z.out q h3).2; have := HFP.out q h5; omega, fun q h4 h5 => by have := (HF4z.out q h4).2; have := HFP.out q h5; omega⟩
end Go.Proofs.YteladljgnbfcnaaGreatDoor.P9
namespace Go.Proofs.YteladljgnbfcnaaGreatDoor.P9
set_option maxRecDepth 8000
open Go.RowKit P1 P8 Da Ap Rr Rc

set_option maxRecDepth 100000 in
set_option maxHeartbeats 4000000 in
theorem copiedRing_calls (w : World) (v : Value) (l : List Pr) (hv : PeersAt w v l) (hl : l.length ≤ 1048576) (hsm : ∀ p ∈ l, Small p) :
    Calls Tryz.prog 63 #[.agg #[v]] w fun e w' => ∃ v' fp, e = .returned (.agg #[v']) ∧ Owns w' v' (peersD T0 l) fp ∧ (∀ q ∈ fp, w.heap.size ≤ q) ∧ Below w.heap.size w w' := by
  have HV := hide hv
  have HSM := hide hsm
  obtain ⟨a, cap, rfl, -⟩ := hv.open_
  clear hv hsm
  have hb1 := (Below.refl w.heap.size w).alloc (Nat.le_refl _) (.cells #[.slice a l.length cap] 26)
  have hb2 := hb1.alloc hb1.size (.cells #[.slice none 0 0] 26)
  have A0 := Blk.new w #[.slice a l.length cap] 26
  have A1 := Blk.new (w.alloc (.cells #[.slice a l.length cap] 26)) #[.slice none 0 0] 26
  have hn (wq : World) (o : Obj) : Below wq.heap.size wq (wq.alloc o) := (Below.refl _ _).alloc (Nat.le_refl _) o
  have A0' := (A0.below (hn _ (.cells #[.slice none 0 0] 26)) A0.lt)
  have e1 : (w.alloc (.cells #[.slice a l.length cap] 26)).heap.size = w.heap.size + 1 := by simp
  rw [e1] at A1
  have HB := hide hb2
  clear hb1 hb2 A0 hn e1
  go_enter Tryz.func63, Tryz.ntmps63
  go_upto_region 1 with fail
  obtain ⟨s, es⟩ : ∃ s, s = w.heap.size := ⟨_, rfl⟩
  rw [← es] at A0' A1 ⊢
  have HS : Hid (w.heap.size = s) := es.symm
  clear es
  generalize (w.alloc (.cells #[.slice a l.length cap] 26)).alloc (.cells #[.slice none 0 0] 26) = w1 at *
  obtain ⟨X, hX, hXn0, hX1, hXs⟩ := peers_raw HV.out
  have HC := hide (clonePeers_calls w1 a l.length cap X hX (hXn0.below HB.out (Nat.le_refl _)) hX1 hl)
  have HX := hide hX
  have HXS := hide hXs
  have c0 := blk_free_cell A0' 0 rfl
  have l0 := A0'.lt
  have l1 := A1.lt
  clear hX hXn0 hX1 hXs
  go_wp2_with fail
  refine HC.out.mono ?_
  rintro e wD ⟨v0, rfl, hoD, hbD⟩
  obtain ⟨b0, d0, hsh⟩ := own_sh hoD
  subst hsh
  obtain ⟨f0, o0, g0⟩ := owns_leaves hoD
  have F0 := A0'.below hbD A0'.lt
  have F1 := A1.below hbD A1.lt
  have hw0 := HS.out
  have HSz : Hid (s + 1 < w1.heap.size ∧ w.heap.size ≤ w1.heap.size) := by
    show _ ∧ _
    omega
  have HBD := hide (HB.out.trans (hbD.mono HB.out.size))
  have HG : Hid (∀ q ∈ f0, w1.heap.size ≤ q) := g0
  clear c0 l0 l1 HC hoD hbD A0' A1 HB g0
  have r0 := F0.free 0
  have k0 := blk_free_cell F0 0 rfl
  have kl := F0.lt
  go_upto_region 2 with fail
  have G0 := F0.set 0 (.slice b0 l.length d0)
  have G1 := F1.other (p := ⟨s, 0, none⟩) (by show s + 1 ≠ s; omega) (.slice b0 l.length d0)
  simp only [List.set_cons_zero] at G0
  have HP0 := hide (owns_set o0 (b := s) (i := 0) (fun q hq => by have := HG.out q hq; have := HSz.out.1; omega) (.slice b0 l.length d0))
  have HBE := hide (HBD.out.setCell (p := ⟨s, 0, none⟩) (by show _ ≤ s; omega) (.slice b0 l.length d0))
  clear F0 F1 r0 k0 kl HBD o0
  generalize wD.setCell ⟨s, 0, none⟩ (.slice b0 l.length d0) = wE at *
  obtain ⟨z, ez⟩ : ∃ z, z = w1.heap.size := ⟨_, rfl⟩
  rw [← ez] at HSz HG
  clear ez
  have m0 := blk_free_cell G0 0 rfl
  have ml := G0.lt
  have HG0 := hide G0
  have HG1 := hide G1
  clear G0 G1 hw0
  go_wp2_with fail
  clear m0 ml
  go_loopw [12] (fun i wr => ∃ k : Nat, k ≤ l.length ∧ i = .int .i64 k ∧ ∃ fps, Hid (Owns wr (.slice b0 l.length d0) (.row 32 6 (halfD (prC T0) 6 l X k)) fps) ∧ Hid (∀ q ∈ fps, z ≤ q) ∧ Hid (Below z wE wr)) (fun i _ => l.length - (intOf i).toNat)
  case atStart => exact ⟨0, Nat.zero_le _, rfl, f0, by rw [halfD_zero]; exact HP0.out, HG.out, Below.refl _ _⟩
  case round =>
    clear HP0 HG
    obtain ⟨k, hk, rfl, fps, HR, HFP, HBW⟩ := hrel
    have HBr := hide (HBE.out.trans (HBW.out.mono HSz.out.2))
    have D0r := HG0.out.below HBW.out (Nat.lt_trans (Nat.lt_succ_self s) HSz.out.1)
    by_cases hlt : k < l.length
    · obtain ⟨g5, hb5⟩ : ∃ g, b0 = some ⟨g, 0, none⟩ := by
        rcases HR.out.shape (n := l.length) (half_peers HX.out hk) (by decide) with ⟨_, _, h0⟩ | ⟨g, c, e⟩
        · omega
        · cases e
          exact ⟨g, rfl⟩
      subst hb5
      obtain ⟨u3, u4, u5, hT⟩ := HXS.out k hlt
      have c0 := leaf_cell HR.out (halfD_get (f := prC T0) (n := 6) (i := 0) (fun _ => rfl) hk hT.c0)
      have c1 := leaf_cell HR.out (halfD_get (f := prC T0) (n := 6) (i := 1) (fun _ => rfl) hk hT.c1)
      have c2 := leaf_cell HR.out (halfD_get (f := prC T0) (n := 6) (i := 2) (fun _ => rfl) hk hT.c2)
      have c3 := leaf_cell HR.out (halfD_get (f := prC T0) (n := 6) (i := 3) (fun _ => rfl) hk hT.c3)
      have c4 := leaf_cell HR.out (halfD_get (f := prC T0) (n := 6) (i := 4) (fun _ => rfl) hk hT.c4)
      have c5 := leaf_cell HR.out (halfD_get (f := prC T0) (n := 6) (i := 5) (fun _ => rfl) hk hT.c5)
      rw [Nat.add_zero] at c0
      have hgl := (free_cell HR.out (i := k * 6) (by rw [half_peers HX.out hk]; omega)).2.2
      have HI3 := hide (hT.behind.below HBr.out (Nat.le_refl _))
      have HI4 := hide (hT.fingers.below HBr.out (Nat.le_refl _))
      have HI5 := hide (hT.shelves.below HBr.out (Nat.le_refl _))
      have hsmk := HSM.out l[k] (List.getElem_mem hlt)
      have HT := hide (halfD_next (f := prC T0) (n := 6) (fun _ => rfl) HX.out hlt)
      obtain ⟨a3, d3, hs3, -⟩ := hT.behind
      obtain ⟨a4, d4, hs4, -⟩ := hT.fingers
      obtain ⟨a5, d5, hs5, -⟩ := hT.shelves.open_
      subst hs3 hs4 hs5
      clear hT
      generalize l[k] = q at *
      go_upto_region 5 with fail
      have hba := (Below.refl wr.heap.size wr).alloc (Nat.le_refl _) (.cells #[.int .i64 q.id, .bool q.here, .int .i64 q.ahead, .slice a3 q.behind.length d3, .slice a4 q.fingers.length d4, .slice a5 q.shelves.length d5] 32)
      have S := Blk.new wr #[.int .i64 q.id, .bool q.here, .int .i64 q.ahead, .slice a3 q.behind.length d3, .slice a4 q.fingers.length d4, .slice a5 q.shelves.length d5] 32
      have D0x := D0r.below hba D0r.lt
      have HRx := hide (owns_below HR.out hba)
      have HI3x := hide (HI3.out.below hba (Nat.le_refl _))
      have HI4x := hide (HI4.out.below hba (Nat.le_refl _))
      have HI5x := hide (HI5.out.below hba (Nat.le_refl _))
      have HBWx := hide (HBW.out.trans (hba.mono (Nat.le_trans (Nat.le_of_lt (Nat.lt_of_le_of_lt (HFP.out g5 (owns_own HR.out)) hgl)) (Nat.le_refl _))))
      have hgx : g5 < (wr.alloc (.cells #[.int .i64 q.id, .bool q.here, .int .i64 q.ahead, .slice a3 q.behind.length d3, .slice a4 q.fingers.length d4, .slice a5 q.shelves.length d5] 32)).heap.size := Nat.lt_of_lt_of_le hgl hba.size
      obtain ⟨bs, ebs⟩ : ∃ b, b = wr.heap.size := ⟨_, rfl⟩
      rw [← ebs] at S ⊢
      clear ebs hba HR HI3 HI4 HI5 HBW c0 c1 c2 c3 c4 c5 hgl D0r
      generalize wr.alloc (.cells #[.int .i64 q.id, .bool q.here, .int .i64 q.ahead, .slice a3 q.behind.length d3, .slice a4 q.fingers.length d4, .slice a5 q.shelves.length d5] 32) = wx at *
      have n0 : ∀ p : Near wx.heap.size wx, p.w.cell? ⟨s, 0, none⟩ = some (.slice (some ⟨g5, 0, none⟩) l.length d0) := fun p => by rw [(D0x.below p.h D0x.lt).cell 0]; rfl
      have nb0 : ∀ p : Near wx.heap.size wx, p.w.cell? ⟨bs, 0, none⟩ = some (.int .i64 q.id) := fun p => by rw [(S.below p.h S.lt).cell 0]; rfl
      have nb1 : ∀ p : Near wx.heap.size wx, p.w.cell? ⟨bs, 1, none⟩ = some (.bool q.here) := fun p => by rw [(S.below p.h S.lt).cell 1]; rfl
      have nb2 : ∀ p : Near wx.heap.size wx, p.w.cell? ⟨bs, 2, none⟩ = some (.int .i64 q.ahead) := fun p => by rw [(S.below p.h S.lt).cell 2]; rfl
      have nb3 : ∀ p : Near wx.heap.size wx, p.w.cell? ⟨bs, 3, none⟩ = some (.slice a3 q.behind.length d3) := fun p => by rw [(S.below p.h S.lt).cell 3]; rfl
      have nb4 : ∀ p : Near wx.heap.size wx, p.w.cell? ⟨bs, 4, none⟩ = some (.slice a4 q.fingers.length d4) := fun p => by rw [(S.below p.h S.lt).cell 4]; rfl
      have nb5 : ∀ p : Near wx.heap.size wx, p.w.cell? ⟨bs, 5, none⟩ = some (.slice a5 q.shelves.length d5) := fun p => by rw [(S.below p.h S.lt).cell 5]; rfl
      have hnn := Near.some wx.heap.size wx
      have hsl := D0x.lt
      have hbl := S.lt
      refine wp_region_open (fun wd => ∃ p : Near wx.heap.size wx, wd = p.w) ⟨⟨_, (Below.refl _ _).drew⟩, rfl⟩ (by kernel_rfl) ?_
      rintro wd ⟨pd, rfl⟩
      refine wpAny_of_K (c := 5) (D := fun w' => ∃ p : Near wx.heap.size wx, w' = p.w) _ _ _ _ ?_
      refine wpAnyK_seg_lit4 0 4 6 3 rfl (by decide) (by decide) (by kernel_rfl) (by kernel_rfl) (by kernel_rfl) (by kernel_rfl) (fun _ _ _ _ _ h => h) ⟨pd, rfl⟩ ?_
      simp only [List.take_succ_cons, List.take_zero, List.drop_zero]
      repeat (go_big_quiet_step (fail))
      refine wpQuiet_nil ?_
      clear n0 nb0 nb1 nb2 nb3 nb4 nb5 hnn hsl hbl
      have hps := pd.h.size
      have HCs := hide (copiedPeer_calls pd.w q _ _ _ (HI3x.out.below pd.h (Nat.le_refl _)) (HI4x.out.below pd.h (Nat.le_refl _)) (HI5x.out.below pd.h (Nat.le_refl _)) hsmk)
      unfold prV at HCs
      refine wpAnyK_call 4 (by kernel_rfl) rfl rfl 93 _ _ rfl (run_enter Tryz.func93 (by kernel_rfl) (by kernel_rfl)) #[.agg #[.int .i64 q.id, .bool q.here, .int .i64 q.ahead, .slice a3 q.behind.length d3, .slice a4 q.fingers.length d4, .slice a5 q.shelves.length d5]] rfl (fun u' w' => ∃ v3 v4 v5 f3 f4 f5, u' = .agg #[.int .i64 q.id, .bool q.here, .int .i64 q.ahead, v3, v4, v5] ∧ PeerOwn w' pd.w.heap.size q v3 v4 v5 f3 f4 f5 ∧ Below pd.w.heap.size pd.w w') (HCs.out.mono (fun e w' ⟨v3, v4, v5, f3, f4, f5, he, ho, hb⟩ => ⟨_, he, v3, v4, v5, f3, f4, f5, rfl, ho, hb⟩)) ?_
      rintro u' wq ⟨v3, v4, v5, f3, f4, f5, rfl, hpo, hbi⟩
      have hbq := pd.h.trans (hbi.mono hps)
      refine ⟨⟨⟨_, hbq⟩, rfl⟩, ?_⟩
      simp only [Act.put, List.setIfInBounds_toArray, List.set_cons_succ, List.set_cons_zero]
      refine wpAnyK_last (by kernel_rfl) (by decide) ?_
      refine wpAny_rest 5 rfl (by kernel_rfl) ?_
      simp only [List.drop_succ_cons, List.drop_zero]
      obtain ⟨b3, m3, e3, hs3⟩ : ∃ b3 m3 d3, v3 = .slice b3 m3 d3 := by
        obtain ⟨x, y, h, -⟩ := ints_of hpo.o3.reads
        exact ⟨_, _, _, h⟩
      obtain ⟨b4, m4, e4, hs4⟩ : ∃ b4 m4 d4, v4 = .slice b4 m4 d4 := by
        obtain ⟨x, y, h, -⟩ := ints_of hpo.o4.reads
        exact ⟨_, _, _, h⟩
      obtain ⟨b5, m5, e5, hs5⟩ : ∃ b5 m5 d5, v5 = .slice b5 m5 d5 := by
        obtain ⟨x, y, h, -⟩ := ShelvesAt.open_ ⟨_, hpo.o5.reads⟩
        exact ⟨_, _, _, h⟩
      subst hs3 hs4 hs5
      have hRq := owns_below HRx.out hbq
      have hxz : z ≤ wx.heap.size := Nat.le_trans (HFP.out g5 (owns_own HRx.out)) (Nat.le_of_lt hgx)
      have HBWq := hide (HBWx.out.trans (hbq.mono hxz))
      have hlen := half_peers HX.out hk
      obtain ⟨⟨y0, q0⟩, r0, gq⟩ := free_cell hRq (i := k * 6) (by rw [hlen]; omega)
      obtain ⟨⟨y1, q1⟩, r1, -⟩ := free_cell hRq (i := k * 6 + 1) (by rw [hlen]; omega)
      obtain ⟨⟨y2, q2⟩, r2, -⟩ := free_cell hRq (i := k * 6 + 2) (by rw [hlen]; omega)
      obtain ⟨⟨y3, q3⟩, r3, -⟩ := free_cell hRq (i := k * 6 + 3) (by rw [hlen]; omega)
      obtain ⟨⟨y4, q4⟩, r4, -⟩ := free_cell hRq (i := k * 6 + 4) (by rw [hlen]; omega)
      obtain ⟨⟨y5, q5⟩, r5, -⟩ := free_cell hRq (i := k * 6 + 5) (by rw [hlen]; omega)
      have hlt' := HRx.out.lt
      obtain ⟨fps', HP, hfp⟩ := put_six (i := k * 6) (v0 := .int .i64 q.id) (v1 := .bool q.here) (v2 := .int .i64 q.ahead) hRq (by rw [hlen]; omega) hpo.o3 hpo.o4 hpo.o5
        (fun x hx h => by have := hlt' x h; have := hpo.b3 x hx; omega) (fun x hx h => by have := hlt' x h; have := hpo.b4 x hx; omega) (fun x hx h => by have := hlt' x h; have := hpo.b5 x hx; omega) hpo.d34 hpo.d35 hpo.d45
      have eT : setMany (halfD (prC T0) 6 l X k) (k * 6) [.leaf (.int .i64 q.id), .leaf (.bool q.here), .leaf (.int .i64 q.ahead), intsD q.behind, intsD q.fingers, shelvesD T0 q.shelves] = halfD (prC T0) 6 l X (k + 1) := HT.out
      rw [eT] at HP
      have HRn := hide HP
      have HFn : Hid (∀ x ∈ fps', z ≤ x) := fun x hx => by
        rcases hfp x hx with h | h | h | h
        · exact HFP.out x h
        · have := hpo.b3 x h; omega
        · have := hpo.b4 x h; omega
        · have := hpo.b5 x h; omega
      have hgz := HFP.out g5 (owns_own HRx.out)
      have HBn := hide ((((((HBWq.out.setCell (p := ⟨g5, k * 6, none⟩) hgz (.int .i64 q.id)).setCell (p := ⟨g5, k * 6 + 1, none⟩) hgz (.bool q.here)).setCell (p := ⟨g5, k * 6 + 2, none⟩) hgz (.int .i64 q.ahead)).setCell (p := ⟨g5, k * 6 + 3, none⟩) hgz (.slice b3 m3 e3)).setCell (p := ⟨g5, k * 6 + 4, none⟩) hgz (.slice b4 m4 e4)).setCell (p := ⟨g5, k * 6 + 5, none⟩) hgz (.slice b5 m5 e5))
      clear HP hfp hRq hbq hbi hpo HRx HFP HI3x HI4x HI5x HBWx HBWq HT HCs hps hgx hxz hlen D0x S eT hlt' hsmk
      go_wp2_with fail
      go_roundw
      case rel => exact ⟨k + 1, by omega, by go_num, fps', HRn.out, HFn.out, HBn.out⟩
      case measure => simp [intOf]; omega
    · obtain rfl : k = l.length := by omega
      have hR := HR.out
      rw [halfD_end _ _ _ _ HX.out] at hR
      have D1r := HG1.out.below HBW.out HSz.out.1
      have HRr := hide hR
      clear hR HR HBW HBE HG0 HG1
      have t0 := blk_free_cell D0r 0 rfl
      have tl := D0r.lt
      have k0 := blk_free_cell D1r 0 rfl
      have kf0 := D1r.free 0
      have kl := D1r.lt
      go_wp2_with fail
      have Rd := D1r.set 0 (.slice b0 l.length d0)
      have x0 := blk_free_cell Rd 0 rfl
      have hw0 := HS.out
      have hz := HSz.out
      refine bodyPost_ret (v := .agg #[.slice b0 l.length d0]) (by simp [results, Tryz.results63, go_sem, x0]) rfl ⟨_, fps, rfl, owns_set HRr.out (fun q hq => by have := HFP.out q hq; omega) _, fun q hq => by have := HFP.out q hq; omega, HBr.out.setCell (p := ⟨s + 1, 0, none⟩) (by show _ ≤ s + 1; omega) _⟩
end Go.Proofs.YteladljgnbfcnaaGreatDoor.P9
