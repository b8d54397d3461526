/- Rings as data: peers, shelves, items; what a walk wants of a ring that it reads; no condition. -/
import Derived.Test.YtfckfgabeeeccaaDat
namespace Go.Proofs.Ytfckfgabeeeccaa.P9
open Go.RowKit P1 Da

structure It where
  t : List UInt8
  gone : Bool

structure Shf where
  key : Int
  items : List It

structure Pr where
  id : Int
  here : Bool
  ahead : Int
  behind : List Int
  fingers : List Int
  shelves : List Shf

/-- The types of the rows. -/
structure Tys where
  item : TypeId
  shelf : TypeId
  peer : TypeId

def intD (n : Int) : Dt := .leaf (.int .i64 n)
def boolD (b : Bool) : Dt := .leaf (.bool b)
def textD (t : List UInt8) : Dt := .leaf (.string ⟨t.toArray⟩)
def intsD (l : List Int) : Dt := .row 3 1 (l.map intD)
def itC (x : It) : List Dt := [textD x.t, boolD x.gone]
def itemsD (T : Tys) (l : List It) : Dt := .row T.item 2 (l.flatMap itC)
def shC (T : Tys) (s : Shf) : List Dt := [intD s.key, itemsD T s.items]
def shelvesD (T : Tys) (l : List Shf) : Dt := .row T.shelf 2 (l.flatMap (shC T))
def prC (T : Tys) (p : Pr) : List Dt := [intD p.id, boolD p.here, intD p.ahead, intsD p.behind, intsD p.fingers, shelvesD T p.shelves]
def peersD (T : Tys) (l : List Pr) : Dt := .row T.peer 6 (l.flatMap (prC T))

theorem flatMap_length {α : Type} (f : α → List Dt) (n : Nat) (hf : ∀ x, (f x).length = n) : ∀ l : List α, (l.flatMap f).length = l.length * n
  | [] => by simp
  | x :: l => by
    rw [List.flatMap_cons, List.length_append, flatMap_length f n hf l, hf, List.length_cons, Nat.add_mul, Nat.one_mul]
    omega

theorem flatMap_get {α : Type} (f : α → List Dt) (n : Nat) (hf : ∀ x, (f x).length = n) : ∀ (l : List α) (j i : Nat) (hj : j < l.length), i < n → (l.flatMap f)[j * n + i]? = (f l[j])[i]?
  | x :: l, 0, i, _, hi => by
    rw [List.flatMap_cons, Nat.zero_mul, Nat.zero_add, List.getElem?_append_left (by rw [hf]; exact hi)]
    rfl
  | x :: l, j + 1, i, hj, hi => by
    rw [List.flatMap_cons, List.getElem?_append_right (by rw [hf, Nat.add_mul, Nat.one_mul]; omega), hf]
    have := flatMap_get f n hf l j i (by simpa using hj) hi
    rw [List.getElem_cons_succ, ← this]
    congr 1
    rw [Nat.add_mul, Nat.one_mul]
    omega

theorem ints_of {W : World} {u : Value} {l : List Int} (h : Reads W u (intsD l)) : IntsAt W u l := by
  obtain ⟨a, cap, h1, h2⟩ := Reads.open_ h (n := l.length) (by simp) (by decide)
  refine ⟨a, cap, h1, fun j hj => ?_⟩
  obtain ⟨g, off, v, e1, e2, e3, e4⟩ := h2 j 0 (intD l[j]) (by simp [hj])
  unfold intD Reads at e4
  subst e4
  exact ⟨g, off, e1, e2, by simpa using e3⟩

/-- v is a slice that reads as the items l. -/
def ItemsAt (W : World) (v : Value) (l : List It) : Prop := ∃ T, Reads W v (itemsD T l)
def ShelvesAt (W : World) (v : Value) (l : List Shf) : Prop := ∃ T, Reads W v (shelvesD T l)
def PeersAt (W : World) (v : Value) (l : List Pr) : Prop := ∃ T, Reads W v (peersD T l)

theorem ItemsAt.below {B : Nat} {W W' : World} {v : Value} {l : List It} (h : ItemsAt W v l) (hb : Below B W W') (hB : W.heap.size ≤ B) : ItemsAt W' v l := by
  obtain ⟨T, h⟩ := h
  exact ⟨T, h.below hb hB⟩
theorem ShelvesAt.below {B : Nat} {W W' : World} {v : Value} {l : List Shf} (h : ShelvesAt W v l) (hb : Below B W W') (hB : W.heap.size ≤ B) : ShelvesAt W' v l := by
  obtain ⟨T, h⟩ := h
  exact ⟨T, h.below hb hB⟩
theorem PeersAt.below {B : Nat} {W W' : World} {v : Value} {l : List Pr} (h : PeersAt W v l) (hb : Below B W W') (hB : W.heap.size ≤ B) : PeersAt W' v l := by
  obtain ⟨T, h⟩ := h
  exact ⟨T, h.below hb hB⟩

theorem ItemsAt.open_ {W : World} {v : Value} {l : List It} (h : ItemsAt W v l) :
    ∃ a cap, v = .slice a l.length cap ∧ ∀ j (hj : j < l.length), ∃ g off, a = some ⟨g, off, none⟩ ∧ g < W.heap.size ∧
      W.cell? ⟨g, off + j * 2, none⟩ = some (.string ⟨l[j].t.toArray⟩) ∧ W.cell? ⟨g, off + j * 2 + 1, none⟩ = some (.bool l[j].gone) := by
  obtain ⟨T, h⟩ := h
  obtain ⟨a, cap, h1, h2⟩ := Reads.open_ h (n := l.length) (flatMap_length _ 2 (fun _ => rfl) l) (by decide)
  refine ⟨a, cap, h1, fun j hj => ?_⟩
  have get := fun i hi => flatMap_get itC 2 (fun _ => rfl) l j i hj hi
  obtain ⟨g, off, u0, rfl, e2, e3, e4⟩ := h2 j 0 (textD l[j].t) (get 0 (by decide))
  obtain ⟨g1, off1, u1, e1', _, e31, e41⟩ := h2 j 1 (boolD l[j].gone) (get 1 (by decide))
  cases e1'
  unfold textD Reads at e4
  unfold boolD Reads at e41
  subst e4 e41
  exact ⟨g, off, rfl, e2, by simpa using e3, by rw [← Nat.add_assoc] at e31; exact e31⟩

theorem ShelvesAt.open_ {W : World} {v : Value} {l : List Shf} (h : ShelvesAt W v l) :
    ∃ a cap, v = .slice a l.length cap ∧ ∀ j (hj : j < l.length), ∃ g off u, a = some ⟨g, off, none⟩ ∧ g < W.heap.size ∧
      W.cell? ⟨g, off + j * 2, none⟩ = some (.int .i64 l[j].key) ∧ W.cell? ⟨g, off + j * 2 + 1, none⟩ = some u ∧ ItemsAt W u l[j].items := by
  obtain ⟨T, h⟩ := h
  obtain ⟨a, cap, h1, h2⟩ := Reads.open_ h (n := l.length) (flatMap_length _ 2 (fun _ => rfl) l) (by decide)
  refine ⟨a, cap, h1, fun j hj => ?_⟩
  have get := fun i hi => flatMap_get (shC T) 2 (fun _ => rfl) l j i hj hi
  obtain ⟨g, off, u0, rfl, e2, e3, e4⟩ := h2 j 0 (intD l[j].key) (get 0 (by decide))
  obtain ⟨g1, off1, u1, e1', _, e31, e41⟩ := h2 j 1 (itemsD T l[j].items) (get 1 (by decide))
  cases e1'
  unfold intD Reads at e4
  subst e4
  exact ⟨g, off, u1, rfl, e2, by simpa using e3, by rw [← Nat.add_assoc] at e31; exact e31, T, e41⟩

/-- What a peer's six cells hold. -/
structure PeerCells (W : World) (g p : Nat) (x : Pr) (u3 u4 u5 : Value) : Prop where
  id : W.cell? ⟨g, p, none⟩ = some (.int .i64 x.id)
  here : W.cell? ⟨g, p + 1, none⟩ = some (.bool x.here)
  ahead : W.cell? ⟨g, p + 2, none⟩ = some (.int .i64 x.ahead)
  c3 : W.cell? ⟨g, p + 3, none⟩ = some u3
  c4 : W.cell? ⟨g, p + 4, none⟩ = some u4
  c5 : W.cell? ⟨g, p + 5, none⟩ = some u5
  behind : IntsAt W u3 x.behind
  fingers : IntsAt W u4 x.fingers
  shelves : ShelvesAt W u5 x.shelves

theorem PeersAt.open_ {W : World} {v : Value} {l : List Pr} (h : PeersAt W v l) :
    ∃ a cap, v = .slice a l.length cap ∧ ∀ j (hj : j < l.length), ∃ g off u3 u4 u5, a = some ⟨g, off, none⟩ ∧ g < W.heap.size ∧ PeerCells W g (off + j * 6) l[j] u3 u4 u5 := by
  obtain ⟨T, h⟩ := h
  obtain ⟨a, cap, h1, h2⟩ := Reads.open_ h (n := l.length) (flatMap_length _ 6 (fun _ => rfl) l) (by decide)
  refine ⟨a, cap, h1, fun j hj => ?_⟩
  have get := fun i hi => flatMap_get (prC T) 6 (fun _ => rfl) l j i hj hi
  obtain ⟨g, off, u0, rfl, e2, c0, r0⟩ := h2 j 0 (intD l[j].id) (get 0 (by decide))
  obtain ⟨_, _, u1, e, _, c1, r1⟩ := h2 j 1 (boolD l[j].here) (get 1 (by decide))
  cases e
  obtain ⟨_, _, u2, e, _, c2, r2⟩ := h2 j 2 (intD l[j].ahead) (get 2 (by decide))
  cases e
  obtain ⟨_, _, u3, e, _, c3, r3⟩ := h2 j 3 (intsD l[j].behind) (get 3 (by decide))
  cases e
  obtain ⟨_, _, u4, e, _, c4, r4⟩ := h2 j 4 (intsD l[j].fingers) (get 4 (by decide))
  cases e
  obtain ⟨_, _, u5, e, _, c5, r5⟩ := h2 j 5 (shelvesD T l[j].shelves) (get 5 (by decide))
  cases e
  unfold intD Reads at r0 r2
  unfold boolD Reads at r1
  subst r0 r1 r2
  rw [← Nat.add_assoc] at c1 c2 c3 c4 c5
  exact ⟨g, off, u3, u4, u5, rfl, e2, by simpa using c0, c1, c2, c3, c4, c5, ints_of r3, ints_of r4, T, r5⟩
end Go.Proofs.Ytfckfgabeeeccaa.P9
