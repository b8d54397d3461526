/- Data in memory, however deep: a tree of cells and rows; that a value reads as such a tree, and that it owns all of it; no condition.
Rings as data: peers, shelves, items; what a walk wants of a ring that it reads; no condition.
Data in memory that a call owns: a cell written over, a row made; no condition.
Rows of records that are copied one by one, as data; no condition.
A row of the call's own that is appended to: where it lies behind it; no condition.
Rows of records that a call makes by appending, as data that it owns; no condition.
The specification's PeerAt, HereOf, NextOf; condition: at most 2^20 peers.
The specification's HereOf; condition: at most 2^20 peers.
The specification's NextOf; condition: at most 2^20 peers, each with at most 2^20 behind it.
The specification's l09Items; condition: at most 2^20 items.
The specification's PeerOk; condition: lists of at most 2^20, texts of at most 2^20 bytes.
The specification's RingOk; condition: at most 2^20 peers, their lists of at most 2^20, texts of at most 2^20 bytes.
The laws' eqItem, eqItemS, eqShelf, eqShelfS, eqPeer, eqPeerS, eqRing at equal data; condition: lists of at most 2^20. -/
import Derived.Test.YteladljgnbfcnaaGreatZD
import Derived.Test.YteladljgnbfcnaaGreatZM
import Derived.Test.YteladljgnbfcnaaGreatZV
import Derived.Test.YteladljgnbfcnaaGreatZRA
import Derived.Test.YteladljgnbfcnaaGreatZA
import Derived.Test.YteladljgnbfcnaaGreatZC
import Derived.ArgAppend
import Derived.Deep.CutRange
import Derived.Laws.Cover1
namespace Go.Proofs.YteladljgnbfcnaaGreat.Da
open Go.RowKit P1

/-- A datum: one cell's value, or a row whose elements have so many cells each. -/
inductive Dt : Type where
  | leaf : Value → Dt
  | row : TypeId → Nat → List Dt → Dt

mutual
/-- The value c reads as the datum. -/
def Reads (W : World) : Value → Dt → Prop
  | c, .leaf v => c = v
  | c, .row _ sz ds => ∃ a n cap, c = .slice a n cap ∧ ds.length = n * sz ∧ ReadsAll W a 0 ds
/-- From the k-th cell of the row on. -/
def ReadsAll (W : World) (a : Option Addr) : Nat → List Dt → Prop
  | _, [] => True
  | k, d :: ds => (∃ g off u, a = some ⟨g, off, none⟩ ∧ g < W.heap.size ∧ W.cell? ⟨g, off + k, none⟩ = some u ∧ Reads W u d) ∧ ReadsAll W a (k + 1) ds
end

theorem ReadsAll.at_ {W : World} {a : Option Addr} : ∀ {ds : List Dt} {k : Nat}, ReadsAll W a k ds → ∀ {i : Nat} {d : Dt}, ds[i]? = some d → ∃ g off u, a = some ⟨g, off, none⟩ ∧ g < W.heap.size ∧ W.cell? ⟨g, off + (k + i), none⟩ = some u ∧ Reads W u d := by
  intro ds
  induction ds with
  | nil => intro k _ i d h; simp at h
  | cons x ds ih =>
    intro k h i d hi
    unfold ReadsAll at h
    cases i with
    | zero =>
      obtain rfl : x = d := by simpa using hi
      exact h.1
    | succ i =>
      obtain ⟨g, off, u, e1, e2, e3, e4⟩ := ih h.2 (i := i) (d := d) (by simpa using hi)
      exact ⟨g, off, u, e1, e2, by rw [show k + (i + 1) = k + 1 + i by omega]; exact e3, e4⟩

theorem ReadsAll.of {W : World} {a : Option Addr} : ∀ {ds : List Dt} {k : Nat}, (∀ i d, ds[i]? = some d → ∃ g off u, a = some ⟨g, off, none⟩ ∧ g < W.heap.size ∧ W.cell? ⟨g, off + (k + i), none⟩ = some u ∧ Reads W u d) → ReadsAll W a k ds := by
  intro ds
  induction ds with
  | nil => intro k _; unfold ReadsAll; trivial
  | cons x ds ih =>
    intro k h
    unfold ReadsAll
    refine ⟨h 0 x rfl, ih (fun i d hi => ?_)⟩
    obtain ⟨g, off, u, e1, e2, e3, e4⟩ := h (i + 1) d (by simpa using hi)
    exact ⟨g, off, u, e1, e2, by rw [show k + 1 + i = k + (i + 1) by omega]; exact e3, e4⟩

mutual
theorem Reads.below {B : Nat} {W W' : World} (hb : Below B W W') (hB : W.heap.size ≤ B) : ∀ {d : Dt} {c : Value}, Reads W c d → Reads W' c d
  | .leaf v, c, h => by
    unfold Reads at h ⊢
    exact h
  | .row e sz ds, c, h => by
    unfold Reads at h ⊢
    obtain ⟨a, n, cap, h1, h2, h3⟩ := h
    exact ⟨a, n, cap, h1, h2, ReadsAll.below hb hB h3⟩
theorem ReadsAll.below {B : Nat} {W W' : World} (hb : Below B W W') (hB : W.heap.size ≤ B) : ∀ {ds : List Dt} {a : Option Addr} {k : Nat}, ReadsAll W a k ds → ReadsAll W' a k ds
  | [], a, k, _ => by unfold ReadsAll; trivial
  | d :: ds, a, k, h => by
    unfold ReadsAll at h ⊢
    obtain ⟨⟨g, off, u, e1, e2, e3, e4⟩, h2⟩ := h
    exact ⟨⟨g, off, u, e1, Nat.lt_of_lt_of_le e2 hb.size, (hb.cell (p := ⟨g, off + k, none⟩) (by show g < B; omega)).trans e3, Reads.below hb hB e4⟩, ReadsAll.below hb hB h2⟩
end

/-- A row, opened: the cells of its elements. -/
theorem Reads.open_ {W : World} {c : Value} {e : TypeId} {sz : Nat} {ds : List Dt} (h : Reads W c (.row e sz ds)) {n : Nat} (hn : ds.length = n * sz) (hs : 0 < sz) :
    ∃ a cap, c = .slice a n cap ∧ ∀ (j i : Nat) (d : Dt), ds[j * sz + i]? = some d → ∃ g off u, a = some ⟨g, off, none⟩ ∧ g < W.heap.size ∧ W.cell? ⟨g, off + (j * sz + i), none⟩ = some u ∧ Reads W u d := by
  unfold Reads at h
  obtain ⟨a, n', cap, h1, h2, h3⟩ := h
  have e : n' = n := Nat.eq_of_mul_eq_mul_right hs (h2.symm.trans hn)
  subst e
  refine ⟨a, cap, h1, fun j i d hd => ?_⟩
  obtain ⟨g, off, u, e1, e2, e3, e4⟩ := h3.at_ hd
  exact ⟨g, off, u, e1, e2, by rw [Nat.zero_add] at e3; exact e3, e4⟩

mutual
/-- The value c owns the datum, in just these blocks, none of them twice. -/
def Owns (W : World) : Value → Dt → List Nat → Prop
  | c, .leaf v, fp => c = v ∧ fp = []
  | c, .row e sz ds, fp => (c = .slice none 0 0 ∧ ds = [] ∧ fp = []) ∨
      ∃ g n cap cur fps, c = .slice (some ⟨g, 0, none⟩) n cap ∧ W.heap[g]? = some (.cells cur e (0, 0)) ∧ n ≤ cap ∧ cap ≤ maxLen ∧ cur.size = cap * sz ∧ ds.length = n * sz ∧ fp = g :: fps ∧ g ∉ fps ∧ OwnsAll W cur 0 ds fps
/-- From the k-th cell on. -/
def OwnsAll (W : World) (cur : Array Value) : Nat → List Dt → List Nat → Prop
  | _, [], fp => fp = []
  | k, d :: ds, fp => ∃ u f1 f2, cur[k]? = some u ∧ Owns W u d f1 ∧ OwnsAll W cur (k + 1) ds f2 ∧ fp = f1 ++ f2 ∧ ∀ g ∈ f1, g ∉ f2
end

mutual
theorem Owns.stay {W W' : World} : ∀ {d : Dt} {c : Value} {fp : List Nat}, Owns W c d fp → (∀ g ∈ fp, W'.heap[g]? = W.heap[g]?) → Owns W' c d fp
  | .leaf v, c, fp, h, _ => by
    unfold Owns at h ⊢
    exact h
  | .row e sz ds, c, fp, h, hk => by
    unfold Owns at h ⊢
    rcases h with h | ⟨g, n, cap, cur, fps, h1, h2, h3, h4, h5, h6, rfl, h8, h9⟩
    · exact .inl h
    · exact .inr ⟨g, n, cap, cur, fps, h1, (hk g (by simp)).trans h2, h3, h4, h5, h6, rfl, h8, OwnsAll.stay h9 (fun q hq => hk q (by simp [hq]))⟩
theorem OwnsAll.stay {W W' : World} : ∀ {ds : List Dt} {cur : Array Value} {k : Nat} {fp : List Nat}, OwnsAll W cur k ds fp → (∀ g ∈ fp, W'.heap[g]? = W.heap[g]?) → OwnsAll W' cur k ds fp
  | [], cur, k, fp, h, _ => by
    unfold OwnsAll at h ⊢
    exact h
  | d :: ds, cur, k, fp, h, hk => by
    unfold OwnsAll at h ⊢
    obtain ⟨u, f1, f2, h1, h2, h3, rfl, h5⟩ := h
    exact ⟨u, f1, f2, h1, Owns.stay h2 (fun q hq => hk q (by simp [hq])), OwnsAll.stay h3 (fun q hq => hk q (by simp [hq])), rfl, h5⟩
end

mutual
theorem Owns.lt {W : World} : ∀ {d : Dt} {c : Value} {fp : List Nat}, Owns W c d fp → ∀ g ∈ fp, g < W.heap.size
  | .leaf v, c, fp, h, g, hg => by
    unfold Owns at h
    rw [h.2] at hg
    cases hg
  | .row e sz ds, c, fp, h, g, hg => by
    unfold Owns at h
    rcases h with ⟨_, _, rfl⟩ | ⟨b, n, cap, cur, fps, h1, h2, h3, h4, h5, h6, rfl, h8, h9⟩
    · cases hg
    · rcases List.mem_cons.1 hg with rfl | hg
      · exact (Array.getElem?_eq_some_iff.1 h2).1
      · exact OwnsAll.lt h9 g hg
theorem OwnsAll.lt {W : World} : ∀ {ds : List Dt} {cur : Array Value} {k : Nat} {fp : List Nat}, OwnsAll W cur k ds fp → ∀ g ∈ fp, g < W.heap.size
  | [], cur, k, fp, h, g, hg => by
    unfold OwnsAll at h
    rw [h] at hg
    cases hg
  | d :: ds, cur, k, fp, h, g, hg => by
    unfold OwnsAll at h
    obtain ⟨u, f1, f2, h1, h2, h3, rfl, h5⟩ := h
    rcases List.mem_append.1 hg with hg | hg
    · exact Owns.lt h2 g hg
    · exact OwnsAll.lt h3 g hg
end

mutual
theorem Owns.reads {W : World} : ∀ {d : Dt} {c : Value} {fp : List Nat}, Owns W c d fp → Reads W c d
  | .leaf v, c, fp, h => by
    unfold Owns at h
    unfold Reads
    exact h.1
  | .row e sz ds, c, fp, h => by
    unfold Owns at h
    unfold Reads
    rcases h with ⟨rfl, rfl, _⟩ | ⟨b, n, cap, cur, fps, rfl, h2, h3, h4, h5, h6, rfl, h8, h9⟩
    · exact ⟨none, 0, 0, rfl, by simp, by unfold ReadsAll; trivial⟩
    · exact ⟨_, n, cap, rfl, h6, OwnsAll.reads h2 h9⟩
theorem OwnsAll.reads {W : World} {b : Nat} {cur : Array Value} {e : TypeId} (hb : W.heap[b]? = some (.cells cur e (0, 0))) : ∀ {ds : List Dt} {k : Nat} {fp : List Nat}, OwnsAll W cur k ds fp → ReadsAll W (some ⟨b, 0, none⟩) k ds
  | [], k, fp, h => by unfold ReadsAll; trivial
  | d :: ds, k, fp, h => by
    unfold OwnsAll at h
    unfold ReadsAll
    obtain ⟨u, f1, f2, h1, h2, h3, _, _⟩ := h
    exact ⟨⟨b, 0, u, rfl, (Array.getElem?_eq_some_iff.1 hb).1, by simp only [World.cell?, hb, Nat.zero_add]; exact h1, Owns.reads h2⟩, OwnsAll.reads hb h3⟩
end
end Go.Proofs.YteladljgnbfcnaaGreat.Da
namespace Go.Proofs.YteladljgnbfcnaaGreat.P9
open Go.RowKit P1 Da

structure It where
  t : List UInt8
  gone : Bool

structure Shf where
  key : Int
  items : List It

structure Pr where
  id : Int
  here : Bool
  ahead : Int
  behind : List Int
  fingers : List Int
  shelves : List Shf

/-- The types of the rows. -/
structure Tys where
  item : TypeId
  shelf : TypeId
  peer : TypeId

def intD (n : Int) : Dt := .leaf (.int .i64 n)
def boolD (b : Bool) : Dt := .leaf (.bool b)
def textD (t : List UInt8) : Dt := .leaf (.string ⟨t.toArray⟩)
def intsD (l : List Int) : Dt := .row 3 1 (l.map intD)
def itC (x : It) : List Dt := [textD x.t, boolD x.gone]
def itemsD (T : Tys) (l : List It) : Dt := .row T.item 2 (l.flatMap itC)
def shC (T : Tys) (s : Shf) : List Dt := [intD s.key, itemsD T s.items]
def shelvesD (T : Tys) (l : List Shf) : Dt := .row T.shelf 2 (l.flatMap (shC T))
def prC (T : Tys) (p : Pr) : List Dt := [intD p.id, boolD p.here, intD p.ahead, intsD p.behind, intsD p.fingers, shelvesD T p.shelves]
def peersD (T : Tys) (l : List Pr) : Dt := .row T.peer 6 (l.flatMap (prC T))

theorem flatMap_length {α : Type} (f : α → List Dt) (n : Nat) (hf : ∀ x, (f x).length = n) : ∀ l : List α, (l.flatMap f).length = l.length * n
  | [] => by simp
  | x :: l => by
    rw [List.flatMap_cons, List.length_append, flatMap_length f n hf l, hf, List.length_cons, Nat.add_mul, Nat.one_mul]
    omega

theorem flatMap_get {α : Type} (f : α → List Dt) (n : Nat) (hf : ∀ x, (f x).length = n) : ∀ (l : List α) (j i : Nat) (hj : j < l.length), i < n → (l.flatMap f)[j * n + i]? = (f l[j])[i]?
  | x :: l, 0, i, _, hi => by
    rw [List.flatMap_cons, Nat.zero_mul, Nat.zero_add, List.getElem?_append_left (by rw [hf]; exact hi)]
    rfl
  | x :: l, j + 1, i, hj, hi => by
    rw [List.flatMap_cons, List.getElem?_append_right (by rw [hf, Nat.add_mul, Nat.one_mul]; omega), hf]
    have := flatMap_get f n hf l j i (by simpa using hj) hi
    rw [List.getElem_cons_succ, ← this]
    congr 1
    rw [Nat.add_mul, Nat.one_mul]
    omega

theorem ints_of {W : World} {u : Value} {l : List Int} (h : Reads W u (intsD l)) : IntsAt W u l := by
  obtain ⟨a, cap, h1, h2⟩ := Reads.open_ h (n := l.length) (by simp) (by decide)
  refine ⟨a, cap, h1, fun j hj => ?_⟩
  obtain ⟨g, off, v, e1, e2, e3, e4⟩ := h2 j 0 (intD l[j]) (by simp [hj])
  unfold intD Reads at e4
  subst e4
  exact ⟨g, off, e1, e2, by simpa using e3⟩

/-- v is a slice that reads as the items l. -/
def ItemsAt (W : World) (v : Value) (l : List It) : Prop := ∃ T, Reads W v (itemsD T l)
def ShelvesAt (W : World) (v : Value) (l : List Shf) : Prop := ∃ T, Reads W v (shelvesD T l)
def PeersAt (W : World) (v : Value) (l : List Pr) : Prop := ∃ T, Reads W v (peersD T l)

theorem ItemsAt.below {B : Nat} {W W' : World} {v : Value} {l : List It} (h : ItemsAt W v l) (hb : Below B W W') (hB : W.heap.size ≤ B) : ItemsAt W' v l := by
  obtain ⟨T, h⟩ := h
  exact ⟨T, h.below hb hB⟩
theorem ShelvesAt.below {B : Nat} {W W' : World} {v : Value} {l : List Shf} (h : ShelvesAt W v l) (hb : Below B W W') (hB : W.heap.size ≤ B) : ShelvesAt W' v l := by
  obtain ⟨T, h⟩ := h
  exact ⟨T, h.below hb hB⟩
theorem PeersAt.below {B : Nat} {W W' : World} {v : Value} {l : List Pr} (h : PeersAt W v l) (hb : Below B W W') (hB : W.heap.size ≤ B) : PeersAt W' v l := by
  obtain ⟨T, h⟩ := h
  exact ⟨T, h.below hb hB⟩

theorem ItemsAt.open_ {W : World} {v : Value} {l : List It} (h : ItemsAt W v l) :
    ∃ a cap, v = .slice a l.length cap ∧ ∀ j (hj : j < l.length), ∃ g off, a = some ⟨g, off, none⟩ ∧ g < W.heap.size ∧
      W.cell? ⟨g, off + j * 2, none⟩ = some (.string ⟨l[j].t.toArray⟩) ∧ W.cell? ⟨g, off + j * 2 + 1, none⟩ = some (.bool l[j].gone) := by
  obtain ⟨T, h⟩ := h
  obtain ⟨a, cap, h1, h2⟩ := Reads.open_ h (n := l.length) (flatMap_length _ 2 (fun _ => rfl) l) (by decide)
  refine ⟨a, cap, h1, fun j hj => ?_⟩
  have get := fun i hi => flatMap_get itC 2 (fun _ => rfl) l j i hj hi
  obtain ⟨g, off, u0, rfl, e2, e3, e4⟩ := h2 j 0 (textD l[j].t) (get 0 (by decide))
  obtain ⟨g1, off1, u1, e1', _, e31, e41⟩ := h2 j 1 (boolD l[j].gone) (get 1 (by decide))
  cases e1'
  unfold textD Reads at e4
  unfold boolD Reads at e41
  subst e4 e41
  exact ⟨g, off, rfl, e2, by simpa using e3, by rw [← Nat.add_assoc] at e31; exact e31⟩

theorem ShelvesAt.open_ {W : World} {v : Value} {l : List Shf} (h : ShelvesAt W v l) :
    ∃ a cap, v = .slice a l.length cap ∧ ∀ j (hj : j < l.length), ∃ g off u, a = some ⟨g, off, none⟩ ∧ g < W.heap.size ∧
      W.cell? ⟨g, off + j * 2, none⟩ = some (.int .i64 l[j].key) ∧ W.cell? ⟨g, off + j * 2 + 1, none⟩ = some u ∧ ItemsAt W u l[j].items := by
  obtain ⟨T, h⟩ := h
  obtain ⟨a, cap, h1, h2⟩ := Reads.open_ h (n := l.length) (flatMap_length _ 2 (fun _ => rfl) l) (by decide)
  refine ⟨a, cap, h1, fun j hj => ?_⟩
  have get := fun i hi => flatMap_get (shC T) 2 (fun _ => rfl) l j i hj hi
  obtain ⟨g, off, u0, rfl, e2, e3, e4⟩ := h2 j 0 (intD l[j].key) (get 0 (by decide))
  obtain ⟨g1, off1, u1, e1', _, e31, e41⟩ := h2 j 1 (itemsD T l[j].items) (get 1 (by decide))
  cases e1'
  unfold intD Reads at e4
  subst e4
  exact ⟨g, off, u1, rfl, e2, by simpa using e3, by rw [← Nat.add_assoc] at e31; exact e31, T, e41⟩

/-- What a peer's six cells hold. -/
structure PeerCells (W : World) (g p : Nat) (x : Pr) (u3 u4 u5 : Value) : Prop where
  id : W.cell? ⟨g, p, none⟩ = some (.int .i64 x.id)
  here : W.cell? ⟨g, p + 1, none⟩ = some (.bool x.here)
  ahead : W.cell? ⟨g, p + 2, none⟩ = some (.int .i64 x.ahead)
  c3 : W.cell? ⟨g, p + 3, none⟩ = some u3
  c4 : W.cell? ⟨g, p + 4, none⟩ = some u4
  c5 : W.cell? ⟨g, p + 5, none⟩ = some u5
  behind : IntsAt W u3 x.behind
  fingers : IntsAt W u4 x.fingers
  shelves : ShelvesAt W u5 x.shelves

theorem PeersAt.open_ {W : World} {v : Value} {l : List Pr} (h : PeersAt W v l) :
    ∃ a cap, v = .slice a l.length cap ∧ ∀ j (hj : j < l.length), ∃ g off u3 u4 u5, a = some ⟨g, off, none⟩ ∧ g < W.heap.size ∧ PeerCells W g (off + j * 6) l[j] u3 u4 u5 := by
  obtain ⟨T, h⟩ := h
  obtain ⟨a, cap, h1, h2⟩ := Reads.open_ h (n := l.length) (flatMap_length _ 6 (fun _ => rfl) l) (by decide)
  refine ⟨a, cap, h1, fun j hj => ?_⟩
  have get := fun i hi => flatMap_get (prC T) 6 (fun _ => rfl) l j i hj hi
  obtain ⟨g, off, u0, rfl, e2, c0, r0⟩ := h2 j 0 (intD l[j].id) (get 0 (by decide))
  obtain ⟨_, _, u1, e, _, c1, r1⟩ := h2 j 1 (boolD l[j].here) (get 1 (by decide))
  cases e
  obtain ⟨_, _, u2, e, _, c2, r2⟩ := h2 j 2 (intD l[j].ahead) (get 2 (by decide))
  cases e
  obtain ⟨_, _, u3, e, _, c3, r3⟩ := h2 j 3 (intsD l[j].behind) (get 3 (by decide))
  cases e
  obtain ⟨_, _, u4, e, _, c4, r4⟩ := h2 j 4 (intsD l[j].fingers) (get 4 (by decide))
  cases e
  obtain ⟨_, _, u5, e, _, c5, r5⟩ := h2 j 5 (shelvesD T l[j].shelves) (get 5 (by decide))
  cases e
  unfold intD Reads at r0 r2
  unfold boolD Reads at r1
  subst r0 r1 r2
  rw [← Nat.add_assoc] at c1 c2 c3 c4 c5
  exact ⟨g, off, u3, u4, u5, rfl, e2, by simpa using c0, c1, c2, c3, c4, c5, ints_of r3, ints_of r4, T, r5⟩
end Go.Proofs.YteladljgnbfcnaaGreat.P9
namespace Go.Proofs.YteladljgnbfcnaaGreat.Da
open Go.RowKit P1 Rc

theorem OwnsAll.cur_ne {W : World} {cur : Array Value} {u : Value} {q : Nat} : ∀ (ds : List Dt) {k : Nat} {fp : List Nat}, OwnsAll W cur k ds fp → q < k → OwnsAll W (cur.setIfInBounds q u) k ds fp := by
  intro ds
  induction ds with
  | nil => intro k fp h _; unfold OwnsAll at h ⊢; exact h
  | cons x ds ih =>
    intro k fp h hq
    unfold OwnsAll at h ⊢
    obtain ⟨u0, f1, f2, h1, h2, h3, h4, h5⟩ := h
    exact ⟨u0, f1, f2, by rw [Array.getElem?_setIfInBounds_ne (by omega)]; exact h1, h2, ih h3 (by omega), h4, h5⟩

/-- One cell of a row is another datum now. -/
theorem OwnsAll.put {W W' : World} {cur : Array Value} {u : Value} {d : Dt} {f : List Nat} (hu : Owns W' u d f) : ∀ (ds : List Dt) {k : Nat} {fp : List Nat} {i : Nat}, OwnsAll W cur k ds fp → i < ds.length → (∀ g ∈ fp, W'.heap[g]? = W.heap[g]?) → (∀ g ∈ f, g ∉ fp) →
    ∃ fp', OwnsAll W' (cur.setIfInBounds (k + i) u) k (ds.set i d) fp' ∧ ∀ g ∈ fp', g ∈ fp ∨ g ∈ f := by
  intro ds
  induction ds with
  | nil => intro k fp i _ hi; simp at hi
  | cons x ds ih =>
    intro k fp i h hi hk hf
    unfold OwnsAll at h
    obtain ⟨u0, f1, f2, h1, h2, h3, rfl, h5⟩ := h
    have hlt : k < cur.size := (Array.getElem?_eq_some_iff.1 h1).1
    cases i with
    | zero =>
      refine ⟨f ++ f2, ?_, fun g hg => ?_⟩
      · rw [List.set_cons_zero]
        unfold OwnsAll
        have h3' : OwnsAll W' (cur.setIfInBounds k u) (k + 1) ds f2 := OwnsAll.cur_ne _ (h3.stay (fun q hq => hk q (by simp [hq]))) (by omega)
        exact ⟨u, f, f2, by rw [Nat.add_zero]; simp [hlt], hu, by rw [Nat.add_zero]; exact h3', rfl, fun g hg h' => hf g hg (by simp [h'])⟩
      · rcases List.mem_append.1 hg with hg | hg
        · exact .inr hg
        · exact .inl (by simp [hg])
    | succ i =>
      obtain ⟨fp', h6, h7⟩ := ih h3 (i := i) (by simpa using hi) (fun q hq => hk q (by simp [hq])) (fun g hg h' => hf g hg (by simp [h']))
      refine ⟨f1 ++ fp', ?_, fun g hg => ?_⟩
      · rw [List.set_cons_succ]
        unfold OwnsAll
        refine ⟨u0, f1, fp', ?_, h2.stay (fun q hq => hk q (by simp [hq])), by rw [show k + (i + 1) = k + 1 + i by omega]; exact h6, rfl, fun g hg h' => ?_⟩
        · rw [Array.getElem?_setIfInBounds_ne (by omega)]
          exact h1
        · rcases h7 g h' with h8 | h8
          · exact h5 g hg h8
          · exact hf g h8 (by simp [hg])
      · rcases List.mem_append.1 hg with hg | hg
        · exact .inl (by simp [hg])
        · rcases h7 g hg with h8 | h8
          · exact .inl (by simp [h8])
          · exact .inr h8
theorem heap_setCell_same {W : World} {g i : Nat} {cur : Array Value} {e : TypeId} {fz : Nat × Nat} (h : W.heap[g]? = some (.cells cur e fz)) (u : Value) : (W.setCell ⟨g, i, none⟩ u).heap[g]? = some (.cells (cur.setIfInBounds i u) e fz) := by
  obtain ⟨hlt, hk⟩ := Array.getElem?_eq_some_iff.1 h
  show (W.heap.modify g _)[g]? = _
  rw [Array.getElem?_eq_getElem (by rw [Array.size_modify]; exact hlt), Array.getElem_modify_self, hk]
  rfl

/-- A cell of an owned row written over by what the call owns besides. -/
theorem Owns.put {W : World} {g n cap : Nat} {e : TypeId} {sz : Nat} {ds : List Dt} {fps : List Nat} (h : Owns W (.slice (some ⟨g, 0, none⟩) n cap) (.row e sz ds) (g :: fps)) {i : Nat} (hi : i < ds.length) {u : Value} {d : Dt} {f : List Nat} (hu : Owns W u d f) (hf : ∀ q ∈ f, q ≠ g ∧ q ∉ fps) :
    ∃ fps', Owns (W.setCell ⟨g, i, none⟩ u) (.slice (some ⟨g, 0, none⟩) n cap) (.row e sz (ds.set i d)) (g :: fps') ∧ ∀ q ∈ fps', q ∈ fps ∨ q ∈ f := by
  unfold Owns at h
  rcases h with ⟨h, _⟩ | ⟨g', n', cap', cur, fps', h1, h2, h3, h4, h5, h6, h7, h8, h9⟩
  · cases h
  · cases h1
    cases h7
    have hother : ∀ q, q ≠ g → (W.setCell ⟨g, i, none⟩ u).heap[q]? = W.heap[q]? := fun q hq => Below.heap_setCell _ _ _ _ hq
    have hu' : Owns (W.setCell ⟨g, i, none⟩ u) u d f := hu.stay (fun q hq => hother q (hf q hq).1)
    obtain ⟨fp', k1, k2⟩ := OwnsAll.put hu' _ h9 hi (fun q hq => hother q (fun e => h8 (e ▸ hq))) (fun q hq => (hf q hq).2)
    rw [Nat.zero_add] at k1
    refine ⟨fp', ?_, k2⟩
    unfold Owns
    refine .inr ⟨g, n, cap, cur.setIfInBounds i u, fp', rfl, heap_setCell_same h2 u, h3, h4, by simpa using h5, by simpa using h6, rfl, fun h' => ?_, k1⟩
    rcases k2 g h' with h10 | h10
    · exact h8 h10
    · exact (hf g h10).1 rfl

/-- What is no row owns no block. -/
theorem owns_leaf {W : World} (v : Value) : Owns W v (.leaf v) [] := by
  unfold Owns
  exact ⟨rfl, rfl⟩

theorem owns_nil {W : World} (e : TypeId) (sz : Nat) : Owns W (.slice none 0 0) (.row e sz []) [] := by
  unfold Owns
  exact .inl ⟨rfl, rfl, rfl⟩

/-- A new block whose cells own nothing. -/
theorem OwnsAll.plain {W : World} {cur : Array Value} : ∀ {ds : List Dt} {k : Nat}, (∀ i d, ds[i]? = some d → ∃ u, cur[k + i]? = some u ∧ Owns W u d []) → OwnsAll W cur k ds [] := by
  intro ds
  induction ds with
  | nil => intro k _; unfold OwnsAll; rfl
  | cons x ds ih =>
    intro k h
    unfold OwnsAll
    obtain ⟨u, h1, h2⟩ := h 0 x rfl
    refine ⟨u, [], [], by simpa using h1, h2, ih (fun i d hi => ?_), rfl, by simp⟩
    obtain ⟨u', h3, h4⟩ := h (i + 1) d (by simpa using hi)
    exact ⟨u', by rw [show k + 1 + i = k + (i + 1) by omega]; exact h3, h4⟩

/-- A row of ints that the call owns, as a datum. -/
theorem owns_of_row {W : World} {B : Nat} {e : TypeId} {v : Value} {l : List Value} {n : Nat} (h : W.ownsRow B e 1 v n l) : ∃ fp, Owns W v (.row e 1 (l.map Dt.leaf)) fp ∧ (∀ g, g ∈ fp ↔ v.ownBlock = some g) := by
  obtain ⟨h0, h⟩ := h
  rcases h with ⟨rfl, rfl⟩ | ⟨g, cap, cur, rfl, h1, h2, h3, h4, h5, h6⟩
  · refine ⟨[], ?_, by simp [Value.ownBlock]⟩
    have : l = [] := List.eq_nil_of_length_eq_zero (by simpa using h0)
    subst this
    exact owns_nil e 1
  · refine ⟨[g], ?_, by simp [Value.ownBlock, eq_comm]⟩
    unfold Owns
    refine .inr ⟨g, n, cap, cur, [], rfl, h2, h3, h4, h5, by simpa using h0, rfl, by simp, OwnsAll.plain (fun i d hi => ?_)⟩
    rw [List.getElem?_map] at hi
    cases hl : l[i]? with
    | none => rw [hl] at hi; cases hi
    | some u =>
      rw [hl] at hi
      obtain rfl : Dt.leaf u = d := by simpa using hi
      refine ⟨u, ?_, owns_leaf u⟩
      have hlt : i < n * 1 := by
        have := (List.getElem?_eq_some_iff.1 hl).1
        omega
      rw [← h6, List.getElem?_take_of_lt hlt] at hl
      rw [Nat.zero_add]
      simpa using hl
end Go.Proofs.YteladljgnbfcnaaGreat.Da
namespace Go.Proofs.YteladljgnbfcnaaGreat.Da
open Go.RowKit P1 Rc Rr

section
variable {α β : Type} {f : α → List β} {z : List β} {n : Nat}

end

/-- A row whose cells own nothing, as a datum. -/
theorem owns_of_cells {W : World} {B : Nat} {e : TypeId} {sz : Nat} {v : Value} {X : List Value} {n : Nat} (h : W.ownsRow B e sz v n X) (ds : List Dt) (hlen : ds.length = n * sz) (hc : ∀ (i : Nat) (d : Dt), ds[i]? = some d → ∃ u, X[i]? = some u ∧ Owns W u d []) :
    ∃ fp, Owns W v (.row e sz ds) fp ∧ (∀ g, g ∈ fp ↔ v.ownBlock = some g) := by
  obtain ⟨h0, h⟩ := h
  rcases h with ⟨rfl, rfl⟩ | ⟨g, cap, cur, rfl, h1, h2, h3, h4, h5, h6⟩
  · refine ⟨[], ?_, by simp [Value.ownBlock]⟩
    have : ds = [] := List.eq_nil_of_length_eq_zero (by simpa using hlen)
    subst this
    exact owns_nil e sz
  · refine ⟨[g], ?_, by simp [Value.ownBlock, eq_comm]⟩
    unfold Owns
    refine .inr ⟨g, n, cap, cur, [], rfl, h2, h3, h4, h5, hlen, rfl, by simp, OwnsAll.plain (fun i d hi => ?_)⟩
    obtain ⟨u, hu1, hu2⟩ := hc i d hi
    refine ⟨u, ?_, hu2⟩
    have hlt : i < n * sz := by
      have := (List.getElem?_eq_some_iff.1 hi).1
      omega
    rw [← h6, List.getElem?_take_of_lt hlt] at hu1
    rw [Nat.zero_add]
    simpa using hu1

/-- What lies in a cell of an owned row, and that it may be written. -/
theorem Owns.cell {W : World} {g n cap : Nat} {e : TypeId} {sz : Nat} {ds : List Dt} {fps : List Nat} (h : Owns W (.slice (some ⟨g, 0, none⟩) n cap) (.row e sz ds) (g :: fps)) {i : Nat} (hi : i < ds.length) :
    (∃ u, W.cell? ⟨g, i, none⟩ = some u) ∧ W.frozen? ⟨g, i, none⟩ = false ∧ g < W.heap.size := by
  have hr := h.reads
  unfold Reads at hr
  obtain ⟨a, n', cap', h1, h2, h3⟩ := hr
  cases h1
  obtain ⟨g', off, u, e1, e2, e3, _⟩ := h3.at_ (List.getElem?_eq_getElem hi)
  cases e1
  refine ⟨⟨u, by simpa using e3⟩, ?_, e2⟩
  unfold Owns at h
  rcases h with ⟨h, _⟩ | ⟨g', n', cap', cur, fps', k1, k2, _⟩
  · cases h
  · cases k1
    simp [World.frozen?, k2]
end Go.Proofs.YteladljgnbfcnaaGreat.Da
namespace Go.Proofs.YteladljgnbfcnaaGreat.Ap
open Go.RowKit P1 Rc Rr

/-- How an append went: in the old row's spare room, or in a new block. -/
def Grew (w w' : World) (v v' : Value) (n m : Nat) : Prop :=
  (∃ g cap, v = .slice (some ⟨g, 0, none⟩) n cap ∧ v' = .slice (some ⟨g, 0, none⟩) (n + m) cap ∧ w.grownBy w' (some g)) ∨ ((∀ g, v'.ownBlock = some g → w.heap.size ≤ g) ∧ w.grownBy w' none)

theorem grown_none {w w' : World} (h : w.grownBy w' none) (r : Option Nat) : w.grownBy w' r := ⟨h.os, h.tape, h.output, h.size, fun k hk _ => h.block k hk (by simp)⟩

theorem Grew.by_ {w w' : World} {v v' : Value} {n m : Nat} (h : Grew w w' v v' n m) : w.grownBy w' v.ownBlock := by
  rcases h with ⟨g, cap, rfl, _, h⟩ | ⟨_, h⟩
  · exact h
  · exact grown_none h _

theorem run_append_keep {P : Program} (w : World) (base : Nat) (t ty e : TypeId) (i : TypeInfo) (z : Value) (size bytes : Nat) (ht : P.underlying t = some (.slice e)) (hi : P.info? e = some i) (hz : i.zero = some z)
    (hsize : i.size = size) (hby : i.bytes = bytes) (hzs : z.cells.size = size) (hsz : 0 < size)
    (v : Value) (n : Nat) (xs : List Value) (hown : w.ownsRow base e size v n xs)
    (a : Addr) (m c : Nat) (news : List Value) (hl : news.length = m * size) (hnews : ∀ j u, news[j]? = some u → w.cell? (a.add j) = some u) (h1 : ∀ u ∈ news, u.oneCell' = true) (hm : 0 < m)
    (h63 : n + m ≤ maxLen) (hbytes : (n + m) * bytes ≤ 140737488355328) (hbase : base ≤ w.heap.size) :
    ∃ v' w', (Builtin.append_ #[t, t] ty #[v, .slice (some a) m c]).run P w = .ok v' w' ∧ w'.ownsRow base e size v' (n + m) (xs ++ news) ∧ Grew w w' v v' n m := by
  obtain ⟨v', w', hr, h2, h3, -⟩ := run_append_own (P := P) w base t ty e i z size bytes ht hi hz hsize hby hzs hsz v n xs hown a m c news hl hnews h1 h63 hbytes hbase
  refine ⟨v', w', hr, h2, ?_⟩
  rcases hown.2 with ⟨rfl, rfl⟩ | ⟨g, cap, cur, rfl, hbg, hg, hnc, hcm, hcs, htake⟩
  · refine .inr ⟨fun g hg => ?_, h3⟩
    have hx : xs = [] := List.eq_nil_of_length_eq_zero (by simpa using hown.1)
    subst hx
    subst hsize
    have hr' := run_append_nil (P := P) w t ty e i z ht hi hz a m c news hl hnews hm (by simp only [maxLen] at h63; omega) (by have hb := hbytes; simp only [Nat.zero_add] at hb; subst hby; omega)
    rw [hr] at hr'
    simp only [Result.ok.injEq] at hr'
    rw [hr'.1] at hg
    have : w.heap.size = g := by simpa [Value.ownBlock] using hg
    omega
  · by_cases hroom : n + m ≤ cap
    · refine .inl ⟨g, cap, rfl, ?_, h3⟩
      subst hsize
      have hfit : n * i.size + news.length ≤ cur.size := by rw [hl, hcs, ← Nat.add_mul]; exact Nat.mul_le_mul_right _ hroom
      have hr' := run_append_room (P := P) w t ty e i ht hi g n cap cur hg a m c news hl hnews h1 hroom hfit
      rw [hr] at hr'
      simp only [Result.ok.injEq] at hr'
      exact hr'.1
    · have holds : ∀ j u, xs[j]? = some u → w.cell? ((⟨g, 0, none⟩ : Addr).add j) = some u := hown.cells (g := g) rfl
      obtain ⟨v2, w2, hr', h4, h5⟩ := run_append_arg_grows (P := P) w t ty e i z size bytes ht hi hz hsize hby hzs hsz ⟨g, 0, none⟩ n cap xs hown.1 holds a m c news hl hnews (by omega) h63 hbytes
      rw [hr] at hr'
      simp only [Result.ok.injEq] at hr'
      obtain ⟨rfl, rfl⟩ := hr'
      exact .inr ⟨fun k hk => (h4.lt k hk).1, h5⟩

/-- One element more, for the walk. -/
theorem wpList_append_keep {P : Program} {w0 : World} {B : Nat} (hB : B ≤ w0.heap.size) {cs : Array Value} {ops : Array Oper} {rest : List Oper} {o : Oper} {a : Act} {Q : Exit → Act → World → Prop} (hgd : o.guard = none) (s x : Operand) (t : TypeId)
    (ho : o.op = .call { callee := .builtin .append, args := #[s, x], argTypes := #[t, t] })
    (e : TypeId) (i : TypeInfo) (z : Value) (size bytes : Nat) (ht : P.underlying t = some (.slice e)) (hi : P.info? e = some i) (hz : i.zero = some z)
    (hsize : i.size = size) (hby : i.bytes = bytes) (hzs : z.cells.size = size) (hsz : 0 < size) (hcs : cs.toList.length = size) (h1 : ∀ u ∈ cs.toList, u.oneCell' = true)
    (v : Value) (n : Nat) (xs : List Value) (hs : a.eval s = v) (hown : w0.ownsRow B e size v n xs)
    (c : Nat) (hx : a.eval x = .slice (some ⟨w0.heap.size, 0, none⟩) 1 c) (hb : n < 1099511627776) (hbytes : (n + 1) * bytes ≤ 140737488355328)
    (h : ∀ v' w', w'.ownsRow B e size v' (n + 1) (xs ++ cs.toList) → Grew w0 w' v v' n 1 → wpList P ops Q rest (a.put o.dst v') w') :
    wpList P ops Q (o :: rest) a (w0.alloc (.cells cs e)) := by
  refine wpList_plain hgd fun K hK => ?_
  have hb0 : Below w0.heap.size w0 (w0.alloc (.cells cs e)) := (Below.refl _ _).alloc (Nat.le_refl _) _
  obtain ⟨v', w', hr, h2, h3⟩ := run_append_keep (P := P) (w0.alloc (.cells cs e)) B t o.type e i z size bytes ht hi hz hsize hby hzs hsz v n xs (hown.alloc _) ⟨w0.heap.size, 0, none⟩ 1 c cs.toList (by omega) (fun j u hj => by
    simp only [Go.WideShapes.add_plain]
    have hh : (w0.alloc (.cells cs e)).heap[w0.heap.size]? = some (.cells cs e) := by
      show (w0.heap.push _)[w0.heap.size]? = _
      simp
    simp only [World.cell?, hh]
    simpa using hj) h1 (by decide) (by unfold maxLen; omega) hbytes (Nat.le_trans hB hb0.size)
  unfold Oper.wp execOp
  simp only [ho, resolve, invoke, builtin, Sem.run_bind, Sem.run_pure, Result.andThen_ok, List.map_toArray, List.map_cons, List.map_nil, hs, hx, hr]
  refine hK _ _ (h v' w' h2 ?_)
  have hlow : ∀ r, (w0.alloc (.cells cs e)).grownBy w' r → w0.grownBy w' r := fun r h2 => ⟨h2.os.trans hb0.os, h2.tape.trans hb0.tape, h2.output.trans hb0.output, Nat.le_trans hb0.size h2.size, fun k hk hne => (h2.block k (Nat.lt_of_lt_of_le hk hb0.size) hne).trans (hb0.block k hk)⟩
  rcases h3 with ⟨g, cap, h4, h5, h6⟩ | ⟨h4, h5⟩
  · exact .inl ⟨g, cap, h4, h5, hlow _ h6⟩
  · exact .inr ⟨fun g hg => Nat.le_trans hb0.size (h4 g hg), hlow _ h5⟩
end Go.Proofs.YteladljgnbfcnaaGreat.Ap
namespace Go.Proofs.YteladljgnbfcnaaGreat.Da
open Go.RowKit P1 Rc Rr Ap

theorem OwnsAll.ext {W : World} {cur cur' : Array Value} : ∀ {ds : List Dt} {k k' : Nat} {fp : List Nat}, OwnsAll W cur k ds fp → (∀ i, i < ds.length → cur'[k' + i]? = cur[k + i]?) → OwnsAll W cur' k' ds fp := by
  intro ds
  induction ds with
  | nil => intro k k' fp h _; unfold OwnsAll at h ⊢; exact h
  | cons d ds ih =>
    intro k k' fp h he
    unfold OwnsAll at h ⊢
    obtain ⟨u, f1, f2, h1, h2, h3, h4, h5⟩ := h
    refine ⟨u, f1, f2, (he 0 (by simp)).trans h1, h2, ih h3 (fun i hi => ?_), h4, h5⟩
    have := he (i + 1) (by simpa using hi)
    rw [show k' + 1 + i = k' + (i + 1) by omega, show k + 1 + i = k + (i + 1) by omega]
    exact this

theorem OwnsAll.app {W : World} {cur : Array Value} {es : List Dt} {f2 : List Nat} : ∀ {ds : List Dt} {k : Nat} {f1 : List Nat}, OwnsAll W cur k ds f1 → OwnsAll W cur (k + ds.length) es f2 → (∀ g ∈ f1, g ∉ f2) → OwnsAll W cur k (ds ++ es) (f1 ++ f2) := by
  intro ds
  induction ds with
  | nil =>
    intro k f1 h h2 _
    unfold OwnsAll at h
    subst h
    simpa using h2
  | cons d ds ih =>
    intro k f1 h h2 hd
    unfold OwnsAll at h
    obtain ⟨u, g1, g2, h3, h4, h5, rfl, h6⟩ := h
    rw [List.cons_append]
    unfold OwnsAll
    refine ⟨u, g1, g2 ++ f2, h3, h4, ih h5 (by rw [show k + 1 + ds.length = k + (d :: ds).length by simp; omega]; exact h2) (fun g hg => hd g (by simp [hg])), by rw [List.append_assoc], fun g hg h' => ?_⟩
    rcases List.mem_append.1 h' with h' | h'
    · exact h6 g hg h'
    · exact hd g (by simp [hg]) h'

/-- A row whose cells X the call owns, and what they hold. -/
structure RowD (W : World) (B : Nat) (e : TypeId) (sz : Nat) (v : Value) (n : Nat) (X : List Value) (ds : List Dt) (fps : List Nat) : Prop where
  row : W.ownsRow B e sz v n X
  all : OwnsAll W X.toArray 0 ds fps
  apart : ∀ g, v.ownBlock = some g → g ∉ fps
  len : ds.length = n * sz

theorem RowD.nil (W : World) (B : Nat) (e : TypeId) (sz : Nat) : RowD W B e sz (.slice none 0 0) 0 [] [] [] :=
  ⟨⟨by simp, .inl ⟨rfl, rfl⟩⟩, (by unfold OwnsAll; rfl), (fun g hg => (by cases hg)), (by simp)⟩

theorem RowD.stay {W W' : World} {B : Nat} {e : TypeId} {sz n : Nat} {v : Value} {X : List Value} {ds : List Dt} {fps : List Nat} (h : RowD W B e sz v n X ds fps) (hv : ∀ g, v.ownBlock = some g → W'.heap[g]? = W.heap[g]?) (hk : ∀ g ∈ fps, W'.heap[g]? = W.heap[g]?) : RowD W' B e sz v n X ds fps := by
  refine ⟨⟨h.row.1, ?_⟩, h.all.stay hk, h.apart, h.len⟩
  rcases h.row.2 with h1 | ⟨g, cap, cur, rfl, h2, h3, h4⟩
  · exact .inl h1
  · exact .inr ⟨g, cap, cur, rfl, h2, (hv g rfl).trans h3, h4⟩

theorem RowD.lt {W : World} {B : Nat} {e : TypeId} {sz n : Nat} {v : Value} {X : List Value} {ds : List Dt} {fps : List Nat} (h : RowD W B e sz v n X ds fps) : (∀ g, v.ownBlock = some g → g < W.heap.size) ∧ ∀ g ∈ fps, g < W.heap.size :=
  ⟨fun g hg => (h.row.lt g hg).2, h.all.lt⟩

theorem RowD.below {W W' : World} {B : Nat} {e : TypeId} {sz n : Nat} {v : Value} {X : List Value} {ds : List Dt} {fps : List Nat} (h : RowD W B e sz v n X ds fps) (hb : Below W.heap.size W W') : RowD W' B e sz v n X ds fps :=
  h.stay (fun g hg => hb.block g (h.lt.1 g hg)) (fun g hg => hb.block g (h.lt.2 g hg))

/-- It owns its data. -/
theorem RowD.owns {W : World} {B : Nat} {e : TypeId} {sz n : Nat} {v : Value} {X : List Value} {ds : List Dt} {fps : List Nat} (h : RowD W B e sz v n X ds fps) : ∃ fp, Owns W v (.row e sz ds) fp ∧ ∀ g, g ∈ fp ↔ v.ownBlock = some g ∨ g ∈ fps := by
  obtain ⟨⟨h0, h1⟩, h2, h3, h4⟩ := h
  rcases h1 with ⟨rfl, rfl⟩ | ⟨g, cap, cur, rfl, k1, k2, k3, k4, k5, k6⟩
  · have hd : ds = [] := List.eq_nil_of_length_eq_zero (by simpa using h4)
    subst hd
    unfold OwnsAll at h2
    subst h2
    exact ⟨[], owns_nil e sz, by simp [Value.ownBlock]⟩
  · refine ⟨g :: fps, ?_, fun q => by simp [Value.ownBlock, eq_comm]⟩
    unfold Owns
    refine .inr ⟨g, n, cap, cur, fps, rfl, k2, k3, k4, k5, h4, rfl, h3 g (by simp [Value.ownBlock]), h2.ext (fun i hi => ?_)⟩
    rw [Nat.zero_add, ← k6]
    simp only [List.getElem?_toArray]
    rw [List.getElem?_take_of_lt (by omega)]
    simp

/-- One record more. -/
theorem RowD.append {W W' : World} {B : Nat} {e : TypeId} {sz n : Nat} {v v' : Value} {X : List Value} {ds rs : List Dt} {fps f2 : List Nat} {cs : Array Value} (h : RowD W B e sz v n X ds fps) (hc : OwnsAll W cs 0 rs f2) (hrl : rs.length = sz)
    (hd : ∀ g ∈ f2, g ∉ fps ∧ v.ownBlock ≠ some g) (hrow : W'.ownsRow B e sz v' (n + 1) (X ++ cs.toList)) (hg : Grew W W' v v' n 1) : RowD W' B e sz v' (n + 1) (X ++ cs.toList) (ds ++ rs) (fps ++ f2) := by
  have hX : X.length = n * sz := h.row.1
  have keep : ∀ q ∈ fps ++ f2, W'.heap[q]? = W.heap[q]? := fun q hq => by
    have hq' : q < W.heap.size ∧ v.ownBlock ≠ some q := by
      rcases List.mem_append.1 hq with hq | hq
      · exact ⟨h.lt.2 q hq, fun e => h.apart q e hq⟩
      · exact ⟨hc.lt q hq, (hd q hq).2⟩
    exact hg.by_.block q hq'.1 (fun e => hq'.2 e.symm)
  refine ⟨hrow, ?_, fun g hvg hm => ?_, by rw [List.length_append, h.len, hrl, Nat.add_mul, Nat.one_mul]⟩
  · refine OwnsAll.app ((h.all.stay (fun q hq => keep q (by simp [hq]))).ext (fun i hi => ?_)) ((hc.stay (fun q hq => keep q (by simp [hq]))).ext (fun i hi => ?_)) (fun g hg1 hg2 => (hd g hg2).1 hg1)
    · have hi' : i < X.length := by rw [hX, ← h.len]; exact hi
      simp only [Nat.zero_add, List.getElem?_toArray]
      rw [List.getElem?_append_left hi']
    · simp only [Nat.zero_add, List.getElem?_toArray]
      rw [List.getElem?_append_right (by rw [hX, h.len]; omega), hX, h.len, show n * sz + i - n * sz = i by omega]
      simp
  · rcases hg with ⟨g0, cap, e1, e2, _⟩ | ⟨e1, _⟩
    · rw [e2] at hvg
      have hgg : g0 = g := by simpa [Value.ownBlock] using hvg
      subst hgg
      have hv0 : v.ownBlock = some g0 := by rw [e1]; simp [Value.ownBlock]
      rcases List.mem_append.1 hm with hm | hm
      · exact h.apart g0 hv0 hm
      · exact (hd g0 hm).2 hv0
    · have h1 := e1 g hvg
      rcases List.mem_append.1 hm with hm | hm
      · have := h.lt.2 g hm; omega
      · have := hc.lt g hm; omega
end Go.Proofs.YteladljgnbfcnaaGreat.Da
namespace Go.Proofs.YteladljgnbfcnaaGreat.P9
set_option maxRecDepth 8000
open Go.RowKit P1 P8 Da

/-- Where the one with this id is that is there. -/
def peerAt (l : List Pr) (id : Int) : Int := ((l.findIdx? fun p => p.here && (p.id == id)).map (fun (i : Nat) => (i : Int))).getD (-1)

theorem peerAt_hit {l : List Pr} {id : Int} {k : Nat} (hk : k < l.length) (h : (l[k].here && (l[k].id == id)) = true) (hb : ∀ j (hj : j < k), (l[j].here && (l[j].id == id)) = false) : peerAt l id = k := by
  unfold peerAt
  rw [List.findIdx?_eq_some_iff_getElem.2 ⟨hk, h, fun j hj => by rw [hb j hj]; simp⟩]
  rfl

theorem peerAt_none {l : List Pr} {id : Int} (hb : ∀ j (hj : j < l.length), (l[j].here && (l[j].id == id)) = false) : peerAt l id = -1 := by
  unfold peerAt
  rw [List.findIdx?_eq_none_iff.2 (fun x hx => by
    obtain ⟨j, hj, rfl⟩ := List.getElem_of_mem hx
    exact hb j hj)]
  rfl

set_option maxHeartbeats 1000000 in
theorem specPeerAt_calls (w : World) (v : Value) (l : List Pr) (id : Int) (hv : PeersAt w v l) (hl : l.length ≤ 1048576) :
    Calls Tryz.prog 15 #[.agg #[v], .int .i64 id] w fun e w' => e = .returned (.int .i64 (peerAt l id)) ∧ Below w.heap.size w w' := by
  have hb1 := (Below.refl w.heap.size w).alloc (Nat.le_refl _) (.cells #[v] 28)
  have HV := hide (hv.below hb1 (Nat.le_refl _))
  obtain ⟨a, cap, rfl, -⟩ := hv.open_
  have G := Blk.new w #[.slice a l.length cap] 28
  have HB := hide hb1
  clear hv hb1
  go_enter Tryz.func15, Tryz.ntmps15
  go_wp2_with fail
  obtain ⟨b0, e0⟩ : ∃ b, b = w.heap.size := ⟨_, rfl⟩
  rw [← e0] at G ⊢
  clear e0
  generalize w.alloc (.cells #[.slice a l.length cap] 28) = w1 at *
  have c0 : w1.cell? ⟨b0, 0, none⟩ = some (.slice a l.length cap) := by rw [G.cell 0]; rfl
  have l0 := G.lt
  clear G
  go_loopw [5] (fun i wr => ∃ k : Nat, k ≤ l.length ∧ i = .int .i64 k ∧ Hid (∀ j (hj : j < k) (hj' : j < l.length), (l[j].here && (l[j].id == id)) = false) ∧ wr = w1) (fun i _ => l.length - (intOf i).toNat)
  case atStart => exact ⟨0, Nat.zero_le _, rfl, fun j hj => by omega, rfl⟩
  case round =>
    obtain ⟨k, hk, rfl, HN, hwr⟩ := hrel
    subst hwr
    by_cases hlt : k < l.length
    · obtain ⟨a2, c2, hsh, HA⟩ := HV.out.open_
      cases hsh
      obtain ⟨g, off, u3, u4, u5, rfl, hg, hc⟩ := HA k hlt
      have f0 := hc.id
      have f1 := hc.here
      have HS : Hid ((l[k].here && (l[k].id == id)) = false → ∀ j (hj : j < k + 1) (hj' : j < l.length), (l[j].here && (l[j].id == id)) = false) := fun h j hj hj' => by
        rcases Nat.lt_or_ge j k with h1 | h1
        · exact HN.out j h1 hj'
        · obtain rfl : j = k := by omega
          exact h
      have HE : Hid ((l[k].here && (l[k].id == id)) = true → peerAt l id = k) := fun h => peerAt_hit hlt h (fun j hj => HN.out j hj (by omega))
      clear HA hc HN
      generalize l[k].here = hh at *
      generalize l[k].id = ii at *
      cases hh with
      | false =>
        go_wp2
        go_roundw
        case rel => exact ⟨k + 1, by omega, by go_num, HS.out rfl, trivial⟩
        case measure => simp [intOf]; omega
      | true =>
        by_cases hi : ii = id
        · subst hi
          go_wp2
          go_ret
          exact ⟨by rw [HE.out (by simp)]; rfl, HB.out⟩
        · have hne : (ii == id) = false := by simpa using hi
          go_wp2
          go_roundw
          case rel => exact ⟨k + 1, by omega, by go_num, HS.out (by simp [hne]), trivial⟩
          case measure => simp [intOf]; omega
    · have HE : Hid (peerAt l id = -1) := peerAt_none (fun j hj => HN.out j (by omega) hj)
      clear HN
      go_wp2
      go_ret
      exact ⟨by rw [HE.out]; rfl, HB.out⟩
end Go.Proofs.YteladljgnbfcnaaGreat.P9
namespace Go.Proofs.YteladljgnbfcnaaGreat.P9
set_option maxRecDepth 8000
open Go.RowKit P1 P8 Da

/-- Put in ahead of the first one that is greater. -/
def inI (x : Int) : List Int → List Int
  | [] => [x]
  | y :: l => if x < y then x :: y :: l else y :: inI x l

theorem inI_length (x : Int) : ∀ l : List Int, (inI x l).length = l.length + 1 := by
  intro l
  induction l with
  | nil => rfl
  | cons y l ih =>
    unfold inI
    split
    · simp
    · simp [ih]

theorem inI_skip (x : Int) : ∀ (l m : List Int), (∀ y ∈ l, y ≤ x) → inI x (l ++ m) = l ++ inI x m := by
  intro l
  induction l with
  | nil => intro m _; rfl
  | cons y l ih =>
    intro m h
    have h1 := h y (by simp)
    show (if x < y then _ else y :: inI x (l ++ m)) = _
    rw [if_neg (by omega), ih m (fun z hz => h z (by simp [hz]))]
    rfl

theorem inI_snoc (x z : Int) : ∀ l : List Int, (∃ y ∈ l, x < y) → inI x (l ++ [z]) = inI x l ++ [z] := by
  intro l
  induction l with
  | nil => rintro ⟨y, hy, _⟩; cases hy
  | cons y l ih =>
    intro h
    show (if x < y then _ else y :: inI x (l ++ [z])) = (if x < y then _ else _) ++ [z]
    by_cases hy : x < y
    · rw [if_pos hy, if_pos hy]; rfl
    · rw [if_neg hy, if_neg hy, ih]
      · rfl
      · obtain ⟨u, hu, hlt⟩ := h
        rcases List.mem_cons.1 hu with rfl | hu
        · exact absurd hlt hy
        · exact ⟨u, hu, hlt⟩

def hereStep (out : List Int) (p : Pr) : List Int := if p.here then inI p.id out else out

/-- The ids of those that are there. -/
def hereOf (l : List Pr) : List Int := l.foldl hereStep []

theorem hereOf_snoc (l : List Pr) (p : Pr) : hereOf (l ++ [p]) = hereStep (hereOf l) p := by simp [hereOf]

theorem hereOf_take (l : List Pr) : ∀ k, (hereOf (l.take k)).length ≤ k := by
  intro k
  induction k with
  | zero => simp [hereOf]
  | succ k ih =>
    rcases Nat.lt_or_ge k l.length with h | h
    · rw [List.take_succ_eq_append_getElem h, hereOf_snoc]
      unfold hereStep
      split
      · rw [inI_length]; omega
      · omega
    · rw [List.take_of_length_le (by omega)]
      rw [List.take_of_length_le (by omega)] at ih
      omega

/-- How far the putting in has come. -/
def PartI (x : Int) (out : List Int) (k : Nat) (nx : List Int) (put : Bool) : Prop :=
  (put = false ∧ nx = out.take k ∧ ∀ y ∈ out.take k, y ≤ x) ∨ (put = true ∧ nx = inI x (out.take k) ∧ ∃ y ∈ out.take k, x < y)

theorem PartI.start (x : Int) (out : List Int) : PartI x out 0 [] false := .inl ⟨rfl, rfl, by simp⟩

theorem PartI.put {x : Int} {out nx : List Int} {k : Nat} (h : PartI x out k nx true) (hk : k < out.length) : PartI x out (k + 1) (nx ++ [out[k]]) true := by
  rcases h with ⟨h, _⟩ | ⟨_, rfl, h⟩
  · cases h
  · refine .inr ⟨rfl, ?_, ?_⟩
    · rw [List.take_succ_eq_append_getElem hk, inI_snoc _ _ _ h]
    · rw [List.take_succ_eq_append_getElem hk]
      obtain ⟨y, hy, hlt⟩ := h
      exact ⟨y, List.mem_append_left _ hy, hlt⟩

theorem PartI.now {x : Int} {out nx : List Int} {k : Nat} (h : PartI x out k nx false) (hk : k < out.length) (hlt : x < out[k]) : PartI x out (k + 1) ((nx ++ [x]) ++ [out[k]]) true := by
  rcases h with ⟨_, rfl, h⟩ | ⟨h, _⟩
  · refine .inr ⟨rfl, ?_, ?_⟩
    · rw [List.take_succ_eq_append_getElem hk, inI_skip _ _ _ h]
      show _ = _ ++ (if x < out[k] then _ else _)
      rw [if_pos hlt]
      simp
    · rw [List.take_succ_eq_append_getElem hk]
      exact ⟨out[k], List.mem_append_right _ (List.mem_singleton.2 rfl), hlt⟩
  · cases h

theorem PartI.not {x : Int} {out nx : List Int} {k : Nat} (h : PartI x out k nx false) (hk : k < out.length) (hlt : ¬ x < out[k]) : PartI x out (k + 1) (nx ++ [out[k]]) false := by
  rcases h with ⟨_, rfl, h⟩ | ⟨h, _⟩
  · refine .inl ⟨rfl, ?_, ?_⟩
    · rw [List.take_succ_eq_append_getElem hk]
    · rw [List.take_succ_eq_append_getElem hk]
      intro y hy
      rcases List.mem_append.1 hy with hy | hy
      · exact h y hy
      · simp only [List.mem_singleton] at hy
        subst hy
        omega
  · cases h

theorem PartI.len {x : Int} {out nx : List Int} {k : Nat} {put : Bool} (h : PartI x out k nx put) : nx.length ≤ k + 1 := by
  rcases h with ⟨_, rfl, _⟩ | ⟨_, rfl, _⟩
  · rw [List.length_take]; omega
  · rw [inI_length, List.length_take]; omega

theorem PartI.endF {x : Int} {out nx : List Int} (h : PartI x out out.length nx false) : nx ++ [x] = inI x out := by
  rcases h with ⟨_, rfl, h⟩ | ⟨h, _⟩
  · rw [List.take_length] at h ⊢
    have := inI_skip x out [] h
    rw [List.append_nil] at this
    rw [this]
    rfl
  · cases h

theorem PartI.endT {x : Int} {out nx : List Int} (h : PartI x out out.length nx true) : nx = inI x out := by
  rcases h with ⟨h, _⟩ | ⟨_, rfl, _⟩
  · cases h
  · rw [List.take_length]

set_option maxHeartbeats 4000000 in
theorem specHere_calls (w : World) (v : Value) (l : List Pr) (hv : PeersAt w v l) (hl : l.length ≤ 1048576) :
    Calls Tryz.prog 17 #[.agg #[v]] w fun e w' => ∃ v', e = .returned v' ∧ w'.ownsRow w.heap.size 3 1 v' (hereOf l).length (cellsI (hereOf l)) ∧ Below w.heap.size w w' := by
  obtain ⟨i0, hi, hz0, hz1, hz2⟩ := info_parts info_i64
  have hb1 := (Below.refl w.heap.size w).alloc (Nat.le_refl _) (.cells #[v] 28)
  have HV := hide (hv.below hb1 (Nat.le_refl _))
  obtain ⟨av, cv, rfl, -⟩ := hv.open_
  have G0 := Blk.new w #[.slice av l.length cv] 28
  have HBa := hide hb1
  clear hv hb1
  obtain ⟨O, HO0, HOs, HOl, HOe⟩ : ∃ O : Nat → List Int, Hid (O 0 = []) ∧ Hid (∀ k (hk : k < l.length), O (k + 1) = hereStep (O k) l[k]) ∧ Hid (∀ k, k ≤ l.length → (O k).length ≤ 1048576) ∧ Hid (O l.length = hereOf l) := by
    refine ⟨fun k => hereOf (l.take k), rfl, fun k hk => ?_, fun k hk => ?_, ?_⟩
    · show hereOf (l.take (k + 1)) = _
      rw [List.take_succ_eq_append_getElem hk, hereOf_snoc]
    · have := hereOf_take l k
      show (hereOf (l.take k)).length ≤ _
      omega
    · show hereOf (l.take l.length) = _
      rw [List.take_length]
  go_enter Tryz.func17, Tryz.ntmps17
  go_upto_region 1 with fail
  obtain ⟨b0, eb0⟩ : ∃ b, b = w.heap.size := ⟨_, rfl⟩
  rw [← eb0] at G0 ⊢
  have hb0w : w.heap.size ≤ b0 := by omega
  clear eb0
  generalize w.alloc (.cells #[.slice av l.length cv] 28) = wa at *
  have HS0 := hide (own_lit0 wa)
  have HB0 := hide ((Below.refl wa.heap.size wa).alloc (Nat.le_refl _) (.cells #[] 3))
  go_wp2_with fail
  obtain ⟨B, eB⟩ : ∃ B, B = wa.heap.size := ⟨_, rfl⟩
  rw [← eB] at HS0 HB0 ⊢
  have hwB : wa.heap.size ≤ B := by omega
  have HBw : Hid (B ≤ wa.heap.size) := by show _ ≤ _; omega
  have hb0B : b0 < B := by rw [eB]; exact G0.lt
  have HWB : Hid (w.heap.size ≤ B) := by show _ ≤ _; rw [eB]; exact HBa.out.size
  clear eB
  have HG0 := hide G0
  clear G0
  generalize wa.alloc (.cells #[] 3) = w0 at *
  go_loopw [3, 4] (fun vo i wr => ∃ k : Nat, k ≤ l.length ∧ i = .int .i64 k ∧ Hid (wr.ownsRow B 3 1 vo (O k).length (cellsI (O k))) ∧ Hid (Below B wa wr)) (fun _ i _ => l.length - (intOf i).toNat)
  case atStart => exact ⟨0, Nat.zero_le _, rfl, by show World.ownsRow _ _ _ _ _ _ _; rw [HO0.out]; exact HS0.out, HB0.out⟩
  case round =>
    clear HS0 HB0
    obtain ⟨k, hk, rfl, HO, HB⟩ := hrel
    have hBr : B ≤ wr.heap.size := by have := HB.out.size; have := HBw.out; omega
    have g0 := HG0.out.below HB.out hb0B
    have d0 : wr.cell? ⟨b0, 0, none⟩ = some (.slice av l.length cv) := by rw [g0.cell 0]; rfl
    have e0 : b0 < wr.heap.size := g0.lt
    clear g0
    by_cases hlt : k < l.length
    · have hs := HOs.out k hlt
      have hol := HOl.out k hk
      obtain ⟨av2, cv2, hsh, HA⟩ := (HV.out.below HB.out hwB).open_
      cases hsh
      obtain ⟨ga, oa, u3, u4, u5, rfl, ha2, hc⟩ := HA k hlt
      have ha3 := hc.id
      have ha4 := hc.here
      have HGA : Hid (ga < B) := by
        obtain ⟨av2, cv2, hsh, HA⟩ := HV.out.open_
        cases hsh
        obtain ⟨ga', _, _, _, _, e, hg', _⟩ := HA k hlt
        cases e
        show _ < _
        omega
      clear HA hc
      have HS := hide hs
      clear hs
      obtain ⟨ao, co, hsh⟩ := own_sh HO.out
      subst hsh
      have HI := hide (IntsAt.of_own HO.out)
      obtain ⟨out, EO⟩ : ∃ out, out = O k := ⟨_, rfl⟩
      unfold hereStep at HS
      rw [← EO] at HS
      rw [← EO] at HO HI hol ⊢
      clear EO
      obtain ⟨w1, ewo⟩ : ∃ wo, wo = wr := ⟨_, rfl⟩
      subst ewo
      generalize l[k].here = hh at *
      generalize l[k].id = x at *
      cases hh with
      | false =>
        have HN : Hid (O (k + 1) = out) := by show _ = _; rw [HS.out]; rfl
        clear HI HS
        go_wp2
        go_roundw
        case rel => exact ⟨k + 1, by omega, by go_num, by show World.ownsRow _ _ _ _ _ _ _; rw [HN.out]; exact HO.out, HB.out⟩
        case measure => simp [intOf]; omega
      | true =>
        have HN : Hid (O (k + 1) = inI x out) := by show _ = _; rw [HS.out]; rfl
        clear HS
        go_upto_region 6 with fail
        have HS0 := hide (own_lit0 w1)
        have HB0 := hide ((Below.refl w1.heap.size w1).alloc (Nat.le_refl _) (.cells #[] 3))
        go_wp2_with fail
        obtain ⟨B2, eB⟩ : ∃ B, B = w1.heap.size := ⟨_, rfl⟩
        rw [← eB] at HS0 HB0 ⊢
        have HB2 := hide eB
        have hB2 : B ≤ B2 := by omega
        have hga2 : ga < B2 := by omega
        have hb02 : b0 < B2 := by omega
        clear eB
        generalize w1.alloc (.cells #[] 3) = w3 at *
        go_loopw [5, 6, 7] (fun vn pb i wx => ∃ (j : Nat) (nx : List Int) (put : Bool), j ≤ out.length ∧ i = .int .i64 j ∧ pb = .bool put ∧ Hid (PartI x out j nx put) ∧ Hid (wx.ownsRow B2 3 1 vn nx.length (cellsI nx)) ∧ Hid (Below B2 w1 wx)) (fun _ _ i _ => out.length - (intOf i).toNat)
        case atStart => exact ⟨0, [], false, Nat.zero_le _, rfl, rfl, PartI.start x out, HS0.out, HB0.out⟩
        case round =>
          clear HS0 HB0
          obtain ⟨j, nx, put, hj, rfl, rfl, HP, HX, HBx⟩ := hrel
          have hBx : B2 ≤ wr.heap.size := by have := HBx.out.size; have := HB2.out; omega
          have hnx := HP.out.len
          have hx3 : wr.cell? ⟨ga, oa + k * 6, none⟩ = some (.int .i64 x) := by rw [HBx.out.cell (p := ⟨ga, oa + k * 6, none⟩) hga2]; exact ha3
          have hx2 : ga < wr.heap.size := by omega
          have d0' : wr.cell? ⟨b0, 0, none⟩ = some (.slice (some ⟨ga, oa, none⟩) l.length cv) := by rw [HBx.out.cell (p := ⟨b0, 0, none⟩) hb02]; exact d0
          have e0' : b0 < wr.heap.size := by omega
          clear d0 e0
          have d0 := d0'
          have e0 := e0'
          clear d0' e0'
          obtain ⟨an, cn, hsn⟩ := own_sh HX.out
          subst hsn
          by_cases hjl : j < out.length
          · obtain ⟨ax, cx, hax, HAx⟩ := HI.out.below HBx.out (by have := HB2.out; omega)
            cases hax
            obtain ⟨gb, ob, rfl, hb2, hb3⟩ := HAx j hjl
            have hgb2 : gb < B2 := by
              have h := HB2.out
              obtain ⟨ax, cx, hax, HAy⟩ := HI.out
              cases hax
              obtain ⟨g', o', e', hl', _⟩ := HAy j hjl
              cases e'
              omega
            clear HAx
            cases put with
            | true =>
              have HPn := hide (HP.out.put hjl)
              clear HP
              generalize out[j] = y at *
              go_wp2_with fail
              go_quiet (fail)
              have HX5 : Hid ((wr.drewN nq).ownsRow B2 3 1 (.slice an nx.length cn) nx.length (cellsI nx)) := HX.out
              have HB5 : Hid (Below B2 w1 (wr.drewN nq)) := below_drewN HBx.out nq
              have hB5 : B2 ≤ (wr.drewN nq).heap.size := hBx
              have hy3 : (wr.drewN nq).cell? ⟨gb, ob + j, none⟩ = some (.int .i64 y) := hb3
              have hy2 : gb < (wr.drewN nq).heap.size := hb2
              have hx5 : (wr.drewN nq).cell? ⟨ga, oa + k * 6, none⟩ = some (.int .i64 x) := hx3
              have hx6 : ga < (wr.drewN nq).heap.size := hx2
              have d05 : (wr.drewN nq).cell? ⟨b0, 0, none⟩ = some (.slice (some ⟨ga, oa, none⟩) l.length cv) := d0
              have e05 : b0 < (wr.drewN nq).heap.size := e0
              clear HX HBx hBx hb3 hb2 hx3 hx2 d0 e0
              generalize wr.drewN nq = w5 at *
              go_wp2_with (at_builtin; refine wpList_append_one (cs := #[.int .i64 y]) (Below.refl B2 w5) hB5 rfl (.tmp 54) (.tmp 59) 24 rfl 3 i0 (.int .i64 0) 1 8 Tryz.underlying24 hi hz0 hz1 hz2 rfl (by decide) rfl (by simp [Value.oneCell']) _ _ _ rfl HX5.out 1 rfl (by omega) (by omega) ?_)
              intro v6 w6 hown hb
              have HX6 := hide (own_snocI hown)
              have HB6 := hide (HB5.out.trans hb)
              clear hown hb
              go_wp2
              go_roundw
              case rel => exact ⟨j + 1, _, true, by omega, by go_num, rfl, HPn.out, HX6.out, HB6.out⟩
              case measure => simp [intOf]; omega
            | false =>
              have hnow := HP.out.now hjl
              have hnot := HP.out.not hjl
              clear HP
              generalize out[j] = y at *
              by_cases hq : x < y
              · have HPn := hide (hnow hq)
                have hqd : decide (x < y) = true := decide_eq_true hq
                clear hnow hnot
                go_wp2_with fail
                go_quiet (fail)
                have HX5 : Hid ((wr.drewN nq).ownsRow B2 3 1 (.slice an nx.length cn) nx.length (cellsI nx)) := HX.out
                have HB5 : Hid (Below B2 w1 (wr.drewN nq)) := below_drewN HBx.out nq
                have hB5 : B2 ≤ (wr.drewN nq).heap.size := hBx
                have hy3 : (wr.drewN nq).cell? ⟨gb, ob + j, none⟩ = some (.int .i64 y) := hb3
                have hy2 : gb < (wr.drewN nq).heap.size := hb2
                have hx5 : (wr.drewN nq).cell? ⟨ga, oa + k * 6, none⟩ = some (.int .i64 x) := hx3
                have hx6 : ga < (wr.drewN nq).heap.size := hx2
                have d05 : (wr.drewN nq).cell? ⟨b0, 0, none⟩ = some (.slice (some ⟨ga, oa, none⟩) l.length cv) := d0
                have e05 : b0 < (wr.drewN nq).heap.size := e0
                clear HX HBx hBx hb3 hb2 hx3 hx2 d0 e0
                generalize wr.drewN nq = w5 at *
                go_wp2_with (at_builtin; refine wpList_append_one (cs := #[.int .i64 x]) (Below.refl B2 w5) hB5 rfl (.tmp 45) (.tmp 52) 24 rfl 3 i0 (.int .i64 0) 1 8 Tryz.underlying24 hi hz0 hz1 hz2 rfl (by decide) rfl (by simp [Value.oneCell']) _ _ _ rfl HX5.out 1 rfl (by omega) (by omega) ?_)
                intro v6 w6 hown hb
                have HX6 := hide (own_snocI hown)
                have HB6 := hide (HB5.out.trans hb)
                have hB6 : B2 ≤ w6.heap.size := Nat.le_trans hB5 hb.size
                have hy6 : w6.cell? ⟨gb, ob + j, none⟩ = some (.int .i64 y) := by rw [hb.cell (p := ⟨gb, ob + j, none⟩) hgb2]; exact hy3
                have hy7 : gb < w6.heap.size := by omega
                have hnl : (nx ++ [x]).length ≤ 1048577 := by simp; omega
                obtain ⟨a6, c6, hs6⟩ := own_sh HX6.out
                subst hs6
                clear hown hb hy3 hy2 hx5 hx6 HX5 HB5 hB5 d05 e05
                generalize nx ++ [x] = nx6 at *
                go_wp2_with (at_builtin; refine wpList_append_one (cs := #[.int .i64 y]) (Below.refl B2 w6) hB6 rfl (.tmp 54) (.tmp 59) 24 rfl 3 i0 (.int .i64 0) 1 8 Tryz.underlying24 hi hz0 hz1 hz2 rfl (by decide) rfl (by simp [Value.oneCell']) _ _ _ rfl HX6.out 1 rfl (by omega) (by omega) ?_)
                intro v7 w7 hown hb
                have HX7 := hide (own_snocI hown)
                have HB7 := hide (HB6.out.trans hb)
                clear hown hb
                go_wp2
                go_roundw
                case rel => exact ⟨j + 1, _, true, by omega, by go_num, rfl, HPn.out, HX7.out, HB7.out⟩
                case measure => simp [intOf]; omega
              · have HPn := hide (hnot hq)
                have hq2 : y ≤ x := by omega
                have hqd : decide (x < y) = false := decide_eq_false hq
                clear hnow hnot
                go_wp2_with fail
                go_quiet (fail)
                have HX5 : Hid ((wr.drewN nq).ownsRow B2 3 1 (.slice an nx.length cn) nx.length (cellsI nx)) := HX.out
                have HB5 : Hid (Below B2 w1 (wr.drewN nq)) := below_drewN HBx.out nq
                have hB5 : B2 ≤ (wr.drewN nq).heap.size := hBx
                have hy3 : (wr.drewN nq).cell? ⟨gb, ob + j, none⟩ = some (.int .i64 y) := hb3
                have hy2 : gb < (wr.drewN nq).heap.size := hb2
                have hx5 : (wr.drewN nq).cell? ⟨ga, oa + k * 6, none⟩ = some (.int .i64 x) := hx3
                have hx6 : ga < (wr.drewN nq).heap.size := hx2
                have d05 : (wr.drewN nq).cell? ⟨b0, 0, none⟩ = some (.slice (some ⟨ga, oa, none⟩) l.length cv) := d0
                have e05 : b0 < (wr.drewN nq).heap.size := e0
                clear HX HBx hBx hb3 hb2 hx3 hx2 d0 e0
                generalize wr.drewN nq = w5 at *
                go_wp2_with (at_builtin; refine wpList_append_one (cs := #[.int .i64 y]) (Below.refl B2 w5) hB5 rfl (.tmp 54) (.tmp 59) 24 rfl 3 i0 (.int .i64 0) 1 8 Tryz.underlying24 hi hz0 hz1 hz2 rfl (by decide) rfl (by simp [Value.oneCell']) _ _ _ rfl HX5.out 1 rfl (by omega) (by omega) ?_)
                intro v6 w6 hown hb
                have HX6 := hide (own_snocI hown)
                have HB6 := hide (HB5.out.trans hb)
                clear hown hb
                go_wp2
                go_roundw
                case rel => exact ⟨j + 1, _, false, by omega, by go_num, rfl, HPn.out, HX6.out, HB6.out⟩
                case measure => simp [intOf]; omega
          · obtain rfl : j = out.length := by omega
            cases put with
            | true =>
              have HE := hide (HP.out.endT)
              have HX' : Hid (wr.ownsRow B 3 1 (.slice an nx.length cn) (O (k + 1)).length (cellsI (O (k + 1)))) := by
                show World.ownsRow _ _ _ _ _ _ _
                rw [HN.out, ← HE.out]
                exact own_mono HX.out hB2
              have HBr := hide (HB.out.trans (HBx.out.mono hB2))
              clear HX HBx HP hnx
              go_wp2
              go_roundw
              case rel => exact ⟨k + 1, by omega, by go_num, HX'.out, HBr.out⟩
              case measure => simp [intOf]; omega
            | false =>
              have HE := hide (HP.out.endF)
              clear HP
              go_wp2_with (at_builtin; refine wpList_append_one (cs := #[.int .i64 x]) (Below.refl B2 wr) hBx rfl (.tmp 63) (.tmp 70) 24 rfl 3 i0 (.int .i64 0) 1 8 Tryz.underlying24 hi hz0 hz1 hz2 rfl (by decide) rfl (by simp [Value.oneCell']) _ _ _ rfl HX.out 1 rfl (by omega) (by omega) ?_)
              intro v6 w6 hown hb
              have HX6 : Hid (w6.ownsRow B 3 1 v6 (O (k + 1)).length (cellsI (O (k + 1)))) := by
                show World.ownsRow _ _ _ _ _ _ _
                rw [HN.out, ← HE.out]
                exact own_mono (own_snocI hown) hB2
              have HBr := hide ((HB.out.trans (HBx.out.mono hB2)).trans (hb.mono hB2))
              clear hown hb
              go_wp2
              go_roundw
              case rel => exact ⟨k + 1, by omega, by go_num, HX6.out, HBr.out⟩
              case measure => simp [intOf]; omega
    · have hkl : k = l.length := by omega
      subst hkl
      rw [HOe.out] at HO
      go_wp2_with fail
      go_ret
      exact ⟨_, rfl, own_mono HO.out HWB.out, HBa.out.trans (HB.out.mono HWB.out)⟩
end Go.Proofs.YteladljgnbfcnaaGreat.P9
namespace Go.Proofs.YteladljgnbfcnaaGreat.P9
set_option maxRecDepth 8000
open Go.RowKit P1 P8 Da

/-- The first one of its Behind that is there. -/
def nextOf (l : List Pr) (id : Int) : Int :=
  if peerAt l id < 0 then -1 else (((l[(peerAt l id).toNat]?).map fun p => p.behind).bind fun b => b.find? fun y => decide (0 ≤ peerAt l y)).getD (-1)

theorem peerAt_lt (l : List Pr) (id : Int) : peerAt l id = -1 ∨ ∃ i : Nat, ∃ _ : i < l.length, peerAt l id = i := by
  unfold peerAt
  cases h : l.findIdx? fun p => p.here && (p.id == id) with
  | none => exact .inl rfl
  | some i => exact .inr ⟨i, (List.findIdx?_eq_some_iff_getElem.1 h).1, rfl⟩

theorem nextOf_hit {l : List Pr} {id : Int} {i : Nat} (hi : i < l.length) (h : peerAt l id = i) : nextOf l id = (l[i].behind.find? fun y => decide (0 ≤ peerAt l y)).getD (-1) := by
  unfold nextOf
  rw [h, if_neg (by omega)]
  simp [hi]

set_option maxHeartbeats 2000000 in
theorem specNext_calls (w : World) (v : Value) (l : List Pr) (id : Int) (hv : PeersAt w v l) (hl : l.length ≤ 1048576) (hbl : ∀ p ∈ l, p.behind.length ≤ 1048576) :
    Calls Tryz.prog 18 #[.agg #[v], .int .i64 id] w fun e w' => e = .returned (.int .i64 (nextOf l id)) ∧ Below w.heap.size w w' := by
  have hb1 := (Below.refl w.heap.size w).alloc (Nat.le_refl _) (.cells #[v] 28)
  have HV := hide (hv.below hb1 (Nat.le_refl _))
  obtain ⟨a, cap, rfl, -⟩ := hv.open_
  have G := Blk.new w #[.slice a l.length cap] 28
  have HB := hide hb1
  clear hv hb1
  go_enter Tryz.func18, Tryz.ntmps18
  go_upto_region 1 with fail
  obtain ⟨b0, e0⟩ : ∃ b, b = w.heap.size := ⟨_, rfl⟩
  rw [← e0] at G ⊢
  clear e0
  generalize w.alloc (.cells #[.slice a l.length cap] 28) = w1 at *
  have c0 : w1.cell? ⟨b0, 0, none⟩ = some (.slice a l.length cap) := by rw [G.cell 0]; rfl
  have l0 := G.lt
  go_wp2_with fail
  refine (specPeerAt_calls w1 _ l id HV.out hl).mono ?_
  rintro e w2 ⟨rfl, hb2⟩
  have HV2 := hide (HV.out.below hb2 (Nat.le_refl _))
  have HB2 := hide (HB.out.trans (hb2.mono HB.out.size))
  have HG2 := hide (G.below hb2 G.lt)
  clear c0 l0 G HV HB hb2
  rcases peerAt_lt l id with hpa | ⟨i, hi, hpa⟩
  · have HE : Hid (nextOf l id = -1) := by show _ = _; unfold nextOf; rw [hpa, if_pos (by decide)]
    rw [hpa]
    go_wp2_with fail
    go_loopw [6] (fun k wr => k = .int .i64 0 ∧ wr = w2) (fun _ _ => 0)
    case atStart => exact ⟨rfl, rfl⟩
    case round =>
      obtain ⟨rfl, rfl⟩ := hrel
      go_wp2_with fail
      go_ret
      exact ⟨by rw [HE.out]; rfl, HB2.out⟩
  · have hNE := nextOf_hit hi hpa
    have hbh := hbl l[i] (List.getElem_mem hi)
    rw [hpa]
    obtain ⟨bs, EB⟩ : ∃ bs, bs = l[i].behind := ⟨_, rfl⟩
    rw [← EB] at hNE hbh
    have HNE := hide hNE
    have HEB := hide EB
    clear hNE hpa hbl EB
    go_wp2_with fail
    go_loopw [6] (fun q wr => ∃ k : Nat, k ≤ bs.length ∧ q = .int .i64 k ∧ Hid (∀ j (hj : j < k) (hj' : j < bs.length), peerAt l bs[j] < 0) ∧ Hid (Below w2.heap.size w2 wr)) (fun q _ => bs.length - (intOf q).toNat)
    case atStart => exact ⟨0, Nat.zero_le _, rfl, fun j hj => by omega, Below.refl _ _⟩
    case round =>
      obtain ⟨k, hk, rfl, HN, HBr⟩ := hrel
      have HVr := hide (HV2.out.below HBr.out (Nat.le_refl _))
      have G := HG2.out.below HBr.out HG2.out.lt
      obtain ⟨a2, c2, hsh, HA⟩ := HVr.out.open_
      cases hsh
      obtain ⟨g, off, u3, u4, u5, rfl, hg, hc⟩ := HA i hi
      have f3 := hc.c3
      have hI := hc.behind
      rw [← HEB.out] at hI
      obtain ⟨ab, cb, rfl, HI⟩ := hI
      have c0 : wr.cell? ⟨b0, 0, none⟩ = some (.slice (some ⟨g, off, none⟩) l.length cap) := by rw [G.cell 0]; rfl
      have l0 := G.lt
      have HBw := hide (HB2.out.trans (HBr.out.mono HB2.out.size))
      clear HA hc G
      by_cases hlt : k < bs.length
      · obtain ⟨gb, ob, rfl, hb2, hb3⟩ := HI k hlt
        clear HI
        have HC := hide (fun p : Near wr.heap.size wr => specPeerAt_calls p.w _ l bs[k] (HVr.out.below p.h (Nat.le_refl _)) hl)
        have n0 : ∀ p : Near wr.heap.size wr, p.w.cell? ⟨b0, 0, none⟩ = some (.slice (some ⟨g, off, none⟩) l.length cap) := fun p => (p.h.cell (p := ⟨b0, 0, none⟩) l0).trans c0
        have n1 : ∀ p : Near wr.heap.size wr, p.w.cell? ⟨g, off + i * 6 + 3, none⟩ = some (.slice (some ⟨gb, ob, none⟩) bs.length cb) := fun p => (p.h.cell (p := ⟨g, off + i * 6 + 3, none⟩) hg).trans f3
        have n2 : ∀ p : Near wr.heap.size wr, p.w.cell? ⟨gb, ob + k, none⟩ = some (.int .i64 bs[k]) := fun p => (p.h.cell (p := ⟨gb, ob + k, none⟩) hb2).trans hb3
        have hnn := Near.some wr.heap.size wr
        have HS : Hid (peerAt l bs[k] < 0 → ∀ j (hj : j < k + 1) (hj' : j < bs.length), peerAt l bs[j] < 0) := fun h j hj hj' => by
          rcases Nat.lt_or_ge j k with h1 | h1
          · exact HN.out j h1 hj'
          · obtain rfl : j = k := by omega
            exact h
        have HE : Hid (0 ≤ peerAt l bs[k] → nextOf l id = bs[k]) := fun h => by
          rw [HNE.out]
          have : bs.find? (fun y => decide (0 ≤ peerAt l y)) = some bs[k] := by
            rw [List.find?_eq_some_iff_getElem]
            exact ⟨by simpa using h, k, hlt, rfl, fun j hj => by have := HN.out j hj (by omega); simpa using this⟩
          rw [this]
          rfl
        clear HN HVr
        generalize bs[k] = y at *
        go_wp2_with fail
        refine wp_region_near wr.heap.size wr (Below.refl _ _) (by kernel_rfl) (by kernel_rfl) ?_
        repeat (go_big_quiet_step (fail))
        go_big_quiet_step (exact calls_near (Nat.le_refl _) (HC.out _))
        repeat (go_big_quiet_step (fail))
        refine wpQuiet_nil ?_
        rintro w3 ⟨pq, rfl⟩
        have m0 := n0 pq
        have m1 := n1 pq
        have m2 := n2 pq
        have hqb := pq.h
        obtain ⟨w3, hq⟩ := pq
        simp only at hqb m0 m1 m2 ⊢
        have hs3 := hqb.size
        have hg3 : g < w3.heap.size := by omega
        have hb03 : b0 < w3.heap.size := by omega
        have hgb3 : gb < w3.heap.size := by omega
        have HB3 := hide (HBr.out.trans (hqb.mono HBr.out.size))
        have HB4 := hide (HBw.out.trans (hqb.mono HBw.out.size))
        clear hq n0 n1 n2 hnn HC hqb c0 f3 hb3
        by_cases hp : 0 ≤ peerAt l y
        · have HR := hide (HE.out hp)
          generalize peerAt l y = pa at *
          go_wp2_with fail
          go_ret
          exact ⟨by rw [HR.out]; rfl, HB4.out⟩
        · have hp2 : peerAt l y < 0 := by omega
          have HR := hide (HS.out hp2)
          generalize peerAt l y = pa at *
          go_wp2_with fail
          go_roundw
          case rel => exact ⟨k + 1, by omega, by go_num, HR.out, HB3.out⟩
          case measure => simp [intOf]; omega
      · have HE : Hid (nextOf l id = -1) := by
          show _ = _
          rw [HNE.out]
          have : bs.find? (fun y => decide (0 ≤ peerAt l y)) = none := by
            rw [List.find?_eq_none]
            intro y hy
            obtain ⟨j, hj, rfl⟩ := List.getElem_of_mem hy
            have := HN.out j (by omega) hj
            simpa using this
          rw [this]
          rfl
        clear HI HN HVr
        go_wp2_with fail
        go_ret
        exact ⟨by rw [HE.out]; rfl, HBw.out⟩
end Go.Proofs.YteladljgnbfcnaaGreat.P9
namespace Go.Proofs.YteladljgnbfcnaaGreat.P9
set_option maxRecDepth 8000
open Go.RowKit P1 P8 Da

/-- Whether the k-th item is right beside the one ahead of it. -/
def itemOk (l : List It) (k : Nat) : Bool := decide (((l[k]?).map (·.t.length)).getD 0 ≤ 600) && (decide (k = 0) || Op.bytesLess (((l[k - 1]?).map (·.t)).getD []) (((l[k]?).map (·.t)).getD []))

def itemsOk (l : List It) : Bool := (List.range l.length).all (itemOk l) && decide (l.length ≤ 300)

theorem all_range {n : Nat} {p : Nat → Bool} (h : ∀ j, j < n → p j = true) : (List.range n).all p = true := by
  rw [List.all_eq_true]
  intro j hj
  exact h j (List.mem_range.1 hj)

theorem not_all_range {n k : Nat} {p : Nat → Bool} (hk : k < n) (h : p k = false) : (List.range n).all p = false := by
  rw [List.all_eq_false]
  exact ⟨k, List.mem_range.2 hk, by rw [h]; simp⟩

set_option maxHeartbeats 2000000 in
theorem specItems_calls (w : World) (v : Value) (l : List It) (hv : ItemsAt w v l) (hl : l.length ≤ 1048576) (hlt6 : ∀ x ∈ l, x.t.length ≤ 1048576) :
    Calls Tryz.prog 48 #[v] w fun e w' => e = .returned (.bool (itemsOk l)) ∧ ∃ n, w' = w.drewN n := by
  have HV := hide hv
  obtain ⟨a, cap, rfl, -⟩ := hv.open_
  clear hv
  have HT := hide hlt6
  clear hlt6
  go_enter Tryz.func48, Tryz.ntmps48
  go_wp2_with fail
  go_loopw [3] (fun i wr => ∃ k : Nat, k ≤ l.length ∧ i = .int .i64 k ∧ Hid (∀ j, j < k → itemOk l j = true) ∧ Hid (∃ n, wr = w.drewN n)) (fun i _ => l.length - (intOf i).toNat)
  case atStart => exact ⟨0, Nat.zero_le _, rfl, fun j hj => by omega, 0, rfl⟩
  case round =>
    obtain ⟨k, hk, rfl, HN, HW⟩ := hrel
    by_cases hlt : k < l.length
    · have hvr : ItemsAt wr (.slice a l.length cap) l := by obtain ⟨n, rfl⟩ := HW.out; exact HV.out.below (below_drewN (Below.refl w.heap.size w) n) (Nat.le_refl _)
      obtain ⟨a2, c2, hsh, HA⟩ := hvr.open_
      cases hsh
      obtain ⟨g, off, rfl, hg, f0, -⟩ := HA k hlt
      have HF : Hid (itemOk l k = false → itemsOk l = false) := fun h => by unfold itemsOk; rw [not_all_range hlt h]; rfl
      have HS : Hid (itemOk l k = true → ∀ j, j < k + 1 → itemOk l j = true) := fun h j hj => by
        rcases Nat.lt_or_ge j k with h1 | h1
        · exact HN.out j h1
        · obtain rfl : j = k := by omega
          exact h
      have hsz : (⟨l[k].t.toArray⟩ : ByteArray).size = l[k].t.length := rfl
      have hi : itemOk l k = (decide (l[k].t.length ≤ 600) && (decide (k = 0) || Op.bytesLess (((l[k - 1]?).map (·.t)).getD []) l[k].t)) := by unfold itemOk; simp [hlt]
      have hmx := HT.out l[k] (List.getElem_mem hlt)
      have HI := hide hi
      clear hi hvr
      by_cases h6 : 600 < l[k].t.length
      · have HR : Hid (itemsOk l = false) := HF.out (by rw [HI.out, decide_eq_false (by omega)]; rfl)
        have hd : decide ((600 : Int) < ((l[k].t.length : Nat) : Int)) = true := decide_eq_true (by omega)
        clear HA HI HS HF HN
        generalize l[k].t = t1 at *
        go_wp2_with fail
        go_quiet (fail)
        go_wp2_with fail
        go_ret
        exact ⟨by rw [HR.out]; rfl, drewN_more HW.out _⟩
      · have hd : decide ((600 : Int) < ((l[k].t.length : Nat) : Int)) = false := decide_eq_false (by omega)
        have h6' : l[k].t.length ≤ 600 := by omega
        by_cases hk0 : k = 0
        · have HR := hide (HS.out (by rw [HI.out, decide_eq_true h6', decide_eq_true hk0]; rfl))
          have hd0 : decide (0 < k) = false := decide_eq_false (by omega)
          clear HA HI HS HF HN hk0
          generalize l[k].t = t1 at *
          go_wp2_with fail
          go_quiet (fail)
          go_wp2_with fail
          go_roundw
          case rel => exact ⟨k + 1, by omega, by go_num, HR.out, drewN_more HW.out _⟩
          case measure => simp [intOf]; omega
        · obtain ⟨j, rfl⟩ : ∃ j, k = j + 1 := ⟨k - 1, by omega⟩
          obtain ⟨g', off', e', -, f0', -⟩ := HA j (by omega)
          cases e'
          have hi2 := HI.out
          rw [decide_eq_true h6', decide_eq_false hk0, Nat.add_sub_cancel, List.getElem?_eq_getElem (by omega : j < l.length)] at hi2
          have HI2 := hide hi2
          clear HA HI HN hi2
          generalize l[j + 1].t = t1 at *
          cases hbl : Op.bytesLess l[j].t t1 with
          | true =>
            have HR := hide (HS.out (by rw [HI2.out]; simpa using hbl))
            clear HI2 HS HF
            generalize l[j].t = t0 at *
            go_wp2_with fail
            go_quiet (fail)
            go_wp2_with fail
            go_roundw
            case rel => exact ⟨j + 1 + 1, by omega, by go_num, HR.out, drewN_more HW.out _⟩
            case measure => simp [intOf]; omega
          | false =>
            have HR : Hid (itemsOk l = false) := HF.out (by rw [HI2.out]; simpa using hbl)
            clear HI2 HS HF
            generalize l[j].t = t0 at *
            go_wp2_with fail
            go_quiet (fail)
            go_wp2_with fail
            go_ret
            exact ⟨by rw [HR.out]; rfl, drewN_more HW.out _⟩
    · have hkl : k = l.length := by omega
      subst hkl
      have HR : Hid (itemsOk l = decide (l.length ≤ 300)) := by show _ = _; unfold itemsOk; rw [all_range HN.out]; simp
      clear HN
      go_wp2_with fail
      go_ret
      exact ⟨by rw [HR.out]; simp; omega, HW.out⟩
end Go.Proofs.YteladljgnbfcnaaGreat.P9
namespace Go.Proofs.YteladljgnbfcnaaGreat.P9
set_option maxRecDepth 8000
open Go.RowKit P1 P8 Da

def inB (x lo hi : Int) : Bool := decide (lo ≤ x ∧ x ≤ hi)

/-- Whether the k-th shelf is right beside the one ahead of it. -/
def shelfOk (l : List Shf) (k : Nat) : Bool :=
  inB (((l[k]?).map (·.key)).getD 0) 0 255 && (decide (k = 0) || decide (((l[k - 1]?).map (·.key)).getD 0 < ((l[k]?).map (·.key)).getD 0)) && itemsOk (((l[k]?).map (·.items)).getD [])

def behindOk (p : Pr) (k : Nat) : Bool := inB ((p.behind[k]?).getD 0) 0 255 && decide ((p.behind[k]?).getD 0 ≠ p.id)
def fingerOk (p : Pr) (k : Nat) : Bool := inB ((p.fingers[k]?).getD 0) (-1) 255

/-- What one that is there must be. -/
def hereOk (p : Pr) : Bool :=
  (inB p.ahead (-1) 255 && decide (p.behind.length ≤ 3) && decide (p.fingers.length = 8) && decide (p.shelves.length ≤ 80)) &&
    ((List.range p.behind.length).all (behindOk p) && ((List.range p.fingers.length).all (fingerOk p) && (List.range p.shelves.length).all (shelfOk p.shelves)))

def awayOk (p : Pr) : Bool := decide (p.ahead = 0) && decide (p.behind.length = 0) && decide (p.fingers.length = 0) && decide (p.shelves.length = 0)

def peerOk (p : Pr) : Bool := inB p.id 0 255 && if p.here then hereOk p else awayOk p

/-- A peer within reach. -/
structure Small (p : Pr) : Prop where
  b : p.behind.length ≤ 1048576
  f : p.fingers.length ≤ 1048576
  s : p.shelves.length ≤ 1048576
  i : ∀ x ∈ p.shelves, x.items.length ≤ 1048576 ∧ ∀ y ∈ x.items, y.t.length ≤ 1048576

/-- The six cells of a peer as a value. -/
abbrev prV (p : Pr) (u3 u4 u5 : Value) : Value := .agg #[.int .i64 p.id, .bool p.here, .int .i64 p.ahead, u3, u4, u5]

theorem ints_drewn {w wr : World} {v : Value} {l : List Int} (h : IntsAt w v l) (hw : ∃ n, wr = w.drewN n) : IntsAt wr v l := by
  obtain ⟨n, rfl⟩ := hw
  exact h

theorem cell_drewn {w wr : World} (h : ∃ n, wr = w.drewN n) {q : Addr} {c : Value} (hc : w.cell? q = some c) : wr.cell? q = some c := by
  obtain ⟨n, rfl⟩ := h
  exact hc

theorem size_drewn {w wr : World} (h : ∃ n, wr = w.drewN n) : wr.heap.size = w.heap.size := by
  obtain ⟨n, rfl⟩ := h
  rfl

theorem below_drewn {w wr : World} (h : ∃ n, wr = w.drewN n) : Below w.heap.size w wr := by
  obtain ⟨n, rfl⟩ := h
  exact below_drewN (Below.refl _ _) n

set_option maxHeartbeats 4000000 in
theorem specPeerOk_calls (w : World) (p : Pr) (u3 u4 u5 : Value) (h3 : IntsAt w u3 p.behind) (h4 : IntsAt w u4 p.fingers) (h5 : ShelvesAt w u5 p.shelves) (hp : Small p) :
    Calls Tryz.prog 23 #[prV p u3 u4 u5] w fun e w' => e = .returned (.bool (peerOk p)) ∧ Below w.heap.size w w' := by
  have hb1 := (Below.refl w.heap.size w).alloc (Nat.le_refl _) (.cells #[.int .i64 p.id, .bool p.here, .int .i64 p.ahead, u3, u4, u5] 37)
  have H3 := hide (h3.below hb1 (Nat.le_refl _))
  have H4 := hide (h4.below hb1 (Nat.le_refl _))
  have H5 := hide (h5.below hb1 (Nat.le_refl _))
  obtain ⟨a3, c3, rfl, -⟩ := h3
  obtain ⟨a4, c4, rfl, -⟩ := h4
  obtain ⟨a5, c5, rfl, -⟩ := h5.open_
  have G := Blk.new w #[.int .i64 p.id, .bool p.here, .int .i64 p.ahead, .slice a3 p.behind.length c3, .slice a4 p.fingers.length c4, .slice a5 p.shelves.length c5] 37
  have HB := hide hb1
  have hs3 := hp.b
  have hs4 := hp.f
  have hs5 := hp.s
  have HI := hide hp.i
  have HPO : Hid (peerOk p = (inB p.id 0 255 && if p.here then hereOk p else awayOk p)) := rfl
  have HHO : Hid (hereOk p = ((inB p.ahead (-1) 255 && decide (p.behind.length ≤ 3) && decide (p.fingers.length = 8) && decide (p.shelves.length ≤ 80)) && ((List.range p.behind.length).all (behindOk p) && ((List.range p.fingers.length).all (fingerOk p) && (List.range p.shelves.length).all (shelfOk p.shelves))))) := rfl
  have HAO : Hid (awayOk p = (decide (p.ahead = 0) && decide (p.behind.length = 0) && decide (p.fingers.length = 0) && decide (p.shelves.length = 0))) := rfl
  clear h5 hb1 hp
  go_enter Tryz.func23, Tryz.ntmps23
  go_upto_region 1 with fail
  obtain ⟨b0, e0⟩ : ∃ b, b = w.heap.size := ⟨_, rfl⟩
  rw [← e0] at G ⊢
  clear e0
  generalize w.alloc (.cells #[.int .i64 p.id, .bool p.here, .int .i64 p.ahead, .slice a3 p.behind.length c3, .slice a4 p.fingers.length c4, .slice a5 p.shelves.length c5] 37) = w1 at *
  have HG := hide G
  have d0 : w1.cell? ⟨b0, 0, none⟩ = some (.int .i64 p.id) := by rw [G.cell 0]; rfl
  have d1 : w1.cell? ⟨b0, 1, none⟩ = some (.bool p.here) := by rw [G.cell 1]; rfl
  have d2 : w1.cell? ⟨b0, 2, none⟩ = some (.int .i64 p.ahead) := by rw [G.cell 2]; rfl
  have d3 : w1.cell? ⟨b0, 3, none⟩ = some (.slice a3 p.behind.length c3) := by rw [G.cell 3]; rfl
  have d4 : w1.cell? ⟨b0, 4, none⟩ = some (.slice a4 p.fingers.length c4) := by rw [G.cell 4]; rfl
  have d5 : w1.cell? ⟨b0, 5, none⟩ = some (.slice a5 p.shelves.length c5) := by rw [G.cell 5]; rfl
  have l0 := G.lt
  clear G
  have C1 := hide (fun wx => l01In_calls p.id 0 255 wx)
  by_cases hid : 0 ≤ p.id ∧ p.id ≤ 255
  · have hin : inB p.id 0 255 = true := decide_eq_true hid
    rw [decide_eq_true hid] at C1
    rw [hin, Bool.true_and] at HPO
    clear hin hid
    go_wp2_with fail
    refine (C1.out _).mono ?_
    rintro e wz ⟨rfl, rfl⟩
    clear C1
    cases hh : p.here with
    | false =>
      rw [hh] at d1
      have HE : Hid (peerOk p = awayOk p) := by show _ = _; rw [HPO.out, hh]; rfl
      clear hh HPO HHO H3 H4 H5 HI HG
      by_cases q1 : p.ahead = 0
      · rw [q1] at d2 HAO
        rcases Nat.eq_zero_or_pos p.behind.length with q2 | q2
        · rw [q2] at d3 HAO
          rcases Nat.eq_zero_or_pos p.fingers.length with q3 | q3
          · rw [q3] at d4 HAO
            rcases Nat.eq_zero_or_pos p.shelves.length with q4 | q4
            · rw [q4] at d5 HAO
              have HR : Hid (awayOk p = true) := by show _ = _; rw [HAO.out]; rfl
              go_wp2_with fail
              go_ret
              exact ⟨by rw [HE.out, HR.out]; rfl, HB.out⟩
            · obtain ⟨m, hm⟩ : ∃ m, p.shelves.length = m + 1 := ⟨p.shelves.length - 1, by omega⟩
              rw [hm] at d5 HAO hs5
              have HR : Hid (awayOk p = false) := by show _ = _; rw [HAO.out]; simp
              clear hm q4
              go_wp2_with fail
              go_ret
              exact ⟨by rw [HE.out, HR.out]; simp; omega, HB.out⟩
          · obtain ⟨m, hm⟩ : ∃ m, p.fingers.length = m + 1 := ⟨p.fingers.length - 1, by omega⟩
            rw [hm] at d4 HAO hs4
            have HR : Hid (awayOk p = false) := by show _ = _; rw [HAO.out]; simp
            have hq : (((m + 1 : Nat) : Int) == 0) = false := by simp; omega
            clear hm q3
            go_wp2_with fail
            go_ret
            exact ⟨by rw [HE.out, HR.out]; rfl, HB.out⟩
        · obtain ⟨m, hm⟩ : ∃ m, p.behind.length = m + 1 := ⟨p.behind.length - 1, by omega⟩
          rw [hm] at d3 HAO hs3
          have HR : Hid (awayOk p = false) := by show _ = _; rw [HAO.out]; simp
          have hq : (((m + 1 : Nat) : Int) == 0) = false := by simp; omega
          clear hm q2
          go_wp2_with fail
          go_ret
          exact ⟨by rw [HE.out, HR.out]; rfl, HB.out⟩
      · have HR : Hid (awayOk p = false) := by show _ = _; rw [HAO.out, decide_eq_false q1]; rfl
        have hq : (p.ahead == 0) = false := by simpa using q1
        go_wp2_with fail
        go_ret
        exact ⟨by rw [HE.out, HR.out]; rfl, HB.out⟩
    | true =>
      rw [hh] at d1
      have HE : Hid (peerOk p = hereOk p) := by show _ = _; rw [HPO.out, hh]; rfl
      clear hh HPO HAO
      have C2 := hide (fun wx => l01In_calls p.ahead (-1) 255 wx)
      by_cases q1 : -1 ≤ p.ahead ∧ p.ahead ≤ 255
      · have q1' : inB p.ahead (-1) 255 = true := decide_eq_true q1
        rw [decide_eq_true q1] at C2
        rw [q1', Bool.true_and] at HHO
        clear q1 q1'
        by_cases q2 : p.behind.length ≤ 3
        · rw [decide_eq_true q2, Bool.true_and] at HHO
          have k2 : decide ((3 : Int) < ((p.behind.length : Nat) : Int)) = false := decide_eq_false (by omega)
          by_cases q3 : p.fingers.length = 8
          · rw [decide_eq_true q3, Bool.true_and] at HHO
            rw [q3] at d4
            by_cases q4 : p.shelves.length ≤ 80
            · rw [decide_eq_true q4, Bool.true_and] at HHO
              have k4 : decide ((80 : Int) < ((p.shelves.length : Nat) : Int)) = false := decide_eq_false (by omega)
              go_wp2_with fail
              refine (C2.out _).mono ?_
              rintro e wy ⟨rfl, rfl⟩
              clear C2 k2 k4
              go_wp2_with fail
              go_loopw [3] (fun i wr => ∃ k : Nat, k ≤ p.behind.length ∧ i = .int .i64 k ∧ Hid (∀ j, j < k → behindOk p j = true) ∧ Hid (∃ n, wr = wy.drewN n)) (fun i _ => p.behind.length - (intOf i).toNat)
              case atStart => exact ⟨0, Nat.zero_le _, rfl, fun j hj => by omega, 0, rfl⟩
              case round =>
                obtain ⟨k, hk, rfl, HN, HW⟩ := hrel
                have m0 := cell_drewn HW.out d0
                have m3 := cell_drewn HW.out d3
                have ml : b0 < wr.heap.size := by rw [size_drewn HW.out]; exact l0
                by_cases hlt : k < p.behind.length
                · obtain ⟨ax, cx, hax, HA⟩ := ints_drewn H3.out HW.out
                  cases hax
                  obtain ⟨g, off, rfl, hg, hc⟩ := HA k hlt
                  have hbk : behindOk p k = (inB p.behind[k] 0 255 && decide (p.behind[k] ≠ p.id)) := by unfold behindOk; simp [hlt]
                  have HBK := hide hbk
                  have CI := hide (fun wx => l01In_calls p.behind[k] 0 255 wx)
                  have HF : Hid (behindOk p k = false → hereOk p = false) := fun h => by rw [HHO.out, not_all_range hlt h]; rfl
                  have HS : Hid (behindOk p k = true → ∀ j, j < k + 1 → behindOk p j = true) := fun h j hj => by
                    rcases Nat.lt_or_ge j k with h1 | h1
                    · exact HN.out j h1
                    · obtain rfl : j = k := by omega
                      exact h
                  clear HA hbk HN
                  generalize p.behind[k] = x at *
                  by_cases hx : 0 ≤ x ∧ x ≤ 255
                  · rw [decide_eq_true hx] at CI
                    by_cases hy : x = p.id
                    · have HR := hide (HF.out (by rw [HBK.out]; simp [hy]))
                      have hyd : (x == p.id) = true := by simpa using hy
                      clear HBK HF HS hy hx
                      go_wp2_with fail
                      go_quiet (exact Calls.quiet_of_same (CI.out _))
                      have HBq := hide (HB.out.trans ((below_drewn (drewN_more HW.out nq)).mono HB.out.size))
                      go_wp2_with fail
                      go_ret
                      exact ⟨by rw [HE.out, HR.out]; rfl, HBq.out⟩
                    · have HR := hide (HS.out (by rw [HBK.out]; unfold inB; rw [decide_eq_true hx, decide_eq_true hy]; rfl))
                      have hyd : (x == p.id) = false := by simpa using hy
                      clear HBK HF HS hy hx
                      go_wp2_with fail
                      go_quiet (exact Calls.quiet_of_same (CI.out _))
                      go_wp2_with fail
                      go_roundw
                      case rel => exact ⟨k + 1, by omega, by go_num, HR.out, drewN_more HW.out _⟩
                      case measure => simp [intOf]; omega
                  · have HR := hide (HF.out (by rw [HBK.out]; unfold inB; rw [decide_eq_false hx]; rfl))
                    rw [decide_eq_false hx] at CI
                    clear HBK HF HS hx
                    go_wp2_with fail
                    go_quiet (exact Calls.quiet_of_same (CI.out _))
                    have HBq := hide (HB.out.trans ((below_drewn (drewN_more HW.out nq)).mono HB.out.size))
                    go_wp2_with fail
                    go_ret
                    exact ⟨by rw [HE.out, HR.out]; rfl, HBq.out⟩
                · have hk1 : k = p.behind.length := by omega
                  subst hk1
                  rw [all_range HN.out, Bool.true_and] at HHO
                  have m4 := cell_drewn HW.out d4
                  have m5 := cell_drewn HW.out d5
                  have H4b := hide (ints_drewn H4.out HW.out)
                  have H5b := hide (H5.out.below (below_drewn HW.out) (Nat.le_refl _))
                  have HBb := hide (HB.out.trans ((below_drewn HW.out).mono HB.out.size))
                  have HGb := hide (HG.out.below (below_drewn HW.out) HG.out.lt)
                  clear HN HW d0 d1 d2 d3 d4 d5 l0 H3 H4 H5 HB HG hlt hk
                  obtain ⟨wb, ewb⟩ : ∃ wb, wb = wr := ⟨_, rfl⟩
                  subst ewb
                  go_wp2_with fail
                  go_loopw [4] (fun i wr => ∃ k : Nat, k ≤ 8 ∧ i = .int .i64 k ∧ Hid (∀ j, j < k → fingerOk p j = true) ∧ wr = wb) (fun i _ => 8 - (intOf i).toNat)
                  case atStart => exact ⟨0, Nat.zero_le _, rfl, fun j hj => by omega, rfl⟩
                  case round =>
                    obtain ⟨k, hk, rfl, HN, hwr⟩ := hrel
                    subst hwr
                    by_cases hlt : k < 8
                    · obtain ⟨ax, cx, hax, HA⟩ := H4b.out
                      rw [q3] at hax
                      cases hax
                      have hlt2 : k < p.fingers.length := by omega
                      obtain ⟨g, off, rfl, hg, hc⟩ := HA k hlt2
                      have hbk : fingerOk p k = inB p.fingers[k] (-1) 255 := by unfold fingerOk; simp [hlt2]
                      have HBK := hide hbk
                      have CI := hide (fun wx => l01In_calls p.fingers[k] (-1) 255 wx)
                      have HF : Hid (fingerOk p k = false → hereOk p = false) := fun h => by rw [HHO.out, not_all_range hlt2 h]; rfl
                      have HS : Hid (fingerOk p k = true → ∀ j, j < k + 1 → fingerOk p j = true) := fun h j hj => by
                        rcases Nat.lt_or_ge j k with h1 | h1
                        · exact HN.out j h1
                        · obtain rfl : j = k := by omega
                          exact h
                      clear HA hbk HN
                      generalize p.fingers[k] = x at *
                      clear hlt2
                      by_cases hx : -1 ≤ x ∧ x ≤ 255
                      · have HR := hide (HS.out (by rw [HBK.out]; exact decide_eq_true hx))
                        rw [decide_eq_true hx] at CI
                        clear HBK HF HS hx
                        go_wp2_with fail
                        refine (CI.out _).mono ?_
                        rintro e wq ⟨rfl, rfl⟩
                        go_wp2_with fail
                        go_roundw
                        case rel => exact ⟨k + 1, by omega, by go_num, HR.out, trivial⟩
                        case measure => simp [intOf]; omega
                      · have HR := hide (HF.out (by rw [HBK.out]; exact decide_eq_false hx))
                        rw [decide_eq_false hx] at CI
                        clear HBK HF HS hx
                        go_wp2_with fail
                        refine (CI.out _).mono ?_
                        rintro e wq ⟨rfl, rfl⟩
                        go_wp2_with fail
                        go_ret
                        exact ⟨by rw [HE.out, HR.out]; rfl, HBb.out⟩
                    · have hk1 : k = 8 := by omega
                      subst hk1
                      rw [q3, all_range HN.out, Bool.true_and] at HHO
                      clear HN H4b m3 hlt hk
                      obtain ⟨wc, ewc⟩ : ∃ wc, wc = wr := ⟨_, rfl⟩
                      subst ewc
                      go_wp2_with fail
                      clear m0 m4 m5 ml
                      go_loopw [5] (fun i wr => ∃ k : Nat, k ≤ p.shelves.length ∧ i = .int .i64 k ∧ Hid (∀ j, j < k → shelfOk p.shelves j = true) ∧ Hid (Below wc.heap.size wc wr)) (fun i _ => p.shelves.length - (intOf i).toNat)
                      case atStart => exact ⟨0, Nat.zero_le _, rfl, fun j hj => by omega, Below.refl _ _⟩
                      case round =>
                        obtain ⟨k, hk, rfl, HN, HBr⟩ := hrel
                        have Gr := HGb.out.below HBr.out HGb.out.lt
                        have m5 : wr.cell? ⟨b0, 5, none⟩ = some (.slice a5 p.shelves.length c5) := by rw [Gr.cell 5]; rfl
                        have ml := Gr.lt
                        have HVr := hide (H5b.out.below HBr.out (Nat.le_refl _))
                        have HBw := hide (HBb.out.trans (HBr.out.mono HBb.out.size))
                        by_cases hlt : k < p.shelves.length
                        · obtain ⟨ax, cx, hax, HA⟩ := HVr.out.open_
                          cases hax
                          obtain ⟨g, off, u, rfl, hg, f0, f1, hit⟩ := HA k hlt
                          have hsk : shelfOk p.shelves k = (inB p.shelves[k].key 0 255 && (decide (k = 0) || decide (((p.shelves[k - 1]?).map (·.key)).getD 0 < p.shelves[k].key)) && itemsOk p.shelves[k].items) := by unfold shelfOk; simp [hlt]
                          have hsm := HI.out p.shelves[k] (List.getElem_mem hlt)
                          have HF : Hid (shelfOk p.shelves k = false → hereOk p = false) := fun h => by rw [HHO.out, not_all_range hlt h]
                          have HS : Hid (shelfOk p.shelves k = true → ∀ j, j < k + 1 → shelfOk p.shelves j = true) := fun h j hj => by
                            rcases Nat.lt_or_ge j k with h1 | h1
                            · exact HN.out j h1
                            · obtain rfl : j = k := by omega
                              exact h
                          have HPV : Hid (∀ j, k = j + 1 → ∃ y, (p.shelves[k - 1]?).map (·.key) = some y ∧ wr.cell? ⟨g, off + j * 2, none⟩ = some (.int .i64 y)) := fun j e => by
                            obtain ⟨g', off', u', e', _, f0', _⟩ := HA j (by omega)
                            cases e'
                            exact ⟨p.shelves[j].key, by subst e; simp [show j < p.shelves.length by omega], f0'⟩
                          have HSK := hide hsk
                          clear HA hsk HN HVr
                          generalize p.shelves[k].key = key at *
                          generalize p.shelves[k].items = its at *
                          have HIT := hide hit
                          obtain ⟨ai, ci, rfl, -⟩ := hit.open_
                          clear hit
                          go_upto_region 21 with fail
                          have hba := (Below.refl wr.heap.size wr).alloc (Nat.le_refl _) (.cells #[.int .i64 key, .slice ai its.length ci] 72)
                          have S := Blk.new wr #[.int .i64 key, .slice ai its.length ci] 72
                          have HITx := hide (HIT.out.below hba (Nat.le_refl _))
                          have HBx := hide (HBw.out.trans (hba.mono HBw.out.size))
                          have HBy := hide (HBr.out.trans (hba.mono HBr.out.size))
                          have n5 := (hba.cell (p := ⟨b0, 5, none⟩) ml).trans m5
                          have nl : b0 < (wr.alloc (.cells #[.int .i64 key, .slice ai its.length ci] 72)).heap.size := Nat.lt_of_lt_of_le ml hba.size
                          have ng : g < (wr.alloc (.cells #[.int .i64 key, .slice ai its.length ci] 72)).heap.size := Nat.lt_of_lt_of_le hg hba.size
                          have HPW : Hid (∀ j, k = j + 1 → ∃ y, (p.shelves[k - 1]?).map (·.key) = some y ∧ (wr.alloc (.cells #[.int .i64 key, .slice ai its.length ci] 72)).cell? ⟨g, off + j * 2, none⟩ = some (.int .i64 y)) := fun j e => by
                            obtain ⟨y, h1, h2⟩ := HPV.out j e
                            exact ⟨y, h1, (hba.cell (p := ⟨g, off + j * 2, none⟩) hg).trans h2⟩
                          obtain ⟨bs, ebs⟩ : ∃ b, b = wr.heap.size := ⟨_, rfl⟩
                          rw [← ebs] at S ⊢
                          clear ebs hba HIT m5 ml hg f0 f1 HPV HBw HBr Gr
                          generalize wr.alloc (.cells #[.int .i64 key, .slice ai its.length ci] 72) = wx at *
                          have s0 : wx.cell? ⟨bs, 0, none⟩ = some (.int .i64 key) := by rw [S.cell 0]; rfl
                          have s1 : wx.cell? ⟨bs, 1, none⟩ = some (.slice ai its.length ci) := by rw [S.cell 1]; rfl
                          have sl := S.lt
                          clear S
                          have C1 := hide (fun wq => l01In_calls key 0 255 wq)
                          have C2 := hide (fun m => specItems_calls (wx.drewN m) _ its (HITx.out.below (below_drewN (Below.refl wx.heap.size wx) m) (Nat.le_refl _)) hsm.1 hsm.2)
                          by_cases hx : 0 ≤ key ∧ key ≤ 255
                          · rw [decide_eq_true hx] at C1
                            by_cases hk0 : k = 0
                            · have hd0 : decide (0 < k) = false := decide_eq_false (by omega)
                              rw [decide_eq_true hk0, Bool.true_or] at HSK
                              clear hk0 HPW
                              cases hio : itemsOk its with
                              | true =>
                                rw [hio] at C2
                                have HR := hide (HS.out (by rw [HSK.out, hio]; unfold inB; rw [decide_eq_true hx]; simp))
                                clear HSK HF HS hio hx
                                go_wp2_with fail
                                refine wp_region_quiet_lit (by kernel_rfl) (by kernel_rfl) ?_
                                repeat (go_big_quiet_step (fail))
                                go_big_quiet_step (exact Calls.quiet_of_same (C1.out _))
                                repeat (go_big_quiet_step (fail))
                                go_big_quiet_step (exact Calls.quiet_of (C2.out _))
                                repeat (go_big_quiet_step (fail))
                                refine wpQuiet_nil ?_
                                rintro _ ⟨nq, rfl⟩
                                have HBq := hide (below_drewN HBy.out nq)
                                go_wp2_with fail
                                go_roundw
                                case rel => exact ⟨k + 1, by omega, by go_num, HR.out, HBq.out⟩
                                case measure => simp [intOf]; omega
                              | false =>
                                rw [hio] at C2
                                have HR := hide (HF.out (by rw [HSK.out, hio]; simp))
                                clear HSK HF HS hio hx
                                go_wp2_with fail
                                refine wp_region_quiet_lit (by kernel_rfl) (by kernel_rfl) ?_
                                repeat (go_big_quiet_step (fail))
                                go_big_quiet_step (exact Calls.quiet_of_same (C1.out _))
                                repeat (go_big_quiet_step (fail))
                                go_big_quiet_step (exact Calls.quiet_of (C2.out _))
                                repeat (go_big_quiet_step (fail))
                                refine wpQuiet_nil ?_
                                rintro _ ⟨nq, rfl⟩
                                have HBq := hide (below_drewN HBx.out nq)
                                go_wp2_with fail
                                go_ret
                                exact ⟨by rw [HE.out, HR.out]; rfl, HBq.out⟩
                            · obtain ⟨j, rfl⟩ : ∃ j, k = j + 1 := ⟨k - 1, by omega⟩
                              obtain ⟨y, hy1, hy2⟩ := HPW.out j rfl
                              rw [hy1, decide_eq_false hk0, Bool.false_or] at HSK
                              change Hid (shelfOk p.shelves (j + 1) = (inB key 0 255 && decide (y < key) && itemsOk its)) at HSK
                              clear HPW hy1 hk0
                              by_cases hyk : y < key
                              · have hyd : decide (key ≤ y) = false := decide_eq_false (by omega)
                                cases hio : itemsOk its with
                                | true =>
                                  rw [hio] at C2
                                  have HR := hide (HS.out (by rw [HSK.out, hio]; unfold inB; rw [decide_eq_true hx, decide_eq_true hyk]; simp))
                                  clear HSK HF HS hio hx
                                  go_wp2_with fail
                                  refine wp_region_quiet_lit (by kernel_rfl) (by kernel_rfl) ?_
                                  repeat (go_big_quiet_step (fail))
                                  go_big_quiet_step (exact Calls.quiet_of_same (C1.out _))
                                  repeat (go_big_quiet_step (fail))
                                  go_big_quiet_step (exact Calls.quiet_of (C2.out _))
                                  repeat (go_big_quiet_step (fail))
                                  refine wpQuiet_nil ?_
                                  rintro _ ⟨nq, rfl⟩
                                  have HBq := hide (below_drewN HBy.out nq)
                                  go_wp2_with fail
                                  go_roundw
                                  case rel => exact ⟨j + 1 + 1, by omega, by go_num, HR.out, HBq.out⟩
                                  case measure => simp [intOf]; omega
                                | false =>
                                  rw [hio] at C2
                                  have HR := hide (HF.out (by rw [HSK.out, hio]; simp))
                                  clear HSK HF HS hio hx
                                  go_wp2_with fail
                                  refine wp_region_quiet_lit (by kernel_rfl) (by kernel_rfl) ?_
                                  repeat (go_big_quiet_step (fail))
                                  go_big_quiet_step (exact Calls.quiet_of_same (C1.out _))
                                  repeat (go_big_quiet_step (fail))
                                  go_big_quiet_step (exact Calls.quiet_of (C2.out _))
                                  repeat (go_big_quiet_step (fail))
                                  refine wpQuiet_nil ?_
                                  rintro _ ⟨nq, rfl⟩
                                  have HBq := hide (below_drewN HBx.out nq)
                                  go_wp2_with fail
                                  go_ret
                                  exact ⟨by rw [HE.out, HR.out]; rfl, HBq.out⟩
                              · have hyd : decide (key ≤ y) = true := decide_eq_true (by omega)
                                have hyd2 : key ≤ y := by omega
                                have HR := hide (HF.out (by rw [HSK.out, decide_eq_false hyk]; simp))
                                clear HSK HF HS C2
                                go_wp2_with fail
                                refine wp_region_quiet_lit (by kernel_rfl) (by kernel_rfl) ?_
                                repeat (go_big_quiet_step (fail))
                                go_big_quiet_step (exact Calls.quiet_of_same (C1.out _))
                                repeat (go_big_quiet_step (fail))
                                refine wpQuiet_nil ?_
                                rintro _ ⟨nq, rfl⟩
                                have HBq := hide (below_drewN HBx.out nq)
                                go_wp2_with fail
                                go_ret
                                exact ⟨by rw [HE.out, HR.out]; rfl, HBq.out⟩
                          · rw [decide_eq_false hx] at C1
                            have HR := hide (HF.out (by rw [HSK.out]; unfold inB; rw [decide_eq_false hx]; rfl))
                            clear HSK HF HS C2 HPW
                            go_wp2_with fail
                            refine wp_region_quiet_lit (by kernel_rfl) (by kernel_rfl) ?_
                            repeat (go_big_quiet_step (fail))
                            go_big_quiet_step (exact Calls.quiet_of_same (C1.out _))
                            repeat (go_big_quiet_step (fail))
                            refine wpQuiet_nil ?_
                            rintro _ ⟨nq, rfl⟩
                            have HBq := hide (below_drewN HBx.out nq)
                            go_wp2_with fail
                            go_ret
                            exact ⟨by rw [HE.out, HR.out]; rfl, HBq.out⟩
                        · have hk1 : k = p.shelves.length := by omega
                          subst hk1
                          have HR : Hid (hereOk p = true) := by show _ = _; rw [HHO.out]; exact all_range HN.out
                          clear HN HVr
                          go_wp2_with fail
                          go_ret
                          exact ⟨by rw [HE.out, HR.out]; rfl, HBw.out⟩
            · rw [decide_eq_false q4, Bool.false_and] at HHO
              have k4 : decide ((80 : Int) < ((p.shelves.length : Nat) : Int)) = true := decide_eq_true (by omega)
              have HR : Hid (hereOk p = false) := by show _ = _; rw [HHO.out]
              clear HHO H3 H4 H5 HI HG
              go_wp2_with fail
              refine (C2.out _).mono ?_
              rintro e wy ⟨rfl, rfl⟩
              go_wp2_with fail
              go_ret
              exact ⟨by rw [HE.out, HR.out]; rfl, HB.out⟩
          · rw [decide_eq_false q3, Bool.false_and, Bool.false_and] at HHO
            have k3 : (((p.fingers.length : Nat) : Int) != 8) = true := by simp; omega
            have HR : Hid (hereOk p = false) := by show _ = _; rw [HHO.out]
            clear HHO H3 H4 H5 HI HG
            go_wp2_with fail
            refine (C2.out _).mono ?_
            rintro e wy ⟨rfl, rfl⟩
            go_wp2_with fail
            go_ret
            exact ⟨by rw [HE.out, HR.out]; rfl, HB.out⟩
        · rw [decide_eq_false q2, Bool.false_and, Bool.false_and, Bool.false_and] at HHO
          have k2 : decide ((3 : Int) < ((p.behind.length : Nat) : Int)) = true := decide_eq_true (by omega)
          have HR : Hid (hereOk p = false) := by show _ = _; rw [HHO.out]
          clear HHO H3 H4 H5 HI HG
          go_wp2_with fail
          refine (C2.out _).mono ?_
          rintro e wy ⟨rfl, rfl⟩
          go_wp2_with fail
          go_ret
          exact ⟨by rw [HE.out, HR.out]; rfl, HB.out⟩
      · have q1' : inB p.ahead (-1) 255 = false := decide_eq_false q1
        rw [decide_eq_false q1] at C2
        rw [q1', Bool.false_and, Bool.false_and, Bool.false_and, Bool.false_and] at HHO
        have HR : Hid (hereOk p = false) := by show _ = _; rw [HHO.out]
        clear HHO H3 H4 H5 HI HG
        go_wp2_with fail
        refine (C2.out _).mono ?_
        rintro e wy ⟨rfl, rfl⟩
        go_wp2_with fail
        go_ret
        exact ⟨by rw [HE.out, HR.out]; rfl, HB.out⟩
  · have hin : inB p.id 0 255 = false := decide_eq_false hid
    have HE : Hid (peerOk p = false) := by show _ = _; rw [HPO.out, hin]; rfl
    rw [decide_eq_false hid] at C1
    go_wp2_with fail
    refine (C1.out _).mono ?_
    rintro e wz ⟨rfl, rfl⟩
    go_wp2_with fail
    go_ret
    exact ⟨by rw [HE.out]; rfl, HB.out⟩
end Go.Proofs.YteladljgnbfcnaaGreat.P9
namespace Go.Proofs.YteladljgnbfcnaaGreat.P9
set_option maxRecDepth 8000
open Go.RowKit P1 P8 Da

def idsOk (l : List Pr) (id : Int) (j : Nat) : Bool := decide (((l[j]?).map (·.id)) ≠ some id)

/-- Whether the k-th peer is right where it stands. -/
def ringStep (l : List Pr) (k : Nat) : Bool :=
  match l[k]? with
  | none => true
  | some p => (peerOk p && (decide (4 ≤ k) || p.here) && (!p.here || decide (0 ≤ nextOf l p.id))) && (List.range k).all (idsOk l p.id)

def ringOk (l : List Pr) : Bool := decide ((4 : Int) ≤ l.length ∧ (l.length : Int) ≤ 8) && (List.range l.length).all (ringStep l)

set_option maxHeartbeats 4000000 in
theorem specRingOk_calls (w : World) (v : Value) (l : List Pr) (hv : PeersAt w v l) (hl : l.length ≤ 1048576) (hsm : ∀ p ∈ l, Small p) :
    Calls Tryz.prog 19 #[.agg #[v]] w fun e w' => e = .returned (.bool (ringOk l)) ∧ Below w.heap.size w w' := by
  have hb1 := (Below.refl w.heap.size w).alloc (Nat.le_refl _) (.cells #[v] 28)
  have HV := hide (hv.below hb1 (Nat.le_refl _))
  obtain ⟨a, cap, rfl, -⟩ := hv.open_
  have G := Blk.new w #[.slice a l.length cap] 28
  have HB := hide hb1
  have HSM := hide hsm
  have HRO : Hid (ringOk l = (decide ((4 : Int) ≤ l.length ∧ (l.length : Int) ≤ 8) && (List.range l.length).all (ringStep l))) := rfl
  clear hv hb1 hsm
  go_enter Tryz.func19, Tryz.ntmps19
  go_upto_region 1 with fail
  obtain ⟨b0, e0⟩ : ∃ b, b = w.heap.size := ⟨_, rfl⟩
  rw [← e0] at G ⊢
  clear e0
  generalize w.alloc (.cells #[.slice a l.length cap] 28) = w1 at *
  have HG := hide G
  have c0 : w1.cell? ⟨b0, 0, none⟩ = some (.slice a l.length cap) := by rw [G.cell 0]; rfl
  have l0 := G.lt
  clear G
  have C1 := hide (fun wx => l01In_calls (l.length : Int) 4 8 wx)
  by_cases hq : (4 : Int) ≤ l.length ∧ (l.length : Int) ≤ 8
  · rw [decide_eq_true hq] at C1
    rw [decide_eq_true hq, Bool.true_and] at HRO
    clear hq
    go_wp2_with fail
    refine (C1.out _).mono ?_
    rintro e wz ⟨rfl, rfl⟩
    clear C1
    go_wp2_with fail
    clear c0 l0
    go_loopw [3] (fun i wr => ∃ k : Nat, k ≤ l.length ∧ i = .int .i64 k ∧ Hid (∀ j, j < k → ringStep l j = true) ∧ Hid (Below wz.heap.size wz wr)) (fun i _ => l.length - (intOf i).toNat)
    case atStart => exact ⟨0, Nat.zero_le _, rfl, fun j hj => by omega, Below.refl _ _⟩
    case round =>
      obtain ⟨k, hk, rfl, HN, HBr⟩ := hrel
      have Gr := HG.out.below HBr.out HG.out.lt
      have m0 : wr.cell? ⟨b0, 0, none⟩ = some (.slice a l.length cap) := by rw [Gr.cell 0]; rfl
      have ml := Gr.lt
      have HVr := hide (HV.out.below HBr.out (Nat.le_refl _))
      have HBw := hide (HB.out.trans (HBr.out.mono HB.out.size))
      by_cases hlt : k < l.length
      · obtain ⟨ax, cx, hax, HA⟩ := HVr.out.open_
        cases hax
        obtain ⟨g, off, u3, u4, u5, rfl, hg, hc⟩ := HA k hlt
        have hsk : ringStep l k = ((peerOk l[k] && (decide (4 ≤ k) || l[k].here) && (!l[k].here || decide (0 ≤ nextOf l l[k].id))) && (List.range k).all (idsOk l l[k].id)) := by unfold ringStep; rw [List.getElem?_eq_getElem hlt]
        have hsml := HSM.out l[k] (List.getElem_mem hlt)
        have HF : Hid (ringStep l k = false → ringOk l = false) := fun h => by rw [HRO.out, not_all_range hlt h]
        have HS : Hid (ringStep l k = true → ∀ j, j < k + 1 → ringStep l j = true) := fun h j hj => by
          rcases Nat.lt_or_ge j k with h1 | h1
          · exact HN.out j h1
          · obtain rfl : j = k := by omega
            exact h
        clear HA HN
        generalize l[k] = q at *
        have HST := hide hsk
        clear hsk
        have f0 := hc.id
        have f1 := hc.here
        have f2 := hc.ahead
        have f3 := hc.c3
        have f4 := hc.c4
        have f5 := hc.c5
        have H3 := hide hc.behind
        have H4 := hide hc.fingers
        have H5 := hide hc.shelves
        obtain ⟨a3, c3, e3, -⟩ := hc.behind
        obtain ⟨a4, c4, e4, -⟩ := hc.fingers
        obtain ⟨a5, c5, e5, -⟩ := hc.shelves.open_
        subst e3 e4 e5
        clear hc
        go_upto_region 7 with fail
        have hba := (Below.refl wr.heap.size wr).alloc (Nat.le_refl _) (.cells #[.int .i64 q.id, .bool q.here, .int .i64 q.ahead, .slice a3 q.behind.length c3, .slice a4 q.fingers.length c4, .slice a5 q.shelves.length c5] 37)
        have S := Blk.new wr #[.int .i64 q.id, .bool q.here, .int .i64 q.ahead, .slice a3 q.behind.length c3, .slice a4 q.fingers.length c4, .slice a5 q.shelves.length c5] 37
        have K3 := hide (H3.out.below hba (Nat.le_refl _))
        have K4 := hide (H4.out.below hba (Nat.le_refl _))
        have K5 := hide (H5.out.below hba (Nat.le_refl _))
        have HXv := hide (HVr.out.below hba (Nat.le_refl _))
        have HXB := hide (HBw.out.trans (hba.mono HBw.out.size))
        have HXW := hide (HBr.out.trans (hba.mono HBr.out.size))
        have HXb := hide (Gr.below hba ml)
        obtain ⟨bs, ebs⟩ : ∃ b, b = wr.heap.size := ⟨_, rfl⟩
        rw [← ebs] at S ⊢
        clear ebs hba H3 H4 H5 HVr HBw HBr Gr m0 ml f0 f1 f2 f3 f4 f5 hg
        generalize wr.alloc (.cells #[.int .i64 q.id, .bool q.here, .int .i64 q.ahead, .slice a3 q.behind.length c3, .slice a4 q.fingers.length c4, .slice a5 q.shelves.length c5] 37) = wx at *
        have HXs := hide S
        have s0 : wx.cell? ⟨bs, 0, none⟩ = some (.int .i64 q.id) := by rw [S.cell 0]; rfl
        have s1 : wx.cell? ⟨bs, 1, none⟩ = some (.bool q.here) := by rw [S.cell 1]; rfl
        have s2 : wx.cell? ⟨bs, 2, none⟩ = some (.int .i64 q.ahead) := by rw [S.cell 2]; rfl
        have s3 : wx.cell? ⟨bs, 3, none⟩ = some (.slice a3 q.behind.length c3) := by rw [S.cell 3]; rfl
        have s4 : wx.cell? ⟨bs, 4, none⟩ = some (.slice a4 q.fingers.length c4) := by rw [S.cell 4]; rfl
        have s5 : wx.cell? ⟨bs, 5, none⟩ = some (.slice a5 q.shelves.length c5) := by rw [S.cell 5]; rfl
        have sl := S.lt
        clear S
        have C2 := hide (specPeerOk_calls wx q _ _ _ K3.out K4.out K5.out hsml)
        go_wp2_with fail
        refine C2.out.mono ?_
        rintro e wy ⟨rfl, hby⟩
        have HYb := hide (HXb.out.below hby HXb.out.lt)
        have HYs := hide (HXs.out.below hby HXs.out.lt)
        have HYv := hide (HXv.out.below hby (Nat.le_refl _))
        have HYB := hide (HXB.out.trans (hby.mono HXB.out.size))
        have HYW := hide (HXW.out.trans (hby.mono HXW.out.size))
        clear hby C2 K3 K4 K5 s0 s1 s2 s3 s4 s5 sl HXb HXs HXv HXB HXW
        have y0 : wy.cell? ⟨b0, 0, none⟩ = some (.slice (some ⟨g, off, none⟩) l.length cap) := by rw [HYb.out.cell 0]; rfl
        have yl := HYb.out.lt
        have s0 : wy.cell? ⟨bs, 0, none⟩ = some (.int .i64 q.id) := by rw [HYs.out.cell 0]; rfl
        have s1 : wy.cell? ⟨bs, 1, none⟩ = some (.bool q.here) := by rw [HYs.out.cell 1]; rfl
        have sl := HYs.out.lt
        cases hpk : peerOk q with
        | false =>
          have HR := hide (HF.out (by rw [HST.out, hpk]; rfl))
          clear HST HF HS hpk
          go_wp2_with fail
          go_ret
          exact ⟨by rw [HR.out]; rfl, HYB.out⟩
        | true =>
          rw [hpk, Bool.true_and] at HST
          clear hpk
          cases hh : q.here with
          | false =>
            rw [hh] at s1 HST
            by_cases hk4 : k < 4
            · have HR := hide (HF.out (by rw [HST.out, decide_eq_false (by omega : ¬ 4 ≤ k)]; rfl))
              have hk4d : decide (k < 4) = true := decide_eq_true hk4
              clear HST HF HS
              go_wp2_with fail
              go_ret
              exact ⟨by rw [HR.out]; rfl, HYB.out⟩
            · have hk4d : decide (k < 4) = false := decide_eq_false hk4
              rw [decide_eq_true (by omega : 4 ≤ k)] at HST
              change Hid (ringStep l k = (true && (List.range k).all (idsOk l q.id))) at HST
              go_wp2_with fail
              obtain ⟨wq, ewq⟩ : ∃ wq, wq = wy := ⟨_, rfl⟩
              subst ewq
              have HQb := HYb
              have HQs := HYs
              have HQv := HYv
              have HQB := HYB
              have HQW := HYW
              clear HYb HYs HYv HYB HYW hh
              have t0 : wq.cell? ⟨b0, 0, none⟩ = some (.slice (some ⟨g, off, none⟩) l.length cap) := by rw [HQb.out.cell 0]; rfl
              have tl := HQb.out.lt
              have r0 : wq.cell? ⟨bs, 0, none⟩ = some (.int .i64 q.id) := by rw [HQs.out.cell 0]; rfl
              have rl := HQs.out.lt
              clear y0 yl s0 s1 sl hk4 hk4d
              go_wp2_with fail
              go_loopw [5] (fun i wr => ∃ j : Nat, j ≤ k ∧ i = .int .i64 j ∧ Hid (∀ i, i < j → idsOk l q.id i = true) ∧ Hid (∃ n, wr = wq.drewN n)) (fun i _ => k - (intOf i).toNat)
              case atStart => exact ⟨0, Nat.zero_le _, rfl, fun i hi => by omega, 0, rfl⟩
              case round =>
                obtain ⟨j, hj, rfl, HN2, HW⟩ := hrel
                have v0 := cell_drewn HW.out t0
                have v1 := cell_drewn HW.out r0
                have vl : b0 < wr.heap.size := by rw [size_drewn HW.out]; exact tl
                have vm : bs < wr.heap.size := by rw [size_drewn HW.out]; exact rl
                have hbw := below_drewn HW.out
                have HRB := hide (HQB.out.trans (hbw.mono HQB.out.size))
                have HRW := hide (HQW.out.trans (hbw.mono HQW.out.size))
                by_cases hjk : j < k
                · obtain ⟨ax, cx, hax, HA⟩ := (HQv.out.below hbw (Nat.le_refl _)).open_
                  cases hax
                  obtain ⟨gj, oj, _, _, _, ej, hgj, hcj⟩ := HA j (by omega)
                  cases ej
                  have f0 := hcj.id
                  have hik : idsOk l q.id j = decide (l[j].id ≠ q.id) := by unfold idsOk; simp [show j < l.length by omega]
                  have HIK := hide hik
                  have HF2 : Hid (idsOk l q.id j = false → ringOk l = false) := fun h => HF.out (by rw [HST.out, not_all_range hjk h]; simp)
                  have HS2 : Hid (idsOk l q.id j = true → ∀ i, i < j + 1 → idsOk l q.id i = true) := fun h i hi => by
                    rcases Nat.lt_or_ge i j with h1 | h1
                    · exact HN2.out i h1
                    · obtain rfl : i = j := by omega
                      exact h
                  clear HA hcj hik HN2 hbw
                  generalize l[j].id = y at *
                  generalize hqi : q.id = qi at *
                  clear hqi
                  by_cases hy : y = qi
                  · have HR := hide (HF2.out (by rw [HIK.out]; simp [hy]))
                    have hyd : (y == qi) = true := by simpa using hy
                    clear HIK HF2 HS2 hy
                    go_wp2_with fail
                    go_quiet (fail)
                    have HBq := hide (below_drewN HRB.out nq)
                    go_wp2_with fail
                    go_ret
                    exact ⟨by rw [HR.out]; rfl, HBq.out⟩
                  · have HR := hide (HS2.out (by rw [HIK.out]; exact decide_eq_true hy))
                    have hyd : (y == qi) = false := by simpa using hy
                    clear HIK HF2 HS2 hy
                    go_wp2_with fail
                    go_quiet (fail)
                    go_wp2_with fail
                    go_roundw
                    case rel => exact ⟨j + 1, by omega, by go_num, HR.out, drewN_more HW.out _⟩
                    case measure => simp [intOf]; omega
                · have hjk2 : j = k := by omega
                  subst hjk2
                  have HR := hide (HS.out (by rw [HST.out, all_range HN2.out]; rfl))
                  clear HN2 HF HS HST hbw hjk
                  go_wp2_with fail
                  go_roundw
                  case rel => exact ⟨j + 1, by omega, by go_num, HR.out, HRW.out⟩
                  case measure => simp [intOf]; omega
          | true =>
            rw [hh] at s1 HST
            rw [Bool.or_true, Bool.true_and, Bool.not_true, Bool.false_or] at HST
            have C3 := hide (specNext_calls wy _ l q.id HYv.out hl (fun p hp => (HSM.out p hp).b))
            by_cases hk4 : k < 4
            · have hk4d : decide (k < 4) = true := decide_eq_true hk4
              go_wp2_with fail
              refine C3.out.mono ?_
              rintro e wq ⟨rfl, hbq⟩
              have HQb := hide (HYb.out.below hbq HYb.out.lt)
              have HQs := hide (HYs.out.below hbq HYs.out.lt)
              have HQv := hide (HYv.out.below hbq (Nat.le_refl _))
              have HQB := hide (HYB.out.trans (hbq.mono HYB.out.size))
              have HQW := hide (HYW.out.trans (hbq.mono HYW.out.size))
              clear hbq C3 HYb HYs HYv HYB HYW y0 yl s0 s1 sl hh
              by_cases hnx : nextOf l q.id < 0
              · have HR := hide (HF.out (by rw [HST.out, decide_eq_false (by omega : ¬ 0 ≤ nextOf l q.id)]; rfl))
                clear HST HF HS
                generalize nextOf l q.id = nx at *
                go_wp2_with fail
                go_ret
                exact ⟨by rw [HR.out]; rfl, HQB.out⟩
              · rw [decide_eq_true (by omega : 0 ≤ nextOf l q.id)] at HST
                have hnx2 : 0 ≤ nextOf l q.id := by omega
                generalize nextOf l q.id = nx at *
                go_wp2_with fail
                have t0 : wq.cell? ⟨b0, 0, none⟩ = some (.slice (some ⟨g, off, none⟩) l.length cap) := by rw [HQb.out.cell 0]; rfl
                have tl := HQb.out.lt
                have r0 : wq.cell? ⟨bs, 0, none⟩ = some (.int .i64 q.id) := by rw [HQs.out.cell 0]; rfl
                have rl := HQs.out.lt
                clear hk4 hk4d hnx hnx2
                go_wp2_with fail
                go_loopw [5] (fun i wr => ∃ j : Nat, j ≤ k ∧ i = .int .i64 j ∧ Hid (∀ i, i < j → idsOk l q.id i = true) ∧ Hid (∃ n, wr = wq.drewN n)) (fun i _ => k - (intOf i).toNat)
                case atStart => exact ⟨0, Nat.zero_le _, rfl, fun i hi => by omega, 0, rfl⟩
                case round =>
                  obtain ⟨j, hj, rfl, HN2, HW⟩ := hrel
                  have v0 := cell_drewn HW.out t0
                  have v1 := cell_drewn HW.out r0
                  have vl : b0 < wr.heap.size := by rw [size_drewn HW.out]; exact tl
                  have vm : bs < wr.heap.size := by rw [size_drewn HW.out]; exact rl
                  have hbw := below_drewn HW.out
                  have HRB := hide (HQB.out.trans (hbw.mono HQB.out.size))
                  have HRW := hide (HQW.out.trans (hbw.mono HQW.out.size))
                  by_cases hjk : j < k
                  · obtain ⟨ax, cx, hax, HA⟩ := (HQv.out.below hbw (Nat.le_refl _)).open_
                    cases hax
                    obtain ⟨gj, oj, _, _, _, ej, hgj, hcj⟩ := HA j (by omega)
                    cases ej
                    have f0 := hcj.id
                    have hik : idsOk l q.id j = decide (l[j].id ≠ q.id) := by unfold idsOk; simp [show j < l.length by omega]
                    have HIK := hide hik
                    have HF2 : Hid (idsOk l q.id j = false → ringOk l = false) := fun h => HF.out (by rw [HST.out, not_all_range hjk h]; simp)
                    have HS2 : Hid (idsOk l q.id j = true → ∀ i, i < j + 1 → idsOk l q.id i = true) := fun h i hi => by
                      rcases Nat.lt_or_ge i j with h1 | h1
                      · exact HN2.out i h1
                      · obtain rfl : i = j := by omega
                        exact h
                    clear HA hcj hik HN2 hbw
                    generalize l[j].id = y at *
                    generalize hqi : q.id = qi at *
                    clear hqi
                    by_cases hy : y = qi
                    · have HR := hide (HF2.out (by rw [HIK.out]; simp [hy]))
                      have hyd : (y == qi) = true := by simpa using hy
                      clear HIK HF2 HS2 hy
                      go_wp2_with fail
                      go_quiet (fail)
                      have HBq := hide (below_drewN HRB.out nq)
                      go_wp2_with fail
                      go_ret
                      exact ⟨by rw [HR.out]; rfl, HBq.out⟩
                    · have HR := hide (HS2.out (by rw [HIK.out]; exact decide_eq_true hy))
                      have hyd : (y == qi) = false := by simpa using hy
                      clear HIK HF2 HS2 hy
                      go_wp2_with fail
                      go_quiet (fail)
                      go_wp2_with fail
                      go_roundw
                      case rel => exact ⟨j + 1, by omega, by go_num, HR.out, drewN_more HW.out _⟩
                      case measure => simp [intOf]; omega
                  · have hjk2 : j = k := by omega
                    subst hjk2
                    have HR := hide (HS.out (by rw [HST.out, all_range HN2.out]; rfl))
                    clear HN2 HF HS HST hbw hjk
                    go_wp2_with fail
                    go_roundw
                    case rel => exact ⟨j + 1, by omega, by go_num, HR.out, HRW.out⟩
                    case measure => simp [intOf]; omega
            · have hk4d : decide (k < 4) = false := decide_eq_false hk4
              go_wp2_with fail
              refine C3.out.mono ?_
              rintro e wq ⟨rfl, hbq⟩
              have HQb := hide (HYb.out.below hbq HYb.out.lt)
              have HQs := hide (HYs.out.below hbq HYs.out.lt)
              have HQv := hide (HYv.out.below hbq (Nat.le_refl _))
              have HQB := hide (HYB.out.trans (hbq.mono HYB.out.size))
              have HQW := hide (HYW.out.trans (hbq.mono HYW.out.size))
              clear hbq C3 HYb HYs HYv HYB HYW y0 yl s0 s1 sl hh
              by_cases hnx : nextOf l q.id < 0
              · have HR := hide (HF.out (by rw [HST.out, decide_eq_false (by omega : ¬ 0 ≤ nextOf l q.id)]; rfl))
                clear HST HF HS
                generalize nextOf l q.id = nx at *
                go_wp2_with fail
                go_ret
                exact ⟨by rw [HR.out]; rfl, HQB.out⟩
              · rw [decide_eq_true (by omega : 0 ≤ nextOf l q.id)] at HST
                have hnx2 : 0 ≤ nextOf l q.id := by omega
                generalize nextOf l q.id = nx at *
                go_wp2_with fail
                have t0 : wq.cell? ⟨b0, 0, none⟩ = some (.slice (some ⟨g, off, none⟩) l.length cap) := by rw [HQb.out.cell 0]; rfl
                have tl := HQb.out.lt
                have r0 : wq.cell? ⟨bs, 0, none⟩ = some (.int .i64 q.id) := by rw [HQs.out.cell 0]; rfl
                have rl := HQs.out.lt
                clear hk4 hk4d hnx hnx2
                go_wp2_with fail
                go_loopw [5] (fun i wr => ∃ j : Nat, j ≤ k ∧ i = .int .i64 j ∧ Hid (∀ i, i < j → idsOk l q.id i = true) ∧ Hid (∃ n, wr = wq.drewN n)) (fun i _ => k - (intOf i).toNat)
                case atStart => exact ⟨0, Nat.zero_le _, rfl, fun i hi => by omega, 0, rfl⟩
                case round =>
                  obtain ⟨j, hj, rfl, HN2, HW⟩ := hrel
                  have v0 := cell_drewn HW.out t0
                  have v1 := cell_drewn HW.out r0
                  have vl : b0 < wr.heap.size := by rw [size_drewn HW.out]; exact tl
                  have vm : bs < wr.heap.size := by rw [size_drewn HW.out]; exact rl
                  have hbw := below_drewn HW.out
                  have HRB := hide (HQB.out.trans (hbw.mono HQB.out.size))
                  have HRW := hide (HQW.out.trans (hbw.mono HQW.out.size))
                  by_cases hjk : j < k
                  · obtain ⟨ax, cx, hax, HA⟩ := (HQv.out.below hbw (Nat.le_refl _)).open_
                    cases hax
                    obtain ⟨gj, oj, _, _, _, ej, hgj, hcj⟩ := HA j (by omega)
                    cases ej
                    have f0 := hcj.id
                    have hik : idsOk l q.id j = decide (l[j].id ≠ q.id) := by unfold idsOk; simp [show j < l.length by omega]
                    have HIK := hide hik
                    have HF2 : Hid (idsOk l q.id j = false → ringOk l = false) := fun h => HF.out (by rw [HST.out, not_all_range hjk h]; simp)
                    have HS2 : Hid (idsOk l q.id j = true → ∀ i, i < j + 1 → idsOk l q.id i = true) := fun h i hi => by
                      rcases Nat.lt_or_ge i j with h1 | h1
                      · exact HN2.out i h1
                      · obtain rfl : i = j := by omega
                        exact h
                    clear HA hcj hik HN2 hbw
                    generalize l[j].id = y at *
                    generalize hqi : q.id = qi at *
                    clear hqi
                    by_cases hy : y = qi
                    · have HR := hide (HF2.out (by rw [HIK.out]; simp [hy]))
                      have hyd : (y == qi) = true := by simpa using hy
                      clear HIK HF2 HS2 hy
                      go_wp2_with fail
                      go_quiet (fail)
                      have HBq := hide (below_drewN HRB.out nq)
                      go_wp2_with fail
                      go_ret
                      exact ⟨by rw [HR.out]; rfl, HBq.out⟩
                    · have HR := hide (HS2.out (by rw [HIK.out]; exact decide_eq_true hy))
                      have hyd : (y == qi) = false := by simpa using hy
                      clear HIK HF2 HS2 hy
                      go_wp2_with fail
                      go_quiet (fail)
                      go_wp2_with fail
                      go_roundw
                      case rel => exact ⟨j + 1, by omega, by go_num, HR.out, drewN_more HW.out _⟩
                      case measure => simp [intOf]; omega
                  · have hjk2 : j = k := by omega
                    subst hjk2
                    have HR := hide (HS.out (by rw [HST.out, all_range HN2.out]; rfl))
                    clear HN2 HF HS HST hbw hjk
                    go_wp2_with fail
                    go_roundw
                    case rel => exact ⟨j + 1, by omega, by go_num, HR.out, HRW.out⟩
                    case measure => simp [intOf]; omega
      · have hk1 : k = l.length := by omega
        subst hk1
        have HR : Hid (ringOk l = true) := by show _ = _; rw [HRO.out]; exact all_range HN.out
        clear HN HVr
        go_wp2_with fail
        go_ret
        exact ⟨by rw [HR.out]; rfl, HBw.out⟩
  · have HR : Hid (ringOk l = false) := by show _ = _; rw [HRO.out, decide_eq_false hq]; rfl
    rw [decide_eq_false hq] at C1
    go_wp2_with fail
    refine (C1.out _).mono ?_
    rintro e wz ⟨rfl, rfl⟩
    go_wp2_with fail
    go_ret
    exact ⟨by rw [HR.out]; rfl, HB.out⟩
end Go.Proofs.YteladljgnbfcnaaGreat.P9
namespace Go.Proofs.YteladljgnbfcnaaGreat.P9
open Go.RowKit P1 P8 Da
end Go.Proofs.YteladljgnbfcnaaGreat.P9
