/- The laws' eqPeer, eqPeerS, eqRing at equal data; condition: lists of at most 2^20.
The laws' toItem, toItemS: copies in memory of their own; condition: at most 2^20 items.
The laws' toShelf, toShelfS: copies in memory of their own; condition: lists of at most 2^20.
The laws' toShelfS: a copy in memory of its own; condition: lists of at most 2^20.
The laws' toPeer: a copy in memory of its own; condition: lists of at most 2^20.
The laws' toPeerS, toRing: copies in memory of their own; condition: lists of at most 2^20.
The laws' toRing: a copy in memory of its own; condition: lists of at most 2^20.
The laws' szItem, szItemS, szShelf, szShelfS: how much there is; no condition but that lengths are ints.
The laws' szShelf, szShelfS, szIntS, szPeer, szPeerS, szRing: how much there is; no condition but that lengths are ints.
The laws' szPeer, szPeerS, szRing: how much there is; no condition but that lengths are ints.
The program's PeerAt; condition: at most 2^20 peers.
Marks on data that a call owns: every leaf of a tree written over by its number, in order; no condition.
The laws' markIntS, markItemS: marks on rows that the call owns; conditions: at most 2^20 elements, marks of at most 5 * 10^8.
The laws' markShelfS, markPeerS, markRing: marks on rings that the call owns; conditions: rows of at most 2^20, marks of at most 5 * 10^8.
The laws' heldItemS, heldShelfS, heldPeerS, heldRing over marked rings; conditions: rows of at most 2^20, marks of at most 4 * 10^8. -/
import Derived.Test.YtckldfknhmhkgaaZRB
import Derived.Test.YtckldfknhmhkgaaZV
import Derived.Test.YtckldfknhmhkgaaZD
import Derived.Deep.CutRange
namespace Go.Proofs.Ytckldfknhmhkgaa.P9
open Go.RowKit P1 P8 Da
end Go.Proofs.Ytckldfknhmhkgaa.P9
namespace Go.Proofs.Ytckldfknhmhkgaa.P9
open Go.RowKit P1 P8 Da Rr

/-- An item's two cells. -/
def itV (x : It) : List Value := [.string ⟨x.t.toArray⟩, .bool x.gone]
def itZ : List Value := [.string ByteArray.empty, .bool false]

/-- The first k copied, the others still nothing. -/
def halfI (l : List It) (k : Nat) : List (List Value) := (l.take k).map itV ++ List.replicate (l.length - k) itZ

theorem halfI_all (l : List It) (k : Nat) : ∀ r ∈ halfI l k, r.length = 2 := by
  intro r hr
  rcases List.mem_append.1 hr with hr | hr
  · obtain ⟨x, _, rfl⟩ := List.mem_map.1 hr
    rfl
  · rw [List.eq_of_mem_replicate hr]
    rfl

theorem halfI_length (l : List It) (k : Nat) (hk : k ≤ l.length) : (halfI l k).length = l.length := by
  simp [halfI]
  omega

theorem halfI_set (l : List It) (k : Nat) (hk : k < l.length) : (halfI l k).set k (itV l[k]) = halfI l (k + 1) := by
  unfold halfI
  have h1 : ((l.take k).map itV).length = k := by simp; omega
  rw [List.set_append_right _ _ (by omega), h1, Nat.sub_self, show l.length - k = (l.length - (k + 1)) + 1 by omega, List.replicate_succ, List.set_cons_zero, List.take_succ_eq_append_getElem hk, List.map_append, List.append_assoc]
  rfl

theorem info_item : (Try.prog.info? 86).map (fun i => (i.zero, i.size, i.bytes)) = some (some (.agg #[.string ByteArray.empty, .bool false]), 2, 24) := by kernel_rfl
end Go.Proofs.Ytckldfknhmhkgaa.P9
namespace Go.Proofs.Ytckldfknhmhkgaa.P9
open Go.RowKit P1 P8 Da Rr

/-- The program's own types. -/
def T0 : Tys := ⟨86, 75, 50⟩

theorem items_owns {W : World} {B : Nat} {v : Value} {l : List It} (h : W.ownsRow B 86 2 v l.length (l.map itV).flatten) : ∃ fp, Owns W v (itemsD T0 l) fp ∧ ∀ q ∈ fp, B ≤ q := by
  have hall : ∀ r ∈ l.map itV, r.length = 2 := fun r hr => by
    obtain ⟨x, _, rfl⟩ := List.mem_map.1 hr
    rfl
  obtain ⟨fp, h1, h2⟩ := owns_of_cells h (l.flatMap itC) (flatMap_length _ 2 (fun _ => rfl) l) (fun i d hi => by
    have hlt : i < l.length * 2 := by
      have := (List.getElem?_eq_some_iff.1 hi).1
      rw [flatMap_length _ 2 (fun _ => rfl)] at this
      exact this
    have h1 : i / 2 < l.length := by omega
    have h2 : i % 2 < 2 := by omega
    have h3 : i / 2 * 2 + i % 2 = i := by omega
    rw [← h3, flatMap_get itC 2 (fun _ => rfl) l (i / 2) (i % 2) h1 h2] at hi
    rw [← h3, flatten_get _ (i / 2) (i % 2) (itV l[i / 2]) hall (by simp [h1]) h2]
    generalize i % 2 = m at *
    match m, h2 with
    | 0, _ =>
      obtain rfl : textD l[i / 2].t = d := by simpa [itC] using hi
      exact ⟨_, rfl, owns_leaf _⟩
    | 1, _ =>
      obtain rfl : boolD l[i / 2].gone = d := by simpa [itC] using hi
      exact ⟨_, rfl, owns_leaf _⟩)
  exact ⟨fp, h1, fun q hq => (h.lt q ((h2 q).1 hq)).1⟩

theorem blk_free_cell {W : World} {b : Nat} {cs : List Value} {t : TypeId} (h : Blk W b cs t) (i : Nat) {c : Value} (hc : cs[i]? = some c) : W.cell? ⟨b, i, none⟩ = some c := by rw [h.cell i]; exact hc
end Go.Proofs.Ytckldfknhmhkgaa.P9
namespace Go.Proofs.Ytckldfknhmhkgaa.P9
open Go.RowKit P1 P8 Da Rr

theorem Owns.head {W : World} {g n cap : Nat} {e : TypeId} {sz : Nat} {ds : List Dt} {fp : List Nat} (h : Owns W (.slice (some ⟨g, 0, none⟩) n cap) (.row e sz ds) fp) : ∃ fps, fp = g :: fps := by
  unfold Owns at h
  rcases h with ⟨h, _⟩ | ⟨g', n', cap', cur, fps', h1, h2, h3, h4, h5, h6, h7, h8, h9⟩
  · cases h
  · cases h1
    exact ⟨fps', h7⟩

theorem info_shelf : (Try.prog.info? 75).map (fun i => (i.zero, i.size, i.bytes)) = some (some (.agg #[.int .i64 0, .slice none 0 0]), 2, 32) := by kernel_rfl

def shZ : List Dt := [intD 0, .row T0.item 2 []]

theorem shZ_owns {W : World} (i : Nat) (d : Dt) (h : shZ[i]? = some d) : ∃ u, [Value.int .i64 0, .slice none 0 0][i]? = some u ∧ Owns W u d [] := by
  match i, h with
  | 0, h =>
    obtain rfl : intD 0 = d := by simpa [shZ] using h
    exact ⟨_, rfl, owns_leaf _⟩
  | 1, h =>
    obtain rfl : Dt.row T0.item 2 [] = d := by simpa [shZ] using h
    exact ⟨_, rfl, owns_nil _ _⟩
end Go.Proofs.Ytckldfknhmhkgaa.P9
namespace Go.Proofs.Ytckldfknhmhkgaa.P9
open Go.RowKit P1 P8 Da Rr

theorem ints_owns {W : World} {B : Nat} {v : Value} {l : List Int} (h : W.ownsRow B 3 1 v l.length (cellsI l)) : ∃ fp, Owns W v (intsD l) fp ∧ ∀ q ∈ fp, B ≤ q := by
  obtain ⟨fp, h1, h2⟩ := owns_of_row h
  have e : (cellsI l).map Dt.leaf = l.map intD := by simp [cellsI, intD]
  rw [e] at h1
  exact ⟨fp, h1, fun q hq => (h.lt q ((h2 q).1 hq)).1⟩

/-- A peer that a call owns: the blocks of its three lists. -/
structure PeerOwn (W : World) (B : Nat) (p : Pr) (v3 v4 v5 : Value) (f3 f4 f5 : List Nat) : Prop where
  o3 : Owns W v3 (intsD p.behind) f3
  o4 : Owns W v4 (intsD p.fingers) f4
  o5 : Owns W v5 (shelvesD T0 p.shelves) f5
  b3 : ∀ q ∈ f3, B ≤ q
  b4 : ∀ q ∈ f4, B ≤ q
  b5 : ∀ q ∈ f5, B ≤ q
  d34 : ∀ q ∈ f3, q ∉ f4
  d35 : ∀ q ∈ f3, q ∉ f5
  d45 : ∀ q ∈ f4, q ∉ f5

theorem owns_set {W : World} {v : Value} {d : Dt} {fp : List Nat} (h : Owns W v d fp) {b i : Nat} (hb : ∀ q ∈ fp, q ≠ b) (u : Value) : Owns (W.setCell ⟨b, i, none⟩ u) v d fp :=
  h.stay (fun q hq => Below.heap_setCell _ _ _ _ (hb q hq))

theorem owns_below {W W' : World} {v : Value} {d : Dt} {fp : List Nat} (h : Owns W v d fp) (hb : Below W.heap.size W W') : Owns W' v d fp :=
  h.stay (fun q hq => hb.block q (h.lt q hq))
end Go.Proofs.Ytckldfknhmhkgaa.P9
namespace Go.Proofs.Ytckldfknhmhkgaa.P9
open Go.RowKit P1 P8 Da Rr

theorem info_peer : (Try.prog.info? 50).map (fun i => (i.zero, i.size, i.bytes)) = some (some (.agg #[.int .i64 0, .bool false, .int .i64 0, .slice none 0 0, .slice none 0 0, .slice none 0 0]), 6, 96) := by kernel_rfl

def prZ : List Dt := [intD 0, boolD false, intD 0, .row 3 1 [], .row 3 1 [], .row T0.shelf 2 []]

theorem prZ_owns {W : World} (i : Nat) (d : Dt) (h : prZ[i]? = some d) : ∃ u, [Value.int .i64 0, .bool false, .int .i64 0, .slice none 0 0, .slice none 0 0, .slice none 0 0][i]? = some u ∧ Owns W u d [] := by
  match i, h with
  | 0, h =>
    obtain rfl : intD 0 = d := by simpa [prZ] using h
    exact ⟨_, rfl, owns_leaf _⟩
  | 1, h =>
    obtain rfl : boolD false = d := by simpa [prZ] using h
    exact ⟨_, rfl, owns_leaf _⟩
  | 2, h =>
    obtain rfl : intD 0 = d := by simpa [prZ] using h
    exact ⟨_, rfl, owns_leaf _⟩
  | 3, h =>
    obtain rfl : Dt.row 3 1 [] = d := by simpa [prZ] using h
    exact ⟨_, rfl, owns_nil _ _⟩
  | 4, h =>
    obtain rfl : Dt.row 3 1 [] = d := by simpa [prZ] using h
    exact ⟨_, rfl, owns_nil _ _⟩
  | 5, h =>
    obtain rfl : Dt.row T0.shelf 2 [] = d := by simpa [prZ] using h
    exact ⟨_, rfl, owns_nil _ _⟩
end Go.Proofs.Ytckldfknhmhkgaa.P9
namespace Go.Proofs.Ytckldfknhmhkgaa.P9
open Go.RowKit P1 P8 Da Rr
end Go.Proofs.Ytckldfknhmhkgaa.P9
namespace Go.Proofs.Ytckldfknhmhkgaa.P9
open Go.RowKit P1 P8 Da

/-- What is left when s are taken of m: -1 when there are not so many. -/
def szRes (m s : Nat) : Int := if s ≤ m then (m : Int) - (s : Int) else -1

def szT (x : It) : Nat := x.t.length

def szItL (l : List It) : Nat := l.length + (l.map szT).sum
end Go.Proofs.Ytckldfknhmhkgaa.P9
namespace Go.Proofs.Ytckldfknhmhkgaa.P9
open Go.RowKit P1 P8 Da

theorem szRes_neg {m s : Nat} (h : ¬ s ≤ m) : szRes m s = -1 := by unfold szRes; rw [if_neg h]
theorem szRes_pos {m s : Nat} (h : s ≤ m) : szRes m s = ((m - s : Nat) : Int) := by unfold szRes; rw [if_pos h]; omega

/-- Lengths that are ints. -/
def FitsI (l : List It) : Prop := l.length ≤ 9223372036854775807 ∧ ∀ y ∈ l, y.t.length ≤ 9223372036854775807
def FitsS (l : List Shf) : Prop := l.length ≤ 9223372036854775807 ∧ ∀ x ∈ l, FitsI x.items
def FitsP (p : Pr) : Prop := p.behind.length ≤ 9223372036854775807 ∧ p.fingers.length ≤ 9223372036854775807 ∧ FitsS p.shelves

def szSh (x : Shf) : Nat := szItL x.items

def szShL (l : List Shf) : Nat := l.length + (l.map szSh).sum
end Go.Proofs.Ytckldfknhmhkgaa.P9
namespace Go.Proofs.Ytckldfknhmhkgaa.P9
open Go.RowKit P1 P8 Da

def szP (p : Pr) : Nat := p.behind.length + p.fingers.length + szShL p.shelves

def szPrL (l : List Pr) : Nat := l.length + (l.map szP).sum

/-- What is within the bounds is small. -/
theorem small_of_sz {l : List Pr} (h : szPrL l ≤ 1048576) : l.length ≤ 1048576 ∧ ∀ p ∈ l, Small p := by
  have sum_mem : ∀ {α : Type} (f : α → Nat) (l : List α) (x : α), x ∈ l → f x ≤ (l.map f).sum := by
    intro α f l
    induction l with
    | nil => intro x hx; cases hx
    | cons y l ih =>
      intro x hx
      rw [List.map_cons, List.sum_cons]
      rcases List.mem_cons.1 hx with rfl | hx
      · omega
      · have := ih x hx
        omega
  unfold szPrL at h
  refine ⟨by omega, fun p hp => ?_⟩
  have h1 : p.behind.length + p.fingers.length + szShL p.shelves ≤ (l.map szP).sum := sum_mem szP l p hp
  have e1 : szShL p.shelves = p.shelves.length + (p.shelves.map szSh).sum := rfl
  refine ⟨by omega, by omega, by omega, fun x hx => ?_⟩
  have h2 : szItL x.items ≤ (p.shelves.map szSh).sum := sum_mem szSh p.shelves x hx
  have e2 : szItL x.items = x.items.length + (x.items.map szT).sum := rfl
  refine ⟨by omega, fun y hy => ?_⟩
  have h3 : y.t.length ≤ (x.items.map szT).sum := sum_mem szT x.items y hy
  omega
end Go.Proofs.Ytckldfknhmhkgaa.P9
namespace Go.Proofs.Ytckldfknhmhkgaa.P9
open Go.RowKit P1 P8 Da
end Go.Proofs.Ytckldfknhmhkgaa.P9
namespace Go.Proofs.Ytckldfknhmhkgaa.Da
open Go.RowKit P1 Rc

mutual
def leaves : Dt → Nat
  | .leaf _ => 1
  | .row _ _ ds => leavesAll ds
def leavesAll : List Dt → Nat
  | [] => 0
  | d :: ds => leaves d + leavesAll ds
end

/-- The k-th mrk of a cell's kind. -/
def mrkV (v : Value) (k : Nat) : Value :=
  match v with
  | .bool _ => .bool ((k : Int) % 3 == 0)
  | .string _ => .string ⟨(Sr.mtext k).toArray⟩
  | .int ty _ => .int ty (k : Int)
  | v => v

mutual
def mrk : Dt → Nat → Dt
  | .leaf v, k => .leaf (mrkV v k)
  | .row e sz ds, k => .row e sz (mrkAll ds k)
def mrkAll : List Dt → Nat → List Dt
  | [], _ => []
  | d :: ds, k => mrk d k :: mrkAll ds (k + leaves d)
end

theorem leavesAll_append (a b : List Dt) : leavesAll (a ++ b) = leavesAll a + leavesAll b := by
  induction a with
  | nil => simp [leavesAll]
  | cons x a ih => simp only [List.cons_append, leavesAll, ih]; omega

theorem mrkAll_length : ∀ (ds : List Dt) (k : Nat), (mrkAll ds k).length = ds.length
  | [], _ => by simp [mrkAll]
  | d :: ds, k => by simp [mrkAll, mrkAll_length ds]

theorem mrkAll_append (a b : List Dt) (k : Nat) : mrkAll (a ++ b) k = mrkAll a k ++ mrkAll b (k + leavesAll a) := by
  induction a generalizing k with
  | nil => simp [mrkAll, leavesAll]
  | cons x a ih =>
    simp only [List.cons_append, mrkAll, leavesAll, ih]
    rw [Nat.add_assoc]

theorem leaves_take {ds : List Dt} {n : Nat} {d : Dt} (h : ds[n]? = some d) : leavesAll (ds.take (n + 1)) = leavesAll (ds.take n) + leaves d := by
  obtain ⟨hn, rfl⟩ := List.getElem?_eq_some_iff.1 h
  rw [List.take_succ_eq_append_getElem hn, leavesAll_append]
  simp [leavesAll]

theorem leaves_take_le (ds : List Dt) (n : Nat) : leavesAll (ds.take n) ≤ leavesAll ds := by
  have := leavesAll_append (ds.take n) (ds.drop n)
  rw [List.take_append_drop] at this
  omega

theorem mrkAll_get {ds : List Dt} {n : Nat} {d : Dt} (k : Nat) (h : ds[n]? = some d) : (mrkAll ds k)[n]? = some (mrk d (k + leavesAll (ds.take n))) := by
  obtain ⟨hn, rfl⟩ := List.getElem?_eq_some_iff.1 h
  have h1 := mrkAll_append (ds.take n) (ds.drop n) k
  rw [List.take_append_drop] at h1
  rw [h1, List.getElem?_append_right (by rw [mrkAll_length, List.length_take]; omega), mrkAll_length, List.length_take, show n - min n ds.length = 0 by omega, List.drop_eq_getElem_cons hn]
  simp [mrkAll]

/-- The first n as they should be, the others as they were. -/
def halfM (ds : List Dt) (k n : Nat) : List Dt := mrkAll (ds.take n) k ++ ds.drop n

theorem halfM_zero (ds : List Dt) (k : Nat) : halfM ds k 0 = ds := by simp [halfM, mrkAll]

theorem halfM_end (ds : List Dt) (k n : Nat) (hn : ds.length ≤ n) : halfM ds k n = mrkAll ds k := by
  simp [halfM, List.take_of_length_le hn, List.drop_eq_nil_of_le hn]

theorem halfM_length (ds : List Dt) (k n : Nat) : (halfM ds k n).length = ds.length := by
  simp [halfM, mrkAll_length]
  omega

theorem halfM_get (ds : List Dt) (k n i : Nat) (hi : n ≤ i) (hn : n ≤ ds.length) : (halfM ds k n)[i]? = ds[i]? := by
  unfold halfM
  have h1 : (mrkAll (ds.take n) k).length = n := by rw [mrkAll_length, List.length_take]; omega
  rw [List.getElem?_append_right (by omega), h1, List.getElem?_drop]
  congr 1
  omega

theorem halfM_next {ds : List Dt} {n : Nat} {d : Dt} (k : Nat) (h : ds[n]? = some d) : (halfM ds k n).set n (mrk d (k + leavesAll (ds.take n))) = halfM ds k (n + 1) := by
  obtain ⟨hn, rfl⟩ := List.getElem?_eq_some_iff.1 h
  unfold halfM
  have h1 : (mrkAll (ds.take n) k).length = n := by rw [mrkAll_length, List.length_take]; omega
  rw [List.set_append_right _ _ (by omega), h1, Nat.sub_self, List.drop_eq_getElem_cons hn, List.set_cons_zero, List.take_succ_eq_append_getElem hn, mrkAll_append, List.append_assoc]
  simp [mrkAll]

/-- Nothing but these blocks was written. -/
structure Only (fp : List Nat) (w w' : World) : Prop where
  os : w'.os = w.os
  tape : w'.tape = w.tape
  output : w'.output = w.output
  size : w.heap.size ≤ w'.heap.size
  block : ∀ g, g < w.heap.size → g ∉ fp → w'.heap[g]? = w.heap[g]?

theorem Only.refl (fp : List Nat) (w : World) : Only fp w w := ⟨rfl, rfl, rfl, Nat.le_refl _, fun _ _ _ => rfl⟩

theorem Only.trans {fp : List Nat} {a b c : World} (h : Only fp a b) (h' : Only fp b c) : Only fp a c :=
  ⟨h'.os.trans h.os, h'.tape.trans h.tape, h'.output.trans h.output, Nat.le_trans h.size h'.size, fun g hg hn => (h'.block g (Nat.lt_of_lt_of_le hg h.size) hn).trans (h.block g hg hn)⟩

theorem Only.mono {fp fp' : List Nat} {a b : World} (h : Only fp a b) (hs : ∀ g ∈ fp, g ∈ fp') : Only fp' a b :=
  ⟨h.os, h.tape, h.output, h.size, fun g hg hn => h.block g hg (fun e => hn (hs g e))⟩

theorem Only.of_below {fp : List Nat} {a b : World} (h : Below a.heap.size a b) : Only fp a b :=
  ⟨h.os, h.tape, h.output, h.size, fun g hg _ => h.block g hg⟩

theorem Only.below {fp : List Nat} {B : Nat} {a b : World} (h : Only fp a b) (hB : B ≤ a.heap.size) (hf : ∀ g ∈ fp, B ≤ g) : Below B a b :=
  ⟨h.os, h.tape, h.output, h.size, fun g hg => h.block g (by omega) (fun e => by have := hf g e; omega)⟩

theorem Only.setCell {fp : List Nat} {a b : World} (h : Only fp a b) {p : Addr} (hp : p.block ∈ fp) (v : Value) : Only fp a (b.setCell p v) :=
  ⟨h.os, h.tape, h.output, by show _ ≤ (b.heap.modify _ _).size; rw [Array.size_modify]; exact h.size, fun g hg hn => (Below.heap_setCell _ _ _ _ (by rintro rfl; exact hn hp)).trans (h.block g hg hn)⟩

theorem OwnsAll.part {W : World} {cur : Array Value} : ∀ {ds : List Dt} {k : Nat} {fp : List Nat} {i : Nat} {d : Dt}, OwnsAll W cur k ds fp → ds[i]? = some d →
    ∃ u f, cur[k + i]? = some u ∧ Owns W u d f ∧ (∀ q ∈ f, q ∈ fp) ∧ ∀ (W' : World) (d' : Dt), Owns W' u d' f → (∀ q ∈ fp, q ∉ f → W'.heap[q]? = W.heap[q]?) → OwnsAll W' cur k (ds.set i d') fp := by
  intro ds
  induction ds with
  | nil => intro k fp i d _ h; simp at h
  | cons x ds ih =>
    intro k fp i d h hi
    unfold OwnsAll at h
    obtain ⟨u0, f1, f2, h1, h2, h3, rfl, h5⟩ := h
    cases i with
    | zero =>
      obtain rfl : x = d := by simpa using hi
      refine ⟨u0, f1, h1, h2, fun q hq => by simp [hq], fun W' d' hd hk => ?_⟩
      rw [List.set_cons_zero]
      unfold OwnsAll
      exact ⟨u0, f1, f2, h1, hd, h3.stay (fun q hq => hk q (by simp [hq]) (fun e => h5 q e hq)), rfl, h5⟩
    | succ i =>
      obtain ⟨u, f, h6, h7, h8, h9⟩ := ih h3 (i := i) (d := d) (by simpa using hi)
      refine ⟨u, f, by rw [show k + (i + 1) = k + 1 + i by omega]; exact h6, h7, fun q hq => by simp [h8 q hq], fun W' d' hd hk => ?_⟩
      rw [List.set_cons_succ]
      unfold OwnsAll
      exact ⟨u0, f1, f2, h1, h2.stay (fun q hq => hk q (by simp [hq]) (fun e => h5 q hq (h8 q e))), h9 W' d' hd (fun q hq hn => hk q (by simp [hq]) hn), rfl, h5⟩

/-- One datum of a row, and the row with another one in its place. -/
theorem Owns.part {W : World} {g n cap : Nat} {e : TypeId} {sz : Nat} {ds : List Dt} {fp : List Nat} (h : Owns W (.slice (some ⟨g, 0, none⟩) n cap) (.row e sz ds) fp) {i : Nat} {d : Dt} (hi : ds[i]? = some d) :
    ∃ u f, W.cell? ⟨g, i, none⟩ = some u ∧ Owns W u d f ∧ (∀ q ∈ f, q ∈ fp) ∧ ∀ (W' : World) (d' : Dt), Owns W' u d' f → Only f W W' → Owns W' (.slice (some ⟨g, 0, none⟩) n cap) (.row e sz (ds.set i d')) fp := by
  have hlt := h.lt
  unfold Owns at h
  rcases h with ⟨h, _⟩ | ⟨g', n', cap', cur, fps, h1, h2, h3, h4, h5, h6, rfl, h8, h9⟩
  · cases h
  · cases h1
    obtain ⟨u, f, k1, k2, k3, k4⟩ := h9.part hi
    rw [Nat.zero_add] at k1
    refine ⟨u, f, by simp only [World.cell?, h2]; exact k1, k2, fun q hq => by simp [k3 q hq], fun W' d' hd ho => ?_⟩
    unfold Owns
    refine .inr ⟨g, n, cap, cur, fps, rfl, (ho.block g (hlt g (by simp)) (fun e => h8 (k3 g e))).trans h2, h3, h4, h5, by simpa using h6, rfl, h8, k4 W' d' hd (fun q hq hn => ho.block q (hlt q (by simp [hq])) hn)⟩

theorem OwnsAll.put_leaf {W W' : World} {cur : Array Value} {u v0 : Value} : ∀ {ds : List Dt} {k : Nat} {fp : List Nat} {i : Nat}, OwnsAll W cur k ds fp → ds[i]? = some (.leaf v0) → (∀ q ∈ fp, W'.heap[q]? = W.heap[q]?) → OwnsAll W' (cur.setIfInBounds (k + i) u) k (ds.set i (.leaf u)) fp := by
  intro ds
  induction ds with
  | nil => intro k fp i _ h; simp at h
  | cons x ds ih =>
    intro k fp i h hi hk
    unfold OwnsAll at h
    obtain ⟨u0, f1, f2, h1, h2, h3, rfl, h5⟩ := h
    have hlt : k < cur.size := (Array.getElem?_eq_some_iff.1 h1).1
    cases i with
    | zero =>
      obtain rfl : x = .leaf v0 := by simpa using hi
      unfold Owns at h2
      obtain ⟨rfl, rfl⟩ := h2
      rw [List.set_cons_zero]
      unfold OwnsAll
      exact ⟨u, [], f2, by rw [Nat.add_zero]; simp [hlt], owns_leaf u, by rw [Nat.add_zero]; exact OwnsAll.cur_ne _ (h3.stay (fun q hq => hk q (by simp [hq]))) (by omega), rfl, h5⟩
    | succ i =>
      rw [List.set_cons_succ]
      unfold OwnsAll
      refine ⟨u0, f1, f2, by rw [Array.getElem?_setIfInBounds_ne (by omega)]; exact h1, h2.stay (fun q hq => hk q (by simp [hq])), ?_, rfl, h5⟩
      rw [show k + (i + 1) = k + 1 + i by omega]
      exact ih h3 (by simpa using hi) (fun q hq => hk q (by simp [hq]))

/-- A plain cell of an owned row written over. -/
theorem Owns.put_leaf {W : World} {g n cap : Nat} {e : TypeId} {sz : Nat} {ds : List Dt} {fp : List Nat} (h : Owns W (.slice (some ⟨g, 0, none⟩) n cap) (.row e sz ds) fp) {i : Nat} {v0 : Value} (hi : ds[i]? = some (.leaf v0)) (u : Value) :
    Owns (W.setCell ⟨g, i, none⟩ u) (.slice (some ⟨g, 0, none⟩) n cap) (.row e sz (ds.set i (.leaf u))) fp ∧ g ∈ fp := by
  unfold Owns at h
  rcases h with ⟨h, _⟩ | ⟨g', n', cap', cur, fps, h1, h2, h3, h4, h5, h6, rfl, h8, h9⟩
  · cases h
  · cases h1
    have k1 := OwnsAll.put_leaf (u := u) (W' := W.setCell ⟨g, i, none⟩ u) h9 hi (fun q hq => Below.heap_setCell _ _ _ _ (by rintro rfl; exact h8 hq))
    rw [Nat.zero_add] at k1
    refine ⟨?_, by simp⟩
    unfold Owns
    exact .inr ⟨g, n, cap, cur.setIfInBounds i u, fps, rfl, heap_setCell_same h2 u, h3, h4, by simpa using h5, by simpa using h6, rfl, h8, k1⟩

/-- A cell of an owned row: it is there, and may be written. -/
theorem Owns.cellAt {W : World} {g n cap : Nat} {e : TypeId} {sz : Nat} {ds : List Dt} {fp : List Nat} (h : Owns W (.slice (some ⟨g, 0, none⟩) n cap) (.row e sz ds) fp) {i : Nat} {d : Dt} (hi : ds[i]? = some d) :
    (∃ u, W.cell? ⟨g, i, none⟩ = some u) ∧ W.frozen? ⟨g, i, none⟩ = false ∧ g < W.heap.size ∧ g ∈ fp := by
  obtain ⟨u, f, h1, _, _, _⟩ := h.part hi
  refine ⟨⟨u, h1⟩, ?_⟩
  unfold Owns at h
  rcases h with ⟨h, _⟩ | ⟨g', n', cap', cur, fps, k1, k2, k3, k4, k5, k6, rfl, _⟩
  · cases h
  · cases k1
    exact ⟨by simp [World.frozen?, k2], (Array.getElem?_eq_some_iff.1 k2).1, by simp⟩

/-- Plain cells own no block. -/
theorem OwnsAll.plain_fp {W : World} {cur : Array Value} : ∀ {ds : List Dt} {k : Nat} {fp : List Nat}, OwnsAll W cur k ds fp → (∀ d ∈ ds, ∃ v, d = .leaf v) → fp = [] := by
  intro ds
  induction ds with
  | nil => intro k fp h _; unfold OwnsAll at h; exact h
  | cons x ds ih =>
    intro k fp h hp
    unfold OwnsAll at h
    obtain ⟨u0, f1, f2, h1, h2, h3, rfl, h5⟩ := h
    obtain ⟨v, rfl⟩ := hp x (by simp)
    unfold Owns at h2
    rw [h2.2, ih h3 (fun d hd => hp d (by simp [hd]))]
    rfl

/-- An owned row is none, or lies at a block's beginning. -/
theorem Owns.shape {W : World} {v : Value} {e : TypeId} {sz : Nat} {ds : List Dt} {fp : List Nat} (h : Owns W v (.row e sz ds) fp) {n : Nat} (hn : ds.length = n * sz) (hs : 0 < sz) :
    (v = .slice none 0 0 ∧ ds = [] ∧ n = 0) ∨ ∃ g cap, v = .slice (some ⟨g, 0, none⟩) n cap := by
  unfold Owns at h
  rcases h with ⟨rfl, rfl, _⟩ | ⟨g, n', cap, cur, fps, rfl, h2, h3, h4, h5, h6, _⟩
  · refine .inl ⟨rfl, rfl, ?_⟩
    have : n * sz = 0 := by simpa using hn.symm
    rcases Nat.mul_eq_zero.1 this with h | h
    · exact h
    · omega
  · have : n' = n := Nat.eq_of_mul_eq_mul_right hs (h6.symm.trans hn)
    subst this
    exact .inr ⟨g, cap, rfl⟩
end Go.Proofs.Ytckldfknhmhkgaa.Da
namespace Go.Proofs.Ytckldfknhmhkgaa.P9
open Go.RowKit P1 P8 Da Sr

theorem leavesAll_plain : ∀ {ds : List Dt}, (∀ d ∈ ds, ∃ v, d = .leaf v) → leavesAll ds = ds.length
  | [], _ => by simp [leavesAll]
  | d :: ds, h => by
    obtain ⟨v, rfl⟩ := h d (by simp)
    have := leavesAll_plain (ds := ds) (fun d hd => h d (by simp [hd]))
    simp only [leavesAll, leaves, List.length_cons, this]
    omega

theorem itC_plain (l : List It) : ∀ d ∈ l.flatMap itC, ∃ v, d = .leaf v := by
  intro d hd
  obtain ⟨x, _, hx⟩ := List.mem_flatMap.1 hd
  simp only [itC, textD, boolD, List.mem_cons, List.not_mem_nil, or_false] at hx
  rcases hx with rfl | rfl <;> exact ⟨_, rfl⟩

theorem ints_plain (l : List Int) : ∀ d ∈ l.map intD, ∃ v, d = .leaf v := by
  intro d hd
  obtain ⟨x, _, rfl⟩ := List.mem_map.1 hd
  exact ⟨_, rfl⟩

theorem plain_take {ds : List Dt} (h : ∀ d ∈ ds, ∃ v, d = .leaf v) (n : Nat) (hn : n ≤ ds.length) : leavesAll (ds.take n) = n := by
  rw [leavesAll_plain (fun d hd => h d (List.mem_of_mem_take hd)), List.length_take]
  omega

theorem itC_len (l : List It) : (l.flatMap itC).length = l.length * 2 := flatMap_length _ 2 (fun _ => rfl) l

theorem leaves_ints (l : List Int) : leaves (intsD l) = l.length := by
  unfold intsD leaves
  rw [leavesAll_plain (ints_plain l), List.length_map]

theorem leaves_items (T : Tys) (l : List It) : leaves (itemsD T l) = l.length * 2 := by
  unfold itemsD leaves
  rw [leavesAll_plain (itC_plain l), itC_len]
end Go.Proofs.Ytckldfknhmhkgaa.P9
namespace Go.Proofs.Ytckldfknhmhkgaa.P9
open Go.RowKit P1 P8 Da Sr

theorem shC_len (T : Tys) (l : List Shf) : (l.flatMap (shC T)).length = l.length * 2 := flatMap_length _ 2 (fun _ => rfl) l

theorem prC_len (T : Tys) (l : List Pr) : (l.flatMap (prC T)).length = l.length * 6 := flatMap_length _ 6 (fun _ => rfl) l

def SmallM (p : Pr) : Prop := p.behind.length ≤ 1048576 ∧ p.fingers.length ≤ 1048576 ∧ p.shelves.length ≤ 1048576 ∧ ∀ x ∈ p.shelves, x.items.length ≤ 1048576

theorem leaves_peers (T : Tys) (l : List Pr) : leaves (peersD T l) = leavesAll (l.flatMap (prC T)) := by
  unfold peersD leaves
  rfl
end Go.Proofs.Ytckldfknhmhkgaa.P9
namespace Go.Proofs.Ytckldfknhmhkgaa.P9
open Go.RowKit P1 P8 Da Sr

theorem marked_cells {W : World} {v : Value} {e : TypeId} {sz : Nat} {ds : List Dt} {k : Nat} (h : Reads W v (.row e sz (mrkAll ds k))) {n : Nat} (hn : ds.length = n * sz) (hs : 0 < sz) :
    ∃ a cap, v = .slice a n cap ∧ ∀ (j i : Nat) (d : Dt), ds[j * sz + i]? = some d → ∃ g off u, a = some ⟨g, off, none⟩ ∧ g < W.heap.size ∧ W.cell? ⟨g, off + (j * sz + i), none⟩ = some u ∧ Reads W u (mrk d (k + leavesAll (ds.take (j * sz + i)))) := by
  obtain ⟨a, cap, h1, h2⟩ := Reads.open_ h (n := n) (by rw [mrkAll_length]; exact hn) hs
  exact ⟨a, cap, h1, fun j i d hd => h2 j i _ (mrkAll_get k hd)⟩

theorem mrk_ints (l : List Int) (k : Nat) : mrk (intsD l) k = intsD (P1.marks (k : Int) l.length) := by
  unfold intsD
  simp only [mrk]
  congr 1
  refine List.ext_getElem? (fun i => ?_)
  by_cases hi : i < l.length
  · have h1 : (l.map intD)[i]? = some (intD l[i]) := by rw [List.getElem?_map, List.getElem?_eq_getElem hi]; rfl
    rw [mrkAll_get k h1, plain_take (ints_plain l) i (by rw [List.length_map]; omega), List.getElem?_map, List.getElem?_eq_getElem (by rw [P1.marks_length]; exact hi), Option.map_some, P1.marks_get]
    simp [intD, mrk, mrkV]
  · rw [List.getElem?_eq_none (by rw [mrkAll_length, List.length_map]; omega), List.getElem?_eq_none (by rw [List.length_map, P1.marks_length]; omega)]
end Go.Proofs.Ytckldfknhmhkgaa.P9
