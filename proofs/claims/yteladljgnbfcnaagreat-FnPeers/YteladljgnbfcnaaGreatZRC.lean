/- The laws' toItem, toItemS: copies in memory of their own; condition: at most 2^20 items.
The laws' toShelf, toShelfS: copies in memory of their own; condition: lists of at most 2^20.
The laws' toShelfS: a copy in memory of its own; condition: lists of at most 2^20.
The laws' toPeer: a copy in memory of its own; condition: lists of at most 2^20.
The laws' toPeerS, toRing: copies in memory of their own; condition: lists of at most 2^20.
The program's PeerAt; condition: at most 2^20 peers.
Marks on data that a call owns: every leaf of a tree written over by its number, in order; no condition.
The laws' markIntS, markItemS: marks on rows that the call owns; conditions: at most 2^20 elements, marks of at most 5 * 10^8.
The laws' markShelfS, markPeerS, markRing: marks on rings that the call owns; conditions: rows of at most 2^20, marks of at most 5 * 10^8.
The laws' heldItemS, heldShelfS, heldPeerS, heldRing over marked rings; conditions: rows of at most 2^20, marks of at most 4 * 10^8. -/
import Derived.Test.YteladljgnbfcnaaGreatZRB
import Derived.Test.YteladljgnbfcnaaGreatZV
import Derived.Test.YteladljgnbfcnaaGreatZD
namespace Go.Proofs.YteladljgnbfcnaaGreat.P9
open Go.RowKit P1 P8 Da Rr

/-- An item's two cells. -/
def itV (x : It) : List Value := [.string ⟨x.t.toArray⟩, .bool x.gone]
theorem info_item : (Tryz.prog.info? 86).map (fun i => (i.zero, i.size, i.bytes)) = some (some (.agg #[.string ByteArray.empty, .bool false]), 2, 24) := by kernel_rfl
end Go.Proofs.YteladljgnbfcnaaGreat.P9
namespace Go.Proofs.YteladljgnbfcnaaGreat.P9
open Go.RowKit P1 P8 Da Rr

/-- The program's own types. -/
def T0 : Tys := ⟨86, 72, 37⟩

theorem items_owns {W : World} {B : Nat} {v : Value} {l : List It} (h : W.ownsRow B 86 2 v l.length (l.map itV).flatten) : ∃ fp, Owns W v (itemsD T0 l) fp ∧ ∀ q ∈ fp, B ≤ q := by
  have hall : ∀ r ∈ l.map itV, r.length = 2 := fun r hr => by
    obtain ⟨x, _, rfl⟩ := List.mem_map.1 hr
    rfl
  obtain ⟨fp, h1, h2⟩ := owns_of_cells h (l.flatMap itC) (flatMap_length _ 2 (fun _ => rfl) l) (fun i d hi => by
    have hlt : i < l.length * 2 := by
      have := (List.getElem?_eq_some_iff.1 hi).1
      rw [flatMap_length _ 2 (fun _ => rfl)] at this
      exact this
    have h1 : i / 2 < l.length := by omega
    have h2 : i % 2 < 2 := by omega
    have h3 : i / 2 * 2 + i % 2 = i := by omega
    rw [← h3, flatMap_get itC 2 (fun _ => rfl) l (i / 2) (i % 2) h1 h2] at hi
    rw [← h3, flatten_get _ (i / 2) (i % 2) (itV l[i / 2]) hall (by simp [h1]) h2]
    generalize i % 2 = m at *
    match m, h2 with
    | 0, _ =>
      obtain rfl : textD l[i / 2].t = d := by simpa [itC] using hi
      exact ⟨_, rfl, owns_leaf _⟩
    | 1, _ =>
      obtain rfl : boolD l[i / 2].gone = d := by simpa [itC] using hi
      exact ⟨_, rfl, owns_leaf _⟩)
  exact ⟨fp, h1, fun q hq => (h.lt q ((h2 q).1 hq)).1⟩

theorem blk_free_cell {W : World} {b : Nat} {cs : List Value} {t : TypeId} (h : Blk W b cs t) (i : Nat) {c : Value} (hc : cs[i]? = some c) : W.cell? ⟨b, i, none⟩ = some c := by rw [h.cell i]; exact hc
end Go.Proofs.YteladljgnbfcnaaGreat.P9
namespace Go.Proofs.YteladljgnbfcnaaGreat.P9
open Go.RowKit P1 P8 Da Rr

theorem Owns.head {W : World} {g n cap : Nat} {e : TypeId} {sz : Nat} {ds : List Dt} {fp : List Nat} (h : Owns W (.slice (some ⟨g, 0, none⟩) n cap) (.row e sz ds) fp) : ∃ fps, fp = g :: fps := by
  unfold Owns at h
  rcases h with ⟨h, _⟩ | ⟨g', n', cap', cur, fps', h1, h2, h3, h4, h5, h6, h7, h8, h9⟩
  · cases h
  · cases h1
    exact ⟨fps', h7⟩

theorem info_shelf : (Tryz.prog.info? 72).map (fun i => (i.zero, i.size, i.bytes)) = some (some (.agg #[.int .i64 0, .slice none 0 0]), 2, 32) := by kernel_rfl

end Go.Proofs.YteladljgnbfcnaaGreat.P9
namespace Go.Proofs.YteladljgnbfcnaaGreat.P9
open Go.RowKit P1 P8 Da Rr

theorem ints_owns {W : World} {B : Nat} {v : Value} {l : List Int} (h : W.ownsRow B 3 1 v l.length (cellsI l)) : ∃ fp, Owns W v (intsD l) fp ∧ ∀ q ∈ fp, B ≤ q := by
  obtain ⟨fp, h1, h2⟩ := owns_of_row h
  have e : (cellsI l).map Dt.leaf = l.map intD := by simp [cellsI, intD]
  rw [e] at h1
  exact ⟨fp, h1, fun q hq => (h.lt q ((h2 q).1 hq)).1⟩

/-- A peer that a call owns: the blocks of its three lists. -/
structure PeerOwn (W : World) (B : Nat) (p : Pr) (v3 v4 v5 : Value) (f3 f4 f5 : List Nat) : Prop where
  o3 : Owns W v3 (intsD p.behind) f3
  o4 : Owns W v4 (intsD p.fingers) f4
  o5 : Owns W v5 (shelvesD T0 p.shelves) f5
  b3 : ∀ q ∈ f3, B ≤ q
  b4 : ∀ q ∈ f4, B ≤ q
  b5 : ∀ q ∈ f5, B ≤ q
  d34 : ∀ q ∈ f3, q ∉ f4
  d35 : ∀ q ∈ f3, q ∉ f5
  d45 : ∀ q ∈ f4, q ∉ f5

theorem owns_set {W : World} {v : Value} {d : Dt} {fp : List Nat} (h : Owns W v d fp) {b i : Nat} (hb : ∀ q ∈ fp, q ≠ b) (u : Value) : Owns (W.setCell ⟨b, i, none⟩ u) v d fp :=
  h.stay (fun q hq => Below.heap_setCell _ _ _ _ (hb q hq))

theorem owns_below {W W' : World} {v : Value} {d : Dt} {fp : List Nat} (h : Owns W v d fp) (hb : Below W.heap.size W W') : Owns W' v d fp :=
  h.stay (fun q hq => hb.block q (h.lt q hq))
end Go.Proofs.YteladljgnbfcnaaGreat.P9
namespace Go.Proofs.YteladljgnbfcnaaGreat.P9
open Go.RowKit P1 P8 Da Rr

theorem info_peer : (Tryz.prog.info? 37).map (fun i => (i.zero, i.size, i.bytes)) = some (some (.agg #[.int .i64 0, .bool false, .int .i64 0, .slice none 0 0, .slice none 0 0, .slice none 0 0]), 6, 96) := by kernel_rfl

end Go.Proofs.YteladljgnbfcnaaGreat.P9
namespace Go.Proofs.YteladljgnbfcnaaGreat.P9
set_option maxRecDepth 8000
open Go.RowKit P1 P8 Da

set_option maxHeartbeats 1000000 in
theorem implPeerAt_calls (w : World) (v : Value) (l : List Pr) (id : Int) (hv : PeersAt w v l) (hl : l.length ≤ 1048576) :
    Calls Tryz.prog 8 #[.agg #[v], .int .i64 id] w fun e w' => e = .returned (.int .i64 (peerAt l id)) ∧ Below w.heap.size w w' := by
  have hb1 := (Below.refl w.heap.size w).alloc (Nat.le_refl _) (.cells #[v] 28)
  have HV := hide (hv.below hb1 (Nat.le_refl _))
  obtain ⟨a, cap, rfl, -⟩ := hv.open_
  have G := Blk.new w #[.slice a l.length cap] 28
  have HB := hide hb1
  clear hv hb1
  go_enter Tryz.func8, Tryz.ntmps8
  go_wp2_with fail
  obtain ⟨b0, e0⟩ : ∃ b, b = w.heap.size := ⟨_, rfl⟩
  rw [← e0] at G ⊢
  clear e0
  generalize w.alloc (.cells #[.slice a l.length cap] 28) = w1 at *
  have c0 : w1.cell? ⟨b0, 0, none⟩ = some (.slice a l.length cap) := by rw [G.cell 0]; rfl
  have l0 := G.lt
  clear G
  go_loopw [9] (fun i wr => ∃ k : Nat, k ≤ l.length ∧ i = .int .i64 k ∧ Hid (∀ j (hj : j < k) (hj' : j < l.length), (l[j].here && (l[j].id == id)) = false) ∧ wr = w1) (fun i _ => l.length - (intOf i).toNat)
  case atStart => exact ⟨0, Nat.zero_le _, rfl, fun j hj => by omega, rfl⟩
  case round =>
    obtain ⟨k, hk, rfl, HN, hwr⟩ := hrel
    subst hwr
    by_cases hlt : k < l.length
    · obtain ⟨a2, c2, hsh, HA⟩ := HV.out.open_
      cases hsh
      obtain ⟨g, off, u3, u4, u5, rfl, hg, hc⟩ := HA k hlt
      have f0 := hc.id
      have f1 := hc.here
      have HS : Hid ((l[k].here && (l[k].id == id)) = false → ∀ j (hj : j < k + 1) (hj' : j < l.length), (l[j].here && (l[j].id == id)) = false) := fun h j hj hj' => by
        rcases Nat.lt_or_ge j k with h1 | h1
        · exact HN.out j h1 hj'
        · obtain rfl : j = k := by omega
          exact h
      have HE : Hid ((l[k].here && (l[k].id == id)) = true → peerAt l id = k) := fun h => peerAt_hit hlt h (fun j hj => HN.out j hj (by omega))
      clear HA hc HN
      generalize l[k].here = hh at *
      generalize l[k].id = ii at *
      cases hh with
      | false =>
        go_wp2
        go_roundw
        case rel => exact ⟨k + 1, by omega, by go_num, HS.out rfl, trivial⟩
        case measure => simp [intOf]; omega
      | true =>
        by_cases hi : ii = id
        · subst hi
          go_wp2
          go_ret
          exact ⟨by rw [HE.out (by simp)]; rfl, HB.out⟩
        · have hne : (ii == id) = false := by simpa using hi
          go_wp2
          go_roundw
          case rel => exact ⟨k + 1, by omega, by go_num, HS.out (by simp [hne]), trivial⟩
          case measure => simp [intOf]; omega
    · have HE : Hid (peerAt l id = -1) := peerAt_none (fun j hj => HN.out j (by omega) hj)
      clear HN
      go_wp2
      go_ret
      exact ⟨by rw [HE.out]; rfl, HB.out⟩
end Go.Proofs.YteladljgnbfcnaaGreat.P9
namespace Go.Proofs.YteladljgnbfcnaaGreat.Da
open Go.RowKit P1 Rc

mutual
def leaves : Dt → Nat
  | .leaf _ => 1
  | .row _ _ ds => leavesAll ds
def leavesAll : List Dt → Nat
  | [] => 0
  | d :: ds => leaves d + leavesAll ds
end


/-- Nothing but these blocks was written. -/
structure Only (fp : List Nat) (w w' : World) : Prop where
  os : w'.os = w.os
  tape : w'.tape = w.tape
  output : w'.output = w.output
  size : w.heap.size ≤ w'.heap.size
  block : ∀ g, g < w.heap.size → g ∉ fp → w'.heap[g]? = w.heap[g]?

theorem Only.refl (fp : List Nat) (w : World) : Only fp w w := ⟨rfl, rfl, rfl, Nat.le_refl _, fun _ _ _ => rfl⟩

theorem Only.trans {fp : List Nat} {a b c : World} (h : Only fp a b) (h' : Only fp b c) : Only fp a c :=
  ⟨h'.os.trans h.os, h'.tape.trans h.tape, h'.output.trans h.output, Nat.le_trans h.size h'.size, fun g hg hn => (h'.block g (Nat.lt_of_lt_of_le hg h.size) hn).trans (h.block g hg hn)⟩

theorem Only.mono {fp fp' : List Nat} {a b : World} (h : Only fp a b) (hs : ∀ g ∈ fp, g ∈ fp') : Only fp' a b :=
  ⟨h.os, h.tape, h.output, h.size, fun g hg hn => h.block g hg (fun e => hn (hs g e))⟩

theorem Only.of_below {fp : List Nat} {a b : World} (h : Below a.heap.size a b) : Only fp a b :=
  ⟨h.os, h.tape, h.output, h.size, fun g hg _ => h.block g hg⟩

theorem Only.below {fp : List Nat} {B : Nat} {a b : World} (h : Only fp a b) (hB : B ≤ a.heap.size) (hf : ∀ g ∈ fp, B ≤ g) : Below B a b :=
  ⟨h.os, h.tape, h.output, h.size, fun g hg => h.block g (by omega) (fun e => by have := hf g e; omega)⟩

theorem Only.setCell {fp : List Nat} {a b : World} (h : Only fp a b) {p : Addr} (hp : p.block ∈ fp) (v : Value) : Only fp a (b.setCell p v) :=
  ⟨h.os, h.tape, h.output, by show _ ≤ (b.heap.modify _ _).size; rw [Array.size_modify]; exact h.size, fun g hg hn => (Below.heap_setCell _ _ _ _ (by rintro rfl; exact hn hp)).trans (h.block g hg hn)⟩

theorem OwnsAll.part {W : World} {cur : Array Value} : ∀ {ds : List Dt} {k : Nat} {fp : List Nat} {i : Nat} {d : Dt}, OwnsAll W cur k ds fp → ds[i]? = some d →
    ∃ u f, cur[k + i]? = some u ∧ Owns W u d f ∧ (∀ q ∈ f, q ∈ fp) ∧ ∀ (W' : World) (d' : Dt), Owns W' u d' f → (∀ q ∈ fp, q ∉ f → W'.heap[q]? = W.heap[q]?) → OwnsAll W' cur k (ds.set i d') fp := by
  intro ds
  induction ds with
  | nil => intro k fp i d _ h; simp at h
  | cons x ds ih =>
    intro k fp i d h hi
    unfold OwnsAll at h
    obtain ⟨u0, f1, f2, h1, h2, h3, rfl, h5⟩ := h
    cases i with
    | zero =>
      obtain rfl : x = d := by simpa using hi
      refine ⟨u0, f1, h1, h2, fun q hq => by simp [hq], fun W' d' hd hk => ?_⟩
      rw [List.set_cons_zero]
      unfold OwnsAll
      exact ⟨u0, f1, f2, h1, hd, h3.stay (fun q hq => hk q (by simp [hq]) (fun e => h5 q e hq)), rfl, h5⟩
    | succ i =>
      obtain ⟨u, f, h6, h7, h8, h9⟩ := ih h3 (i := i) (d := d) (by simpa using hi)
      refine ⟨u, f, by rw [show k + (i + 1) = k + 1 + i by omega]; exact h6, h7, fun q hq => by simp [h8 q hq], fun W' d' hd hk => ?_⟩
      rw [List.set_cons_succ]
      unfold OwnsAll
      exact ⟨u0, f1, f2, h1, h2.stay (fun q hq => hk q (by simp [hq]) (fun e => h5 q hq (h8 q e))), h9 W' d' hd (fun q hq hn => hk q (by simp [hq]) hn), rfl, h5⟩

/-- One datum of a row, and the row with another one in its place. -/
theorem Owns.part {W : World} {g n cap : Nat} {e : TypeId} {sz : Nat} {ds : List Dt} {fp : List Nat} (h : Owns W (.slice (some ⟨g, 0, none⟩) n cap) (.row e sz ds) fp) {i : Nat} {d : Dt} (hi : ds[i]? = some d) :
    ∃ u f, W.cell? ⟨g, i, none⟩ = some u ∧ Owns W u d f ∧ (∀ q ∈ f, q ∈ fp) ∧ ∀ (W' : World) (d' : Dt), Owns W' u d' f → Only f W W' → Owns W' (.slice (some ⟨g, 0, none⟩) n cap) (.row e sz (ds.set i d')) fp := by
  have hlt := h.lt
  unfold Owns at h
  rcases h with ⟨h, _⟩ | ⟨g', n', cap', cur, fps, h1, h2, h3, h4, h5, h6, rfl, h8, h9⟩
  · cases h
  · cases h1
    obtain ⟨u, f, k1, k2, k3, k4⟩ := h9.part hi
    rw [Nat.zero_add] at k1
    refine ⟨u, f, by simp only [World.cell?, h2]; exact k1, k2, fun q hq => by simp [k3 q hq], fun W' d' hd ho => ?_⟩
    unfold Owns
    refine .inr ⟨g, n, cap, cur, fps, rfl, (ho.block g (hlt g (by simp)) (fun e => h8 (k3 g e))).trans h2, h3, h4, h5, by simpa using h6, rfl, h8, k4 W' d' hd (fun q hq hn => ho.block q (hlt q (by simp [hq])) hn)⟩

theorem OwnsAll.put_leaf {W W' : World} {cur : Array Value} {u v0 : Value} : ∀ {ds : List Dt} {k : Nat} {fp : List Nat} {i : Nat}, OwnsAll W cur k ds fp → ds[i]? = some (.leaf v0) → (∀ q ∈ fp, W'.heap[q]? = W.heap[q]?) → OwnsAll W' (cur.setIfInBounds (k + i) u) k (ds.set i (.leaf u)) fp := by
  intro ds
  induction ds with
  | nil => intro k fp i _ h; simp at h
  | cons x ds ih =>
    intro k fp i h hi hk
    unfold OwnsAll at h
    obtain ⟨u0, f1, f2, h1, h2, h3, rfl, h5⟩ := h
    have hlt : k < cur.size := (Array.getElem?_eq_some_iff.1 h1).1
    cases i with
    | zero =>
      obtain rfl : x = .leaf v0 := by simpa using hi
      unfold Owns at h2
      obtain ⟨rfl, rfl⟩ := h2
      rw [List.set_cons_zero]
      unfold OwnsAll
      exact ⟨u, [], f2, by rw [Nat.add_zero]; simp [hlt], owns_leaf u, by rw [Nat.add_zero]; exact OwnsAll.cur_ne _ (h3.stay (fun q hq => hk q (by simp [hq]))) (by omega), rfl, h5⟩
    | succ i =>
      rw [List.set_cons_succ]
      unfold OwnsAll
      refine ⟨u0, f1, f2, by rw [Array.getElem?_setIfInBounds_ne (by omega)]; exact h1, h2.stay (fun q hq => hk q (by simp [hq])), ?_, rfl, h5⟩
      rw [show k + (i + 1) = k + 1 + i by omega]
      exact ih h3 (by simpa using hi) (fun q hq => hk q (by simp [hq]))

/-- A plain cell of an owned row written over. -/
theorem Owns.put_leaf {W : World} {g n cap : Nat} {e : TypeId} {sz : Nat} {ds : List Dt} {fp : List Nat} (h : Owns W (.slice (some ⟨g, 0, none⟩) n cap) (.row e sz ds) fp) {i : Nat} {v0 : Value} (hi : ds[i]? = some (.leaf v0)) (u : Value) :
    Owns (W.setCell ⟨g, i, none⟩ u) (.slice (some ⟨g, 0, none⟩) n cap) (.row e sz (ds.set i (.leaf u))) fp ∧ g ∈ fp := by
  unfold Owns at h
  rcases h with ⟨h, _⟩ | ⟨g', n', cap', cur, fps, h1, h2, h3, h4, h5, h6, rfl, h8, h9⟩
  · cases h
  · cases h1
    have k1 := OwnsAll.put_leaf (u := u) (W' := W.setCell ⟨g, i, none⟩ u) h9 hi (fun q hq => Below.heap_setCell _ _ _ _ (by rintro rfl; exact h8 hq))
    rw [Nat.zero_add] at k1
    refine ⟨?_, by simp⟩
    unfold Owns
    exact .inr ⟨g, n, cap, cur.setIfInBounds i u, fps, rfl, heap_setCell_same h2 u, h3, h4, by simpa using h5, by simpa using h6, rfl, h8, k1⟩

/-- A cell of an owned row: it is there, and may be written. -/
theorem Owns.cellAt {W : World} {g n cap : Nat} {e : TypeId} {sz : Nat} {ds : List Dt} {fp : List Nat} (h : Owns W (.slice (some ⟨g, 0, none⟩) n cap) (.row e sz ds) fp) {i : Nat} {d : Dt} (hi : ds[i]? = some d) :
    (∃ u, W.cell? ⟨g, i, none⟩ = some u) ∧ W.frozen? ⟨g, i, none⟩ = false ∧ g < W.heap.size ∧ g ∈ fp := by
  obtain ⟨u, f, h1, _, _, _⟩ := h.part hi
  refine ⟨⟨u, h1⟩, ?_⟩
  unfold Owns at h
  rcases h with ⟨h, _⟩ | ⟨g', n', cap', cur, fps, k1, k2, k3, k4, k5, k6, rfl, _⟩
  · cases h
  · cases k1
    exact ⟨by simp [World.frozen?, k2], (Array.getElem?_eq_some_iff.1 k2).1, by simp⟩

/-- Plain cells own no block. -/
theorem OwnsAll.plain_fp {W : World} {cur : Array Value} : ∀ {ds : List Dt} {k : Nat} {fp : List Nat}, OwnsAll W cur k ds fp → (∀ d ∈ ds, ∃ v, d = .leaf v) → fp = [] := by
  intro ds
  induction ds with
  | nil => intro k fp h _; unfold OwnsAll at h; exact h
  | cons x ds ih =>
    intro k fp h hp
    unfold OwnsAll at h
    obtain ⟨u0, f1, f2, h1, h2, h3, rfl, h5⟩ := h
    obtain ⟨v, rfl⟩ := hp x (by simp)
    unfold Owns at h2
    rw [h2.2, ih h3 (fun d hd => hp d (by simp [hd]))]
    rfl

/-- An owned row is none, or lies at a block's beginning. -/
theorem Owns.shape {W : World} {v : Value} {e : TypeId} {sz : Nat} {ds : List Dt} {fp : List Nat} (h : Owns W v (.row e sz ds) fp) {n : Nat} (hn : ds.length = n * sz) (hs : 0 < sz) :
    (v = .slice none 0 0 ∧ ds = [] ∧ n = 0) ∨ ∃ g cap, v = .slice (some ⟨g, 0, none⟩) n cap := by
  unfold Owns at h
  rcases h with ⟨rfl, rfl, _⟩ | ⟨g, n', cap, cur, fps, rfl, h2, h3, h4, h5, h6, _⟩
  · refine .inl ⟨rfl, rfl, ?_⟩
    have : n * sz = 0 := by simpa using hn.symm
    rcases Nat.mul_eq_zero.1 this with h | h
    · exact h
    · omega
  · have : n' = n := Nat.eq_of_mul_eq_mul_right hs (h6.symm.trans hn)
    subst this
    exact .inr ⟨g, cap, rfl⟩
end Go.Proofs.YteladljgnbfcnaaGreat.Da
namespace Go.Proofs.YteladljgnbfcnaaGreat.P9
open Go.RowKit P1 P8 Da Sr

end Go.Proofs.YteladljgnbfcnaaGreat.P9
namespace Go.Proofs.YteladljgnbfcnaaGreat.P9
open Go.RowKit P1 P8 Da Sr

end Go.Proofs.YteladljgnbfcnaaGreat.P9
namespace Go.Proofs.YteladljgnbfcnaaGreat.P9
open Go.RowKit P1 P8 Da Sr

end Go.Proofs.YteladljgnbfcnaaGreat.P9
