/- Rows of records whose fields are all ints: read where they came in, owned where a call made them; no condition.
Maps that a call made, whatever their keys and elements: looked up, stored into, an entry asked for and stored into; no condition.
A map that is ranged over while entries are struck out of it; no condition. -/
import Derived.Test.YteladljgnbfcnaaGreatZD
import Derived.Test.YteladljgnbfcnaaGreatZA
import Derived.Laws.AppendOwnNone
import Derived.Maps.OwnSet
import Derived.Maps.RangeWalk
namespace Go.Proofs.YteladljgnbfcnaaGreat.Rc
open Go.RowKit P1

/-- A struct of n ints. -/
structure RI (α : Type) where
  n : Nat
  ints : α → List Int
  len : ∀ x, (ints x).length = n
  pos : 0 < n

/-- All numbers of a list of records. -/
def flat {α : Type} (R : RI α) (l : List α) : List Int := l.flatMap R.ints

section
variable {α : Type} {R : RI α}

theorem flat_length (R : RI α) : ∀ l : List α, (flat R l).length = l.length * R.n
  | [] => by simp [flat]
  | x :: l => by
    have := flat_length R l
    simp only [flat, List.flatMap_cons, List.length_append, List.length_cons, R.len] at this ⊢
    rw [this, Nat.add_mul, Nat.one_mul, Nat.add_comm]

theorem flat_get (R : RI α) : ∀ (l : List α) (j i : Nat) (hj : j < l.length), i < R.n → (flat R l)[j * R.n + i]? = (R.ints l[j])[i]?
  | x :: l, 0, i, hj, hi => by
    simp only [flat, List.flatMap_cons, Nat.zero_mul, Nat.zero_add, List.getElem_cons_zero]
    rw [List.getElem?_append_left (by rw [R.len]; exact hi)]
  | x :: l, j + 1, i, hj, hi => by
    have := flat_get R l j i (by simpa using hj) hi
    simp only [flat, List.flatMap_cons, List.getElem_cons_succ] at this ⊢
    rw [List.getElem?_append_right (by rw [R.len, Nat.add_mul, Nat.one_mul]; omega), R.len, ← this]
    congr 1
    rw [Nat.add_mul, Nat.one_mul]
    omega

/-- v is a slice that reads as the records l. -/
def RowAt (R : RI α) (w : World) (v : Value) (l : List α) : Prop :=
  (∃ a cap, v = .slice a 0 cap ∧ l = [] ∧ (a = none → cap = 0)) ∨ ∃ g off cap, v = .slice (some ⟨g, off, none⟩) l.length cap ∧ g < w.heap.size ∧ ∀ k, k < l.length * R.n → w.cell? ⟨g, off + k, none⟩ = (cellsI (flat R l))[k]?

theorem RowAt.below {B : Nat} {w w' : World} {v : Value} {l : List α} (h : RowAt R w v l) (hb : Below B w w') (hB : w.heap.size ≤ B) : RowAt R w' v l := by
  rcases h with h | ⟨g, off, cap, h1, h2, h3⟩
  · exact .inl h
  · refine .inr ⟨g, off, cap, h1, Nat.lt_of_lt_of_le h2 hb.size, fun k hk => ?_⟩
    rw [hb.cell (p := ⟨g, off + k, none⟩) (by show g < B; omega)]
    exact h3 k hk

theorem RowAt.of_own {B : Nat} {w : World} {e : TypeId} {v : Value} {l : List α} (h : w.ownsRow B e R.n v l.length (cellsI (flat R l))) : RowAt R w v l := by
  have h0 := h
  rcases h.2 with ⟨rfl, hn⟩ | ⟨g, cap, cur, rfl, h1, h2, -, -, -, -⟩
  · exact .inl ⟨none, 0, rfl, List.eq_nil_of_length_eq_zero hn, fun _ => rfl⟩
  · exact .inr ⟨g, 0, cap, rfl, (Array.getElem?_eq_some_iff.1 h2).1, fun k hk => by rw [Nat.zero_add]; exact h0.cellAt k hk⟩

/-- As the walks want it: where the j-th record lies. -/
theorem RowAt.open_ {w : World} {v : Value} {l : List α} (h : RowAt R w v l) :
    ∃ a cap, v = .slice a l.length cap ∧ ∀ j (hj : j < l.length), ∃ g off, a = some ⟨g, off, none⟩ ∧ g < w.heap.size ∧ ∀ i, i < R.n → w.cell? ⟨g, off + j * R.n + i, none⟩ = ((R.ints l[j])[i]?).map (.int .i64 ·) := by
  rcases h with ⟨a, cap, rfl, rfl, -⟩ | ⟨g, off, cap, rfl, h2, h3⟩
  · exact ⟨a, cap, rfl, fun j hj => by simp at hj⟩
  · refine ⟨_, cap, rfl, fun j hj => ⟨g, off, rfl, h2, fun i hi => ?_⟩⟩
    rw [Nat.add_assoc, h3 (j * R.n + i) (by
      have : (j + 1) * R.n ≤ l.length * R.n := Nat.mul_le_mul_right _ hj
      rw [Nat.add_mul, Nat.one_mul] at this
      omega)]
    simp only [cellsI, List.getElem?_map]
    rw [flat_get R l j i hj hi]

/-- A whole slice appended to a row that the call made. -/
theorem wpList_append_row {P : Program} {w : World} {B : Nat} {ops : Array Oper} {rest : List Oper} {o : Oper} {a : Act} {Q : Exit → Act → World → Prop} (hgd : o.guard = none) (s x : Operand) (t : TypeId)
    (ho : o.op = .call { callee := .builtin .append, args := #[s, x], argTypes := #[t, t] })
    (e : TypeId) (i : TypeInfo) (z : Value) (bytes : Nat) (ht : P.underlying t = some (.slice e)) (hi : P.info? e = some i) (hz : i.zero = some z)
    (hsize : i.size = R.n) (hby : i.bytes = bytes) (hzs : z.cells.size = R.n) (v vx : Value) (n : Nat) (xs : List Value) (l : List α) (hs : a.eval s = v) (hown : w.ownsRow B e R.n v n xs) (hx : a.eval x = vx) (hrow : RowAt R w vx l)
    (hB : B ≤ w.heap.size) (h63 : n + l.length ≤ maxLen) (hbytes : (n + l.length) * bytes ≤ 140737488355328)
    (h : ∀ v' w', w'.ownsRow B e R.n v' (n + l.length) (xs ++ cellsI (flat R l)) → Below B w w' → wpList P ops Q rest (a.put o.dst v') w') : wpList P ops Q (o :: rest) a w := by
  rcases hrow with ⟨ad, cap, rfl, rfl, hn⟩ | ⟨g, off, cap, rfl, h2, h3⟩
  · cases ad with
    | none =>
      have hc0 := hn rfl
      subst hc0
      refine wpList_append_own_none hgd s x t ho B e i R.n ht hi v n xs hs hown hx ?_
      refine h v w ?_ (Below.refl _ _)
      simpa [flat, cellsI] using hown
    | some ad =>
      refine wpList_append_own _ hgd s x t ho B e i z R.n bytes ht hi hz hsize hby hzs R.pos v n xs hs hown ad 0 cap [] hx (by simp) (by simp) (by simp) h63 hbytes hB ?_
      intro v' w' h1 h2 _
      exact h v' w' (by simpa [flat, cellsI] using h1) ((Below.refl B w).grown h2 hB (fun k hk => (hown.lt k hk).1))
  · refine wpList_append_own _ hgd s x t ho B e i z R.n bytes ht hi hz hsize hby hzs R.pos v n xs hs hown ⟨g, off, none⟩ l.length cap (cellsI (flat R l)) hx (by rw [cellsI_length, flat_length]) ?_ ?_ h63 hbytes hB ?_
    · intro j u hj
      simp only [Go.WideShapes.add_plain]
      have hlt : j < l.length * R.n := by
        have := (List.getElem?_eq_some_iff.1 hj).1
        rw [cellsI_length, flat_length] at this
        exact this
      rw [h3 j hlt, hj]
    · intro u hu
      simp only [cellsI, List.mem_map] at hu
      obtain ⟨y, _, rfl⟩ := hu
      rfl
    · intro v' w' h1 h2 _
      exact h v' w' h1 ((Below.refl B w).grown h2 hB (fun k hk => (hown.lt k hk).1))

/-- One element more; only the row's own block was written. -/
theorem wpList_append_oneG {P : Program} {w0 : World} {B : Nat} (hB : B ≤ w0.heap.size) {cs : Array Value} {ops : Array Oper} {rest : List Oper} {o : Oper} {a : Act} {Q : Exit → Act → World → Prop} (hgd : o.guard = none) (s x : Operand) (t : TypeId)
    (ho : o.op = .call { callee := .builtin .append, args := #[s, x], argTypes := #[t, t] })
    (e : TypeId) (i : TypeInfo) (z : Value) (size bytes : Nat) (ht : P.underlying t = some (.slice e)) (hi : P.info? e = some i) (hz : i.zero = some z)
    (hsize : i.size = size) (hby : i.bytes = bytes) (hzs : z.cells.size = size) (hsz : 0 < size) (hcs : cs.toList.length = size) (h1 : ∀ u ∈ cs.toList, u.oneCell' = true)
    (v : Value) (n : Nat) (xs : List Value) (hs : a.eval s = v) (hown : w0.ownsRow B e size v n xs)
    (c : Nat) (hx : a.eval x = .slice (some ⟨w0.heap.size, 0, none⟩) 1 c) (hb : n < 1099511627776) (hbytes : (n + 1) * bytes ≤ 140737488355328)
    (h : ∀ v' w', w'.ownsRow B e size v' (n + 1) (xs ++ cs.toList) → w0.grownBy w' v.ownBlock → wpList P ops Q rest (a.put o.dst v') w') :
    wpList P ops Q (o :: rest) a (w0.alloc (.cells cs e)) := by
  refine wpList_append_own _ hgd s x t ho B e i z size bytes ht hi hz hsize hby hzs (by assumption) v n xs hs (hown.alloc _) ⟨w0.heap.size, 0, none⟩ 1 c cs.toList hx (by omega) ?_ h1 ?_ hbytes ?_ ?_
  · intro j u hj
    simp only [Go.WideShapes.add_plain]
    have hh : (w0.alloc (.cells cs e)).heap[w0.heap.size]? = some (.cells cs e) := by
      show (w0.heap.push _)[w0.heap.size]? = _
      simp
    simp only [World.cell?, hh]
    simpa using hj
  · unfold maxLen; omega
  · simp; omega
  · intro v' w' h1 h2 _
    have hb : Below w0.heap.size w0 (w0.alloc (.cells cs e)) := (Below.refl _ _).alloc (Nat.le_refl _) _
    exact h v' w' h1 ⟨h2.os.trans hb.os, h2.tape.trans hb.tape, h2.output.trans hb.output, Nat.le_trans hb.size h2.size, fun k hk hne => (h2.block k (Nat.lt_of_lt_of_le hk hb.size) hne).trans (hb.block k hk)⟩

/-- A row of one type does not lie in a block of another. -/
theorem own_ne_blk {w : World} {B : Nat} {e : TypeId} {size n b : Nat} {v : Value} {xs cs : List Value} {t : TypeId} (hown : w.ownsRow B e size v n xs) (hb : Blk w b cs t) (ht : t ≠ e) : v.ownBlock ≠ some b := by
  rcases hown.2 with ⟨rfl, _⟩ | ⟨g, cap, cur, rfl, h1, h2, -⟩
  · intro h; cases h
  · intro h
    have hg : g = b := by simpa [Value.ownBlock] using h
    subst hg
    unfold Blk at hb
    rw [h2] at hb
    simp only [Option.some.injEq, Obj.cells.injEq] at hb
    exact ht hb.2.1.symm

theorem blk_grownR {w w' : World} {b : Nat} {r : Option Nat} {cs : List Value} {t : TypeId} (h : Blk w b cs t) (hg : w.grownBy w' r) (hne : r ≠ some b) : Blk w' b cs t := by
  have := hg.block b h.lt (fun e => hne e.symm)
  unfold Blk at *
  rw [this]
  exact h

theorem half_set? (F : List Int) (t : Nat) (x : Int) (h : F[t]? = some x) : (half F t).set t x = half F (t + 1) := by
  obtain ⟨hlt, rfl⟩ := List.getElem?_eq_some_iff.1 h
  exact half_set F t hlt

end
end Go.Proofs.YteladljgnbfcnaaGreat.Rc
namespace Go.Proofs.YteladljgnbfcnaaGreat.Mp
open Go.RowKit P1 Go.MapKept
open Go.ChangeMaps (modify_eq_set setBlock heap_setBlock_same heap_setBlock_other)

/-- Keys of a map: how they are written, and what the look for one of them finds. -/
structure KT (P : Program) (k : TypeId) (α : Type) where
  kv : α → Value
  inj : ∀ x y, kv x = kv y → x = y
  check : ∀ (em : Bool) (w : World) (x : α), (Instr.checkKey em 10000 k (kv x)).run P w = .ok () w
  find : ∀ (w : World) (x : α) (es : List MapEntry), (∀ e ∈ es, ∃ y, e.key = kv y) →
    ((Instr.findKey k (kv x) es).run P w = .ok none w ∧ ∀ e ∈ es, e.key ≠ kv x) ∨ ∃ j e, (Instr.findKey k (kv x) es).run P w = .ok (some (j, e.val)) w ∧ es[j]? = some e ∧ e.key = kv x
  stays : ∀ (w : World) (x : α), (Instr.keyThatStays (kv x) (kv x)).run P w = .ok (kv x) w

/-- One more place of a function. -/
def upd {α : Type} [DecidableEq α] (f : α → Option Value) (x : α) (v : Value) (y : α) : Option Value := if y = x then some v else f y

section
variable {P : Program} {k : TypeId} {α : Type} (T : KT P k α)

/-- The entries of a map: no key twice, no stamp twice, and what they hold. -/
structure Ens (es : Array MapEntry) (clock : Nat) (f : α → Option Value) : Prop where
  stamped : Stamped es clock
  keys : ∀ e ∈ es.toList, ∃ y, e.key = T.kv y
  val : ∀ x v, f x = some v ↔ ∃ e ∈ es.toList, e.key = T.kv x ∧ e.val = v

/-- Block b is a map of at most n entries that holds f. -/
def MapR (w : World) (b n : Nat) (f : α → Option Value) : Prop := ∃ es clock, w.heap[b]? = some (.map es clock) ∧ Ens T es clock f ∧ es.size ≤ n

/-- .. and the entry with this stamp is that of x. -/
def MapE (w : World) (b n : Nat) (x : α) (st : Nat) (f : α → Option Value) : Prop := ∃ es clock, w.heap[b]? = some (.map es clock) ∧ Ens T es clock f ∧ es.size ≤ n ∧ ∃ e ∈ es.toList, e.key = T.kv x ∧ e.born = st

variable {T}

theorem mem_set_key {l : List MapEntry} {j : Nat} {e0 e1 : MapEntry} (hj : l[j]? = some e0) (hp : l.Pairwise (fun x y => x.key ≠ y.key)) (x : MapEntry) : x ∈ l.set j e1 ↔ x = e1 ∨ (x ∈ l ∧ x.key ≠ e0.key) := by
  obtain ⟨hlt, he0⟩ := List.getElem?_eq_some_iff.1 hj
  have hpw := List.pairwise_iff_getElem.1 hp
  constructor
  · intro h
    obtain ⟨i, hi, hx⟩ := List.getElem_of_mem h
    rw [List.getElem_set] at hx
    split at hx
    · exact .inl hx.symm
    · rename_i hne
      have hi' : i < l.length := by simpa using hi
      refine .inr ⟨hx ▸ List.getElem_mem hi', ?_⟩
      rw [← hx, ← he0]
      rcases Nat.lt_or_gt_of_ne hne with h1 | h1
      · exact fun e => hpw j i hlt hi' h1 e.symm
      · exact hpw i j hi' hlt h1
  · rintro (rfl | ⟨h1, h2⟩)
    · exact List.mem_iff_getElem.2 ⟨j, by simpa using hlt, by simp⟩
    · obtain ⟨i, hi, hx⟩ := List.getElem_of_mem h1
      have hne : j ≠ i := by
        rintro rfl
        apply h2
        rw [← hx, ← he0]
      exact List.mem_iff_getElem.2 ⟨i, by simpa using hi, by rw [List.getElem_set_ne hne]; exact hx⟩

theorem Ens.push [DecidableEq α] {es : Array MapEntry} {clock : Nat} {f : α → Option Value} (E : Ens T es clock f) (x : α) (v : Value) (hn : ∀ e ∈ es.toList, e.key ≠ T.kv x) : Ens T (es.push ⟨T.kv x, v, clock⟩) (clock + 1) (upd f x v) := by
  refine ⟨stamped_push E.stamped hn, ?_, ?_⟩
  · intro e he
    simp only [Array.toList_push, List.mem_append, List.mem_singleton] at he
    rcases he with he | rfl
    · exact E.keys e he
    · exact ⟨x, rfl⟩
  · intro y u
    simp only [Array.toList_push, List.mem_append, List.mem_singleton]
    unfold upd
    by_cases hy : y = x
    · subst hy
      rw [if_pos rfl]
      constructor
      · intro h
        exact ⟨⟨T.kv y, v, clock⟩, .inr rfl, rfl, by simpa using h⟩
      · rintro ⟨e, he | rfl, h1, h2⟩
        · exact absurd h1 (hn e he)
        · simpa using h2
    · rw [if_neg hy, E.val]
      constructor
      · rintro ⟨e, he, h1, h2⟩
        exact ⟨e, .inl he, h1, h2⟩
      · rintro ⟨e, he | rfl, h1, h2⟩
        · exact ⟨e, he, h1, h2⟩
        · exact absurd (T.inj _ _ h1.symm) hy

theorem Ens.set [DecidableEq α] {es : Array MapEntry} {clock : Nat} {f : α → Option Value} (E : Ens T es clock f) (x : α) (v : Value) {j : Nat} {e0 : MapEntry} (hj : es.toList[j]? = some e0) (hk : e0.key = T.kv x) (g : MapEntry → MapEntry) (hb : ∀ e, (g e).born = e.born) (hgk : (g e0).key = T.kv x) (hgv : (g e0).val = v) :
    Ens T (es.modify j g) clock (upd f x v) ∧ (es.modify j g).size = es.size ∧ g e0 ∈ (es.modify j g).toList := by
  have hp := ((stamped_iff es clock).1 E.stamped).2.2
  have hlist : (es.modify j g).toList = es.toList.set j (g e0) := by rw [Array.toList_modify, modify_eq_set _ _ _ _ hj]
  have hjs : es[j]? = some e0 := by simpa using hj
  refine ⟨⟨stamped_modify E.stamped _ _ (fun e _ => hb e) (fun e _ he => ?_), ?_, ?_⟩, by simp, ?_⟩
  · rw [hjs] at he
    cases he
    rw [hgk, hk]
  · intro e he
    rw [hlist] at he
    rcases (mem_set_key hj hp e).1 he with rfl | ⟨h1, _⟩
    · exact ⟨x, hgk⟩
    · exact E.keys e h1
  · intro y u
    rw [hlist]
    unfold upd
    by_cases hy : y = x
    · subst hy
      rw [if_pos rfl]
      constructor
      · intro h
        exact ⟨g e0, (mem_set_key hj hp _).2 (.inl rfl), hgk, by rw [hgv]; simpa using h⟩
      · rintro ⟨e, he, h1, h2⟩
        rcases (mem_set_key hj hp e).1 he with rfl | ⟨_, h3⟩
        · rw [← h2, hgv]
        · exact absurd (h1.trans hk.symm) h3
    · rw [if_neg hy, E.val]
      constructor
      · rintro ⟨e, he, h1, h2⟩
        refine ⟨e, (mem_set_key hj hp e).2 (.inr ⟨he, ?_⟩), h1, h2⟩
        rw [h1, hk]
        exact fun h => hy (T.inj _ _ h)
      · rintro ⟨e, he, h1, h2⟩
        rcases (mem_set_key hj hp e).1 he with rfl | ⟨h3, _⟩
        · rw [hgk] at h1
          exact absurd (T.inj _ _ h1.symm) hy
        · exact ⟨e, h3, h1, h2⟩
  · rw [hlist]
    exact (mem_set_key hj hp _).2 (.inl rfl)

theorem Ens.none_of {es : Array MapEntry} {clock : Nat} {f : α → Option Value} (E : Ens T es clock f) {x : α} (hn : ∀ e ∈ es.toList, e.key ≠ T.kv x) : f x = none := by
  cases h : f x with
  | none => rfl
  | some v =>
    obtain ⟨e, he, h1, _⟩ := (E.val x v).1 h
    exact absurd h1 (hn e he)

theorem Ens.congr {es : Array MapEntry} {clock : Nat} {f g : α → Option Value} (E : Ens T es clock f) (h : ∀ x, g x = f x) : Ens T es clock g := ⟨E.stamped, E.keys, fun x v => by rw [h x]; exact E.val x v⟩

theorem MapR.congr {w : World} {b n : Nat} {f g : α → Option Value} (H : MapR T w b n f) (h : ∀ x, g x = f x) : MapR T w b n g := by
  obtain ⟨es, clock, h1, h2, h3⟩ := H
  exact ⟨es, clock, h1, h2.congr h, h3⟩

theorem MapR.mono {w : World} {b n m : Nat} {f : α → Option Value} (H : MapR T w b n f) (h : n ≤ m) : MapR T w b m f := by
  obtain ⟨es, clock, h1, h2, h3⟩ := H
  exact ⟨es, clock, h1, h2, by omega⟩

theorem MapR.lt {w : World} {b n : Nat} {f : α → Option Value} (H : MapR T w b n f) : b < w.heap.size := by
  obtain ⟨es, clock, h1, _⟩ := H
  exact (Array.getElem?_eq_some_iff.1 h1).1

theorem MapR.at_ {w w' : World} {b n : Nat} {f : α → Option Value} (H : MapR T w b n f) (h : w'.heap[b]? = w.heap[b]?) : MapR T w' b n f := by
  obtain ⟨es, clock, h1, h2⟩ := H
  exact ⟨es, clock, h.trans h1, h2⟩

theorem MapE.at_ {w w' : World} {b n st : Nat} {x : α} {f : α → Option Value} (H : MapE T w b n x st f) (h : w'.heap[b]? = w.heap[b]?) : MapE T w' b n x st f := by
  obtain ⟨es, clock, h1, h2⟩ := H
  exact ⟨es, clock, h.trans h1, h2⟩

theorem MapE.lt {w : World} {b n st : Nat} {x : α} {f : α → Option Value} (H : MapE T w b n x st f) : b < w.heap.size := by
  obtain ⟨es, clock, h1, _⟩ := H
  exact (Array.getElem?_eq_some_iff.1 h1).1

theorem MapR.made (w : World) : MapR T (w.alloc (.map #[] 0)) w.heap.size 0 (fun _ => none) :=
  ⟨#[], 0, (MapKept.heap_alloc w _).1, ⟨stamped_empty 0, by simp, by simp⟩, Nat.le_refl _⟩

theorem MapR.look {w : World} {b n : Nat} {f : α → Option Value} {t e : TypeId} (H : MapR T w b n f) (ht : P.underlying t = some (.map k e)) {z : Value} (hz : (zeroValue e).run P w = .ok z w) (c : Bool) (x : α) :
    (Instr.lookup t (.map (some b)) (T.kv x) c).run P w = .ok (if c then .tuple #[(f x).getD z, .bool (f x).isSome] else (f x).getD z) w := by
  obtain ⟨es, clock, hb, E, _⟩ := H
  rcases T.find w x es.toList E.keys with ⟨h1, h2⟩ | ⟨j, e0, h1, h2, h3⟩
  · rw [E.none_of h2]
    simp [Instr.lookup, run_underlying ht, MapKept.run_getObj_map hb, T.check, h1, hz, Result.andThen]
  · rw [(E.val x e0.val).2 ⟨e0, List.mem_of_getElem? h2, h3, rfl⟩]
    simp [Instr.lookup, run_underlying ht, MapKept.run_getObj_map hb, T.check, h1, Result.andThen]

theorem grown_set {w : World} {b : Nat} {es : Array MapEntry} {clock : Nat} (hb : w.heap[b]? = some (.map es clock)) (o : Obj) : w.grownBy (setBlock w b o) (some b) :=
  ⟨rfl, rfl, rfl, by simp [setBlock], fun i _ hi => heap_setBlock_other hb _ (fun e => hi (by rw [e]))⟩

theorem MapR.store [DecidableEq α] {w : World} {b n : Nat} {f : α → Option Value} {t e : TypeId} (H : MapR T w b n f) (ht : P.underlying t = some (.map k e)) (x : α) (v : Value) :
    ∃ w', (Instr.mapUpdate t (.map (some b)) (T.kv x) v).run P w = .ok () w' ∧ MapR T w' b (n + 1) (upd f x v) ∧ w.grownBy w' (some b) ∧ w'.heap.size = w.heap.size := by
  obtain ⟨es, clock, hb, E, hs⟩ := H
  rcases T.find w x es.toList E.keys with ⟨h1, h2⟩ | ⟨j, e0, h1, h2, h3⟩
  · refine ⟨setBlock w b (.map (es.push ⟨T.kv x, v, clock⟩) (clock + 1)), ?_, ⟨_, _, heap_setBlock_same hb _, E.push x v h2, by simp; omega⟩, grown_set hb _, by simp [setBlock]⟩
    simp [Instr.mapUpdate, run_underlying ht, MapKept.run_getObj_map hb, T.check, h1, MapKept.run_setObj_map _ hb, Result.andThen, setBlock]
  · have hj : es[j]? = some e0 := by simpa using h2
    obtain ⟨E', h4, _⟩ := E.set x v h2 h3 (fun e' => { e' with key := T.kv x, val := v }) (fun _ => rfl) rfl rfl
    refine ⟨setBlock w b (.map (es.modify j (fun e' => { e' with key := T.kv x, val := v })) clock), ?_, ⟨_, _, heap_setBlock_same hb _, E', by omega⟩, grown_set hb _, by simp [setBlock]⟩
    simp [Instr.mapUpdate, run_underlying ht, MapKept.run_getObj_map hb, T.check, h1, hj, h3, T.stays w x, MapKept.run_setObj_map _ hb, Result.andThen, setBlock]

theorem MapR.entry [DecidableEq α] {w : World} {b n : Nat} {f : α → Option Value} {t e : TypeId} (H : MapR T w b n f) (ht : P.underlying t = some (.map k e)) {z : Value} (hz : (zeroValue e).run P w = .ok z w) (x : α) :
    ∃ st w', (Instr.mapEntry t (.map (some b)) (T.kv x)).run P w = .ok (.tuple #[(f x).getD z, goInt (st : Nat)]) w' ∧ MapE T w' b (n + 1) x st (upd f x ((f x).getD z)) ∧ w.grownBy w' (some b) ∧ w'.heap.size = w.heap.size := by
  obtain ⟨es, clock, hb, E, hs⟩ := H
  rcases T.find w x es.toList E.keys with ⟨h1, h2⟩ | ⟨j, e0, h1, h2, h3⟩
  · rw [E.none_of h2]
    refine ⟨clock, setBlock w b (.map (es.push ⟨T.kv x, z, clock⟩) (clock + 1)), ?_, ⟨_, _, heap_setBlock_same hb _, E.push x z h2, by simp; omega, ⟨T.kv x, z, clock⟩, by simp, rfl, rfl⟩, grown_set hb _, by simp [setBlock]⟩
    simp [Instr.mapEntry, run_underlying ht, MapKept.run_getObj_map hb, T.check, h1, hz, MapKept.run_setObj_map _ hb, Result.andThen, setBlock]
  · have hj : es[j]? = some e0 := by simpa using h2
    rw [(E.val x e0.val).2 ⟨e0, List.mem_of_getElem? h2, h3, rfl⟩]
    obtain ⟨E', h4, h5⟩ := E.set x e0.val h2 h3 (fun e' => { e' with key := T.kv x }) (fun _ => rfl) rfl rfl
    refine ⟨e0.born, setBlock w b (.map (es.modify j (fun e' => { e' with key := T.kv x })) clock), ?_, ⟨_, _, heap_setBlock_same hb _, E', by omega, _, h5, rfl, rfl⟩, grown_set hb _, by simp [setBlock]⟩
    simp [Instr.mapEntry, run_underlying ht, MapKept.run_getObj_map hb, T.check, h1, hj, h3, T.stays w x, MapKept.run_setObj_map _ hb, Result.andThen, setBlock]

theorem MapE.store [DecidableEq α] {w : World} {b n st : Nat} {f : α → Option Value} {x : α} (H : MapE T w b n x st f) (t : TypeId) (v : Value) :
    ∃ w', (Instr.entryStore t (.map (some b)) (goInt (st : Nat)) v).run P w = .ok () w' ∧ MapR T w' b n (upd f x v) ∧ w.grownBy w' (some b) ∧ w'.heap.size = w.heap.size := by
  obtain ⟨es, clock, hb, E, hs, e, he, hk, hst⟩ := H
  cases hf : es.findIdx? (fun e => (e.born : Int) == (st : Int)) with
  | none =>
    exfalso
    rw [Array.findIdx?_eq_none_iff] at hf
    have := hf e (by simpa using he)
    simp [hst] at this
  | some j =>
    obtain ⟨hlt, hbj, _⟩ := Array.findIdx?_eq_some_iff_getElem.1 hf
    have hbj' : es[j].born = st := by
      have h0 : (es[j].born : Int) = (st : Int) := by simpa using hbj
      omega
    have hj : es.toList[j]? = some es[j] := by simp
    have hkj : es[j].key = T.kv x := by
      have hnd := ((stamped_iff es clock).1 E.stamped).2.1
      obtain ⟨i, hi, hx⟩ := List.getElem_of_mem he
      have hi' : i < es.size := by simpa using hi
      by_cases hij : i = j
      · subst hij
        rw [← hk, ← hx]
        simp
      · exfalso
        have hpw := List.pairwise_iff_getElem.1 hnd
        have e1 : (es.toList.map (·.born))[i]'(by simpa using hi) = st := by simp only [List.getElem_map]; rw [hx, hst]
        have e2 : (es.toList.map (·.born))[j]'(by simpa using hlt) = st := by simpa using hbj'
        rcases Nat.lt_or_gt_of_ne hij with h1 | h1
        · exact hpw i j _ _ h1 (e1.trans e2.symm)
        · exact hpw j i _ _ h1 (e2.trans e1.symm)
    obtain ⟨E', h4, _⟩ := E.set x v hj hkj (fun e' => { e' with val := v }) (fun _ => rfl) hkj rfl
    refine ⟨setBlock w b (.map (es.modify j (fun e' => { e' with val := v })) clock), ?_, ⟨_, _, heap_setBlock_same hb _, E', by omega⟩, grown_set hb _, by simp [setBlock]⟩
    simp [Instr.entryStore, MapKept.run_getObj_map hb, asInt, asIntOf, goInt, hf, MapKept.run_setObj_map _ hb, Result.andThen, setBlock]

end
end Go.Proofs.YteladljgnbfcnaaGreat.Mp
namespace Go.Proofs.YteladljgnbfcnaaGreat.Mp
open Go.RowKit P1 Go.MapKept
open Go.ChangeMaps (modify_eq_set setBlock heap_setBlock_same heap_setBlock_other)

/-- One place less of a function. -/
def del {α : Type} [DecidableEq α] (f : α → Option Value) (x : α) (y : α) : Option Value := if y = x then none else f y

section
variable {P : Program} {k : TypeId} {α : Type} (T : KT P k α)

/-- Block b is a map of at most n entries that holds f; block r goes over it, and has come to the keys of S at most; cnt are still to come. -/
def MapW (w : World) (b r n : Nat) (f : α → Option Value) (S : α → Prop) (cnt : Nat) : Prop :=
  ∃ es clock since seen c0, w.heap[b]? = some (.map es clock) ∧ Ens T es clock f ∧ es.size ≤ n ∧ w.heap[r]? = some (.mapIter (some b) since seen c0) ∧ (∀ x ∈ es.toList, x.born < since) ∧ since ≤ c0 ∧ since ≤ clock ∧ (leftOf es seen).size = cnt ∧
    ∀ e ∈ es.toList, seen.contains e.born = true → ∀ x, e.key = T.kv x → S x

variable {T} {w : World} {b r n cnt : Nat} {f : α → Option Value} {S : α → Prop}

theorem MapW.mapR (h : MapW T w b r n f S cnt) : MapR T w b n f := by
  obtain ⟨es, clock, _, _, _, h1, h2, h3, _⟩ := h
  exact ⟨es, clock, h1, h2, h3⟩

theorem MapW.left (h : MapW T w b r n f S cnt) : w.rangeLeft b r = cnt := by
  obtain ⟨es, clock, since, seen, c0, h1, _, _, h4, _, _, _, h8, _⟩ := h
  simp only [World.rangeLeft, h1, h4]
  exact h8

theorem MapW.ne (h : MapW T w b r n f S cnt) : r ≠ b := by
  obtain ⟨es, clock, since, seen, c0, h1, _, _, h4, _⟩ := h
  rintro rfl
  rw [h1] at h4
  cases h4

theorem MapW.lt (h : MapW T w b r n f S cnt) : r < w.heap.size := by
  obtain ⟨es, clock, since, seen, c0, _, _, _, h4, _⟩ := h
  exact (Array.getElem?_eq_some_iff.1 h4).1

theorem MapW.imp (h : MapW T w b r n f S cnt) {S' : α → Prop} (hs : ∀ x, S x → S' x) : MapW T w b r n f S' cnt := by
  obtain ⟨es, clock, since, seen, c0, h1, h2, h3, h4, h5, h6, h7, h8, h9⟩ := h
  exact ⟨es, clock, since, seen, c0, h1, h2, h3, h4, h5, h6, h7, h8, fun e he hc x hx => hs x (h9 e he hc x hx)⟩

/-- It begins. -/
theorem MapR.range {t e : TypeId} (h : MapR T w b n f) (ht : P.underlying t = some (.map k e)) :
    ∃ w' cnt, (Instr.range t (.map (some b))).run P w = .ok (.pointer (some ⟨w.heap.size, 0, none⟩)) w' ∧ MapW T w' b w.heap.size n f (fun _ => False) cnt ∧ w.grownBy w' none ∧ w'.heap.size = w.heap.size + 1 := by
  have hlt := h.lt
  obtain ⟨es, clock, hb, E, hs⟩ := h
  refine ⟨_, _, run_range_map w t k e b es clock ht hb, ⟨es, clock, clock, #[], clock, ((MapKept.heap_alloc w _).2 b hlt).trans hb, E, hs, (MapKept.heap_alloc w _).1, E.stamped.1, Nat.le_refl _, Nat.le_refl _, rfl, fun e _ hc => by simp at hc⟩, World.grownBy_alloc w _ none, by simp⟩

/-- One step: it is over, and all have come; or one comes. -/
theorem MapW.next (h : MapW T w b r n f S cnt) (ty : TypeId) :
    ((∀ x v, f x = some v → S x) ∧ (Instr.next (.pointer (some ⟨r, 0, none⟩)) false ty).run P w = .ok (.tuple #[.bool false]) w) ∨
    ∃ x v w' cnt', f x = some v ∧ (Instr.next (.pointer (some ⟨r, 0, none⟩)) false ty).run P w = .ok (.tuple #[.bool true, T.kv x, v]) w' ∧ MapW T w' b r n f (fun y => S y ∨ y = x) cnt' ∧ cnt' < cnt ∧ w.grownBy w' (some r) ∧ w'.heap.size = w.heap.size ∧
      (Instr.entry (.pointer (some ⟨r, 0, none⟩))).run P w' = .ok (.tuple #[T.kv x, v]) w' := by
  have hne := h.ne
  obtain ⟨es, clock, since, seen, c0, hb, E, hs, hr, hold, hsc, hsk, rfl, hS⟩ := h
  rcases run_next_at (P := P) w ty r b since c0 seen es clock hr hb hold hsc with ⟨h0, hrun⟩ | ⟨e, he, w1, hal, hrun⟩
  · refine .inl ⟨fun x v hx => ?_, hrun⟩
    obtain ⟨e, he, h1, _⟩ := (E.val x v).1 hx
    exact hS e he (all_seen es seen h0 e he) x h1
  · obtain ⟨hem, hes⟩ := mem_left he
    obtain ⟨x, hx⟩ := E.keys e hem
    have hr1 : w1.heap[r]? = some (.mapIter (some b) since seen c0) := by rcases hal with rfl | rfl <;> exact hr
    have hb1 : w1.heap[b]? = some (.map es clock) := by rcases hal with rfl | rfl <;> exact hb
    have hset := heap_set (o' := .mapIter (some b) since (seen.push e.born) clock) hr1
    have hb' : (setBlock w1 r (.mapIter (some b) since (seen.push e.born) clock)).heap[b]? = some (.map es clock) := (hset.2 b (fun e1 => hne e1.symm)).trans hb1
    have hst := (stamped_iff es clock).1 E.stamped
    rw [hx] at hrun
    have hen := run_entry_at (P := P) _ r b since seen es clock e hset.1 hb' hem hst.2.1
    rw [hx] at hen
    refine .inr ⟨x, e.val, _, _, (E.val x e.val).2 ⟨e, hem, hx, rfl⟩, hrun, ⟨es, clock, since, seen.push e.born, clock, hb', E, hs, hset.1, hold, hsk, hsk, rfl, fun e' he' hc y hy => ?_⟩, left_shrinks es seen e he, ?_, ?_, hen⟩
    · rw [contains_push] at hc
      rcases Bool.or_eq_true _ _ ▸ hc with h1 | h1
      · exact .inl (hS e' he' h1 y hy)
      · have hbe : e'.born = e.born := by simpa using h1
        obtain rfl := born_inj hst.2.1 he' hem hbe
        exact .inr (T.inj _ _ (hy.symm.trans hx))
    · rcases hal with rfl | rfl <;> exact ⟨rfl, rfl, rfl, by simp [setBlock], fun i _ hi => hset.2 i (fun e1 => hi (by rw [e1]))⟩
    · rcases hal with rfl | rfl <;> simp [setBlock]

/-- An entry is struck out. -/
theorem MapW.drop [DecidableEq α] {t e : TypeId} (h : MapW T w b r n f S cnt) (ht : P.underlying t = some (.map k e)) (x : α) (ty : TypeId) :
    ∃ w' cnt', (Builtin.delete_ #[t, k] ty #[.map (some b), T.kv x]).run P w = .ok (.tuple #[]) w' ∧ MapW T w' b r n (del f x) S cnt' ∧ cnt' ≤ cnt ∧ w.grownBy w' (some b) ∧ w'.heap.size = w.heap.size := by
  have hne := h.ne
  obtain ⟨es, clock, since, seen, c0, hb, E, hs, hr, hold, hsc, hsk, rfl, hS⟩ := h
  have hst := (stamped_iff es clock).1 E.stamped
  rcases T.find w x es.toList E.keys with ⟨h1, h2⟩ | ⟨j, e0, h1, h2, h3⟩
  · refine ⟨setBlock w b (.map es clock), _, ?_, ⟨es, clock, since, seen, c0, heap_setBlock_same hb _, E.congr (fun y => ?_), hs, (heap_setBlock_other hb _ hne).trans hr, hold, hsc, hsk, rfl, hS⟩, Nat.le_refl _, grown_set hb _, by simp [setBlock]⟩
    · simp [Builtin.delete_, run_underlying ht, MapKept.run_getObj_map hb, T.check, h1, MapKept.run_setObj_map _ hb, Result.andThen, setBlock]
    · unfold del
      by_cases hy : y = x
      · subst hy
        rw [if_pos rfl, E.none_of h2]
      · rw [if_neg hy]
  · have hjl : j < es.toList.length := (List.getElem?_eq_some_iff.1 h2).1
    have hjs : j < es.size := by simpa using hjl
    have hsub : (es.eraseIdxIfInBounds j).toList = es.toList.eraseIdx j := by
      unfold Array.eraseIdxIfInBounds
      rw [dif_pos hjs]
      simp
    have hmem : ∀ y, y ∈ (es.eraseIdxIfInBounds j).toList ↔ (y ∈ es.toList ∧ y.key ≠ T.kv x) := fun y => by
      rw [hsub, List.mem_eraseIdx_iff_getElem?]
      constructor
      · rintro ⟨i, hij, hi⟩
        refine ⟨List.mem_of_getElem? hi, fun e1 => ?_⟩
        obtain ⟨hil, hiy⟩ := List.getElem?_eq_some_iff.1 hi
        obtain ⟨_, hje⟩ := List.getElem?_eq_some_iff.1 h2
        have hpw := List.pairwise_iff_getElem.1 hst.2.2
        rcases Nat.lt_or_gt_of_ne hij with h4 | h4
        · exact hpw i j hil hjl h4 (by rw [hiy, hje, e1, h3])
        · exact hpw j i hjl hil h4 (by rw [hiy, hje, e1, h3])
      · rintro ⟨hy, hne'⟩
        obtain ⟨i, hi⟩ := List.getElem?_of_mem hy
        refine ⟨i, fun e1 => hne' ?_, hi⟩
        rw [e1, h2] at hi
        cases hi
        exact h3
    refine ⟨setBlock w b (.map (es.eraseIdxIfInBounds j) clock), _, ?_, ⟨es.eraseIdxIfInBounds j, clock, since, seen, c0, heap_setBlock_same hb _, ⟨stamped_erase E.stamped j, fun y hy => E.keys y ((hmem y).1 hy).1, fun y v => ?_⟩, Nat.le_trans (MapFrom.size_erase es j) hs, (heap_setBlock_other hb _ hne).trans hr, fun y hy => hold y ((hmem y).1 hy).1, hsc, hsk, rfl, fun y hy => hS y ((hmem y).1 hy).1⟩, ?_, grown_set hb _, by simp [setBlock]⟩
    · simp [Builtin.delete_, run_underlying ht, MapKept.run_getObj_map hb, T.check, h1, MapKept.run_setObj_map _ hb, Result.andThen, setBlock]
    · unfold del
      by_cases hy : y = x
      · subst hy
        rw [if_pos rfl]
        constructor
        · intro h; cases h
        · rintro ⟨e', he', h4, _⟩
          exact absurd h4 ((hmem e').1 he').2
      · rw [if_neg hy, E.val]
        constructor
        · rintro ⟨e', he', h4, h5⟩
          exact ⟨e', (hmem e').2 ⟨he', fun h6 => hy (T.inj _ _ (h4.symm.trans h6))⟩, h4, h5⟩
        · rintro ⟨e', he', h4, h5⟩
          exact ⟨e', ((hmem e').1 he').1, h4, h5⟩
    · have e1 : ∀ a : Array MapEntry, (leftOf a seen).size = (a.toList.filter fun e => !seen.contains e.born).length := fun a => by
        unfold leftOf
        rw [← Array.toList_filter, Array.length_toList]
      rw [e1, e1, hsub]
      exact ((List.eraseIdx_sublist _ _).filter _).length_le

end

section
variable {P : Program} {k : TypeId} {α : Type} {T : KT P k α} {b r n cnt : Nat} {f : α → Option Value} {S : α → Prop} {ops : Array Oper} {rest : List Oper} {o : Oper} {a : Act} {Q : Exit → Act → World → Prop}

end
end Go.Proofs.YteladljgnbfcnaaGreat.Mp
