/- Rows of records whose fields are all ints: read where they came in, owned where a call made them; no condition. -/
import Derived.Test.YtfckfgabeeeccaaIntS
import Derived.Test.YtfckfgabeeeccaaBlk
import Derived.Laws.AppendOwnNone
namespace Go.Proofs.Ytfckfgabeeeccaa.Rc
open Go.RowKit P1

/-- A struct of n ints. -/
structure RI (α : Type) where
  n : Nat
  ints : α → List Int
  len : ∀ x, (ints x).length = n
  pos : 0 < n

/-- All numbers of a list of records. -/
def flat {α : Type} (R : RI α) (l : List α) : List Int := l.flatMap R.ints

section
variable {α : Type} {R : RI α}

theorem flat_length (R : RI α) : ∀ l : List α, (flat R l).length = l.length * R.n
  | [] => by simp [flat]
  | x :: l => by
    have := flat_length R l
    simp only [flat, List.flatMap_cons, List.length_append, List.length_cons, R.len] at this ⊢
    rw [this, Nat.add_mul, Nat.one_mul, Nat.add_comm]

theorem flat_snoc (R : RI α) (l : List α) (x : α) : flat R (l ++ [x]) = flat R l ++ R.ints x := by simp [flat]

theorem flat_append (R : RI α) (l m : List α) : flat R (l ++ m) = flat R l ++ flat R m := by simp [flat]

theorem flat_get (R : RI α) : ∀ (l : List α) (j i : Nat) (hj : j < l.length), i < R.n → (flat R l)[j * R.n + i]? = (R.ints l[j])[i]?
  | x :: l, 0, i, hj, hi => by
    simp only [flat, List.flatMap_cons, Nat.zero_mul, Nat.zero_add, List.getElem_cons_zero]
    rw [List.getElem?_append_left (by rw [R.len]; exact hi)]
  | x :: l, j + 1, i, hj, hi => by
    have := flat_get R l j i (by simpa using hj) hi
    simp only [flat, List.flatMap_cons, List.getElem_cons_succ] at this ⊢
    rw [List.getElem?_append_right (by rw [R.len, Nat.add_mul, Nat.one_mul]; omega), R.len, ← this]
    congr 1
    rw [Nat.add_mul, Nat.one_mul]
    omega

/-- v is a slice that reads as the records l. -/
def RowAt (R : RI α) (w : World) (v : Value) (l : List α) : Prop :=
  (∃ a cap, v = .slice a 0 cap ∧ l = [] ∧ (a = none → cap = 0)) ∨ ∃ g off cap, v = .slice (some ⟨g, off, none⟩) l.length cap ∧ g < w.heap.size ∧ ∀ k, k < l.length * R.n → w.cell? ⟨g, off + k, none⟩ = (cellsI (flat R l))[k]?

theorem RowAt.below {B : Nat} {w w' : World} {v : Value} {l : List α} (h : RowAt R w v l) (hb : Below B w w') (hB : w.heap.size ≤ B) : RowAt R w' v l := by
  rcases h with h | ⟨g, off, cap, h1, h2, h3⟩
  · exact .inl h
  · refine .inr ⟨g, off, cap, h1, Nat.lt_of_lt_of_le h2 hb.size, fun k hk => ?_⟩
    rw [hb.cell (p := ⟨g, off + k, none⟩) (by show g < B; omega)]
    exact h3 k hk

theorem RowAt.of_own {B : Nat} {w : World} {e : TypeId} {v : Value} {l : List α} (h : w.ownsRow B e R.n v l.length (cellsI (flat R l))) : RowAt R w v l := by
  have h0 := h
  rcases h.2 with ⟨rfl, hn⟩ | ⟨g, cap, cur, rfl, h1, h2, -, -, -, -⟩
  · exact .inl ⟨none, 0, rfl, List.eq_nil_of_length_eq_zero hn, fun _ => rfl⟩
  · exact .inr ⟨g, 0, cap, rfl, (Array.getElem?_eq_some_iff.1 h2).1, fun k hk => by rw [Nat.zero_add]; exact h0.cellAt k hk⟩

/-- As the walks want it: where the j-th record lies. -/
theorem RowAt.open_ {w : World} {v : Value} {l : List α} (h : RowAt R w v l) :
    ∃ a cap, v = .slice a l.length cap ∧ ∀ j (hj : j < l.length), ∃ g off, a = some ⟨g, off, none⟩ ∧ g < w.heap.size ∧ ∀ i, i < R.n → w.cell? ⟨g, off + j * R.n + i, none⟩ = ((R.ints l[j])[i]?).map (.int .i64 ·) := by
  rcases h with ⟨a, cap, rfl, rfl, -⟩ | ⟨g, off, cap, rfl, h2, h3⟩
  · exact ⟨a, cap, rfl, fun j hj => by simp at hj⟩
  · refine ⟨_, cap, rfl, fun j hj => ⟨g, off, rfl, h2, fun i hi => ?_⟩⟩
    rw [Nat.add_assoc, h3 (j * R.n + i) (by
      have : (j + 1) * R.n ≤ l.length * R.n := Nat.mul_le_mul_right _ hj
      rw [Nat.add_mul, Nat.one_mul] at this
      omega)]
    simp only [cellsI, List.getElem?_map]
    rw [flat_get R l j i hj hi]

/-- One record more. -/
theorem own_snocR {w : World} {B : Nat} {e : TypeId} {v : Value} {l : List α} {x : α} {cs : Array Value} (hcs : cs.toList = (R.ints x).map (.int .i64 ·)) (h : w.ownsRow B e R.n v (l.length + 1) (cellsI (flat R l) ++ cs.toList)) :
    w.ownsRow B e R.n v (l ++ [x]).length (cellsI (flat R (l ++ [x]))) := by
  have e1 : cellsI (flat R (l ++ [x])) = cellsI (flat R l) ++ cs.toList := by
    rw [hcs, flat_snoc]
    simp [cellsI]
  have e2 : (l ++ [x]).length = l.length + 1 := by simp
  rw [e1, e2]
  exact h

/-- A whole slice appended to a row that the call made. -/
theorem wpList_append_row {P : Program} {w : World} {B : Nat} {ops : Array Oper} {rest : List Oper} {o : Oper} {a : Act} {Q : Exit → Act → World → Prop} (hgd : o.guard = none) (s x : Operand) (t : TypeId)
    (ho : o.op = .call { callee := .builtin .append, args := #[s, x], argTypes := #[t, t] })
    (e : TypeId) (i : TypeInfo) (z : Value) (bytes : Nat) (ht : P.underlying t = some (.slice e)) (hi : P.info? e = some i) (hz : i.zero = some z)
    (hsize : i.size = R.n) (hby : i.bytes = bytes) (hzs : z.cells.size = R.n) (v vx : Value) (n : Nat) (xs : List Value) (l : List α) (hs : a.eval s = v) (hown : w.ownsRow B e R.n v n xs) (hx : a.eval x = vx) (hrow : RowAt R w vx l)
    (hB : B ≤ w.heap.size) (h63 : n + l.length ≤ maxLen) (hbytes : (n + l.length) * bytes ≤ 140737488355328)
    (h : ∀ v' w', w'.ownsRow B e R.n v' (n + l.length) (xs ++ cellsI (flat R l)) → Below B w w' → wpList P ops Q rest (a.put o.dst v') w') : wpList P ops Q (o :: rest) a w := by
  rcases hrow with ⟨ad, cap, rfl, rfl, hn⟩ | ⟨g, off, cap, rfl, h2, h3⟩
  · cases ad with
    | none =>
      have hc0 := hn rfl
      subst hc0
      refine wpList_append_own_none hgd s x t ho B e i R.n ht hi v n xs hs hown hx ?_
      refine h v w ?_ (Below.refl _ _)
      simpa [flat, cellsI] using hown
    | some ad =>
      refine wpList_append_own _ hgd s x t ho B e i z R.n bytes ht hi hz hsize hby hzs R.pos v n xs hs hown ad 0 cap [] hx (by simp) (by simp) (by simp) h63 hbytes hB ?_
      intro v' w' h1 h2 _
      exact h v' w' (by simpa [flat, cellsI] using h1) ((Below.refl B w).grown h2 hB (fun k hk => (hown.lt k hk).1))
  · refine wpList_append_own _ hgd s x t ho B e i z R.n bytes ht hi hz hsize hby hzs R.pos v n xs hs hown ⟨g, off, none⟩ l.length cap (cellsI (flat R l)) hx (by rw [cellsI_length, flat_length]) ?_ ?_ h63 hbytes hB ?_
    · intro j u hj
      simp only [Go.WideShapes.add_plain]
      have hlt : j < l.length * R.n := by
        have := (List.getElem?_eq_some_iff.1 hj).1
        rw [cellsI_length, flat_length] at this
        exact this
      rw [h3 j hlt, hj]
    · intro u hu
      simp only [cellsI, List.mem_map] at hu
      obtain ⟨y, _, rfl⟩ := hu
      rfl
    · intro v' w' h1 h2 _
      exact h v' w' h1 ((Below.refl B w).grown h2 hB (fun k hk => (hown.lt k hk).1))

/-- One element more; only the row's own block was written. -/
theorem wpList_append_oneG {P : Program} {w0 : World} {B : Nat} (hB : B ≤ w0.heap.size) {cs : Array Value} {ops : Array Oper} {rest : List Oper} {o : Oper} {a : Act} {Q : Exit → Act → World → Prop} (hgd : o.guard = none) (s x : Operand) (t : TypeId)
    (ho : o.op = .call { callee := .builtin .append, args := #[s, x], argTypes := #[t, t] })
    (e : TypeId) (i : TypeInfo) (z : Value) (size bytes : Nat) (ht : P.underlying t = some (.slice e)) (hi : P.info? e = some i) (hz : i.zero = some z)
    (hsize : i.size = size) (hby : i.bytes = bytes) (hzs : z.cells.size = size) (hsz : 0 < size) (hcs : cs.toList.length = size) (h1 : ∀ u ∈ cs.toList, u.oneCell' = true)
    (v : Value) (n : Nat) (xs : List Value) (hs : a.eval s = v) (hown : w0.ownsRow B e size v n xs)
    (c : Nat) (hx : a.eval x = .slice (some ⟨w0.heap.size, 0, none⟩) 1 c) (hb : n < 1099511627776) (hbytes : (n + 1) * bytes ≤ 140737488355328)
    (h : ∀ v' w', w'.ownsRow B e size v' (n + 1) (xs ++ cs.toList) → w0.grownBy w' v.ownBlock → wpList P ops Q rest (a.put o.dst v') w') :
    wpList P ops Q (o :: rest) a (w0.alloc (.cells cs e)) := by
  refine wpList_append_own _ hgd s x t ho B e i z size bytes ht hi hz hsize hby hzs (by assumption) v n xs hs (hown.alloc _) ⟨w0.heap.size, 0, none⟩ 1 c cs.toList hx (by omega) ?_ h1 ?_ hbytes ?_ ?_
  · intro j u hj
    simp only [Go.WideShapes.add_plain]
    have hh : (w0.alloc (.cells cs e)).heap[w0.heap.size]? = some (.cells cs e) := by
      show (w0.heap.push _)[w0.heap.size]? = _
      simp
    simp only [World.cell?, hh]
    simpa using hj
  · unfold maxLen; omega
  · simp; omega
  · intro v' w' h1 h2 _
    have hb : Below w0.heap.size w0 (w0.alloc (.cells cs e)) := (Below.refl _ _).alloc (Nat.le_refl _) _
    exact h v' w' h1 ⟨h2.os.trans hb.os, h2.tape.trans hb.tape, h2.output.trans hb.output, Nat.le_trans hb.size h2.size, fun k hk hne => (h2.block k (Nat.lt_of_lt_of_le hk hb.size) hne).trans (hb.block k hk)⟩

theorem grown_of_below {w w' : World} (hb : Below w.heap.size w w') (r : Option Nat) : w.grownBy w' r := ⟨hb.os, hb.tape, hb.output, hb.size, fun k hk _ => hb.block k hk⟩

theorem grown_then {a b c : World} {r : Option Nat} (h : a.grownBy b r) (k : b.grownBy c r) : a.grownBy c r :=
  ⟨k.os.trans h.os, k.tape.trans h.tape, k.output.trans h.output, Nat.le_trans h.size k.size, fun i hi hne => (k.block i (Nat.lt_of_lt_of_le hi h.size) hne).trans (h.block i hi hne)⟩

theorem below_grown {B : Nat} {w w' : World} {e : TypeId} {size n : Nat} {v : Value} {xs : List Value} (hown : w.ownsRow B e size v n xs) (hB : B ≤ w.heap.size) (h : w.grownBy w' v.ownBlock) : Below B w w' :=
  (Below.refl B w).grown h hB (fun k hk => (hown.lt k hk).1)

/-- A row of one type does not lie in a block of another. -/
theorem own_ne_blk {w : World} {B : Nat} {e : TypeId} {size n b : Nat} {v : Value} {xs cs : List Value} {t : TypeId} (hown : w.ownsRow B e size v n xs) (hb : Blk w b cs t) (ht : t ≠ e) : v.ownBlock ≠ some b := by
  rcases hown.2 with ⟨rfl, _⟩ | ⟨g, cap, cur, rfl, h1, h2, -⟩
  · intro h; cases h
  · intro h
    have hg : g = b := by simpa [Value.ownBlock] using h
    subst hg
    unfold Blk at hb
    rw [h2] at hb
    simp only [Option.some.injEq, Obj.cells.injEq] at hb
    exact ht hb.2.1.symm

theorem blk_grownR {w w' : World} {b : Nat} {r : Option Nat} {cs : List Value} {t : TypeId} (h : Blk w b cs t) (hg : w.grownBy w' r) (hne : r ≠ some b) : Blk w' b cs t := by
  have := hg.block b h.lt (fun e => hne e.symm)
  unfold Blk at *
  rw [this]
  exact h

theorem madeCells_all (z : Array Value) (x : Value) (hz : 0 < z.size) (h : ∀ i (hi : i < z.size), z[i] = x) (m : Nat) : (madeCells z m).toList = List.replicate m x := by
  apply List.ext_getElem
  · simp [madeCells]
  · intro j h1 h2
    have hlt : j % z.size < z.size := Nat.mod_lt _ hz
    simp only [madeCells, Array.toList_map, List.getElem_map, List.getElem_replicate, Array.toList_range, List.getElem_range]
    rw [getElem!_pos z _ hlt]
    exact h _ hlt

theorem half_set? (F : List Int) (t : Nat) (x : Int) (h : F[t]? = some x) : (half F t).set t x = half F (t + 1) := by
  obtain ⟨hlt, rfl⟩ := List.getElem?_eq_some_iff.1 h
  exact half_set F t hlt

theorem flat_nil (R : RI α) : cellsI (flat R ([] : List α)) = [] := rfl
end
end Go.Proofs.Ytfckfgabeeeccaa.Rc
