/- A map that is ranged over while entries are struck out of it; no condition. -/
import Derived.Test.YthkdgnohkdedpaaMapL
import Derived.Maps.RangeWalk
namespace Go.Proofs.Ythkdgnohkdedpaa.Mp
open Go.RowKit P1 Go.MapKept
open Go.ChangeMaps (modify_eq_set setBlock heap_setBlock_same heap_setBlock_other)

/-- One place less of a function. -/
def del {α : Type} [DecidableEq α] (f : α → Option Value) (x : α) (y : α) : Option Value := if y = x then none else f y

section
variable {P : Program} {k : TypeId} {α : Type} (T : KT P k α)

/-- Block b is a map of at most n entries that holds f; block r goes over it, and has come to the keys of S at most; cnt are still to come. -/
def MapW (w : World) (b r n : Nat) (f : α → Option Value) (S : α → Prop) (cnt : Nat) : Prop :=
  ∃ es clock since seen c0, w.heap[b]? = some (.map es clock) ∧ Ens T es clock f ∧ es.size ≤ n ∧ w.heap[r]? = some (.mapIter (some b) since seen c0) ∧ (∀ x ∈ es.toList, x.born < since) ∧ since ≤ c0 ∧ since ≤ clock ∧ (leftOf es seen).size = cnt ∧
    ∀ e ∈ es.toList, seen.contains e.born = true → ∀ x, e.key = T.kv x → S x

variable {T} {w : World} {b r n cnt : Nat} {f : α → Option Value} {S : α → Prop}

theorem MapW.mapR (h : MapW T w b r n f S cnt) : MapR T w b n f := by
  obtain ⟨es, clock, _, _, _, h1, h2, h3, _⟩ := h
  exact ⟨es, clock, h1, h2, h3⟩

theorem MapW.left (h : MapW T w b r n f S cnt) : w.rangeLeft b r = cnt := by
  obtain ⟨es, clock, since, seen, c0, h1, _, _, h4, _, _, _, h8, _⟩ := h
  simp only [World.rangeLeft, h1, h4]
  exact h8

theorem MapW.ne (h : MapW T w b r n f S cnt) : r ≠ b := by
  obtain ⟨es, clock, since, seen, c0, h1, _, _, h4, _⟩ := h
  rintro rfl
  rw [h1] at h4
  cases h4

theorem MapW.lt (h : MapW T w b r n f S cnt) : r < w.heap.size := by
  obtain ⟨es, clock, since, seen, c0, _, _, _, h4, _⟩ := h
  exact (Array.getElem?_eq_some_iff.1 h4).1

theorem MapW.imp (h : MapW T w b r n f S cnt) {S' : α → Prop} (hs : ∀ x, S x → S' x) : MapW T w b r n f S' cnt := by
  obtain ⟨es, clock, since, seen, c0, h1, h2, h3, h4, h5, h6, h7, h8, h9⟩ := h
  exact ⟨es, clock, since, seen, c0, h1, h2, h3, h4, h5, h6, h7, h8, fun e he hc x hx => hs x (h9 e he hc x hx)⟩

/-- It begins. -/
theorem MapR.range {t e : TypeId} (h : MapR T w b n f) (ht : P.underlying t = some (.map k e)) :
    ∃ w' cnt, (Instr.range t (.map (some b))).run P w = .ok (.pointer (some ⟨w.heap.size, 0, none⟩)) w' ∧ MapW T w' b w.heap.size n f (fun _ => False) cnt ∧ w.grownBy w' none ∧ w'.heap.size = w.heap.size + 1 := by
  have hlt := h.lt
  obtain ⟨es, clock, hb, E, hs⟩ := h
  refine ⟨_, _, run_range_map w t k e b es clock ht hb, ⟨es, clock, clock, #[], clock, ((MapKept.heap_alloc w _).2 b hlt).trans hb, E, hs, (MapKept.heap_alloc w _).1, E.stamped.1, Nat.le_refl _, Nat.le_refl _, rfl, fun e _ hc => by simp at hc⟩, World.grownBy_alloc w _ none, by simp⟩

/-- One step: it is over, and all have come; or one comes. -/
theorem MapW.next (h : MapW T w b r n f S cnt) (ty : TypeId) :
    ((∀ x v, f x = some v → S x) ∧ (Instr.next (.pointer (some ⟨r, 0, none⟩)) false ty).run P w = .ok (.tuple #[.bool false]) w) ∨
    ∃ x v w' cnt', f x = some v ∧ (Instr.next (.pointer (some ⟨r, 0, none⟩)) false ty).run P w = .ok (.tuple #[.bool true, T.kv x, v]) w' ∧ MapW T w' b r n f (fun y => S y ∨ y = x) cnt' ∧ cnt' < cnt ∧ w.grownBy w' (some r) ∧ w'.heap.size = w.heap.size ∧
      (Instr.entry (.pointer (some ⟨r, 0, none⟩))).run P w' = .ok (.tuple #[T.kv x, v]) w' := by
  have hne := h.ne
  obtain ⟨es, clock, since, seen, c0, hb, E, hs, hr, hold, hsc, hsk, rfl, hS⟩ := h
  rcases run_next_at (P := P) w ty r b since c0 seen es clock hr hb hold hsc with ⟨h0, hrun⟩ | ⟨e, he, w1, hal, hrun⟩
  · refine .inl ⟨fun x v hx => ?_, hrun⟩
    obtain ⟨e, he, h1, _⟩ := (E.val x v).1 hx
    exact hS e he (all_seen es seen h0 e he) x h1
  · obtain ⟨hem, hes⟩ := mem_left he
    obtain ⟨x, hx⟩ := E.keys e hem
    have hr1 : w1.heap[r]? = some (.mapIter (some b) since seen c0) := by rcases hal with rfl | rfl <;> exact hr
    have hb1 : w1.heap[b]? = some (.map es clock) := by rcases hal with rfl | rfl <;> exact hb
    have hset := heap_set (o' := .mapIter (some b) since (seen.push e.born) clock) hr1
    have hb' : (setBlock w1 r (.mapIter (some b) since (seen.push e.born) clock)).heap[b]? = some (.map es clock) := (hset.2 b (fun e1 => hne e1.symm)).trans hb1
    have hst := (stamped_iff es clock).1 E.stamped
    rw [hx] at hrun
    have hen := run_entry_at (P := P) _ r b since seen es clock e hset.1 hb' hem hst.2.1
    rw [hx] at hen
    refine .inr ⟨x, e.val, _, _, (E.val x e.val).2 ⟨e, hem, hx, rfl⟩, hrun, ⟨es, clock, since, seen.push e.born, clock, hb', E, hs, hset.1, hold, hsk, hsk, rfl, fun e' he' hc y hy => ?_⟩, left_shrinks es seen e he, ?_, ?_, hen⟩
    · rw [contains_push] at hc
      rcases Bool.or_eq_true _ _ ▸ hc with h1 | h1
      · exact .inl (hS e' he' h1 y hy)
      · have hbe : e'.born = e.born := by simpa using h1
        obtain rfl := born_inj hst.2.1 he' hem hbe
        exact .inr (T.inj _ _ (hy.symm.trans hx))
    · rcases hal with rfl | rfl <;> exact ⟨rfl, rfl, rfl, by simp [setBlock], fun i _ hi => hset.2 i (fun e1 => hi (by rw [e1]))⟩
    · rcases hal with rfl | rfl <;> simp [setBlock]

/-- An entry is struck out. -/
theorem MapW.drop [DecidableEq α] {t e : TypeId} (h : MapW T w b r n f S cnt) (ht : P.underlying t = some (.map k e)) (x : α) (ty : TypeId) :
    ∃ w' cnt', (Builtin.delete_ #[t, k] ty #[.map (some b), T.kv x]).run P w = .ok (.tuple #[]) w' ∧ MapW T w' b r n (del f x) S cnt' ∧ cnt' ≤ cnt ∧ w.grownBy w' (some b) ∧ w'.heap.size = w.heap.size := by
  have hne := h.ne
  obtain ⟨es, clock, since, seen, c0, hb, E, hs, hr, hold, hsc, hsk, rfl, hS⟩ := h
  have hst := (stamped_iff es clock).1 E.stamped
  rcases T.find w x es.toList E.keys with ⟨h1, h2⟩ | ⟨j, e0, h1, h2, h3⟩
  · refine ⟨setBlock w b (.map es clock), _, ?_, ⟨es, clock, since, seen, c0, heap_setBlock_same hb _, E.congr (fun y => ?_), hs, (heap_setBlock_other hb _ hne).trans hr, hold, hsc, hsk, rfl, hS⟩, Nat.le_refl _, grown_set hb _, by simp [setBlock]⟩
    · simp [Builtin.delete_, run_underlying ht, MapKept.run_getObj_map hb, T.check, h1, MapKept.run_setObj_map _ hb, Result.andThen, setBlock]
    · unfold del
      by_cases hy : y = x
      · subst hy
        rw [if_pos rfl, E.none_of h2]
      · rw [if_neg hy]
  · have hjl : j < es.toList.length := (List.getElem?_eq_some_iff.1 h2).1
    have hjs : j < es.size := by simpa using hjl
    have hsub : (es.eraseIdxIfInBounds j).toList = es.toList.eraseIdx j := by
      unfold Array.eraseIdxIfInBounds
      rw [dif_pos hjs]
      simp
    have hmem : ∀ y, y ∈ (es.eraseIdxIfInBounds j).toList ↔ (y ∈ es.toList ∧ y.key ≠ T.kv x) := fun y => by
      rw [hsub, List.mem_eraseIdx_iff_getElem?]
      constructor
      · rintro ⟨i, hij, hi⟩
        refine ⟨List.mem_of_getElem? hi, fun e1 => ?_⟩
        obtain ⟨hil, hiy⟩ := List.getElem?_eq_some_iff.1 hi
        obtain ⟨_, hje⟩ := List.getElem?_eq_some_iff.1 h2
        have hpw := List.pairwise_iff_getElem.1 hst.2.2
        rcases Nat.lt_or_gt_of_ne hij with h4 | h4
        · exact hpw i j hil hjl h4 (by rw [hiy, hje, e1, h3])
        · exact hpw j i hjl hil h4 (by rw [hiy, hje, e1, h3])
      · rintro ⟨hy, hne'⟩
        obtain ⟨i, hi⟩ := List.getElem?_of_mem hy
        refine ⟨i, fun e1 => hne' ?_, hi⟩
        rw [e1, h2] at hi
        cases hi
        exact h3
    refine ⟨setBlock w b (.map (es.eraseIdxIfInBounds j) clock), _, ?_, ⟨es.eraseIdxIfInBounds j, clock, since, seen, c0, heap_setBlock_same hb _, ⟨stamped_erase E.stamped j, fun y hy => E.keys y ((hmem y).1 hy).1, fun y v => ?_⟩, Nat.le_trans (MapFrom.size_erase es j) hs, (heap_setBlock_other hb _ hne).trans hr, fun y hy => hold y ((hmem y).1 hy).1, hsc, hsk, rfl, fun y hy => hS y ((hmem y).1 hy).1⟩, ?_, grown_set hb _, by simp [setBlock]⟩
    · simp [Builtin.delete_, run_underlying ht, MapKept.run_getObj_map hb, T.check, h1, MapKept.run_setObj_map _ hb, Result.andThen, setBlock]
    · unfold del
      by_cases hy : y = x
      · subst hy
        rw [if_pos rfl]
        constructor
        · intro h; cases h
        · rintro ⟨e', he', h4, _⟩
          exact absurd h4 ((hmem e').1 he').2
      · rw [if_neg hy, E.val]
        constructor
        · rintro ⟨e', he', h4, h5⟩
          exact ⟨e', (hmem e').2 ⟨he', fun h6 => hy (T.inj _ _ (h4.symm.trans h6))⟩, h4, h5⟩
        · rintro ⟨e', he', h4, h5⟩
          exact ⟨e', ((hmem e').1 he').1, h4, h5⟩
    · have e1 : ∀ a : Array MapEntry, (leftOf a seen).size = (a.toList.filter fun e => !seen.contains e.born).length := fun a => by
        unfold leftOf
        rw [← Array.toList_filter, Array.length_toList]
      rw [e1, e1, hsub]
      exact ((List.eraseIdx_sublist _ _).filter _).length_le

end

section
variable {P : Program} {k : TypeId} {α : Type} {T : KT P k α} {b r n cnt : Nat} {f : α → Option Value} {S : α → Prop} {ops : Array Oper} {rest : List Oper} {o : Oper} {a : Act} {Q : Exit → Act → World → Prop}

theorem wpList_next_mapW (w : World) (hg : o.guard = none) (it : Operand) (hop : o.op = Op.next it false) (hit : a.eval it = .pointer (some ⟨r, 0, none⟩)) (h : MapW T w b r n f S cnt)
    (hDone : (∀ x v, f x = some v → S x) → wpList P ops Q rest (a.put o.dst (.tuple #[.bool false])) w)
    (hMore : ∀ x v w' cnt', f x = some v → MapW T w' b r n f (fun y => S y ∨ y = x) cnt' → cnt' < cnt → w.grownBy w' (some r) → w'.heap.size = w.heap.size → (Instr.entry (.pointer (some ⟨r, 0, none⟩))).run P w' = .ok (.tuple #[T.kv x, v]) w' → wpList P ops Q rest (a.put o.dst (.tuple #[.bool true, T.kv x, v])) w') :
    wpList P ops Q (o :: rest) a w := by
  refine wpList_plain hg fun K' hK' => ?_
  unfold Oper.wp
  rcases h.next o.type with ⟨hl, hrun⟩ | ⟨x, v, w', cnt', hf, hrun, hm, hlt, hgr, hsz, hen⟩
  · simp [execOp, hop, hit, hrun, Result.andThen]
    exact hK' _ _ (hDone hl)
  · simp [execOp, hop, hit, hrun, Result.andThen]
    exact hK' _ _ (hMore x v w' cnt' hf hm hlt hgr hsz hen)

theorem wpList_delete_mapW [DecidableEq α] (w : World) (hg : o.guard = none) (m x : Operand) (t : TypeId) (hop : o.op = Op.call { callee := Callee.builtin Builtin.delete, args := #[m, x], argTypes := #[t, k] })
    (e : TypeId) (ht : P.underlying t = some (.map k e)) (hm : a.eval m = .map (some b)) (h : MapW T w b r n f S cnt) (y : α) (hx : a.eval x = T.kv y)
    (hK : ∀ w' cnt', MapW T w' b r n (del f y) S cnt' → cnt' ≤ cnt → w.grownBy w' (some b) → w'.heap.size = w.heap.size → wpList P ops Q rest (a.put o.dst (.tuple #[])) w') :
    wpList P ops Q (o :: rest) a w := by
  refine wpList_plain hg fun K' hK' => ?_
  obtain ⟨w', cnt', hrun, r1, r2, r3, r4⟩ := h.drop ht y o.type
  unfold Oper.wp
  simp [execOp, hop, resolve, invoke, builtin, hm, hx, hrun, Result.andThen]
  exact hK' _ _ (hK w' cnt' r1 r2 r3 r4)
end
end Go.Proofs.Ythkdgnohkdedpaa.Mp
