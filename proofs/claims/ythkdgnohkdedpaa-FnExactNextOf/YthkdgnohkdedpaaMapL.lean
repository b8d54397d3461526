/- Maps that a call made, whatever their keys and elements: looked up, stored into, an entry asked for and stored into; no condition. -/
import Derived.Maps.OwnSet
import Derived.Test.YthkdgnohkdedpaaBlk
namespace Go.Proofs.Ythkdgnohkdedpaa.Mp
open Go.RowKit P1 Go.MapKept
open Go.ChangeMaps (modify_eq_set setBlock heap_setBlock_same heap_setBlock_other)

/-- Keys of a map: how they are written, and what the look for one of them finds. -/
structure KT (P : Program) (k : TypeId) (α : Type) where
  kv : α → Value
  inj : ∀ x y, kv x = kv y → x = y
  check : ∀ (em : Bool) (w : World) (x : α), (Instr.checkKey em 10000 k (kv x)).run P w = .ok () w
  find : ∀ (w : World) (x : α) (es : List MapEntry), (∀ e ∈ es, ∃ y, e.key = kv y) →
    ((Instr.findKey k (kv x) es).run P w = .ok none w ∧ ∀ e ∈ es, e.key ≠ kv x) ∨ ∃ j e, (Instr.findKey k (kv x) es).run P w = .ok (some (j, e.val)) w ∧ es[j]? = some e ∧ e.key = kv x
  stays : ∀ (w : World) (x : α), (Instr.keyThatStays (kv x) (kv x)).run P w = .ok (kv x) w

/-- One more place of a function. -/
def upd {α : Type} [DecidableEq α] (f : α → Option Value) (x : α) (v : Value) (y : α) : Option Value := if y = x then some v else f y

section
variable {P : Program} {k : TypeId} {α : Type} (T : KT P k α)

/-- The entries of a map: no key twice, no stamp twice, and what they hold. -/
structure Ens (es : Array MapEntry) (clock : Nat) (f : α → Option Value) : Prop where
  stamped : Stamped es clock
  keys : ∀ e ∈ es.toList, ∃ y, e.key = T.kv y
  val : ∀ x v, f x = some v ↔ ∃ e ∈ es.toList, e.key = T.kv x ∧ e.val = v

/-- Block b is a map of at most n entries that holds f. -/
def MapR (w : World) (b n : Nat) (f : α → Option Value) : Prop := ∃ es clock, w.heap[b]? = some (.map es clock) ∧ Ens T es clock f ∧ es.size ≤ n

/-- .. and the entry with this stamp is that of x. -/
def MapE (w : World) (b n : Nat) (x : α) (st : Nat) (f : α → Option Value) : Prop := ∃ es clock, w.heap[b]? = some (.map es clock) ∧ Ens T es clock f ∧ es.size ≤ n ∧ ∃ e ∈ es.toList, e.key = T.kv x ∧ e.born = st

variable {T}

theorem mem_set_key {l : List MapEntry} {j : Nat} {e0 e1 : MapEntry} (hj : l[j]? = some e0) (hp : l.Pairwise (fun x y => x.key ≠ y.key)) (x : MapEntry) : x ∈ l.set j e1 ↔ x = e1 ∨ (x ∈ l ∧ x.key ≠ e0.key) := by
  obtain ⟨hlt, he0⟩ := List.getElem?_eq_some_iff.1 hj
  have hpw := List.pairwise_iff_getElem.1 hp
  constructor
  · intro h
    obtain ⟨i, hi, hx⟩ := List.getElem_of_mem h
    rw [List.getElem_set] at hx
    split at hx
    · exact .inl hx.symm
    · rename_i hne
      have hi' : i < l.length := by simpa using hi
      refine .inr ⟨hx ▸ List.getElem_mem hi', ?_⟩
      rw [← hx, ← he0]
      rcases Nat.lt_or_gt_of_ne hne with h1 | h1
      · exact fun e => hpw j i hlt hi' h1 e.symm
      · exact hpw i j hi' hlt h1
  · rintro (rfl | ⟨h1, h2⟩)
    · exact List.mem_iff_getElem.2 ⟨j, by simpa using hlt, by simp⟩
    · obtain ⟨i, hi, hx⟩ := List.getElem_of_mem h1
      have hne : j ≠ i := by
        rintro rfl
        apply h2
        rw [← hx, ← he0]
      exact List.mem_iff_getElem.2 ⟨i, by simpa using hi, by rw [List.getElem_set_ne hne]; exact hx⟩

theorem Ens.push [DecidableEq α] {es : Array MapEntry} {clock : Nat} {f : α → Option Value} (E : Ens T es clock f) (x : α) (v : Value) (hn : ∀ e ∈ es.toList, e.key ≠ T.kv x) : Ens T (es.push ⟨T.kv x, v, clock⟩) (clock + 1) (upd f x v) := by
  refine ⟨stamped_push E.stamped hn, ?_, ?_⟩
  · intro e he
    simp only [Array.toList_push, List.mem_append, List.mem_singleton] at he
    rcases he with he | rfl
    · exact E.keys e he
    · exact ⟨x, rfl⟩
  · intro y u
    simp only [Array.toList_push, List.mem_append, List.mem_singleton]
    unfold upd
    by_cases hy : y = x
    · subst hy
      rw [if_pos rfl]
      constructor
      · intro h
        exact ⟨⟨T.kv y, v, clock⟩, .inr rfl, rfl, by simpa using h⟩
      · rintro ⟨e, he | rfl, h1, h2⟩
        · exact absurd h1 (hn e he)
        · simpa using h2
    · rw [if_neg hy, E.val]
      constructor
      · rintro ⟨e, he, h1, h2⟩
        exact ⟨e, .inl he, h1, h2⟩
      · rintro ⟨e, he | rfl, h1, h2⟩
        · exact ⟨e, he, h1, h2⟩
        · exact absurd (T.inj _ _ h1.symm) hy

theorem Ens.set [DecidableEq α] {es : Array MapEntry} {clock : Nat} {f : α → Option Value} (E : Ens T es clock f) (x : α) (v : Value) {j : Nat} {e0 : MapEntry} (hj : es.toList[j]? = some e0) (hk : e0.key = T.kv x) (g : MapEntry → MapEntry) (hb : ∀ e, (g e).born = e.born) (hgk : (g e0).key = T.kv x) (hgv : (g e0).val = v) :
    Ens T (es.modify j g) clock (upd f x v) ∧ (es.modify j g).size = es.size ∧ g e0 ∈ (es.modify j g).toList := by
  have hp := ((stamped_iff es clock).1 E.stamped).2.2
  have hlist : (es.modify j g).toList = es.toList.set j (g e0) := by rw [Array.toList_modify, modify_eq_set _ _ _ _ hj]
  have hjs : es[j]? = some e0 := by simpa using hj
  refine ⟨⟨stamped_modify E.stamped _ _ (fun e _ => hb e) (fun e _ he => ?_), ?_, ?_⟩, by simp, ?_⟩
  · rw [hjs] at he
    cases he
    rw [hgk, hk]
  · intro e he
    rw [hlist] at he
    rcases (mem_set_key hj hp e).1 he with rfl | ⟨h1, _⟩
    · exact ⟨x, hgk⟩
    · exact E.keys e h1
  · intro y u
    rw [hlist]
    unfold upd
    by_cases hy : y = x
    · subst hy
      rw [if_pos rfl]
      constructor
      · intro h
        exact ⟨g e0, (mem_set_key hj hp _).2 (.inl rfl), hgk, by rw [hgv]; simpa using h⟩
      · rintro ⟨e, he, h1, h2⟩
        rcases (mem_set_key hj hp e).1 he with rfl | ⟨_, h3⟩
        · rw [← h2, hgv]
        · exact absurd (h1.trans hk.symm) h3
    · rw [if_neg hy, E.val]
      constructor
      · rintro ⟨e, he, h1, h2⟩
        refine ⟨e, (mem_set_key hj hp e).2 (.inr ⟨he, ?_⟩), h1, h2⟩
        rw [h1, hk]
        exact fun h => hy (T.inj _ _ h)
      · rintro ⟨e, he, h1, h2⟩
        rcases (mem_set_key hj hp e).1 he with rfl | ⟨h3, _⟩
        · rw [hgk] at h1
          exact absurd (T.inj _ _ h1.symm) hy
        · exact ⟨e, h3, h1, h2⟩
  · rw [hlist]
    exact (mem_set_key hj hp _).2 (.inl rfl)

theorem Ens.none_of {es : Array MapEntry} {clock : Nat} {f : α → Option Value} (E : Ens T es clock f) {x : α} (hn : ∀ e ∈ es.toList, e.key ≠ T.kv x) : f x = none := by
  cases h : f x with
  | none => rfl
  | some v =>
    obtain ⟨e, he, h1, _⟩ := (E.val x v).1 h
    exact absurd h1 (hn e he)

theorem Ens.congr {es : Array MapEntry} {clock : Nat} {f g : α → Option Value} (E : Ens T es clock f) (h : ∀ x, g x = f x) : Ens T es clock g := ⟨E.stamped, E.keys, fun x v => by rw [h x]; exact E.val x v⟩

theorem MapR.congr {w : World} {b n : Nat} {f g : α → Option Value} (H : MapR T w b n f) (h : ∀ x, g x = f x) : MapR T w b n g := by
  obtain ⟨es, clock, h1, h2, h3⟩ := H
  exact ⟨es, clock, h1, h2.congr h, h3⟩

theorem MapR.mono {w : World} {b n m : Nat} {f : α → Option Value} (H : MapR T w b n f) (h : n ≤ m) : MapR T w b m f := by
  obtain ⟨es, clock, h1, h2, h3⟩ := H
  exact ⟨es, clock, h1, h2, by omega⟩

theorem MapR.lt {w : World} {b n : Nat} {f : α → Option Value} (H : MapR T w b n f) : b < w.heap.size := by
  obtain ⟨es, clock, h1, _⟩ := H
  exact (Array.getElem?_eq_some_iff.1 h1).1

theorem MapR.at_ {w w' : World} {b n : Nat} {f : α → Option Value} (H : MapR T w b n f) (h : w'.heap[b]? = w.heap[b]?) : MapR T w' b n f := by
  obtain ⟨es, clock, h1, h2⟩ := H
  exact ⟨es, clock, h.trans h1, h2⟩

theorem MapE.at_ {w w' : World} {b n st : Nat} {x : α} {f : α → Option Value} (H : MapE T w b n x st f) (h : w'.heap[b]? = w.heap[b]?) : MapE T w' b n x st f := by
  obtain ⟨es, clock, h1, h2⟩ := H
  exact ⟨es, clock, h.trans h1, h2⟩

theorem MapE.lt {w : World} {b n st : Nat} {x : α} {f : α → Option Value} (H : MapE T w b n x st f) : b < w.heap.size := by
  obtain ⟨es, clock, h1, _⟩ := H
  exact (Array.getElem?_eq_some_iff.1 h1).1

/-- A block of cells is no map. -/
theorem MapR.ne_blk {w : World} {b n c : Nat} {f : α → Option Value} (H : MapR T w b n f) {cs : Array Value} {t : TypeId} {fr : Nat × Nat} (h : w.heap[c]? = some (.cells cs t fr)) : c ≠ b := by
  rintro rfl
  obtain ⟨es, clock, h1, _⟩ := H
  rw [h1] at h
  cases h

theorem MapR.made (w : World) : MapR T (w.alloc (.map #[] 0)) w.heap.size 0 (fun _ => none) :=
  ⟨#[], 0, (MapKept.heap_alloc w _).1, ⟨stamped_empty 0, by simp, by simp⟩, Nat.le_refl _⟩

theorem MapR.look {w : World} {b n : Nat} {f : α → Option Value} {t e : TypeId} (H : MapR T w b n f) (ht : P.underlying t = some (.map k e)) {z : Value} (hz : (zeroValue e).run P w = .ok z w) (c : Bool) (x : α) :
    (Instr.lookup t (.map (some b)) (T.kv x) c).run P w = .ok (if c then .tuple #[(f x).getD z, .bool (f x).isSome] else (f x).getD z) w := by
  obtain ⟨es, clock, hb, E, _⟩ := H
  rcases T.find w x es.toList E.keys with ⟨h1, h2⟩ | ⟨j, e0, h1, h2, h3⟩
  · rw [E.none_of h2]
    simp [Instr.lookup, run_underlying ht, MapKept.run_getObj_map hb, T.check, h1, hz, Result.andThen]
  · rw [(E.val x e0.val).2 ⟨e0, List.mem_of_getElem? h2, h3, rfl⟩]
    simp [Instr.lookup, run_underlying ht, MapKept.run_getObj_map hb, T.check, h1, Result.andThen]

theorem grown_set {w : World} {b : Nat} {es : Array MapEntry} {clock : Nat} (hb : w.heap[b]? = some (.map es clock)) (o : Obj) : w.grownBy (setBlock w b o) (some b) :=
  ⟨rfl, rfl, rfl, by simp [setBlock], fun i _ hi => heap_setBlock_other hb _ (fun e => hi (by rw [e]))⟩

theorem MapR.store [DecidableEq α] {w : World} {b n : Nat} {f : α → Option Value} {t e : TypeId} (H : MapR T w b n f) (ht : P.underlying t = some (.map k e)) (x : α) (v : Value) :
    ∃ w', (Instr.mapUpdate t (.map (some b)) (T.kv x) v).run P w = .ok () w' ∧ MapR T w' b (n + 1) (upd f x v) ∧ w.grownBy w' (some b) ∧ w'.heap.size = w.heap.size := by
  obtain ⟨es, clock, hb, E, hs⟩ := H
  rcases T.find w x es.toList E.keys with ⟨h1, h2⟩ | ⟨j, e0, h1, h2, h3⟩
  · refine ⟨setBlock w b (.map (es.push ⟨T.kv x, v, clock⟩) (clock + 1)), ?_, ⟨_, _, heap_setBlock_same hb _, E.push x v h2, by simp; omega⟩, grown_set hb _, by simp [setBlock]⟩
    simp [Instr.mapUpdate, run_underlying ht, MapKept.run_getObj_map hb, T.check, h1, MapKept.run_setObj_map _ hb, Result.andThen, setBlock]
  · have hj : es[j]? = some e0 := by simpa using h2
    obtain ⟨E', h4, _⟩ := E.set x v h2 h3 (fun e' => { e' with key := T.kv x, val := v }) (fun _ => rfl) rfl rfl
    refine ⟨setBlock w b (.map (es.modify j (fun e' => { e' with key := T.kv x, val := v })) clock), ?_, ⟨_, _, heap_setBlock_same hb _, E', by omega⟩, grown_set hb _, by simp [setBlock]⟩
    simp [Instr.mapUpdate, run_underlying ht, MapKept.run_getObj_map hb, T.check, h1, hj, h3, T.stays w x, MapKept.run_setObj_map _ hb, Result.andThen, setBlock]

theorem MapR.entry [DecidableEq α] {w : World} {b n : Nat} {f : α → Option Value} {t e : TypeId} (H : MapR T w b n f) (ht : P.underlying t = some (.map k e)) {z : Value} (hz : (zeroValue e).run P w = .ok z w) (x : α) :
    ∃ st w', (Instr.mapEntry t (.map (some b)) (T.kv x)).run P w = .ok (.tuple #[(f x).getD z, goInt (st : Nat)]) w' ∧ MapE T w' b (n + 1) x st (upd f x ((f x).getD z)) ∧ w.grownBy w' (some b) ∧ w'.heap.size = w.heap.size := by
  obtain ⟨es, clock, hb, E, hs⟩ := H
  rcases T.find w x es.toList E.keys with ⟨h1, h2⟩ | ⟨j, e0, h1, h2, h3⟩
  · rw [E.none_of h2]
    refine ⟨clock, setBlock w b (.map (es.push ⟨T.kv x, z, clock⟩) (clock + 1)), ?_, ⟨_, _, heap_setBlock_same hb _, E.push x z h2, by simp; omega, ⟨T.kv x, z, clock⟩, by simp, rfl, rfl⟩, grown_set hb _, by simp [setBlock]⟩
    simp [Instr.mapEntry, run_underlying ht, MapKept.run_getObj_map hb, T.check, h1, hz, MapKept.run_setObj_map _ hb, Result.andThen, setBlock]
  · have hj : es[j]? = some e0 := by simpa using h2
    rw [(E.val x e0.val).2 ⟨e0, List.mem_of_getElem? h2, h3, rfl⟩]
    obtain ⟨E', h4, h5⟩ := E.set x e0.val h2 h3 (fun e' => { e' with key := T.kv x }) (fun _ => rfl) rfl rfl
    refine ⟨e0.born, setBlock w b (.map (es.modify j (fun e' => { e' with key := T.kv x })) clock), ?_, ⟨_, _, heap_setBlock_same hb _, E', by omega, _, h5, rfl, rfl⟩, grown_set hb _, by simp [setBlock]⟩
    simp [Instr.mapEntry, run_underlying ht, MapKept.run_getObj_map hb, T.check, h1, hj, h3, T.stays w x, MapKept.run_setObj_map _ hb, Result.andThen, setBlock]

theorem MapE.store [DecidableEq α] {w : World} {b n st : Nat} {f : α → Option Value} {x : α} (H : MapE T w b n x st f) (t : TypeId) (v : Value) :
    ∃ w', (Instr.entryStore t (.map (some b)) (goInt (st : Nat)) v).run P w = .ok () w' ∧ MapR T w' b n (upd f x v) ∧ w.grownBy w' (some b) ∧ w'.heap.size = w.heap.size := by
  obtain ⟨es, clock, hb, E, hs, e, he, hk, hst⟩ := H
  cases hf : es.findIdx? (fun e => (e.born : Int) == (st : Int)) with
  | none =>
    exfalso
    rw [Array.findIdx?_eq_none_iff] at hf
    have := hf e (by simpa using he)
    simp [hst] at this
  | some j =>
    obtain ⟨hlt, hbj, _⟩ := Array.findIdx?_eq_some_iff_getElem.1 hf
    have hbj' : es[j].born = st := by
      have h0 : (es[j].born : Int) = (st : Int) := by simpa using hbj
      omega
    have hj : es.toList[j]? = some es[j] := by simp
    have hkj : es[j].key = T.kv x := by
      have hnd := ((stamped_iff es clock).1 E.stamped).2.1
      obtain ⟨i, hi, hx⟩ := List.getElem_of_mem he
      have hi' : i < es.size := by simpa using hi
      by_cases hij : i = j
      · subst hij
        rw [← hk, ← hx]
        simp
      · exfalso
        have hpw := List.pairwise_iff_getElem.1 hnd
        have e1 : (es.toList.map (·.born))[i]'(by simpa using hi) = st := by simp only [List.getElem_map]; rw [hx, hst]
        have e2 : (es.toList.map (·.born))[j]'(by simpa using hlt) = st := by simpa using hbj'
        rcases Nat.lt_or_gt_of_ne hij with h1 | h1
        · exact hpw i j _ _ h1 (e1.trans e2.symm)
        · exact hpw j i _ _ h1 (e2.trans e1.symm)
    obtain ⟨E', h4, _⟩ := E.set x v hj hkj (fun e' => { e' with val := v }) (fun _ => rfl) hkj rfl
    refine ⟨setBlock w b (.map (es.modify j (fun e' => { e' with val := v })) clock), ?_, ⟨_, _, heap_setBlock_same hb _, E', by omega⟩, grown_set hb _, by simp [setBlock]⟩
    simp [Instr.entryStore, MapKept.run_getObj_map hb, asInt, asIntOf, goInt, hf, MapKept.run_setObj_map _ hb, Result.andThen, setBlock]

end
end Go.Proofs.Ythkdgnohkdedpaa.Mp
