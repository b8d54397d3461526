/- A row of bytes of the call's own, whatever mark it bears behind its cells: one byte appended, read as a text; condition: shorter than 2^40. -/
import Derived.Test.YtflicklgmhgpiaaDoorKit3
import Derived.ArgAppend
namespace Go.Proofs.YtflicklgmhgpiaaDoor.P1
open Go.RowKit

/-- The value v is a row of bytes of the call's own (from block B on) that holds l, with room behind it. -/
def RowB (B : Nat) (w : World) (v : Value) (l : List UInt8) : Prop :=
  ∃ g cap, v = .slice (some ⟨g, 0, none⟩) l.length cap ∧ B ≤ g ∧ g < w.heap.size ∧ l.length ≤ cap ∧ (∀ j (hj : j < l.length), w.cell? ⟨g, j, none⟩ = some (.int .u8 (l[j].toNat : Int))) ∧
    (∀ j, j < cap → (w.cell? ⟨g, j, none⟩).isSome = true) ∧ ∀ j, j < cap → w.frozen? ⟨g, j, none⟩ = false

theorem RowB.below {B C : Nat} {w w' : World} {v : Value} {l : List UInt8} (h : RowB B w v l) (hb : Below C w w') (hC : w.heap.size ≤ C) : RowB B w' v l := by
  obtain ⟨g, cap, h1, h2, h3, h4, h5, h6, h7⟩ := h
  have hc : ∀ j, w'.cell? ⟨g, j, none⟩ = w.cell? ⟨g, j, none⟩ := fun j => hb.cell (p := ⟨g, j, none⟩) (by show g < C; omega)
  have hf : ∀ j, w'.frozen? ⟨g, j, none⟩ = w.frozen? ⟨g, j, none⟩ := fun j => hb.frozen (p := ⟨g, j, none⟩) (by show g < C; omega)
  exact ⟨g, cap, h1, h2, Nat.lt_of_lt_of_le h3 hb.size, h4, fun j hj => by rw [hc]; exact h5 j hj, fun j hj => by rw [hc]; exact h6 j hj, fun j hj => by rw [hf]; exact h7 j hj⟩

theorem RowB.of_own {B : Nat} {w : World} {e : TypeId} {v : Value} {l : List UInt8} (h : w.ownsRow B e 1 v l.length (cellsB l)) (hl : 0 < l.length) : RowB B w v l := by
  have h0 := h
  rcases h.2 with ⟨_, hn⟩ | ⟨g, cap, cur, rfl, h1, h2, h3, h4, h5, h6⟩
  · omega
  · refine ⟨g, cap, rfl, h1, (Array.getElem?_eq_some_iff.1 h2).1, h3, fun j hj => ?_, fun j hj => ?_, fun j _ => ?_⟩
    · rw [h0.cellAt j (by omega)]; simp [cellsB, hj]
    · simp only [World.cell?, h2]
      have hlt : j < cur.size := by omega
      simp [hlt]
    · simp [World.frozen?, h2]

theorem RowB.of_text (w : World) {P : Program} (src dst e : TypeId) (t : List UInt8) (hs : P.underlying src = some .string) (hd : P.underlying dst = some (.slice e)) (he : P.underlying e = some (.int .u8)) :
    ∃ v w', (convert src dst (.string ⟨t.toArray⟩)).run P w = .ok v w' ∧ RowB w.heap.size w' v t ∧ Below w.heap.size w w' := by
  have h := run_bytes_of_string (P := P) w src dst e ⟨t.toArray⟩ hs hd he
  have hsz : (⟨t.toArray⟩ : ByteArray).size = t.length := rfl
  rw [hsz] at h
  have hge := grownCap_ge w t.length 0 e
  have hh : ∀ o, (w.drew.alloc o).heap[w.heap.size]? = some o := fun o => by
    show (w.heap.push o)[w.heap.size]? = _
    simp
  have hbs : (bytesRow ⟨t.toArray⟩ (grownCap w t.length 0 e)).size = grownCap w t.length 0 e := by
    simp only [bytesRow, Array.size_append, Array.size_map, Array.size_replicate, hsz]
    show t.length + (grownCap w t.length 0 e - t.length) = _
    omega
  refine ⟨_, _, h, ⟨w.heap.size, grownCap w t.length 0 e, rfl, Nat.le_refl _, ?_, hge, ?_, ?_, ?_⟩, ((Below.refl _ _).drew).alloc (Nat.le_refl _) _⟩
  · show w.heap.size < (w.heap.push _).size
    simp
  · intro j hj
    simp only [World.cell?]
    rw [hh]
    simp only [bytesRow]
    rw [if_neg (by decide), Array.getElem?_append_left (by simpa using hj)]
    simp [hj]
  · intro j hj
    simp only [World.cell?]
    rw [hh]
    have hlt : j < (bytesRow ⟨t.toArray⟩ (grownCap w t.length 0 e)).size := by omega
    simp [hlt]
  · intro j hj
    simp only [World.frozen?]
    rw [hh]
    simp only [hbs]
    simp
    omega

theorem RowB.text {P : Program} {B : Nat} {w : World} {v : Value} {l : List UInt8} (h : RowB B w v l) (t d e : TypeId)
    (ht : P.underlying t = some (.slice e)) (he : P.underlying e = some (.int .u8)) (hd : P.underlying d = some .string) : (convert t d v).run P w = .ok (.string ⟨l.toArray⟩) w := by
  obtain ⟨g, cap, rfl, _, _, _, h5, _⟩ := h
  exact run_convert_bytes_back w t d e ⟨g, 0, none⟩ cap l ht he hd (fun j hj => by rw [Go.WideShapes.add_plain, Nat.zero_add]; exact h5 j hj)

theorem RowB.len {B : Nat} {w : World} {v : Value} {l : List UInt8} (h : RowB B w v l) : ∃ a cap, v = .slice a l.length cap := by
  obtain ⟨g, cap, h1, _⟩ := h
  exact ⟨_, _, h1⟩

/-- One byte more. -/
theorem wpList_append_rowB {P : Program} {W w0 : World} {B : Nat} (hbel : Below B W w0) (hB : B ≤ W.heap.size) (b : UInt8) {z : Int} (hz : z = b.toNat) {ops : Array Oper} {rest : List Oper} {o : Oper} {a : Act} {Q : Exit → Act → World → Prop} (hgd : o.guard = none) (s x : Operand) (t : TypeId)
    (ho : o.op = .call { callee := .builtin .append, args := #[s, x], argTypes := #[t, t] })
    (e : TypeId) (i : TypeInfo) (ht : P.underlying t = some (.slice e)) (hi : P.info? e = some i) (hz0 : i.zero = some (.int .u8 0))
    (hsize : i.size = 1) (hby : i.bytes = 1) (v : Value) (l : List UInt8) (hs : a.eval s = v) (hrow : RowB B w0 v l)
    (c : Nat) (hx : a.eval x = .slice (some ⟨w0.heap.size, 0, none⟩) 1 c) (hb : l.length < 1099511627776)
    (h : ∀ v' w', RowB B w' v' (l ++ [b]) → Below B W w' → wpList P ops Q rest (a.put o.dst v') w') :
    wpList P ops Q (o :: rest) a (w0.alloc (.cells #[.int .u8 z] e)) := by
  have hsz := hbel.size
  have hrow1 := hrow.below (w' := w0.alloc (.cells #[.int .u8 z] e)) ((Below.refl w0.heap.size w0).alloc (Nat.le_refl _) _) (Nat.le_refl _)
  obtain ⟨g, cap, rfl, hg, hglt, hcap, h5, h6, h7⟩ := hrow1
  have hb1 : Below B W (w0.alloc (.cells #[.int .u8 z] e)) := hbel.alloc (by omega) _
  refine wpList_append_arg _ hgd s x t ho e i (.int .u8 0) 1 1 ht hi hz0 hsize hby rfl (by decide) g 0 l.length cap (cellsB l) hs (by simp [cellsB]) ?_ ⟨w0.heap.size, 0, none⟩ 1 c [.int .u8 z] hx rfl ?_ ?_ ?_ ?_ ?_ ?_ ?_
  · intro j u hj
    have hj' : j < l.length := by have := (List.getElem?_eq_some_iff.1 hj).1; simpa [cellsB] using this
    rw [Nat.zero_add, h5 j hj']
    simpa [cellsB, hj'] using hj
  · intro j u hj
    match j, hj with
    | 0, hj => simp at hj; subst hj; simp [Addr.add]
  · intro u hu; simp at hu; subst hu; rfl
  · intro hr j hj
    have hj0 : j = 0 := by simpa using hj
    subst hj0
    rw [show 0 + l.length * 1 + 0 = l.length by omega]
    exact ⟨h6 l.length (by omega), h7 l.length (by omega)⟩
  · unfold maxLen; omega
  · omega
  · intro hr
    have e1 : (w0.alloc (.cells #[.int .u8 z] e)).setCells g (0 + l.length * 1) [.int .u8 z] = (w0.alloc (.cells #[.int .u8 z] e)).setCell ⟨g, l.length, none⟩ (.int .u8 z) := by
      rw [show 0 + l.length * 1 = l.length by omega]
      rfl
    rw [e1]
    have hlen : (l ++ [b]).length = l.length + 1 := by simp
    refine h _ _ ⟨g, cap, by rw [hlen], hg, by simpa [World.setCell] using hglt, by omega, ?_, ?_, ?_⟩ (hb1.setCell hg _)
    · intro j hj
      by_cases ej : l.length = j
      · subst ej
        obtain ⟨u, hu⟩ := Option.isSome_iff_exists.1 (h6 l.length (by omega))
        rw [World.cell?_setCell_same _ _ _ hu, hz]
        simp
      · have hj' : j < l.length := by omega
        rw [World.cell?_setCell_other _ _ _ _ (by intro h'; cases h'; exact ej rfl), h5 j hj', List.getElem_append_left hj']
    · intro j hj
      by_cases ej : l.length = j
      · subst ej
        obtain ⟨u, hu⟩ := Option.isSome_iff_exists.1 (h6 l.length hj)
        rw [World.cell?_setCell_same _ _ _ hu]; rfl
      · rw [World.cell?_setCell_other _ _ _ _ (by intro h'; cases h'; exact ej rfl)]; exact h6 j hj
    · intro j hj
      have := h7 j hj
      simpa [go_sem] using this
  · intro hr v' w' hown hgr
    have hown2 : w'.ownsRow B e 1 v' (l ++ [b]).length (cellsB (l ++ [b])) := by
      have e1 : cellsB (l ++ [b]) = cellsB l ++ [.int .u8 z] := by simp [cellsB, hz]
      have e2 : (l ++ [b]).length = l.length + 1 := by simp
      rw [e1, e2]
      refine own_mono hown ?_
      simp; omega
    exact h v' w' (RowB.of_own hown2 (by simp)) (hb1.grown hgr (by simp; omega) (fun k hk => by cases hk))
end Go.Proofs.YtflicklgmhgpiaaDoor.P1
