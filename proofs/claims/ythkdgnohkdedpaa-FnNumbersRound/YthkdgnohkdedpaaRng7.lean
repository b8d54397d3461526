/- Rows of ids in an array of 256, by how far they are; no condition. -/
import Derived.Test.YthkdgnohkdedpaaRng5
import Derived.Test.YthkdgnohkdedpaaRng6
import Derived.Maps.AppendAt
namespace Go.Proofs.Ythkdgnohkdedpaa.P8
open Go.RowKit Go.Shelf P1 Mp Rc

/-- The array bR holds a row for each distance. -/
def RowsAt (n₀ bR : Nat) (a : Int) (pre : List Int) (V : Nat → Value) (W : World) : Prop :=
  Blk W bR ((List.range 256).map V) 72 ∧ ∀ d, d < 256 → W.ownsRow n₀ 3 1 (V d) (row a pre d).length (cellsI (row a pre d)) ∧ ((V d).ownBlock = none ∨ row a pre d ≠ [])

theorem mem_row2 {a : Int} {l : List Int} {d : Nat} {y : Int} (h : y ∈ row a l d) : y ≠ a := by
  unfold row at h
  simp only [List.mem_filter, Bool.and_eq_true, decide_eq_true_eq] at h
  exact h.2.1

/-- What lies at the beginning of a row's block. -/
theorem row_first {n₀ : Nat} {a : Int} {pre : List Int} {d : Nat} {v : Value} {W : World} (h : W.ownsRow n₀ 3 1 v (row a pre d).length (cellsI (row a pre d))) (hn : v.ownBlock = none ∨ row a pre d ≠ []) {g : Nat} (hg : v.ownBlock = some g) :
    ∃ y, y ≠ a ∧ ahd a y = d ∧ W.cell? ⟨g, 0, none⟩ = some (.int .i64 y) := by
  rcases hn with hn | hn
  · rw [hn] at hg; cases hg
  · cases hr : row a pre d with
    | nil => exact absurd hr hn
    | cons y l =>
      have hy : y ∈ row a pre d := by rw [hr]; simp
      refine ⟨y, mem_row2 hy, mem_row hy, ?_⟩
      have h0 := h
      rcases h.2 with ⟨rfl, h1⟩ | ⟨g', cap, cur, rfl, _, _, _, _, _, _⟩
      · rw [hr] at h1; simp at h1
      · have e : g' = g := by simpa [Value.ownBlock] using hg
        subst e
        rw [h0.cellAt 0 (by rw [hr]; simp)]
        rw [hr]
        rfl

theorem row_ne_box {n₀ : Nat} {a : Int} {pre : List Int} {d : Nat} {v : Value} {W : World} (h : W.ownsRow n₀ 3 1 v (row a pre d).length (cellsI (row a pre d))) (hn : v.ownBlock = none ∨ row a pre d ≠ []) {b : Nat} (hb : W.cell? ⟨b, 0, none⟩ = some (.int .i64 a)) : v.ownBlock ≠ some b := by
  intro e
  obtain ⟨y, h1, _, h3⟩ := row_first h hn e
  rw [hb] at h3
  cases h3
  exact h1 rfl

theorem rows_apart {n₀ : Nat} {a : Int} {pre pre' : List Int} {d d' : Nat} {v v' : Value} {W : World} (h : W.ownsRow n₀ 3 1 v (row a pre d).length (cellsI (row a pre d))) (hn : v.ownBlock = none ∨ row a pre d ≠ [])
    (h' : W.ownsRow n₀ 3 1 v' (row a pre' d').length (cellsI (row a pre' d'))) (hn' : v'.ownBlock = none ∨ row a pre' d' ≠ []) (hd : d ≠ d') : v.ownBlock = none ∨ v.ownBlock ≠ v'.ownBlock := by
  cases hg : v.ownBlock with
  | none => exact .inl rfl
  | some g =>
    refine .inr fun e => ?_
    obtain ⟨y, _, h2, h3⟩ := row_first h hn hg
    obtain ⟨y', _, h2', h3'⟩ := row_first h' hn' e.symm
    rw [h3] at h3'
    cases h3'
    exact hd (h2.symm.trans h2')

theorem own_cells_not {n₀ : Nat} {e : TypeId} {size n : Nat} {xs : List Value} {v : Value} {W W' : World} {r : Option Nat} (h : W.ownsRow n₀ e size v n xs) (hg : W.grownBy W' r) (hr : ∀ q, r = some q → ∃ o : Obj, W.heap[q]? = some o ∧ o.isCells = false) : W'.ownsRow n₀ e size v n xs := by
  refine h.kept hg ?_
  rcases h.2 with ⟨rfl, _⟩ | ⟨g, cap, cur, rfl, _, hgb, _⟩
  · exact .inl rfl
  · refine .inr fun e' => ?_
    obtain ⟨o, ho, hc⟩ := hr g (by simpa [Value.ownBlock] using e'.symm)
    rw [hgb] at ho
    cases ho
    cases hc

theorem RowsAt.kept {n₀ bR : Nat} {a : Int} {pre : List Int} {V : Nat → Value} {W W' : World} {r : Option Nat} (h : RowsAt n₀ bR a pre V W) (hg : W.grownBy W' r) (hr : ∀ q, r = some q → ∃ o : Obj, W.heap[q]? = some o ∧ o.isCells = false) : RowsAt n₀ bR a pre V W' := by
  refine ⟨blk_grownR h.1 hg (fun e => ?_), fun d hd => ⟨own_cells_not (h.2 d hd).1 hg hr, (h.2 d hd).2⟩⟩
  obtain ⟨o, ho, hc⟩ := hr bR e
  have h1 := h.1
  unfold Blk at h1
  rw [h1] at ho
  cases ho
  cases hc

theorem rowsAt_own (n₀ bR : Nat) (a : Int) : Own (fun pre W => ∃ V, RowsAt n₀ bR a pre V W) := fun _ _ _ _ ⟨V, h⟩ hg hr => ⟨V, h.kept hg hr⟩

theorem map_set (V : Nat → Value) (d : Nat) (v : Value) : ((List.range 256).map V).set d v = (List.range 256).map (fun i => if i = d then v else V i) := by
  apply List.ext_getElem
  · simp
  · intro i h1 h2
    have hi : i < 256 := by simpa using h2
    rw [List.getElem_set]
    by_cases e : d = i
    · subst e
      simp
    · rw [if_neg e]
      have e' : ¬ i = d := fun h => e h.symm
      simp [e']

/-- One id more in its row: behind the append and the store. -/
theorem RowsAt.more {n₀ bR bf : Nat} {a x : Int} {pre : List Int} {V : Nat → Value} {W w1 : World} {v' : Value} (h : RowsAt n₀ bR a pre V W) (hx : x ≠ a) (hn₀ : n₀ ≤ W.heap.size) (hbR : n₀ ≤ bR) (hbf : W.cell? ⟨bf, 0, none⟩ = some (.int .i64 a))
    (hown : w1.ownsRow n₀ 3 1 v' ((row a pre (ahd a x)).length + 1) (cellsI (row a pre (ahd a x)) ++ [.int .i64 x]))
    (hgrow : (W.alloc (.cells #[.int .i64 x] 3)).grownBy w1 (V (ahd a x)).ownBlock) :
    Blk w1 bR ((List.range 256).map V) 72 ∧
    RowsAt n₀ bR a (pre ++ [x]) (fun i => if i = ahd a x then v' else V i) (w1.setCell ⟨bR, ahd a x, none⟩ v') ∧ KeepsOthers W (w1.setCell ⟨bR, ahd a x, none⟩ v') ∧ Kp n₀ bf W (w1.setCell ⟨bR, ahd a x, none⟩ v') ∧ (∀ b, W.cell? ⟨b, 0, none⟩ = some (.int .i64 a) → b ≠ bR → (w1.setCell ⟨bR, ahd a x, none⟩ v').heap[b]? = W.heap[b]?) := by
  have hd := ahd_lt a x
  obtain ⟨hB, hO⟩ := h
  have hal := World.grownBy_alloc W (.cells #[.int .i64 x] 3) none
  obtain ⟨hod, hnd⟩ := hO _ hd
  have hBa : Blk (W.alloc (.cells #[.int .i64 x] 3)) bR ((List.range 256).map V) 72 := blk_grownR hB hal (by simp)
  have hB1 : Blk w1 bR ((List.range 256).map V) 72 := blk_grownR hBa hgrow (own_ne_blk (hod.alloc _) hBa (by decide))
  have hcellsd : ∀ (j : Nat) (o : Obj), (V (ahd a x)).ownBlock = some j → (W.alloc (.cells #[.int .i64 x] 3)).heap[j]? = some o → o.isCells = true := by
    intro j o ej hj
    rcases (hod.alloc (.cells #[.int .i64 x] 3)).2 with ⟨e1, _⟩ | ⟨g, cap, cur, e1, _, hgb, _⟩
    · rw [e1] at ej; simp [Value.ownBlock] at ej
    · rw [e1] at ej
      obtain rfl : g = j := by simpa [Value.ownBlock] using ej
      rw [hgb] at hj; cases hj; rfl
  have hbox : ∀ b, W.cell? ⟨b, 0, none⟩ = some (.int .i64 a) → b ≠ bR → (w1.setCell ⟨bR, ahd a x, none⟩ v').heap[b]? = W.heap[b]? := by
    intro b hb hne
    have hlt : b < W.heap.size := cell_lt' hb
    rw [Below.heap_setCell _ _ _ _ hne, hgrow.block b (by simp; omega) (fun e => row_ne_box hod hnd hb e.symm), hal.block b hlt (by simp)]
  have hbfR : bf ≠ bR := by
    rintro rfl
    rw [hB.cell 0] at hbf
    have h0 := (hO 0 (by decide)).1
    have : ((List.range 256).map V)[0]? = some (V 0) := by simp
    rw [this] at hbf
    have e : V 0 = .int .i64 a := by simpa using hbf
    rw [e] at h0
    obtain ⟨_, _, hs⟩ := own_sh h0
    cases hs
  refine ⟨hB1, ⟨?_, ?_⟩, ?_, ⟨?_, hbox bf hbf hbfR, ?_⟩, hbox⟩
  · have := hB1.set (ahd a x) v'
    rw [map_set V _] at this
    exact this
  · intro d' hd'
    have hset := (⟨rfl, rfl, rfl, by simp [World.setCell], fun k _ hne => Below.heap_setCell _ _ _ _ (fun e => hne (by rw [e]))⟩ : w1.grownBy (w1.setCell ⟨bR, ahd a x, none⟩ v') (some bR))
    by_cases e : d' = ahd a x
    · subst e
      dsimp only
      rw [if_pos rfl, row_snoc, if_pos ⟨hx, rfl⟩]
      refine ⟨?_, .inr (by simp)⟩
      have h1 := hown.kept hset (.inr (own_ne_blk hown hB1 (by decide)))
      have e1 : (row a pre (ahd a x) ++ [x]).length = (row a pre (ahd a x)).length + 1 := by simp
      have e2 : cellsI (row a pre (ahd a x) ++ [x]) = cellsI (row a pre (ahd a x)) ++ [.int .i64 x] := by simp [cellsI]
      rw [e1, e2]
      exact h1
    · dsimp only
      rw [if_neg e, row_snoc, if_neg (fun h => e h.2.symm)]
      obtain ⟨ho', hn'⟩ := hO d' hd'
      have h1 := (ho'.alloc (.cells #[.int .i64 x] 3)).kept hgrow (rows_apart ho' hn' hod hnd e)
      exact ⟨h1.kept hset (.inr (own_ne_blk h1 hB1 (by decide))), hn'⟩
  · refine ((KeepsOthers.alloc W _).trans (KeepsOthers.of_grownBy hgrow fun j o ej hj => hcellsd j o ej hj)).trans (KeepsOthers.setCell _ _ _)
  · refine (((Below.refl n₀ W).alloc hn₀ _).grown hgrow (by simp; omega) (fun j ej => (hod.lt j ej).1)).setCell (p := ⟨bR, ahd a x, none⟩) hbR v'
  · intro B u hb
    have h1 := hb.alloc (.cells #[.int .i64 x] 3)
    have h2 := h1.kept hgrow (h1.not_row (by decide) (hod.alloc _))
    refine h2.kept (⟨rfl, rfl, rfl, by simp [World.setCell], fun k _ hne => Below.heap_setCell _ _ _ _ (fun e => hne (by rw [e]))⟩ : w1.grownBy (w1.setCell ⟨bR, ahd a x, none⟩ v') (some bR)) (fun e => ?_)
    obtain rfl : B = bR := by simpa using e
    have h3 := (show w1.heap[B]? = _ from h2).symm.trans (show w1.heap[B]? = _ from hB1)
    simp only [Option.some.injEq, Obj.cells.injEq] at h3
    exact absurd h3.2.1 (by decide)
end Go.Proofs.Ythkdgnohkdedpaa.P8
