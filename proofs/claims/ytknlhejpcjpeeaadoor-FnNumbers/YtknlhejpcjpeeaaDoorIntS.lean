/- The laws' own helpers over slices of ints: toIntS, eqIntS, markIntS, heldIntS; condition: at most 2^30 of them. -/
import Derived.Test.YtknlhejpcjpeeaaDoorKit2
import Derived.Test.YtknlhejpcjpeeaaDoorFrame
import Derived.Test.YtknlhejpcjpeeaaDoorRows
import Derived.WalkKit
namespace Go.Proofs.YtknlhejpcjpeeaaDoor.P1
open Go.RowKit

/-- v is a slice that reads as the ints l. -/
def IntsAt (w : World) (v : Value) (l : List Int) : Prop :=
  ∃ a cap, v = .slice a l.length cap ∧ ∀ j (hj : j < l.length), ∃ g off, a = some ⟨g, off, none⟩ ∧ g < w.heap.size ∧ w.cell? ⟨g, off + j, none⟩ = some (.int .i64 l[j])

theorem cell_lt' {w : World} {a : Addr} {v : Value} (h : w.cell? a = some v) : a.block < w.heap.size := by
  unfold World.cell? at h
  rcases Nat.lt_or_ge a.block w.heap.size with h' | h'
  · exact h'
  · rw [Array.getElem?_eq_none h'] at h; simp at h

theorem IntsAt.below {B : Nat} {w w' : World} {v : Value} {l : List Int} (h : IntsAt w v l) (hb : Below B w w') (hB : w.heap.size ≤ B) : IntsAt w' v l := by
  obtain ⟨a, cap, h1, h2⟩ := h
  refine ⟨a, cap, h1, fun j hj => ?_⟩
  obtain ⟨g, off, e1, e2, e3⟩ := h2 j hj
  exact ⟨g, off, e1, Nat.lt_of_lt_of_le e2 hb.size, by rw [hb.cell (p := ⟨g, off + j, none⟩) (by show g < B; omega)]; exact e3⟩

theorem IntsAt.of_own {B : Nat} {w : World} {e : TypeId} {v : Value} {l : List Int} (h : w.ownsRow B e 1 v l.length (cellsI l)) : IntsAt w v l := by
  have h0 := h
  rcases h.2 with ⟨rfl, hn⟩ | ⟨g, cap, cur, rfl, h1, h2, -, -, -, -⟩
  · exact ⟨none, 0, by rw [hn], fun j hj => by omega⟩
  · exact ⟨_, cap, rfl, fun j hj => ⟨g, 0, rfl, (Array.getElem?_eq_some_iff.1 h2).1, by rw [Nat.zero_add, h0.cellAt j (by omega)]; simp [cellsI, hj]⟩⟩

theorem IntsAt.of_row {w : World} {a : Option Addr} {len cap : Nat} {zs : List Int} (h : Frame.IsRow .i64 w a len cap zs) : IntsAt w (.slice a len cap) (zs.take len) := by
  rcases h with ⟨rfl, rfl, rfl, rfl⟩ | ⟨x, rfl, h1, _, h3, h4, _⟩
  · exact ⟨none, 0, rfl, fun j hj => by simp at hj⟩
  · have hl : (zs.take len).length = len := by rw [List.length_take]; omega
    refine ⟨some x, cap, by rw [hl], fun j hj => ?_⟩
    obtain ⟨b, off, rfl, hc⟩ := ints_at h4 (by omega)
    have hj' : j < zs.length := by omega
    refine ⟨b, off, rfl, cell_lt' (hc j hj'), ?_⟩
    rw [hc j hj']
    simp [List.getD_eq_getElem?_getD, hj']

theorem IntsAt.drewN {w : World} {v : Value} {l : List Int} (h : IntsAt w v l) (n : Nat) : IntsAt (w.drewN n) v l := h

theorem drewN2 (w : World) (a b : Nat) : (w.drewN a).drewN b = w.drewN (a + b) := by simp [World.drewN, Nat.add_assoc]

theorem info_i64 : (Tryd.prog.info? 3).map (fun i => (i.zero, i.size, i.bytes)) = some (some (.int .i64 0), 1, 8) := by kernel_rfl

theorem cellsI_zeros (n : Nat) : (madeCells #[Value.int .i64 0] n).toList = cellsI (List.replicate n 0) := by
  rw [toList_madeCells_one]
  simp [cellsI]

theorem cellsI_set (l : List Int) (k : Nat) (x : Int) : (cellsI l).set k (.int .i64 x) = cellsI (l.set k x) := by
  simp [cellsI]

/-- The first k of l, noughts behind. -/
def half (l : List Int) (k : Nat) : List Int := l.take k ++ List.replicate (l.length - k) 0

theorem half_length (l : List Int) (k : Nat) (hk : k ≤ l.length) : (half l k).length = l.length := by simp [half]; omega

theorem half_set (l : List Int) (k : Nat) (hk : k < l.length) : (half l k).set k l[k] = half l (k + 1) := by
  unfold half
  have h1 : (l.take k).length = k := by rw [List.length_take]; omega
  rw [List.set_append_right _ _ (by omega), h1, Nat.sub_self, List.take_succ_eq_append_getElem hk]
  rw [show l.length - k = (l.length - (k + 1)) + 1 by omega, List.replicate_succ, List.set_cons_zero, List.append_assoc, List.singleton_append]

theorem half_all (l : List Int) (k : Nat) (hk : l.length ≤ k) : half l k = l := by
  unfold half
  rw [List.take_of_length_le hk, show l.length - k = 0 by omega]
  simp

/-- The marks from k on. -/
def marks (k : Int) (n : Nat) : List Int := (List.range n).map fun (i : Nat) => k + (i : Int)

theorem marks_length (k : Int) (n : Nat) : (marks k n).length = n := by simp [marks]

theorem marks_get (k : Int) (n j : Nat) (hj : j < (marks k n).length) : (marks k n)[j] = k + (j : Int) := by simp [marks]

/-- The first j marked. -/
def marked (l : List Int) (k : Int) (j : Nat) : List Int := marks k j ++ l.drop j

theorem marks_snoc (k : Int) (j : Nat) : marks k (j + 1) = marks k j ++ [k + (j : Int)] := by simp [marks, List.range_succ]

theorem marked_length (l : List Int) (k : Int) (j : Nat) (hj : j ≤ l.length) : (marked l k j).length = l.length := by simp [marked, marks_length]; omega

theorem marked_set (l : List Int) (k : Int) (j : Nat) (hj : j < l.length) : (marked l k j).set j (k + (j : Int)) = marked l k (j + 1) := by
  unfold marked
  have h1 := marks_length k j
  rw [List.set_append_right _ _ (by omega), h1, Nat.sub_self, List.drop_eq_getElem_cons hj, List.set_cons_zero, marks_snoc, List.append_assoc, List.singleton_append]

theorem marked_all (l : List Int) (k : Int) (j : Nat) (hj : j = l.length) : marked l k j = marks k l.length := by
  subst hj
  simp [marked]

theorem own_below {w w' : World} {B : Nat} {e : TypeId} {size : Nat} {v : Value} {n : Nat} {xs : List Value} (h : w.ownsRow B e size v n xs) (hb : Below w.heap.size w w') : w'.ownsRow B e size v n xs :=
  h.kept (row := none) ⟨hb.os, hb.tape, hb.output, hb.size, fun k hk _ => hb.block k hk⟩ (by cases v.ownBlock <;> simp)

theorem own_apart {w w' : World} {B : Nat} {e e' : TypeId} {size size' n n' : Nat} {v v' : Value} {xs xs' : List Value} (h : w.ownsRow B e size v n xs) (h' : w'.ownsRow w.heap.size e' size' v' n' xs') : v.ownBlock = none ∨ v.ownBlock ≠ v'.ownBlock := by
  cases hb : v.ownBlock with
  | none => exact .inl rfl
  | some k =>
    right
    intro he
    have h1 := (h.lt k hb).2
    have h2 := (h'.lt k he.symm).1
    omega

theorem own_apart_r {w w' : World} {B : Nat} {e e' : TypeId} {size size' n n' : Nat} {v v' : Value} {xs xs' : List Value} (h : w.ownsRow B e size v n xs) (h' : w'.ownsRow w.heap.size e' size' v' n' xs') : v'.ownBlock = none ∨ v'.ownBlock ≠ v.ownBlock := by
  cases hb : v'.ownBlock with
  | none => exact .inl rfl
  | some k =>
    right
    intro he
    have h1 := (h.lt k he.symm).2
    have h2 := (h'.lt k hb).1
    omega

theorem below_drewN {B : Nat} {a w : World} (h : Below B a w) (n : Nat) : Below B a (w.drewN n) := ⟨h.os, h.tape, h.output, h.size, h.block⟩
end Go.Proofs.YtknlhejpcjpeeaaDoor.P1
