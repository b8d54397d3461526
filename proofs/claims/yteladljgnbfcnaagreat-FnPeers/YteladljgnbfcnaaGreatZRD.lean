/- A new ring as plain mathematics; no condition.
The specification's l09Few, and the ids that a new ring has room for one by one; conditions: lists of at most 2^20.
What a walk over a new ring wants: peers' cells that are owned, blocks that stay, the ring peer by peer; no condition.
The specification's RingNew; condition: at most 2^20 ids. -/
import Derived.Test.YteladljgnbfcnaaGreatZRB
import Derived.Test.YteladljgnbfcnaaGreatZRA
import Derived.Test.YteladljgnbfcnaaGreatZC
import Derived.Test.YteladljgnbfcnaaGreatZRC
import Derived.Test.YteladljgnbfcnaaGreatZA
namespace Go.Proofs.YteladljgnbfcnaaGreat.P9
open Go.RowKit P1 P8 Da

def onR (x : Int) : Bool := decide (0 ≤ x) && decide (x < 256)

/-- The ids that a new ring has room for, out of ids that are each there once. -/
def keep8 (l : List Int) : List Int := (l.filter onR).take 8

def kept (ids : List Int) : List Int := keep8 (nub ids)

theorem keep8_full {l : List Int} (h : (keep8 l).length = 8) (m : List Int) : keep8 (l ++ m) = keep8 l := by
  unfold keep8 at *
  rw [List.filter_append, List.take_append_of_le_length]
  rw [List.length_take] at h
  omega

theorem keep8_prefix {l m : List Int} (h : l <+: m) (hl : (keep8 l).length = 8) : keep8 m = keep8 l := by
  obtain ⟨r, rfl⟩ := h
  exact keep8_full hl r

theorem keep8_length (l : List Int) : (keep8 l).length ≤ 8 := by
  unfold keep8
  rw [List.length_take]
  omega

theorem keep8_snoc {l : List Int} {x : Int} (h : (keep8 l).length ≠ 8) : keep8 (l ++ [x]) = if onR x then keep8 l ++ [x] else keep8 l := by
  have h1 : (l.filter onR).length < 8 := by
    have := keep8_length l
    unfold keep8 at h this
    rw [List.length_take] at h this
    omega
  unfold keep8
  rw [List.filter_append]
  by_cases hx : onR x = true
  · rw [if_pos hx, List.filter_cons_of_pos hx, List.filter_nil, List.take_of_length_le (by rw [List.length_append]; simp; omega), List.take_of_length_le (by omega)]
  · rw [if_neg hx, List.filter_cons_of_neg hx, List.filter_nil, List.append_nil]

/-- Who has the places that are 1, 2, 4 .. 128 behind id. -/
def fingers (here : List Int) (id : Int) : List Int := (List.range 8).map fun i => ownerOf (id + (2 : Int) ^ i) here

/-- One that knows all of those that are here. -/
def knows (here : List Int) (id : Int) : Pr := ⟨id, true, (ordered id here).getLastD 0, (ordered id here).take 3, fingers here id, []⟩

def away (id : Int) : Pr := ⟨id, false, 0, [], [], []⟩

def ringNew (ids : List Int) : List Pr :=
  if (kept ids).length < 4 then [] else ((kept ids).take 4).map (knows ((kept ids).take 4)) ++ ((kept ids).drop 4).map away

theorem nub_nodup (l : List Int) : (nub l).Nodup := by
  refine snoc_ind (P := fun l => (nub l).Nodup) (by simp [nub]) (fun l x ih => ?_) l
  rw [nub_snoc]
  split
  · exact ih
  · rename_i h
    exact List.nodup_append.2 ⟨ih, by simp, fun a ha b hb e => by
      simp at hb
      subst hb e
      exact h ha⟩

theorem kept_nodup (ids : List Int) : (kept ids).Nodup := ((nub_nodup ids).sublist List.filter_sublist).sublist (List.take_sublist _ _)

theorem kept_on {ids : List Int} {x : Int} (h : x ∈ kept ids) : 0 ≤ x ∧ x < 256 := by
  have h1 := List.mem_of_mem_take h
  have h2 := (List.mem_filter.1 h1).2
  simp [onR] at h2
  exact h2

theorem mem_ins (a x y : Int) (l : List Int) : y ∈ ins a x l ↔ y = x ∨ y ∈ l := by
  induction l with
  | nil => simp [ins]
  | cons z l ih =>
    unfold ins
    split
    · simp
    · simp [ih]
      constructor
      · rintro (h | h | h) <;> simp [h]
      · rintro (h | h | h) <;> simp [h]

/-- Out of ids that are each there once, all but a. -/
theorem ordered_len {a : Int} {l : List Int} (hn : l.Nodup) : (∀ y, y ∈ ordered a l ↔ y ∈ l ∧ y ≠ a) ∧ (ordered a l).length = (l.filter fun y => decide (y ≠ a)).length := by
  revert hn
  refine snoc_ind (P := fun l => l.Nodup → (∀ y, y ∈ ordered a l ↔ y ∈ l ∧ y ≠ a) ∧ (ordered a l).length = (l.filter fun y => decide (y ≠ a)).length) (fun _ => by simp [ordered]) (fun l x ih hn => ?_) l
  obtain ⟨hn1, _, hd⟩ := List.nodup_append.1 hn
  have hx : x ∉ l := fun h => hd x h x (by simp) rfl
  obtain ⟨h1, h2⟩ := ih hn1
  rw [ordered_snoc]
  unfold ordStep
  by_cases hxa : x = a
  · subst hxa
    rw [if_pos (.inl rfl)]
    refine ⟨fun y => ?_, by simp [h2]⟩
    rw [h1, List.mem_append, List.mem_singleton]
    exact ⟨fun ⟨h, h'⟩ => ⟨.inl h, h'⟩, fun ⟨h, h'⟩ => ⟨h.resolve_right h', h'⟩⟩
  · rw [if_neg (by rintro (h | h); exact hxa h; exact hx ((h1 x).1 h).1)]
    refine ⟨fun y => ?_, ?_⟩
    · rw [mem_ins, h1]
      simp
      constructor
      · rintro (rfl | ⟨h, h'⟩)
        · exact ⟨.inr rfl, hxa⟩
        · exact ⟨.inl h, h'⟩
      · rintro ⟨h | rfl, h'⟩
        · exact .inr ⟨h, h'⟩
        · exact .inl rfl
    · rw [ins_length, h2, List.filter_append, List.length_append]
      simp [hxa]

theorem filter_both {α : Type} (p : α → Bool) : ∀ l : List α, (l.filter p).length + (l.filter fun y => !p y).length = l.length
  | [] => by simp
  | x :: l => by
    have := filter_both p l
    cases h : p x <;> simp [h] <;> omega

/-- Out of four, three others. -/
theorem ordered_three {id : Int} {here : List Int} (hn : here.Nodup) (hl : here.length = 4) (hm : id ∈ here) : (ordered id here).length = 3 := by
  rw [(ordered_len hn).2]
  have h1 := filter_both (fun y => decide (y ≠ id)) here
  have h2 : (here.filter fun y => !decide (y ≠ id)).length = 1 := by
    have : (here.filter fun y => !decide (y ≠ id)) = here.filter (fun y => y == id) := List.filter_congr (fun y _ => by by_cases h : y = id <;> simp [h])
    rw [this, ← List.countP_eq_length_filter, ← List.count_eq_countP]
    exact hn.count.trans (if_pos hm)
  omega
end Go.Proofs.YteladljgnbfcnaaGreat.P9
namespace Go.Proofs.YteladljgnbfcnaaGreat.P9
set_option maxRecDepth 8000
open Go.RowKit P1 P8 Da

theorem kept_snoc (l : List Int) (x : Int) : kept (l ++ [x]) = if onR x = true ∧ x ∉ kept l ∧ (kept l).length < 8 then kept l ++ [x] else kept l := by
  unfold kept
  rw [nub_snoc]
  by_cases hx : x ∈ nub l
  · rw [if_pos hx, if_neg]
    rintro ⟨h1, h2, h3⟩
    refine h2 ?_
    unfold keep8 at h3 ⊢
    rw [List.length_take] at h3
    rw [List.take_of_length_le (by omega)]
    exact List.mem_filter.2 ⟨hx, h1⟩
  · rw [if_neg hx]
    have hn : x ∉ keep8 (nub l) := fun h => hx (List.mem_filter.1 (List.mem_of_mem_take h)).1
    by_cases h8 : (keep8 (nub l)).length = 8
    · rw [keep8_full h8, if_neg]
      rintro ⟨_, _, h⟩
      omega
    · have h9 := keep8_length (nub l)
      rw [keep8_snoc h8]
      by_cases ho : onR x = true
      · rw [if_pos ho, if_pos ⟨ho, hn, by omega⟩]
      · rw [if_neg ho, if_neg (fun h => ho h.1)]

set_option maxHeartbeats 1000000 in
theorem specFew_calls (w : World) (l : List Int) (a : Option Addr) (c : Nat) (hv : IntsAt w (.slice a l.length c) l) (hl : l.length ≤ 1048576) (hc : l.length ≤ c) (hne : l ≠ []) :
    Calls Tryz.prog 40 #[.slice a l.length c] w fun e w' => ∃ v', e = .returned v' ∧ w'.ownsRow w.heap.size 3 1 v' (l.take 3).length (cellsI (l.take 3)) ∧ Below w.heap.size w w' := by
  have hpos : 0 < l.length := List.length_pos_iff.2 hne
  obtain ⟨a', c', hsh, HA⟩ := hv
  cases hsh
  obtain ⟨g, off, rfl, h2, -⟩ := HA 0 hpos
  have hcells : ∀ j (hj : j < l.length), w.cell? ⟨g, off + j, none⟩ = some (.int .i64 l[j]) := fun j hj => by
    obtain ⟨g', off', e, -, h3⟩ := HA j hj
    cases e
    exact h3
  clear HA
  obtain ⟨i0, hi, hz0, hz1, hz2⟩ := info_parts info_i64
  have HS0 := hide (own_lit0 w)
  have HB0 := hide ((Below.refl w.heap.size w).alloc (Nat.le_refl _) (.cells #[] 3))
  have HN : Hid (∀ (m : Nat), m ≤ l.length → ∀ j u, (cellsI (l.take m))[j]? = some u → (w.alloc (.cells #[] 3)).cell? ((⟨g, off, none⟩ : Addr).add j) = some u) := fun m hm j u hj => by
    simp only [Go.WideShapes.add_plain]
    rw [HB0.out.cell (p := ⟨g, off + j, none⟩) h2]
    have hj' : j < l.length := by
      have := (List.getElem?_eq_some_iff.1 hj).1
      simp [cellsI] at this
      omega
    rw [hcells j hj', ← hj]
    have hjm : j < m := by
      have := (List.getElem?_eq_some_iff.1 hj).1
      simp [cellsI] at this
      omega
    simp [cellsI, hjm, hj']
  by_cases h3 : 3 < l.length
  · have hlen : (l.take 3).length = 3 := by rw [List.length_take]; omega
    have HN3 := hide (HN.out 3 (by omega))
    rw [hlen]
    obtain ⟨X, EX⟩ : ∃ X, X = cellsI (l.take 3) := ⟨_, rfl⟩
    have hX : X.length = 3 * 1 := by rw [EX]; simp [cellsI]; omega
    have hX1 : ∀ u ∈ X, u.oneCell' = true := by
      rw [EX]
      intro u hu
      obtain ⟨x, _, rfl⟩ := List.mem_map.1 hu
      rfl
    rw [← EX] at HN3 ⊢
    clear HN hcells hlen EX
    go_enter Tryz.func40, Tryz.ntmps40
    go_wp2_with (at_builtin; refine wpList_append_own _ rfl (.tmp 8) (.tmp 9) 24 rfl w.heap.size 3 i0 (.int .i64 0) 1 8 Tryz.underlying24 hi hz0 hz1 hz2 rfl (by decide) _ _ _ rfl HS0.out ⟨g, off, none⟩ 3 c X rfl hX HN3.out hX1 (by unfold maxLen; simp) (by simp) (by simp) ?_)
    intro v' w' hown hgr _
    have HO := hide hown
    have HB := hide (HB0.out.grown hgr (by simp) (fun k hk => by cases hk; exact Nat.le_refl _))
    clear hown hgr HS0 HB0 HN3
    go_wp2
    go_ret
    exact ⟨_, rfl, HO.out, HB.out⟩
  · have hlen : l.take 3 = l := List.take_of_length_le (by omega)
    have HN3 := HN.out l.length (Nat.le_refl _)
    rw [List.take_length] at HN3
    replace HN3 := hide HN3
    rw [hlen]
    obtain ⟨X, EX⟩ : ∃ X, X = cellsI l := ⟨_, rfl⟩
    obtain ⟨n, en⟩ : ∃ n, n = l.length := ⟨_, rfl⟩
    have hX : X.length = n * 1 := by rw [EX, en]; simp [cellsI]
    have hX1 : ∀ u ∈ X, u.oneCell' = true := by
      rw [EX]
      intro u hu
      obtain ⟨x, _, rfl⟩ := List.mem_map.1 hu
      rfl
    have hn3 : n ≤ 3 := by omega
    rw [← EX] at HN3 ⊢
    rw [← en]
    clear HN hcells hlen EX hl hc hpos en hne h3
    go_enter Tryz.func40, Tryz.ntmps40
    go_wp2_with (at_builtin; refine wpList_append_own _ rfl (.tmp 8) (.tmp 9) 24 rfl w.heap.size 3 i0 (.int .i64 0) 1 8 Tryz.underlying24 hi hz0 hz1 hz2 rfl (by decide) _ _ _ rfl HS0.out ⟨g, off, none⟩ n c X rfl hX HN3.out hX1 (by unfold maxLen; simp; omega) (by simp; omega) (by simp) ?_)
    intro v' w' hown hgr _
    have HO : Hid (w'.ownsRow w.heap.size 3 1 v' n X) := by
      show World.ownsRow _ _ _ _ _ _ _
      simpa [cellsI] using hown
    have HB := hide (HB0.out.grown hgr (by simp) (fun k hk => by cases hk; exact Nat.le_refl _))
    clear hown hgr HS0 HB0 HN3
    go_wp2
    go_ret
    exact ⟨_, rfl, HO.out, HB.out⟩
end Go.Proofs.YteladljgnbfcnaaGreat.P9
namespace Go.Proofs.YteladljgnbfcnaaGreat.P9
open Go.RowKit P1 P8 Da Rr Ap

theorem only_cell {fp : List Nat} {a b : World} (h : Only fp a b) {p : Addr} (hp : p.block < a.heap.size) (hn : p.block ∉ fp) : b.cell? p = a.cell? p :=
  World.cell?_of_block (w := a) (h.block _ hp hn)

theorem only_grown {fp : List Nat} {a b c : World} {r : Option Nat} (h : Only fp a b) (hg : b.grownBy c r) (hr : ∀ q, r = some q → a.heap.size ≤ q) : Only fp a c :=
  ⟨hg.os.trans h.os, hg.tape.trans h.tape, hg.output.trans h.output, Nat.le_trans h.size hg.size, fun g hgl hn => (hg.block g (Nat.lt_of_lt_of_le hgl h.size) (fun e => by have := hr g e.symm; omega)).trans (h.block g hgl hn)⟩

theorem only_more {fp : List Nat} {a b c : World} (h : Only fp a b) (hb : Below a.heap.size b c) : Only fp a c :=
  ⟨hb.os.trans h.os, hb.tape.trans h.tape, hb.output.trans h.output, Nat.le_trans h.size hb.size, fun g hg hn => (hb.block g hg).trans (h.block g hg hn)⟩

theorem key_of {x : Int} (h0 : 0 ≤ x) (h1 : x < 256) {j : Nat} (hj : j < 8) : wrap64 (x + wrap64 ((2 : Int) ^ j)) = x + (2 : Int) ^ j := by
  have h : (0 : Int) < 2 ^ j ∧ (2 : Int) ^ j ≤ 128 := by
    have : j = 0 ∨ j = 1 ∨ j = 2 ∨ j = 3 ∨ j = 4 ∨ j = 5 ∨ j = 6 ∨ j = 7 := by omega
    rcases this with rfl | rfl | rfl | rfl | rfl | rfl | rfl | rfl <;> decide
  generalize (2 : Int) ^ j = p at *
  unfold wrap64
  omega

theorem fingers_succ (here : List Int) (id : Int) {j : Nat} (hj : j < 8) : (fingers here id).take (j + 1) = (fingers here id).take j ++ [ownerOf (id + (2 : Int) ^ j) here] := by
  have hl : j < (fingers here id).length := by simp [fingers]; exact hj
  rw [List.take_succ_eq_append_getElem hl]
  congr 2
  simp [fingers]

theorem fingers_length (here : List Int) (id : Int) : (fingers here id).length = 8 := by simp [fingers]

theorem only_blk {fp : List Nat} {a b : World} {q : Nat} {cs : List Value} {t : TypeId} (h : Only fp a b) (hq : Blk a q cs t) (hn : q ∉ fp) : Blk b q cs t := by
  unfold Blk at *
  rw [h.block q (lt_of_block hq) hn]
  exact hq

theorem ints_of_cells {w : World} {g c : Nat} {l : List Int} (hg : g < w.heap.size) (h : ∀ j (hj : j < l.length), w.cell? ⟨g, j, none⟩ = some (.int .i64 l[j])) : IntsAt w (.slice (some ⟨g, 0, none⟩) l.length c) l :=
  ⟨_, _, rfl, fun j hj => ⟨g, 0, rfl, hg, by rw [Nat.zero_add]; exact h j hj⟩⟩

theorem ints_only {fp : List Nat} {a b : World} {g n c : Nat} {l : List Int} (h : IntsAt a (.slice (some ⟨g, 0, none⟩) n c) l) (ho : Only fp a b) (hn : g ∉ fp) : IntsAt b (.slice (some ⟨g, 0, none⟩) n c) l := by
  obtain ⟨a', cap, e, HA⟩ := h
  cases e
  refine ⟨_, _, rfl, fun j hj => ?_⟩
  obtain ⟨g', off, e1, h2, h3⟩ := HA j hj
  cases e1
  exact ⟨g, 0, rfl, Nat.lt_of_lt_of_le h2 ho.size, (only_cell ho (p := ⟨g, 0 + j, none⟩) h2 hn).trans h3⟩

/-- A peer's six cells. -/
theorem owns_six {W : World} {T : Tys} (p : Pr) {u3 u4 u5 : Value} {f3 f4 f5 : List Nat} (h3 : Owns W u3 (intsD p.behind) f3) (h4 : Owns W u4 (intsD p.fingers) f4) (h5 : Owns W u5 (shelvesD T p.shelves) f5)
    (d34 : ∀ q ∈ f3, q ∉ f4) (d35 : ∀ q ∈ f3, q ∉ f5) (d45 : ∀ q ∈ f4, q ∉ f5) :
    OwnsAll W #[.int .i64 p.id, .bool p.here, .int .i64 p.ahead, u3, u4, u5] 0 (prC T p) (f3 ++ (f4 ++ f5)) := by
  simp only [prC]
  unfold OwnsAll
  refine ⟨_, [], _, rfl, owns_leaf _, ?_, rfl, by simp⟩
  unfold OwnsAll
  refine ⟨_, [], _, rfl, owns_leaf _, ?_, rfl, by simp⟩
  unfold OwnsAll
  refine ⟨_, [], _, rfl, owns_leaf _, ?_, rfl, by simp⟩
  unfold OwnsAll
  refine ⟨_, f3, _, rfl, h3, ?_, rfl, fun q hq h => (List.mem_append.1 h).elim (d34 q hq) (d35 q hq)⟩
  unfold OwnsAll
  refine ⟨_, f4, f5, rfl, h4, ?_, rfl, d45⟩
  unfold OwnsAll
  refine ⟨_, f5, [], rfl, h5, ?_, by simp, by simp⟩
  unfold OwnsAll
  rfl

theorem owns_away {W : World} (x : Int) : OwnsAll W #[.int .i64 x, .bool false, .int .i64 0, .slice none 0 0, .slice none 0 0, .slice none 0 0] 0 (prC T0 (away x)) [] :=
  owns_six (T := T0) (away x) (owns_nil _ _) (owns_nil _ _) (owns_nil _ _) (by simp) (by simp) (by simp)

/-- The ring, peer by peer. -/
theorem ringNew_get {M : List Int} (h4 : 4 ≤ M.length) :
    ((M.take 4).map (knows (M.take 4)) ++ (M.drop 4).map away).length = M.length ∧
      ∀ k (hk : k < M.length), ((M.take 4).map (knows (M.take 4)) ++ (M.drop 4).map away)[k]? = some (if k < 4 then knows (M.take 4) M[k] else away M[k]) := by
  have h1 : ((M.take 4).map (knows (M.take 4))).length = 4 := by rw [List.length_map, List.length_take]; omega
  refine ⟨by rw [List.length_append, h1, List.length_map, List.length_drop]; omega, fun k hk => ?_⟩
  by_cases h : k < 4
  · rw [List.getElem?_append_left (by omega), if_pos h, List.getElem?_map, List.getElem?_take_of_lt h, List.getElem?_eq_getElem hk]
    rfl
  · rw [List.getElem?_append_right (by omega), if_neg h, List.getElem?_map, List.getElem?_drop, h1, show 4 + (k - 4) = k by omega, List.getElem?_eq_getElem hk]
    rfl

theorem six_other {w : World} {b : Nat} {v0 v1 v2 v3 v4 v5 : Value} {q : Nat} (h : q ≠ b) : ((((((w.setCell ⟨b, 0, none⟩ v0).setCell ⟨b, 1, none⟩ v1).setCell ⟨b, 2, none⟩ v2).setCell ⟨b, 3, none⟩ v3).setCell ⟨b, 4, none⟩ v4).setCell ⟨b, 5, none⟩ v5).heap[q]? = w.heap[q]? := by
  rw [Below.heap_setCell _ _ _ _ h, Below.heap_setCell _ _ _ _ h, Below.heap_setCell _ _ _ _ h, Below.heap_setCell _ _ _ _ h, Below.heap_setCell _ _ _ _ h, Below.heap_setCell _ _ _ _ h]

theorem three_of {α : Type} {l : List α} (h : l.length = 3) : ∃ a b c, l = [a, b, c] := by
  match l, h with
  | [a, b, c], _ => exact ⟨a, b, c, rfl⟩

theorem flat_take {α β : Type} (f : α → List β) {l : List α} {k : Nat} {x : α} (h : l[k]? = some x) : (l.take (k + 1)).flatMap f = (l.take k).flatMap f ++ f x := by
  obtain ⟨hk, rfl⟩ := List.getElem?_eq_some_iff.1 h
  rw [List.take_succ_eq_append_getElem hk, List.flatMap_append]
  simp
end Go.Proofs.YteladljgnbfcnaaGreat.P9
namespace Go.Proofs.YteladljgnbfcnaaGreat.P9
set_option maxRecDepth 8000
open Go.RowKit P1 P8 Da Rr Ap Rc

set_option maxHeartbeats 4000000 in
theorem specRingNew_calls (w : World) (v : Value) (ids : List Int) (hv : IntsAt w v ids) (hl : ids.length ≤ 1048576) :
    Calls Tryz.prog 21 #[v] w fun e w' => ∃ v' fp, e = .returned (.agg #[v']) ∧ Owns w' v' (peersD T0 (ringNew ids)) fp ∧ (∀ q ∈ fp, w.heap.size ≤ q) ∧ Below w.heap.size w w' := by
  obtain ⟨i0, hi, hz0, hz1, hz2⟩ := info_parts info_i64
  have hR2 : ringNew ids = if (kept ids).length < 4 then [] else ((kept ids).take 4).map (knows ((kept ids).take 4)) ++ ((kept ids).drop 4).map away := rfl
  generalize ringNew ids = RN at *
  have HRN := hide hR2
  have HV := hide hv
  obtain ⟨av, cv, rfl, -⟩ := hv
  clear hR2
  obtain ⟨O, HO0, HOs, HOl, HOe⟩ : ∃ O : Nat → List Int, Hid (O 0 = []) ∧ Hid (∀ k (hk : k < ids.length), O (k + 1) = if onR ids[k] = true ∧ ids[k] ∉ O k ∧ (O k).length < 8 then O k ++ [ids[k]] else O k) ∧ Hid (∀ k, (O k).length ≤ 8) ∧ Hid (O ids.length = kept ids) := by
    refine ⟨fun k => kept (ids.take k), rfl, fun k hk => ?_, fun k => keep8_length _, ?_⟩
    · show kept (ids.take (k + 1)) = _
      rw [List.take_succ_eq_append_getElem hk, kept_snoc]
    · show kept (ids.take ids.length) = _
      rw [List.take_length]
  have h1 := (Below.refl w.heap.size w).alloc (Nat.le_refl _) (.cells #[.slice none 0 0] 28)
  have R := Blk.new w #[.slice none 0 0] 28
  have HVb := hide (HV.out.below h1 (Nat.le_refl _))
  have HB1 := hide h1
  clear h1 HV
  go_enter Tryz.func21, Tryz.ntmps21
  go_upto_region 1 with fail
  obtain ⟨b2, e2⟩ : ∃ b, b = w.heap.size := ⟨_, rfl⟩
  rw [← e2] at R ⊢
  have hb2 : w.heap.size ≤ b2 := by omega
  clear e2
  generalize w.alloc (.cells #[.slice none 0 0] 28) = w1 at *
  have hlt2 := R.lt
  -- mine
  have HS0 := hide (own_lit0 w1)
  have HB0 := hide ((Below.refl w1.heap.size w1).alloc (Nat.le_refl _) (.cells #[] 3))
  go_upto_region 3 with fail
  obtain ⟨B, eB⟩ : ∃ B, B = w1.heap.size := ⟨_, rfl⟩
  rw [← eB] at HS0 HB0 ⊢
  have hBw : w1.heap.size ≤ B := by omega
  have HBw : Hid (B ≤ w1.heap.size) := by show _ ≤ _; omega
  clear eB
  generalize w1.alloc (.cells #[] 3) = w2 at *
  go_loopw [3, 4] (fun vm i wr => ∃ k : Nat, k ≤ ids.length ∧ i = .int .i64 k ∧ Hid (wr.ownsRow B 3 1 vm (O k).length (cellsI (O k))) ∧ Hid (Below B w1 wr)) (fun _ i _ => ids.length - (intOf i).toNat)
  case atStart => exact ⟨0, Nat.zero_le _, rfl, by show World.ownsRow _ _ _ _ _ _ _; rw [HO0.out]; exact HS0.out, HB0.out⟩
  case round =>
    clear HS0 HB0
    obtain ⟨k, hk, rfl, HO, HB⟩ := hrel
    by_cases hlt : k < ids.length
    · have hBr : B ≤ wr.heap.size := by have := HB.out.size; have := HBw.out; omega
      obtain ⟨av2, cv2, hsh, HA⟩ := HVb.out.below HB.out hBw
      cases hsh
      obtain ⟨ga, oa, rfl, ha2, ha3⟩ := HA k hlt
      clear HA
      have hs := HOs.out k hlt
      have h8 := HOl.out k
      obtain ⟨ao, co, hsh⟩ := own_sh HO.out
      subst hsh
      have HI := hide (IntsAt.of_own HO.out)
      obtain ⟨M, EO⟩ : ∃ M, M = O k := ⟨_, rfl⟩
      obtain ⟨x, EX⟩ : ∃ x, x = ids[k] := ⟨_, rfl⟩
      rw [← EX] at ha3
      rw [← EO, ← EX] at hs
      rw [← EO] at HO HI h8 ⊢
      have HS := hide hs
      clear hs EO EX
      have HH := hide (specHas_calls wr _ M x HI.out (by omega))
      have HL := hide (l01In_calls x 0 255 wr)
      go_wp2_with fail
      refine HL.out.mono ?_
      rintro e w3 ⟨rfl, hw3⟩
      replace hw3 := hw3.symm
      subst hw3
      clear HL
      by_cases ho : onR x = true
      · have hd : decide (0 ≤ x ∧ x ≤ 255) = true := by
          simp [onR] at ho
          exact decide_eq_true (by omega)
        have HOR := hide ho
        rw [hd]
        clear hd ho
        go_wp2_with fail
        refine HH.out.mono ?_
        rintro e w4 ⟨rfl, hw4⟩
        replace hw4 := hw4.symm
        subst hw4
        clear HH
        by_cases hm : x ∈ M
        · have HN : Hid (O (k + 1) = M) := by show _ = _; rw [HS.out, if_neg (fun h => h.2.1 hm)]
          rw [decide_eq_true hm]
          clear HI HS hm
          go_wp2
          go_roundw
          case rel => exact ⟨k + 1, by omega, by go_num, by show World.ownsRow _ _ _ _ _ _ _; rw [HN.out]; exact HO.out, HB.out⟩
          case measure => simp [intOf]; omega
        · by_cases h7 : M.length < 8
          · have HN : Hid (O (k + 1) = M ++ [x]) := by show _ = _; rw [HS.out, if_pos ⟨HOR.out, hm, h7⟩]
            rw [decide_eq_false hm]
            have hd : decide ((M.length : Int) < 8) = true := decide_eq_true (by omega)
            clear HI HS hm
            go_wp2_with (at_builtin; refine wpList_append_one (cs := #[.int .i64 x]) (Below.refl B wr) hBr rfl (.tmp 37) (.tmp 42) 24 rfl 3 i0 (.int .i64 0) 1 8 Tryz.underlying24 hi hz0 hz1 hz2 rfl (by decide) rfl (by simp [Value.oneCell']) _ _ _ rfl HO.out 1 rfl (by omega) (by omega) ?_)
            intro v6 w6 hown hb
            have HX6 := hide (own_snocI hown)
            have HB6 := hide (HB.out.trans hb)
            clear hown hb HO HB
            go_wp2
            go_roundw
            case rel => exact ⟨k + 1, by omega, by go_num, by show World.ownsRow _ _ _ _ _ _ _; rw [HN.out]; exact HX6.out, HB6.out⟩
            case measure => simp [intOf]; omega
          · have HN : Hid (O (k + 1) = M) := by show _ = _; rw [HS.out, if_neg (fun h => h7 h.2.2)]
            rw [decide_eq_false hm]
            have hd : decide ((M.length : Int) < 8) = false := decide_eq_false (by omega)
            clear HI HS hm
            go_wp2
            go_roundw
            case rel => exact ⟨k + 1, by omega, by go_num, by show World.ownsRow _ _ _ _ _ _ _; rw [HN.out]; exact HO.out, HB.out⟩
            case measure => simp [intOf]; omega
      · have hd : decide (0 ≤ x ∧ x ≤ 255) = false := by
          refine decide_eq_false (fun h => ho ?_)
          simp [onR]
          omega
        have HN : Hid (O (k + 1) = M) := by show _ = _; rw [HS.out, if_neg (fun h => ho h.1)]
        rw [hd]
        clear HI HS hd ho HH
        go_wp2
        go_roundw
        case rel => exact ⟨k + 1, by omega, by go_num, by show World.ownsRow _ _ _ _ _ _ _; rw [HN.out]; exact HO.out, HB.out⟩
        case measure => simp [intOf]; omega
    · obtain rfl : k = ids.length := by omega
      have hO := HO.out
      rw [HOe.out] at hO
      have h8 := keep8_length (nub ids)
      change (kept ids).length ≤ 8 at h8
      have hnd := kept_nodup ids
      have hon := fun x (hx : x ∈ kept ids) => kept_on hx
      have Rr := R.below HB.out (by omega)
      have hBr : B ≤ wr.heap.size := by have := HB.out.size; have := HBw.out; omega
      have HBW := hide (HB1.out.trans (HB.out.mono (by have := HB1.out.size; omega)))
      clear HO0 HOs HOl HOe HO HB HBw HVb HB1 R
      generalize kept ids = M at *
      have HO := hide hO
      clear hO
      obtain ⟨a3, c3, hsh⟩ := own_sh HO.out
      subst hsh
      have cR := blk_free_cell Rr 0 rfl
      have fR := Rr.free 0
      have lR := Rr.lt
      by_cases h4 : M.length < 4
      · have hd : decide ((M.length : Int) < 4) = true := decide_eq_true (by omega)
        go_wp2_with fail
        have Rd := Rr.set 0 (.slice none 0 0)
        have x0 := blk_free_cell Rd 0 rfl
        refine bodyPost_ret (v := .agg #[.slice none 0 0]) (by simp [results, Tryz.results21, go_sem, x0]) rfl ⟨_, [], rfl, ?_, (fun q hq => by cases hq), HBW.out.setCell (p := ⟨b2, 0, none⟩) hb2 _⟩
        rw [HRN.out, if_pos h4]
        exact owns_nil _ _
      · have hd : decide ((M.length : Int) < 4) = false := decide_eq_false (by omega)
        obtain ⟨g3, c3', hv3, hg31, hg32, hc3, hq3, -⟩ := own_at HO.out (by omega)
        cases hv3
        have hnn : ¬ ((M.length : Int) < 4) := by omega
        have hcc : 4 ≤ c3 := by omega
        go_upto_region 11 with fail
        have Q6 := Blk.new wr #[.slice none 0 0] 28
        have hb56 := (Below.refl wr.heap.size wr).alloc (Nat.le_refl _) (.cells #[.slice none 0 0] 28)
        have R5 := Rr.below hb56 lR
        have HB5 := hide (HBW.out.trans (hb56.mono HBW.out.size))
        have hK3 : ∀ j (hj : j < M.length), (wr.alloc (.cells #[.slice none 0 0] 28)).cell? ⟨g3, j, none⟩ = some (.int .i64 M[j]) := fun j hj => by
          rw [hb56.cell (p := ⟨g3, j, none⟩) hg32, hq3 j (by omega)]
          simp [cellsI, hj]
        have hlR := lR
        have hwz := HBW.out.size
        obtain ⟨hRl, hRg⟩ := ringNew_get (M := M) (by omega)
        have hRN := HRN.out
        rw [if_neg h4] at hRN
        rw [← hRN] at hRl hRg
        have HRG := hide hRg
        have HK3 := hide hK3
        have hsz : (wr.alloc (.cells #[.slice none 0 0] 28)).heap.size = wr.heap.size + 1 := by simp
        obtain ⟨b6, e6⟩ : ∃ b, b = wr.heap.size := ⟨_, rfl⟩
        rw [← e6] at Q6 ⊢
        have h62 : b6 ≠ b2 := by omega
        have h63 : g3 ≠ b6 := by omega
        have h6w : w.heap.size ≤ b6 := by omega
        have hC6 : (wr.alloc (.cells #[.slice none 0 0] 28)).heap.size = b6 + 1 := by omega
        have hg3C : g3 < b6 + 1 := by omega
        have HNE := hide (show b2 < b6 + 1 by omega)
        clear hb56 hK3 hsz e6 hRg hRN cR fR lR hlR hwz HBW Rr hq3 hg31 hg32 HO HRN hd
        generalize wr.alloc (.cells #[.slice none 0 0] 28) = w5 at *
        obtain ⟨ip, hpi, hpz0, hpz1, hpz2⟩ := info_parts info_peer
        rw [← hRl] at h8
        go_upto_region 12 with fail
        go_loopw [7] (fun i wx => ∃ k : Nat, k ≤ M.length ∧ i = .int .i64 k ∧ ∃ rv X fps, Hid (Blk wx b6 [rv] 28) ∧ Hid (RowD wx (b6 + 1) 37 6 rv k X ((RN.take k).flatMap (prC T0)) fps) ∧ Hid (Only [b6] w5 wx) ∧ Hid (∀ q ∈ fps, b6 + 1 ≤ q)) (fun i _ => M.length - (intOf i).toNat)
        case atStart => exact ⟨0, Nat.zero_le _, rfl, _, [], [], Q6, RowD.nil _ _ _ _, Only.refl _ _, fun q hq => by cases hq⟩
        case round =>
          clear Q6
          obtain ⟨k, hk, rfl, rv, X, fps, HQ, HR, HOn, HFP⟩ := hrel
          obtain ⟨ar, cr, hsh⟩ := own_sh HR.out.row
          subst hsh
          have hCx : b6 + 1 ≤ wr.heap.size := by have := HOn.out.size; omega
          by_cases hlt : k < M.length
          · have HG := hide (HRG.out k hlt)
            have HX3 := hide (fun (p : Near wr.heap.size wr) => (p.h.cell (p := ⟨g3, k, none⟩) (show g3 < wr.heap.size by omega)).trans ((only_cell HOn.out (p := ⟨g3, k, none⟩) (by show g3 < _; omega) (by simp [h63])).trans (HK3.out k hlt)))
            have HX6 := hide (fun (p : Near wr.heap.size wr) => (show p.w.cell? ⟨b6, 0, none⟩ = some (.slice ar k cr) by rw [(HQ.out.below p.h HQ.out.lt).cell 0]; rfl))
            by_cases hk4 : k < 4
            · have hd : decide ((k : Int) ≥ 4) = false := decide_eq_false (by omega)
              rw [if_pos hk4] at HG
              have hxon := hon M[k] (List.getElem_mem hlt)
              have hB4l : (M.take 4).length = 4 := by rw [List.length_take]; omega
              have hB4m : M[k] ∈ M.take 4 := by
                rw [← List.getElem_take (h := by rw [hB4l]; exact hk4)]
                exact List.getElem_mem _
              have hB4n : (M.take 4).Nodup := hnd.sublist (List.take_sublist _ _)
              have hthree := ordered_three hB4n hB4l hB4m
              have HI4 := hide (fun (wq : World) (hq : Below wr.heap.size wr wq) => ints_of_cells (w := wq) (g := g3) (c := c3) (l := M.take 4) (by have := hq.size; omega) (fun j hj => by
                rw [hB4l] at hj
                have e1 := hq.cell (p := ⟨g3, j, none⟩) (show g3 < wr.heap.size by omega)
                have e2 := only_cell HOn.out (p := ⟨g3, j, none⟩) (by show g3 < _; omega) (by simp [h63])
                rw [e1, e2, HK3.out j (by omega), List.getElem_take]))
              rw [hB4l] at HI4
              generalize M.take 4 = B4 at *
              generalize M[k] = x at *
              have c0 := HX3.out ⟨wr, Below.refl _ _⟩
              simp only at c0
              have HC0 := hide c0
              have hg3x : g3 < wr.heap.size := by omega
              have HCo := hide (specOrdered_calls wr _ B4 x (HI4.out wr (Below.refl _ _)) (by omega))
              obtain ⟨y0, y1, y2, hL⟩ := three_of hthree
              have HKN : Hid (knows B4 x = ⟨x, true, y2, [y0, y1, y2], fingers B4 x, []⟩) := by
                show _ = _
                unfold knows
                rw [hL]
                rfl
              rw [hL] at HCo
              have HON := hide hon
              have h4B : B4.length ≤ 1048576 := by omega
              have HLE := hide hB4l
              clear hthree hB4m hB4n hL hnd hon hB4l
              go_wp2_with fail
              refine HCo.out.mono ?_
              rintro e w8 ⟨v8, rfl, hown8, hb8⟩
              obtain ⟨g8, c8, hv8, hg81, hg82, hc8, hq8, -⟩ := own_at hown8 (by simp)
              subst hv8
              have hI8 : IntsAt w8 (.slice (some ⟨g8, 0, none⟩) 3 c8) [y0, y1, y2] := IntsAt.of_own hown8
              have h82 : w8.cell? ⟨g8, 2, none⟩ = some (.int .i64 y2) := by rw [hq8 2 (by simp)]; rfl
              have HI8 := hide hI8
              have HB8 := hide hb8
              have HC3' := hide (fun (p : Near w8.heap.size w8) => (p.h.cell (p := ⟨g3, k, none⟩) (Nat.lt_of_lt_of_le hg3x hb8.size)).trans ((hb8.cell (p := ⟨g3, k, none⟩) hg3x).trans c0))
              have n1 : ∀ p : Near w8.heap.size w8, p.w.cell? ⟨g8, 2, none⟩ = some (.int .i64 y2) := fun p => (p.h.cell (p := ⟨g8, 2, none⟩) hg82).trans h82
              have hg3y : g3 < w8.heap.size := Nat.lt_of_lt_of_le hg3x hb8.size
              have n0 := HC3'.out
              have hnn := Near.some w8.heap.size w8
              have hc8' : 3 ≤ c8 := by simpa using hc8
              clear hown8 hq8 hI8 hb8 hg81 HCo c0 h82 hc8 HX3 HX6
              go_wp2_with fail
              refine wp_region_open (fun wd => ∃ p : Near w8.heap.size w8, wd = p.w) ⟨⟨_, (Below.refl _ _).drew⟩, rfl⟩ (by kernel_rfl) ?_
              rintro wd ⟨pd, rfl⟩
              refine wpAny_of_K (c := 14) (D := fun w' => ∃ p : Near w8.heap.size w8, w' = p.w) _ _ _ _ ?_
              refine wpAnyK_seg_lit4 0 11 8 4 rfl (by decide) (by decide) (by kernel_rfl) (by kernel_rfl) (by kernel_rfl) (by kernel_rfl) (fun _ _ _ _ _ h => h) ⟨pd, rfl⟩ ?_
              simp only [List.take_succ_cons, List.take_zero, List.drop_zero]
              repeat (go_big_quiet_step (fail))
              refine wpQuiet_nil ?_
              have hpz := pd.h.size
              have h8z := HB8.out.size
              have HFEW := hide (fun (wq : World) (hq : Below w8.heap.size w8 wq) => specFew_calls wq [y0, y1, y2] _ c8 (HI8.out.below hq (Nat.le_refl _)) (by simp) (by simpa using hc8') (by simp))
              clear n0 n1 hnn HC3' HI8
              refine wpAnyK_pair 11 13 (by kernel_rfl) rfl rfl ?first ?second
              case' first =>
                go_wp2_with fail
                refine (HFEW.out pd.w pd.h).mono ?_
                rintro e w9 ⟨v9, rfl, ho9, hb9⟩
                obtain ⟨g9, c9, hv9, hg91, hg92, hc9, -, -⟩ := own_at ho9 (by simp)
                subst hv9
                have hq9 := pd.h.trans (hb9.mono hpz)
                go_wp2_with fail
                refine ⟨⟨⟨_, hq9⟩, rfl⟩, ?_⟩
                refine wpAnyK_seg_lit4 12 1 4 2 rfl (by decide) (by decide) (by kernel_rfl) (by kernel_rfl) (by kernel_rfl) (by kernel_rfl) (fun _ _ _ _ _ h => h) ⟨⟨_, hq9⟩, rfl⟩ ?_
                simp only [List.take_succ_cons, List.take_zero, List.drop_succ_cons, List.drop_zero]
                repeat (go_big_quiet_step (rfl))
                refine wpQuiet_nil ?_
                refine wpAnyK_one 13 (by kernel_rfl) rfl ?_
                go_wp2_with fail
                refine ⟨⟨⟨_, hq9.alloc hq9.size _⟩, rfl⟩, ?_⟩
                refine wpAnyK_last (by kernel_rfl) (by decide) ?_
                refine wpAny_rest 14 rfl (by kernel_rfl) ?_
                simp only [List.drop_succ_cons, List.drop_zero]
                go_upto_region 18 with fail
                have hQ9 := Blk.new w9 #[.int .i64 x, .bool true, .int .i64 y2, .slice (some ⟨g9, 0, none⟩) 3 c9, .slice none 0 0, .slice none 0 0] 37
                have hO9 := ho9.alloc (.cells #[.int .i64 x, .bool true, .int .i64 y2, .slice (some ⟨g9, 0, none⟩) 3 c9, .slice none 0 0, .slice none 0 0] 37)
                have hB9 := HB8.out.trans ((hq9.alloc hq9.size (.cells #[.int .i64 x, .bool true, .int .i64 y2, .slice (some ⟨g9, 0, none⟩) 3 c9, .slice none 0 0, .slice none 0 0] 37)).mono h8z)
                have h9z := hb9.size
                obtain ⟨b9, e9⟩ : ∃ b, b = w9.heap.size := ⟨_, rfl⟩
                rw [← e9] at hQ9 ⊢
                have hne9 : g9 ≠ b9 := by omega
                have hb9w : wr.heap.size ≤ b9 := by omega
                have hg9w : wr.heap.size ≤ g9 := by omega
                have HO9 := hide (own_mono hO9 (by omega : wr.heap.size ≤ _))
                have HQ9 := hide hQ9
                have HB9 := hide hB9
                clear e9 ho9 hb9 hq9 hg91 hg92 hc9 hpz h9z HFEW hQ9 hO9 hB9 HB8
                generalize w9.alloc (.cells #[.int .i64 x, .bool true, .int .i64 y2, .slice (some ⟨g9, 0, none⟩) 3 c9, .slice none 0 0, .slice none 0 0] 37) = wI at *
                clear pd w9
              case' second =>
                go_wp2_with fail
                have hqA := pd.h.alloc hpz (.cells #[.int .i64 0, .bool false, .int .i64 0, .slice none 0 0, .slice none 0 0, .slice none 0 0] 37)
                have hbA := (Below.refl pd.w.heap.size pd.w).alloc (Nat.le_refl _) (.cells #[.int .i64 0, .bool false, .int .i64 0, .slice none 0 0, .slice none 0 0, .slice none 0 0] 37)
                have hQA := Blk.new pd.w #[.int .i64 0, .bool false, .int .i64 0, .slice none 0 0, .slice none 0 0, .slice none 0 0] 37
                have hAs : (pd.w.alloc (.cells #[.int .i64 0, .bool false, .int .i64 0, .slice none 0 0, .slice none 0 0, .slice none 0 0] 37)).heap.size = pd.w.heap.size + 1 := by simp
                refine ⟨⟨⟨_, hqA⟩, rfl⟩, ?_⟩
                generalize pd.w.alloc (.cells #[.int .i64 0, .bool false, .int .i64 0, .slice none 0 0, .slice none 0 0, .slice none 0 0] 37) = wA at *
                refine wpAnyK_one 11 (by kernel_rfl) rfl ?_
                go_wp2_with fail
                refine (HFEW.out wA hqA).mono ?_
                rintro e w9 ⟨v9, rfl, ho9, hb9⟩
                obtain ⟨g9, c9, hv9, hg91, hg92, hc9, -, -⟩ := own_at ho9 (by simp)
                subst hv9
                have hq9 := hqA.trans (hb9.mono hqA.size)
                go_wp2_with fail
                refine ⟨⟨⟨_, hq9⟩, rfl⟩, ?_⟩
                refine wpAnyK_seg_lit4 12 1 4 1 rfl (by decide) (by decide) (by kernel_rfl) (by kernel_rfl) (by kernel_rfl) (by kernel_rfl) (fun _ _ _ _ _ h => h) ⟨⟨_, hq9⟩, rfl⟩ ?_
                simp only [List.take_succ_cons, List.take_zero, List.drop_succ_cons, List.drop_zero]
                repeat (go_big_quiet_step (rfl))
                refine wpQuiet_nil ?_
                refine wpAnyK_last (by kernel_rfl) (by decide) ?_
                refine wpAny_rest 14 rfl (by kernel_rfl) ?_
                simp only [List.drop_succ_cons, List.drop_zero]
                have hQ9 := hQA.below hb9 hQA.lt
                have k0 := blk_free_cell hQ9 0 rfl
                have k1 := blk_free_cell hQ9 1 rfl
                have k2 := blk_free_cell hQ9 2 rfl
                have k3 := blk_free_cell hQ9 3 rfl
                have k4 := blk_free_cell hQ9 4 rfl
                have k5 := blk_free_cell hQ9 5 rfl
                have kf0 := hQ9.free 0
                have kf1 := hQ9.free 1
                have kf2 := hQ9.free 2
                have kf3 := hQ9.free 3
                have kf4 := hQ9.free 4
                have kf5 := hQ9.free 5
                have kl := hQ9.lt
                go_upto_region 18 with fail
                have hQ9' := ((((((hQ9.set 0 (.int .i64 x)).set 1 (.bool true)).set 2 (.int .i64 y2)).set 3 (.slice (some ⟨g9, 0, none⟩) 3 c9)).set 4 (.slice none 0 0)).set 5 (.slice none 0 0))
                simp only [List.set_cons_succ, List.set_cons_zero] at hQ9'
                have h9z := hb9.size
                have hAz := hqA.size
                generalize pd.w.heap.size = b9 at *
                have hne9 : g9 ≠ b9 := by omega
                have hb9w : wr.heap.size ≤ b9 := by omega
                have hg9w : wr.heap.size ≤ g9 := by omega
                have hown9 : (Value.slice (some ⟨g9, 0, none⟩) 3 c9).ownBlock ≠ some b9 := by simpa [Value.ownBlock] using hne9
                have hO9 := ownsRow_setCell_other (ownsRow_setCell_other (ownsRow_setCell_other (ownsRow_setCell_other (ownsRow_setCell_other (ownsRow_setCell_other (own_mono ho9 (by omega : wr.heap.size ≤ _)) (a := ⟨b9, 0, none⟩) hown9 (.int .i64 x)) (a := ⟨b9, 1, none⟩) hown9 (.bool true)) (a := ⟨b9, 2, none⟩) hown9 (.int .i64 y2)) (a := ⟨b9, 3, none⟩) hown9 (.slice (some ⟨g9, 0, none⟩) 3 c9)) (a := ⟨b9, 4, none⟩) hown9 (.slice none 0 0)) (a := ⟨b9, 5, none⟩) hown9 (.slice none 0 0)
                have hB9 := (((((((HB8.out.trans (hq9.mono h8z)).setCell (p := ⟨b9, 0, none⟩) hb9w (.int .i64 x)).setCell (p := ⟨b9, 1, none⟩) hb9w (.bool true)).setCell (p := ⟨b9, 2, none⟩) hb9w (.int .i64 y2)).setCell (p := ⟨b9, 3, none⟩) hb9w (.slice (some ⟨g9, 0, none⟩) 3 c9)).setCell (p := ⟨b9, 4, none⟩) hb9w (.slice none 0 0)).setCell (p := ⟨b9, 5, none⟩) hb9w (.slice none 0 0))
                have HO9 := hide hO9
                have HQ9 := hide hQ9'
                have HB9 := hide hB9
                clear ho9 hb9 hq9 hg91 hg92 hc9 hpz h9z HFEW hQ9 hQ9' hO9 hB9 HB8 k0 k1 k2 k3 k4 k5 kf0 kf1 kf2 kf3 kf4 kf5 kl hQA hAs hqA hbA hAz hown9
                generalize (((((w9.setCell ⟨b9, 0, none⟩ (.int .i64 x)).setCell ⟨b9, 1, none⟩ (.bool true)).setCell ⟨b9, 2, none⟩ (.int .i64 y2)).setCell ⟨b9, 3, none⟩ (.slice (some ⟨g9, 0, none⟩) 3 c9)).setCell ⟨b9, 4, none⟩ (.slice none 0 0)).setCell ⟨b9, 5, none⟩ (.slice none 0 0) = wI at *
                clear pd w9 wA
              all_goals
                have HRI := hide (HR.out.below HB9.out)
                have HQI := hide (HQ.out.below HB9.out HQ.out.lt)
                have HOI := hide (HOn.out.trans (Only.of_below HB9.out))
                have hlI := HQ9.out.lt
                have hg3I : g3 < wI.heap.size := Nat.lt_of_lt_of_le hg3x HB9.out.size
                have hg39 : g3 ≠ b9 := by omega
                have hb69 : b6 ≠ b9 := by omega
                have hCI : b6 + 1 ≤ wI.heap.size := Nat.le_trans hCx HB9.out.size
                have HCx := hide (fun (wq : World) (hq : Only [b9] wI wq) => (only_cell hq (p := ⟨g3, k, none⟩) hg3I (by simpa using hg39)).trans ((HB9.out.cell (p := ⟨g3, k, none⟩) hg3x).trans HC0.out))
                have H4x := hide (fun (wq : World) (hq : Only [b9] wI wq) => ints_only (HI4.out wI HB9.out) hq (by simpa using hg39))
                have hCw : wr.heap.size ≤ wI.heap.size := HB9.out.size
                have HFL := hide HR.out.lt
                have hOz := HOn.out.size
                obtain ⟨f3, o3, hf3⟩ := ints_owns (l := [y0, y1, y2]) HO9.out
                have HF3 : Hid (Owns wI (.slice (some ⟨g9, 0, none⟩) 3 c9) (intsD [y0, y1, y2]) f3 ∧ ∀ q ∈ f3, wr.heap.size ≤ q ∧ q < wI.heap.size ∧ q ≠ b9) := by
                  refine ⟨o3, fun q hq => ⟨hf3 q hq, o3.lt q hq, ?_⟩⟩
                  have h1 := hf3 q hq
                  unfold intsD Owns at o3
                  rcases o3 with ⟨h, _⟩ | ⟨g', n', cap', cur, fps', e1, e2, e3, e4, e5, e6, e7, e8, e9⟩
                  · cases h
                  · cases e1
                    have hz := e9.plain_fp (fun d hd => by
                      obtain ⟨z, _, rfl⟩ := List.mem_map.1 hd
                      exact ⟨_, rfl⟩)
                    rw [e7, hz] at hq
                    simp at hq
                    omega
                obtain ⟨N0, hN0⟩ : ∃ N, N = wr.heap.size := ⟨_, rfl⟩
                rw [← hN0] at HFL HF3 hb9w hCw hCx hOz
                clear HR HQ HOn HB9 HC0 HI4 hg82 hg3y
                go_upto_region 19 with fail
                go_loopw [10] (fun i wx => ∃ (j : Nat) (vf : Value), j ≤ 8 ∧ i = .int .i64 j ∧ Hid (Blk wx b9 [.int .i64 x, .bool true, .int .i64 y2, .slice (some ⟨g9, 0, none⟩) 3 c9, vf, .slice none 0 0] 37) ∧ Hid (wx.ownsRow wI.heap.size 3 1 vf j (cellsI ((fingers B4 x).take j))) ∧ Hid (Only [b9] wI wx)) (fun i _ => 8 - (intOf i).toNat)
                case atStart => exact ⟨0, _, Nat.zero_le _, rfl, HQ9.out, World.ownsRow_nil _ _ _ _, Only.refl _ _⟩
                case round =>
                  clear HQ9
                  obtain ⟨j, vf, hj, rfl, HQx, HFx, HOx⟩ := hrel
                  obtain ⟨af, cf, hsh⟩ := own_sh HFx.out
                  subst hsh
                  have hIx := HOx.out.size
                  by_cases hj8 : j < 8
                  · have HX1 := hide (fun (p : Near wr.heap.size wr) => (p.h.cell (p := ⟨g3, k, none⟩) (show g3 < wr.heap.size by omega)).trans (HCx.out wr HOx.out))
                    have HX2 := hide (fun (p : Near wr.heap.size wr) => (show p.w.cell? ⟨b9, 4, none⟩ = some (.slice af j cf) by rw [(HQx.out.below p.h HQx.out.lt).cell 4]; rfl))
                    have n0 := HX1.out
                    have n1 := HX2.out
                    have hnn := Near.some wr.heap.size wr
                    have l9 := HQx.out.lt
                    have hg3r : g3 < wr.heap.size := by omega
                    clear HX1 HX2
                    go_wp2_with fail
                    refine wp_region_open (fun wd => ∃ p : Near wr.heap.size wr, wd = p.w) ⟨⟨_, (Below.refl _ _).drew⟩, rfl⟩ (by kernel_rfl) ?_
                    rintro wd ⟨pd, rfl⟩
                    refine wpAny_of_K (c := 13) (D := fun w' => ∃ p : Near wr.heap.size wr, w' = p.w) _ _ _ _ ?_
                    refine wpAnyK_seg_lit4 0 11 8 5 rfl (by decide) (by decide) (by kernel_rfl) (by kernel_rfl) (by kernel_rfl) (by kernel_rfl) (fun _ _ _ _ _ h => h) ⟨pd, rfl⟩ ?_
                    simp only [List.take_succ_cons, List.take_zero, List.drop_zero]
                    repeat (go_big_quiet_step (fail))
                    refine wpQuiet_nil ?_
                    refine wpAnyK_one 11 (by kernel_rfl) rfl ?_
                    go_wp2_with fail
                    rw [key_of hxon.1 hxon.2 hj8]
                    refine (specOwner_calls pd.w _ B4 _ ((H4x.out wr HOx.out).below pd.h (Nat.le_refl _)) h4B).mono ?_
                    rintro e w10 ⟨rfl, n10, hw10⟩
                    have hq10 : Below wr.heap.size wr w10 := by rw [hw10]; exact below_drewN pd.h n10
                    clear hw10 n0 n1
                    go_wp2_with fail
                    refine ⟨⟨⟨w10, hq10⟩, rfl⟩, ?_⟩
                    have HFS := hide (fingers_succ B4 x hj8)
                    generalize ownerOf (x + (2 : Int) ^ j) B4 = fo at *
                    refine wpAnyK_value (i := 12) (v := .slice (some ⟨w10.heap.size, 0, none⟩) 1 1) (w' := w10.alloc (.cells #[.int .i64 fo] 3)) (by kernel_rfl) rfl rfl (by simp [execOp, go_sem]) ⟨⟨_, hq10.alloc hq10.size _⟩, rfl⟩ ?_
                    refine wpAnyK_last (by kernel_rfl) (by decide) ?_
                    refine wpAny_rest 13 rfl (by kernel_rfl) ?_
                    simp only [List.drop_succ_cons, List.drop_zero]
                    have hF10 := hide (own_below HFx.out hq10)
                    have hQ10 := hide (HQx.out.below hq10 HQx.out.lt)
                    have hO10 := hide (HOx.out.trans (Only.of_below hq10))
                    have hI10 : wI.heap.size ≤ w10.heap.size := Nat.le_trans hIx hq10.size
                    clear HFx HQx HOx hnn l9 hg3r hq10 hIx
                    go_wp2_with (at_builtin; refine wpList_append_one (cs := #[.int .i64 fo]) (Below.refl wI.heap.size w10) hI10 rfl (.tmp 93) (.tmp 104) 24 rfl 3 i0 (.int .i64 0) 1 8 Tryz.underlying24 hi hz0 hz1 hz2 rfl (by decide) rfl (by simp [Value.oneCell']) _ _ _ rfl hF10.out 1 rfl (by omega) (by omega) ?_)
                    intro v6 w6 hown hb6'
                    obtain ⟨a6, c6, hsh⟩ := own_sh hown
                    subst hsh
                    have hown' : w6.ownsRow wI.heap.size 3 1 (.slice a6 (j + 1) c6) (j + 1) (cellsI ((fingers B4 x).take (j + 1))) := by
                      rw [HFS.out]
                      simpa [cellsI] using hown
                    have hQ6 := hQ10.out.below hb6' hlI
                    have k4 := blk_free_cell hQ6 4 rfl
                    have kf4 := hQ6.free 4
                    have kl := hQ6.lt
                    have hne : (Value.slice a6 (j + 1) c6).ownBlock ≠ some b9 := fun e => by have := (hown'.lt b9 e).1; omega
                    have HF7 := hide (ownsRow_setCell_other hown' (a := ⟨b9, 4, none⟩) hne (.slice a6 (j + 1) c6))
                    have HQ7 := hide (hQ6.set 4 (.slice a6 (j + 1) c6))
                    have HO7 := hide ((only_more hO10.out hb6').setCell (p := ⟨b9, 4, none⟩) (by simp) (.slice a6 (j + 1) c6))
                    clear hown hown' hb6' hQ6 hne hF10 hQ10 hO10 hI10
                    go_wp2
                    go_roundw
                    case rel => exact ⟨j + 1, _, by omega, by go_num, HQ7.out, HF7.out, HO7.out⟩
                    case measure => simp [intOf]; omega
                  · obtain rfl : j = 8 := by omega
                    have hF := HFx.out
                    rw [List.take_of_length_le (by rw [fingers_length]; omega)] at hF
                    obtain ⟨f4, o4, hf4⟩ := ints_owns (l := fingers B4 x) (v := .slice af 8 cf) (by rw [fingers_length]; exact hF)
                    have o3 := HF3.out.1.stay (W' := wr) (fun q hq => HOx.out.block q (HF3.out.2 q hq).2.1 (by simpa using (HF3.out.2 q hq).2.2))
                    have hRx := HRI.out.stay (W' := wr) (fun q hq => HOx.out.block q (by have := HFL.out.1 q hq; omega) (by have := HFL.out.1 q hq; simp; omega)) (fun q hq => HOx.out.block q (by have := HFL.out.2 q hq; omega) (by have := HFL.out.2 q hq; simp; omega))
                    have hQx6 := only_blk HOx.out HQI.out (by simpa using hb69)
                    have hOw := only_more HOI.out (HOx.out.below (B := w5.heap.size) (by omega) (fun q hq => by simp at hq; omega))
                    have hOA := owns_six (T := T0) ⟨x, true, y2, [y0, y1, y2], fingers B4 x, []⟩ (u5 := .slice none 0 0) (f5 := []) o3 o4 (owns_nil _ _) (fun q h3 h4 => by have := (HF3.out.2 q h3).2.1; have := hf4 q h4; omega) (by simp) (by simp)
                    have hdis : ∀ q ∈ f3 ++ (f4 ++ []), q ∉ fps ∧ (Value.slice ar k cr).ownBlock ≠ some q := fun q hq => by
                      have h1 : N0 ≤ q := by
                        rcases List.mem_append.1 hq with h | h
                        · exact (HF3.out.2 q h).1
                        · have := hf4 q (by simpa using h)
                          omega
                      exact ⟨fun e => by have := HFL.out.2 q e; omega, fun e => by have := HFL.out.1 q e; omega⟩
                    have hlow : ∀ q ∈ f3 ++ (f4 ++ []), b6 + 1 ≤ q := fun q hq => by
                      rcases List.mem_append.1 hq with h | h
                      · have := (HF3.out.2 q h).1
                        omega
                      · have := hf4 q (by simpa using h)
                        omega
                    have HOA := hide hOA
                    have HDI := hide hdis
                    have HLO := hide hlow
                    have HRx := hide hRx
                    have HQ6 := hide hQx6
                    have HOw := hide hOw
                    have hCr : b6 + 1 ≤ wr.heap.size := by omega
                    have m0 := blk_free_cell hQx6 0 rfl
                    have ml := hQx6.lt
                    have q0 := blk_free_cell HQx.out 0 rfl
                    have q1 := blk_free_cell HQx.out 1 rfl
                    have q2 := blk_free_cell HQx.out 2 rfl
                    have q3 := blk_free_cell HQx.out 3 rfl
                    have q4 := blk_free_cell HQx.out 4 rfl
                    have q5 := blk_free_cell HQx.out 5 rfl
                    have ql := HQx.out.lt
                    rw [HKN.out] at HG
                    clear hF o3 o4 hRx hQx6 hOw hOA hdis hlow HFx HOx HQx HRI HQI HOI HF3 HKN H4x HCx HO9
                    go_wp2_with (at_builtin; refine wpList_append_keep (cs := #[.int .i64 x, .bool true, .int .i64 y2, .slice (some ⟨g9, 0, none⟩) 3 c9, .slice af 8 cf, .slice none 0 0]) hCr rfl (.tmp 108) (.tmp 110) 26 rfl 37 ip (.agg #[.int .i64 0, .bool false, .int .i64 0, .slice none 0 0, .slice none 0 0, .slice none 0 0]) 6 96 Tryz.underlying26 hpi hpz0 hpz1 hpz2 rfl (by decide) rfl (by simp [Value.oneCell']) _ _ _ rfl HRx.out.row 1 rfl (by omega) (by omega) ?_)
                    intro v7 w7 hown hgrew
                    obtain ⟨a7, c7, hsh⟩ := own_sh hown
                    subst hsh
                    have hR7 := HRx.out.append (rs := prC T0 ⟨x, true, y2, [y0, y1, y2], fingers B4 x, []⟩) HOA.out rfl HDI.out hown hgrew
                    rw [← flat_take (prC T0) HG.out] at hR7
                    have hne6 : ∀ q, (Value.slice ar k cr).ownBlock = some q → b6 + 1 ≤ q := fun q hq => (HRx.out.row.lt q hq).1
                    have hQ7 := blk_grownR HQ6.out hgrew.by_ (fun e => by have := hne6 _ e; omega)
                    have hO7 := only_grown HOw.out hgrew.by_ (fun q hq => by have := hne6 q hq; omega)
                    have hr7 : ∀ q, (Value.slice a7 (k + 1) c7).ownBlock = some q → b6 + 1 ≤ q := fun q hq => (hown.lt q hq).1
                    have HFP7 : Hid (∀ q ∈ fps ++ (f3 ++ (f4 ++ [])), b6 + 1 ≤ q) := fun q hq => (List.mem_append.1 hq).elim (HFP.out q) (HLO.out q)
                    have c6b := blk_free_cell hQ7 0 rfl
                    have f6b := hQ7.free 0
                    have l6b := hQ7.lt
                    have HQ8 := hide (hQ7.set 0 (.slice a7 (k + 1) c7))
                    have HR8 := hide (hR7.stay (W' := w7.setCell ⟨b6, 0, none⟩ (.slice a7 (k + 1) c7)) (fun q hq => Below.heap_setCell _ _ _ _ (by have := hr7 q hq; show q ≠ b6; omega)) (fun q hq => Below.heap_setCell _ _ _ _ (by have := HFP7.out q hq; show q ≠ b6; omega)))
                    have HO8 := hide (hO7.setCell (p := ⟨b6, 0, none⟩) (by simp) (.slice a7 (k + 1) c7))
                    clear hown hgrew hR7 hne6 hQ7 hO7 hr7 HOA HDI HLO HRx HQ6 HOw hCr m0 ml q0 q1 q2 q3 q4 q5 ql HFP
                    go_wp2
                    go_roundw
                    case rel => exact ⟨k + 1, by omega, by go_num, _, _, _, HQ8.out, HR8.out, HO8.out, HFP7.out⟩
                    case measure => simp [intOf]; omega
            · have hd : decide ((k : Int) ≥ 4) = true := decide_eq_true (by omega)
              rw [if_neg hk4] at HG
              generalize M[k] = x at *
              have n0 := HX3.out
              have n1 := HX6.out
              have hnn := Near.some wr.heap.size wr
              have l6 := HQ.out.lt
              have hg3x : g3 < wr.heap.size := by omega
              clear HX3 HX6
              go_wp2_with fail
              refine wp_region_open (fun wd => ∃ p : Near wr.heap.size wr, wd = p.w) ⟨⟨_, (Below.refl _ _).drew⟩, rfl⟩ (by kernel_rfl) ?_
              rintro wd ⟨pd, rfl⟩
              refine wpAny_of_K (c := 8) (D := fun w' => ∃ p : Near wr.heap.size wr, w' = p.w) _ _ _ _ ?_
              refine wpAnyK_seg_lit4 0 7 4 4 rfl (by decide) (by decide) (by kernel_rfl) (by kernel_rfl) (by kernel_rfl) (by kernel_rfl) (fun _ _ _ _ _ h => h) ⟨pd, rfl⟩ ?_
              simp only [List.take_succ_cons, List.take_zero, List.drop_zero]
              repeat (go_big_quiet_step (fail))
              refine wpQuiet_nil ?_
              refine wpAnyK_value (i := 7) (v := .slice (some ⟨pd.w.heap.size, 0, none⟩) 1 1) (w' := pd.w.alloc (.cells #[.int .i64 x, .bool false, .int .i64 0, .slice none 0 0, .slice none 0 0, .slice none 0 0] 37)) (by kernel_rfl) rfl rfl (by simp [execOp, go_sem]) ⟨⟨_, pd.h.alloc pd.h.size _⟩, rfl⟩ ?_
              refine wpAnyK_last (by kernel_rfl) (by decide) ?_
              refine wpAny_rest 8 rfl (by kernel_rfl) ?_
              simp only [List.drop_succ_cons, List.drop_zero]
              have HRd := hide (HR.out.below pd.h)
              have HQd := hide (HQ.out.below pd.h HQ.out.lt)
              have HOd := hide (HOn.out.trans (Only.of_below pd.h))
              have hCd : b6 + 1 ≤ pd.w.heap.size := Nat.le_trans hCx pd.h.size
              clear n0 n1 hnn HR HQ HOn hg3x l6
              generalize pd.w = wd at *
              go_wp2_with (at_builtin; refine wpList_append_keep (cs := #[.int .i64 x, .bool false, .int .i64 0, .slice none 0 0, .slice none 0 0, .slice none 0 0]) hCd rfl (.tmp 60) (.tmp 66) 26 rfl 37 ip (.agg #[.int .i64 0, .bool false, .int .i64 0, .slice none 0 0, .slice none 0 0, .slice none 0 0]) 6 96 Tryz.underlying26 hpi hpz0 hpz1 hpz2 rfl (by decide) rfl (by simp [Value.oneCell']) _ _ _ rfl HRd.out.row 1 rfl (by omega) (by omega) ?_)
              intro v6 w6 hown hgrew
              obtain ⟨a6, c6, hsh⟩ := own_sh hown
              subst hsh
              have hR6 := HRd.out.append (rs := prC T0 (away x)) (f2 := []) (owns_away x) rfl (fun q hq => by cases hq) hown hgrew
              rw [← flat_take (prC T0) HG.out] at hR6
              have hne6 : ∀ q, (Value.slice ar k cr).ownBlock = some q → b6 + 1 ≤ q := fun q hq => (HRd.out.row.lt q hq).1
              have HQ6 := hide (blk_grownR HQd.out hgrew.by_ (fun e => by have := hne6 _ e; omega))
              have HO6 := hide (only_grown HOd.out hgrew.by_ (fun q hq => by have := hne6 q hq; omega))
              have hr6 : ∀ q, (Value.slice a6 (k + 1) c6).ownBlock = some q → b6 + 1 ≤ q := fun q hq => (hown.lt q hq).1
              have c6b := blk_free_cell HQ6.out 0 rfl
              have f6b := HQ6.out.free 0
              have l6b := HQ6.out.lt
              have HQ7 := hide (HQ6.out.set 0 (.slice a6 (k + 1) c6))
              have HR7 := hide (hR6.stay (W' := w6.setCell ⟨b6, 0, none⟩ (.slice a6 (k + 1) c6)) (fun q hq => Below.heap_setCell _ _ _ _ (by have := hr6 q hq; show q ≠ b6; omega)) (fun q hq => Below.heap_setCell _ _ _ _ (by have := HFP.out q (by simpa using hq); show q ≠ b6; omega)))
              have HO7 := hide (HO6.out.setCell (p := ⟨b6, 0, none⟩) (by simp) (.slice a6 (k + 1) c6))
              clear HRd HQd HOd hCd hown hgrew hR6 hne6 HO6 hr6 HQ6
              go_wp2
              go_roundw
              case rel => exact ⟨k + 1, by omega, by go_num, _, _, _, HQ7.out, HR7.out, HO7.out, fun q hq => HFP.out q (by simpa using hq)⟩
              case measure => simp [intOf]; omega
          · obtain rfl : k = M.length := by omega
            have hR := HR.out
            rw [List.take_of_length_le (by omega)] at hR
            obtain ⟨fp, ho, hm⟩ := hR.owns
            have HO := hide ho
            have HFA : Hid (∀ q ∈ fp, b6 + 1 ≤ q) := fun q hq => ((hm q).1 hq).elim (fun h => (hR.row.lt q h).1) (HFP.out q)
            have R6 := only_blk HOn.out R5 (by simp; omega)
            have HB7 := hide (HB5.out.trans (HOn.out.below (B := w.heap.size) (by omega) (fun q hq => by simp at hq; omega)))
            have cQ := blk_free_cell HQ.out 0 rfl
            have lQ := HQ.out.lt
            have cR := blk_free_cell R6 0 rfl
            have fR := R6.free 0
            have lR := R6.lt
            clear ho hm hR HR HRG
            go_wp2_with fail
            have Rd := R6.set 0 (.slice ar M.length cr)
            have x0 := blk_free_cell Rd 0 rfl
            refine bodyPost_ret (v := .agg #[.slice ar M.length cr]) (by simp [results, Tryz.results21, go_sem, x0]) rfl ⟨_, fp, rfl, owns_set HO.out (fun q hq => by have := HFA.out q hq; have := HNE.out; omega) _, fun q hq => by have := HFA.out q hq; omega, HB7.out.setCell (p := ⟨b2, 0, none⟩) hb2 _⟩
end Go.Proofs.YteladljgnbfcnaaGreat.P9
