/- A ring of numbers as plain mathematics: how far from one to another, between whom, whose a key is, who stands behind; no condition.
How far and between whom, of the program and of the specification: for every number; no condition.
The specification's OwnerOf, l08Has, OrderedFrom; condition: at most 2^20 ids.
The specification's l08Has, OrderedFrom; condition: at most 2^20 ids.
A range over a function that itself ranges over a function: what such a function must do, and what a loop over it may lean on; no condition.
Ints as keys of maps; no condition. -/
import Derived.Test.YtfckfgabeeeccaaRows
import Derived.Test.YtfckfgabeeeccaaZA
import Derived.Test.YtfckfgabeeeccaaZD
import Derived.Test.YtfckfgabeeeccaaZJ
import Derived.Test.YtfckfgabeeeccaaZM
import Derived.BigQuiet
import Derived.RangeFuncNested
import Derived.RangeFuncBound
import Derived.RangeFuncCalls
import Derived.RangeFuncLeaves
import Derived.RangeFuncBox
import Derived.OrdersIn
import Derived.Shelf.Abstract
import Derived.WalkKit
namespace Go.Proofs.Ytfckfgabeeeccaa.P8

/-- How far it is from f to t. -/
def ahd (f t : Int) : Nat := ((t - f) % 256).toNat

theorem ahd_cast (f t : Int) : ((ahd f t : Nat) : Int) = (t - f) % 256 := by unfold ahd; omega
theorem ahd_lt (f t : Int) : ahd f t < 256 := by unfold ahd; omega
theorem ahd_self (f : Int) : ahd f f = 0 := by unfold ahd; omega

/-- Whether x comes behind a and not behind b. -/
def btw (a x b : Int) : Bool := decide (0 < ahd a x) && decide (ahd a x ≤ if ahd a b = 0 then 256 else ahd a b)

theorem ahd_zero_iff (a b : Int) : ahd a b = 0 ↔ a % 256 = b % 256 := by unfold ahd; omega

theorem btw_same {a x b : Int} (h : a % 256 = b % 256) : btw a x b = decide (ahd a x ≠ 0) := by
  have h0 := (ahd_zero_iff a b).2 h
  have h1 := ahd_lt a x
  unfold btw
  rw [if_pos h0]
  by_cases h2 : ahd a x = 0
  · simp [h2]
  · have h3 : 0 < ahd a x := by omega
    have h4 : ahd a x ≤ 256 := by omega
    simp [h2, h3, h4]

theorem btw_unlike {a x b : Int} (h : ¬ a % 256 = b % 256) : btw a x b = (decide (0 < ahd a x) && decide (ahd a x ≤ ahd a b)) := by
  have h0 : ¬ ahd a b = 0 := fun e => h ((ahd_zero_iff a b).1 e)
  unfold btw
  rw [if_neg h0]

/-- The better one of those so far and the next. -/
def ownStep (key : Int) (o : Option Int) (x : Int) : Option Int :=
  match o with
  | none => some x
  | some b => if ahd key x < ahd key b then some x else some b

def best (key : Int) (l : List Int) : Option Int := l.foldl (ownStep key) none

def ownerOf (key : Int) (l : List Int) : Int := (best key l).getD (-1)

theorem best_snoc (key : Int) (l : List Int) (x : Int) : best key (l ++ [x]) = ownStep key (best key l) x := by simp [best]

/-- Each once, as they stand. -/
def nub : List Int → List Int := List.foldl (fun acc x => if x ∈ acc then acc else acc ++ [x]) []

theorem nub_snoc (l : List Int) (x : Int) : nub (l ++ [x]) = if x ∈ nub l then nub l else nub l ++ [x] := by unfold nub; rw [List.foldl_append]; rfl

theorem snoc_ind {P : List Int → Prop} (h0 : P []) (h1 : ∀ l x, P l → P (l ++ [x])) (l : List Int) : P l := by
  have : ∀ n (l : List Int), l.length = n → P l := by
    intro n
    induction n with
    | zero => intro l hl; rw [List.eq_nil_of_length_eq_zero hl]; exact h0
    | succ n ih =>
      intro l hl
      have hne : l ≠ [] := by intro h; simp [h] at hl
      obtain ⟨m, y, rfl⟩ : ∃ m y, l = m ++ [y] := ⟨l.dropLast, l.getLast hne, (List.dropLast_concat_getLast hne).symm⟩
      exact h1 _ _ (ih _ (by simpa using hl))
  exact this _ l rfl

theorem mem_nub (l : List Int) : ∀ x, x ∈ nub l ↔ x ∈ l := by
  refine snoc_ind (P := fun l => ∀ x, x ∈ nub l ↔ x ∈ l) ?_ ?_ l
  · simp [nub]
  · intro l y ih x
    rw [nub_snoc]
    by_cases h : y ∈ nub l
    · rw [if_pos h, ih, List.mem_append, List.mem_singleton]
      exact ⟨.inl, fun h' => h'.elim id (fun e => e ▸ (ih y).1 h)⟩
    · rw [if_neg h, List.mem_append, List.mem_append, ih]

theorem nub_length (l : List Int) : (nub l).length ≤ l.length := by
  refine snoc_ind (P := fun l => (nub l).length ≤ l.length) ?_ ?_ l
  · simp [nub]
  · intro l y ih
    rw [nub_snoc]
    by_cases h : y ∈ nub l
    · rw [if_pos h]; simp; omega
    · rw [if_neg h]; simp; omega

theorem best_least (key : Int) (l : List Int) : ∀ x ∈ l, ∃ b, best key l = some b ∧ ahd key b ≤ ahd key x := by
  refine snoc_ind (P := fun l => ∀ x ∈ l, ∃ b, best key l = some b ∧ ahd key b ≤ ahd key x) ?_ ?_ l
  · intro x hx; cases hx
  · intro l y ih x hx
    rw [best_snoc]
    cases hb : best key l with
    | none =>
      simp only [List.mem_append, List.mem_singleton] at hx
      rcases hx with hx | rfl
      · obtain ⟨b, hb', _⟩ := ih x hx
        rw [hb] at hb'; cases hb'
      · exact ⟨x, rfl, Nat.le_refl _⟩
    | some b =>
      have hlt : ∀ c, ahd key b ≤ ahd key c ∨ c = y → ∃ d, ownStep key (some b) y = some d ∧ ahd key d ≤ ahd key c := by
        intro c hc
        unfold ownStep
        dsimp only
        split
        · rename_i h
          refine ⟨y, rfl, ?_⟩
          rcases hc with hc | rfl
          · omega
          · omega
        · rename_i h
          refine ⟨b, rfl, ?_⟩
          rcases hc with hc | rfl
          · omega
          · omega
      simp only [List.mem_append, List.mem_singleton] at hx
      rcases hx with hx | rfl
      · obtain ⟨b', hb', hle⟩ := ih x hx
        rw [hb] at hb'; cases hb'
        exact hlt x (.inl hle)
      · exact hlt x (.inr rfl)

theorem best_nub (key : Int) (l : List Int) : best key (nub l) = best key l := by
  refine snoc_ind (P := fun l => best key (nub l) = best key l) rfl ?_ l
  intro l x ih
  rw [nub_snoc, best_snoc]
  by_cases h : x ∈ nub l
  · rw [if_pos h, ih]
    obtain ⟨b, hb, hle⟩ := best_least key (nub l) x h
    rw [ih] at hb
    rw [hb]
    unfold ownStep
    dsimp only
    rw [if_neg (by omega)]
  · rw [if_neg h, best_snoc, ih]

/-- Put in ahead of the first one that is further. -/
def ins (a x : Int) : List Int → List Int
  | [] => [x]
  | y :: l => if ahd a x < ahd a y then x :: y :: l else y :: ins a x l

def ordStep (a : Int) (out : List Int) (x : Int) : List Int := if x = a ∨ x ∈ out then out else ins a x out

def ordered (a : Int) (l : List Int) : List Int := l.foldl (ordStep a) []

theorem ordered_snoc (a : Int) (l : List Int) (x : Int) : ordered a (l ++ [x]) = ordStep a (ordered a l) x := by simp [ordered]

/-- Those that are d behind a. -/
def row (a : Int) (l : List Int) (d : Nat) : List Int := l.filter fun x => decide (x ≠ a) && decide (ahd a x = d)

def rows (a : Int) (l : List Int) : List Int := (List.range 256).flatMap (row a l)

theorem row_snoc (a : Int) (l : List Int) (x : Int) (d : Nat) : row a (l ++ [x]) d = if x ≠ a ∧ ahd a x = d then row a l d ++ [x] else row a l d := by
  unfold row
  rw [List.filter_append]
  by_cases h1 : x = a
  · simp [h1]
  · by_cases h2 : ahd a x = d
    · simp [h1, h2]
    · simp [h1, h2]

theorem row_length (a : Int) (l : List Int) (d : Nat) : (row a l d).length ≤ l.length := List.length_filter_le _ _

theorem mem_rows (a : Int) (l : List Int) (x : Int) : x ∈ rows a l ↔ x ∈ l ∧ x ≠ a := by
  unfold rows row
  simp only [List.mem_flatMap, List.mem_range, List.mem_filter, Bool.and_eq_true, decide_eq_true_eq]
  constructor
  · rintro ⟨d, _, h1, h2, _⟩
    exact ⟨h1, h2⟩
  · rintro ⟨h1, h2⟩
    exact ⟨ahd a x, ahd_lt a x, h1, h2, rfl⟩

theorem flat_congr {f g : Nat → List Int} : ∀ {ds : List Nat}, (∀ d ∈ ds, f d = g d) → ds.flatMap f = ds.flatMap g := by
  intro ds
  induction ds with
  | nil => intro _; rfl
  | cons d ds ih =>
    intro h
    rw [List.flatMap_cons, List.flatMap_cons, h d (by simp), ih (fun e he => h e (by simp [he]))]

theorem ins_skip (a x : Int) : ∀ (l m : List Int), (∀ y ∈ l, ahd a y ≤ ahd a x) → ins a x (l ++ m) = l ++ ins a x m := by
  intro l
  induction l with
  | nil => intro m _; rfl
  | cons y l ih =>
    intro m h
    have h1 := h y (by simp)
    show (if ahd a x < ahd a y then _ else y :: ins a x (l ++ m)) = _
    rw [if_neg (by omega), ih m (fun z hz => h z (by simp [hz]))]
    rfl

theorem ins_head (a x : Int) : ∀ (m : List Int), (∀ y ∈ m, ahd a x < ahd a y) → ins a x m = x :: m := by
  intro m h
  cases m with
  | nil => rfl
  | cons y m =>
    show (if ahd a x < ahd a y then _ else _) = _
    rw [if_pos (h y (by simp))]

theorem mem_row {a : Int} {l : List Int} {d : Nat} {y : Int} (h : y ∈ row a l d) : ahd a y = d := by
  unfold row at h
  simp only [List.mem_filter, Bool.and_eq_true, decide_eq_true_eq] at h
  exact h.2.2

theorem rows_split (a : Int) (l : List Int) (d : Nat) (hd : d < 256) : rows a l = (List.range d).flatMap (row a l) ++ (row a l d ++ (List.range' (d + 1) (255 - d)).flatMap (row a l)) := by
  have h : List.range 256 = List.range d ++ (d :: List.range' (d + 1) (255 - d)) := by
    rw [List.range_eq_range', List.range_eq_range']
    have e1 : 256 = d + (255 - d + 1) := by omega
    have e2 := @List.range'_append_1 0 d (255 - d + 1)
    rw [← e1, Nat.zero_add] at e2
    rw [← e2]
    rfl
  unfold rows
  rw [h, List.flatMap_append, List.flatMap_cons]

theorem rows_ins (a x : Int) (l : List Int) (hx : x ≠ a) : rows a (l ++ [x]) = ins a x (rows a l) := by
  have hd := ahd_lt a x
  rw [rows_split a (l ++ [x]) (ahd a x) hd, rows_split a l (ahd a x) hd]
  have e1 : (List.range (ahd a x)).flatMap (row a (l ++ [x])) = (List.range (ahd a x)).flatMap (row a l) := by
    refine flat_congr fun d h => ?_
    have := List.mem_range.1 h
    rw [row_snoc, if_neg (by omega)]
  have e2 : (List.range' (ahd a x + 1) (255 - ahd a x)).flatMap (row a (l ++ [x])) = (List.range' (ahd a x + 1) (255 - ahd a x)).flatMap (row a l) := by
    refine flat_congr fun d h => ?_
    have := List.mem_range'_1.1 h
    rw [row_snoc, if_neg (by omega)]
  rw [e1, e2, row_snoc, if_pos ⟨hx, rfl⟩, ins_skip, ins_skip, ins_head]
  · simp
  · intro y hy
    obtain ⟨d, hd1, hy1⟩ := List.mem_flatMap.1 hy
    have := List.mem_range'_1.1 hd1
    rw [mem_row hy1]
    omega
  · intro y hy
    rw [mem_row hy]
    exact Nat.le_refl _
  · intro y hy
    obtain ⟨d, hd1, hy1⟩ := List.mem_flatMap.1 hy
    have := List.mem_range.1 hd1
    rw [mem_row hy1]
    omega

theorem rows_self (a : Int) (l : List Int) : rows a (l ++ [a]) = rows a l := by
  unfold rows
  refine flat_congr fun d _ => ?_
  rw [row_snoc, if_neg (by simp)]

theorem rows_ordered (a : Int) (l : List Int) : rows a (nub l) = ordered a l := by
  refine snoc_ind (P := fun l => rows a (nub l) = ordered a l) ?_ ?_ l
  · show (List.range 256).flatMap (row a []) = []
    rw [List.flatMap_eq_nil_iff]
    intro d _
    rfl
  · intro l x ih
    rw [ordered_snoc, ← ih, nub_snoc]
    unfold ordStep
    by_cases hx : x = a
    · subst hx
      rw [if_pos (Or.inl rfl : x = x ∨ x ∈ rows x (nub l))]
      split
      · rfl
      · exact rows_self _ _
    · by_cases hm : x ∈ nub l
      · rw [if_pos hm, if_pos (.inr ((mem_rows a _ x).2 ⟨hm, hx⟩))]
      · rw [if_neg hm, if_neg (fun h => h.elim hx (fun h => hm ((mem_rows a _ x).1 h).1))]
        exact rows_ins a x _ hx

theorem ins_length (a x : Int) : ∀ l : List Int, (ins a x l).length = l.length + 1 := by
  intro l
  induction l with
  | nil => rfl
  | cons y l ih =>
    unfold ins
    split
    · simp
    · simp [ih]

theorem ordered_length (a : Int) (l : List Int) : (ordered a l).length ≤ l.length := by
  refine snoc_ind (P := fun l => (ordered a l).length ≤ l.length) (by simp [ordered]) ?_ l
  intro l x ih
  rw [ordered_snoc]
  unfold ordStep
  split
  · simp; omega
  · rw [ins_length]; simp; omega

end Go.Proofs.Ytfckfgabeeeccaa.P8
namespace Go.Proofs.Ytfckfgabeeeccaa.P8
open Go.RowKit P1

theorem tmod_low (n : Int) : n.tmod 256 = if 0 ≤ n ∨ n % 256 = 0 then n % 256 else n % 256 - 256 := by
  rw [Int.tmod_eq_emod]
  by_cases h : 0 ≤ n ∨ n % 256 = 0
  · rw [if_pos h, if_pos (h.imp id (fun e => Int.dvd_of_emod_eq_zero e))]
    omega
  · rw [if_neg h, if_neg (fun h' => h (h'.imp id (fun e => Int.emod_eq_zero_of_dvd e)))]
    omega

theorem tmod_bounds (n : Int) : -256 < n.tmod 256 ∧ n.tmod 256 < 256 := by
  rw [tmod_low]
  split <;> omega

theorem wrap_in {n : Int} (h0 : -9223372036854775808 ≤ n) (h1 : n ≤ 9223372036854775807) : wrap64 n = n := by
  unfold wrap64
  omega

theorem on_ring (n : Int) : (wrap64 (n.tmod 256 + 256)).tmod 256 = n % 256 := by
  have hb := tmod_bounds n
  rw [wrap_in (by omega) (by omega), tmod_low (n.tmod 256 + 256), tmod_low n]
  split <;> split <;> omega

theorem ring_sub (f t : Int) : (wrap64 (t % 256 - f % 256)) % 256 = ((ahd f t : Nat) : Int) := by
  rw [wrap_in (by omega) (by omega), ahd_cast]
  omega

theorem mod_low {n : Int} (h : n.tmod 256 < 0) : wrap64 (n.tmod 256 + 256) = n % 256 := by
  have hb := tmod_bounds n
  rw [wrap_in (by omega) (by omega), tmod_low]
  rw [tmod_low] at h
  split <;> rename_i h'
  · rw [if_pos h'] at h; omega
  · omega

theorem mod_high {n : Int} (h : ¬ n.tmod 256 < 0) : n.tmod 256 = n % 256 := by
  rw [tmod_low] at h ⊢
  split <;> rename_i h'
  · rfl
  · rw [if_neg h'] at h; omega
end Go.Proofs.Ytfckfgabeeeccaa.P8
namespace Go.Proofs.Ytfckfgabeeeccaa.P8
open Go.RowKit P1

theorem drewN_more {w wr : World} (h : ∃ n, wr = w.drewN n) (m : Nat) : ∃ n, wr.drewN m = w.drewN n := by
  obtain ⟨n, rfl⟩ := h
  exact ⟨_, drewN2 _ _ _⟩

/-- The best one of the first k stands at place b. -/
def BestAt (key : Int) (l : List Int) (k : Nat) (b : Int) : Prop := (k = 0 ∧ b = -1) ∨ ∃ j : Nat, ∃ h : j < l.length, b = j ∧ j < k ∧ best key (l.take k) = some l[j]

theorem BestAt.step {key : Int} {l : List Int} {k : Nat} {b : Int} (h : BestAt key l k b) (hk : k < l.length) :
    (b < 0 → BestAt key l (k + 1) k) ∧ ∀ (j : Nat) (hj : j < l.length), b = j → (ahd key l[k] < ahd key l[j] → BestAt key l (k + 1) k) ∧ (¬ ahd key l[k] < ahd key l[j] → BestAt key l (k + 1) b) := by
  have e1 : best key (l.take (k + 1)) = ownStep key (best key (l.take k)) l[k] := by
    rw [List.take_succ_eq_append_getElem hk, best_snoc]
  constructor
  · intro hb
    rcases h with ⟨rfl, _⟩ | ⟨j, hj, rfl, _⟩
    · refine .inr ⟨0, hk, rfl, by omega, ?_⟩
      rw [e1]
      rfl
    · omega
  · intro j hj hb
    rcases h with ⟨rfl, rfl⟩ | ⟨i, hi, hbi, hik, hbest⟩
    · omega
    · obtain rfl : i = j := by omega
      rw [hbest] at e1
      unfold ownStep at e1
      dsimp only at e1
      constructor
      · intro hlt
        rw [if_pos hlt] at e1
        exact .inr ⟨k, hk, rfl, by omega, e1⟩
      · intro hlt
        rw [if_neg hlt] at e1
        exact .inr ⟨i, hi, hb, by omega, e1⟩
end Go.Proofs.Ytfckfgabeeeccaa.P8
namespace Go.Proofs.Ytfckfgabeeeccaa.P8
open Go.RowKit P1

theorem ins_snoc (a x z : Int) : ∀ l : List Int, (∃ y ∈ l, ahd a x < ahd a y) → ins a x (l ++ [z]) = ins a x l ++ [z] := by
  intro l
  induction l with
  | nil => rintro ⟨y, hy, _⟩; cases hy
  | cons y l ih =>
    intro h
    show (if ahd a x < ahd a y then _ else y :: ins a x (l ++ [z])) = (if ahd a x < ahd a y then _ else _) ++ [z]
    by_cases hy : ahd a x < ahd a y
    · rw [if_pos hy, if_pos hy]; rfl
    · rw [if_neg hy, if_neg hy, ih]
      · rfl
      · obtain ⟨u, hu, hlt⟩ := h
        rcases List.mem_cons.1 hu with rfl | hu
        · exact absurd hlt hy
        · exact ⟨u, hu, hlt⟩

/-- How far the putting in has come. -/
def Part (a x : Int) (out : List Int) (k : Nat) (nx : List Int) (put : Bool) : Prop :=
  (put = false ∧ nx = out.take k ∧ ∀ y ∈ out.take k, ahd a y ≤ ahd a x) ∨ (put = true ∧ nx = ins a x (out.take k) ∧ ∃ y ∈ out.take k, ahd a x < ahd a y)

theorem Part.start (a x : Int) (out : List Int) : Part a x out 0 [] false := .inl ⟨rfl, rfl, by simp⟩

theorem Part.put {a x : Int} {out nx : List Int} {k : Nat} (h : Part a x out k nx true) (hk : k < out.length) : Part a x out (k + 1) (nx ++ [out[k]]) true := by
  rcases h with ⟨h, _⟩ | ⟨_, rfl, h⟩
  · cases h
  · refine .inr ⟨rfl, ?_, ?_⟩
    · rw [List.take_succ_eq_append_getElem hk, ins_snoc _ _ _ _ h]
    · rw [List.take_succ_eq_append_getElem hk]
      obtain ⟨y, hy, hlt⟩ := h
      exact ⟨y, List.mem_append_left _ hy, hlt⟩

theorem Part.now {a x : Int} {out nx : List Int} {k : Nat} (h : Part a x out k nx false) (hk : k < out.length) (hlt : ahd a x < ahd a out[k]) : Part a x out (k + 1) ((nx ++ [x]) ++ [out[k]]) true := by
  rcases h with ⟨_, rfl, h⟩ | ⟨h, _⟩
  · refine .inr ⟨rfl, ?_, ?_⟩
    · rw [List.take_succ_eq_append_getElem hk, ins_skip _ _ _ _ h, ins_head _ _ _ (by simpa using hlt)]
      simp
    · rw [List.take_succ_eq_append_getElem hk]
      exact ⟨out[k], List.mem_append_right _ (List.mem_singleton.2 rfl), hlt⟩
  · cases h

theorem Part.not {a x : Int} {out nx : List Int} {k : Nat} (h : Part a x out k nx false) (hk : k < out.length) (hlt : ¬ ahd a x < ahd a out[k]) : Part a x out (k + 1) (nx ++ [out[k]]) false := by
  rcases h with ⟨_, rfl, h⟩ | ⟨h, _⟩
  · refine .inl ⟨rfl, ?_, ?_⟩
    · rw [List.take_succ_eq_append_getElem hk]
    · rw [List.take_succ_eq_append_getElem hk]
      intro y hy
      rcases List.mem_append.1 hy with hy | hy
      · exact h y hy
      · simp only [List.mem_singleton] at hy
        subst hy
        omega
  · cases h

theorem Part.len {a x : Int} {out nx : List Int} {k : Nat} {put : Bool} (h : Part a x out k nx put) : nx.length ≤ k + 1 := by
  rcases h with ⟨_, rfl, _⟩ | ⟨_, rfl, _⟩
  · rw [List.length_take]; omega
  · rw [ins_length, List.length_take]; omega

theorem Part.endF {a x : Int} {out nx : List Int} (h : Part a x out out.length nx false) : nx ++ [x] = ins a x out := by
  rcases h with ⟨_, rfl, h⟩ | ⟨h, _⟩
  · rw [List.take_length] at h ⊢
    have := ins_skip a x out [] h
    rw [List.append_nil] at this
    rw [this]
    rfl
  · cases h

theorem Part.endT {a x : Int} {out nx : List Int} (h : Part a x out out.length nx true) : nx = ins a x out := by
  rcases h with ⟨h, _⟩ | ⟨_, rfl, _⟩
  · cases h
  · rw [List.take_length]

theorem own_lit0 (w : World) : (w.alloc (.cells #[] 3)).ownsRow w.heap.size 3 1 (.slice (some ⟨w.heap.size, 0, none⟩) 0 0) ([] : List Int).length (cellsI []) :=
  World.ownsRow_lit (base := w.heap.size) (e := 3) (size := 1) w #[] 0 (Nat.le_refl _) (by decide) rfl

theorem own_sh {w : World} {B : Nat} {e : TypeId} {size : Nat} {v : Value} {n : Nat} {xs : List Value} (h : w.ownsRow B e size v n xs) : ∃ a c, v = .slice a n c := by
  rcases h.2 with ⟨rfl, hn⟩ | ⟨g, cap, cur, rfl, _⟩
  · exact ⟨none, 0, by rw [hn]⟩
  · exact ⟨_, _, rfl⟩
end Go.Proofs.Ytfckfgabeeeccaa.P8
namespace Go.Proofs.Ytfckfgabeeeccaa.Rf
open Go.RowKit

/-- A function tells values to a yield, one by one; what is no cells and was made since it began is its own. -/
def Tells {α : Type} (P : Program) (g : Nat) (lb : Array Value) (encs : α → Array Value) (Kp : World → World → Prop) (S Sp : List α → Prop) (N : Nat) (w : World) : Prop :=
  ∀ (n l : Nat) (J Jx : List α → World → Prop) (W : World), Below w.heap.size w W → OwnFrom W.heap.size J → OwnFrom W.heap.size Jx →
    (∀ m pre x W1, J pre W1 → pre.length < N → YieldAt Fence.wide m P l (encs x) W1 fun e W' => KeepsFrom W.heap.size W1 W' ∧
      ((e = .returned (.bool true) ∧ J (pre ++ [x]) W' ∧ Kp W1 W') ∨ (e = .returned (.bool false) ∧ Jx (pre ++ [x]) W'))) →
    J [] W →
    CallsIn Fence.wide n P g (#[.func (.yield l) #[] #[]] ++ lb) W fun e W' => (∃ v, e = .returned v) ∧ ((∃ xs, S xs ∧ J xs W') ∨ (∃ pre, Sp pre ∧ Jx pre W'))

theorem keeps_mono {B B' : Nat} {W W' : World} (h : KeepsFrom B W W') (hb : B ≤ B') : KeepsFrom B' W W' := ⟨h.size, fun k o hk => h.same k o (Nat.le_trans hb hk)⟩

theorem keeps_put {B l : Nat} (W : World) (o : Obj) (h : l < B) : KeepsFrom B W (W.putObj l o) := KeepsFrom.of_grownBy (grownBy_putObj' W l o) (fun j e => by cases e; exact h)

theorem own_mono {β : Type} {B B' : Nat} {I : β → World → Prop} (h : OwnFrom B I) (hb : B ≤ B') : OwnFrom B' I := fun s A C row hs hg hr => h s A C row hs hg (fun r e => ⟨Nat.le_trans hb (hr r e).1, (hr r e).2⟩)

/-- A block below what may be turned lies as it lay. -/
theorem block_kept {B k : Nat} {A C : World} {row : Option Nat} {o : Obj} (hg : A.grownBy C row) (hr : ∀ r, row = some r → B ≤ r ∧ ∃ o : Obj, A.heap[r]? = some o ∧ o.isCells = false) (hk : k < B) (h : A.heap[k]? = some o) : C.heap[k]? = some o :=
  (hg.block k (Array.getElem?_eq_some_iff.1 h).1 (fun e => by have := (hr k e.symm).1; omega)).trans h

variable {P : Program}

/-- The loop over it. -/
theorem range_tells {α : Type} {g : Operand} {ps : Array Tmp} {assign body : Code} {Q : Exit → Act → World → Prop} {a : Act} {w : World} {n : Nat} {gf : Nat} {lb : Array Value}
    (hg : a.eval g = .func (.func gf) #[] lb) (eg : ∀ args w, (callFunc gf args).run P w = .ok (.enter gf args) w)
    {encs : α → Array Value} {Kp : World → World → Prop} {S Sp : List α → Prop} {N : Nat} {w0 : World} (hseq : Tells P gf lb encs Kp S Sp N w0)
    (hKt : ∀ {A B C : World}, Kp A B → Kp B C → Kp A C) (hKb : ∀ (W : World) (l : Nat) (o o' : Obj), w.heap.size ≤ l → W.heap[l]? = some o → o.isCells = false → o.isWalk = false → Kp W (W.putObj l o')) (hb0 : Below w0.heap.size w0 w) (hps : ∀ x, (encs x).size = ps.size)
    (I : List α → World → Prop) (Ix : Code → List α → World → Prop) (hI : OwnFrom w.heap.size I) (hIx : ∀ c, OwnFrom w.heap.size (Ix c)) (h0 : I [] w) (a₁ : α → Act)
    (hassign : ∀ (m l : Nat) (x : α) (W : World) (K : Act → World → Prop), K (a₁ x) W →
      assign.wpIn (Fence.wide.inRound l) m P (Exit.then K (fun _ _ _ => False)) { tmps := (ps.zip (encs x)).foldl (fun t (p, v) => t.setIfInBounds p v) a.tmps, defers := [] } W)
    (hbody : ∀ (m l : Nat) (pre : List α) (x : α) (W : World), I pre W → pre.length < N → body.wpIn (Fence.wide.inRound l) m P (ownPostG w.heap.size Kp I Ix (pre ++ [x]) W) (a₁ x) W)
    (hdone : ∀ (D : Nat) (xs : List α) (W : World), w.heap.size ≤ D → S xs → I xs W → W.heap[D]? = some (.deferred (some [])) → Q .normal { a with defers := { target := .collected D, args := #[] } :: a.defers } W)
    (hstop : ∀ (D : Nat) (c : Code) (pre : List α) (W : World), w.heap.size ≤ D → Sp pre → Ix c pre W → W.heap[D]? = some (.deferred (some [])) → c.wpIn Fence.wide n P Q { a with defers := { target := .collected D, args := #[] } :: a.defers } W) :
    (Code.rangeFunc g ps assign body).wpIn Fence.wide n P Q a w := by
  refine wpIn_rangeFunc fun fn hfn => ?_
  obtain ⟨d, hd⟩ : ∃ d, d = w.heap.size := ⟨_, rfl⟩
  obtain ⟨R, hR⟩ : ∃ R : LoopState → Option Code → Loop, R = fun st pe => { state := st, pending := pe, fn, tmps := a.tmps, params := ps, assign, body, defers := d } := ⟨_, rfl⟩
  have hent : (Instr.enterLoop fn a.tmps ps assign body none).run P w = .ok (d + 1, [{ target := .collected d, args := #[] }]) ((w.alloc (.deferred (some []))).alloc (.loop (R .ready none))) := by
    rw [hR, hd]
    exact run_enterLoop_outer _ _ _ _ _
  have e1 : ((w.alloc (.deferred (some []))).alloc (.loop (R .ready none))).heap[d + 1]? = some (.loop (R .ready none)) := by
    have := World.alloc_heap_new (w.alloc (.deferred (some []))) (.loop (R .ready none))
    rw [World.size_alloc, ← hd] at this
    exact this
  have e2 : ((w.alloc (.deferred (some []))).alloc (.loop (R .ready none))).heap[d]? = some (.deferred (some [])) := by
    rw [hd]
    exact (Below.heap_alloc _ _ _ (by simp)).trans (World.alloc_heap_new w _)
  have e3 : I [] ((w.alloc (.deferred (some []))).alloc (.loop (R .ready none))) := hI.alloc _ (hI.alloc _ h0)
  have e4 : Below w0.heap.size w0 ((w.alloc (.deferred (some []))).alloc (.loop (R .ready none))) := hb0.trans ((((Below.refl _ w).alloc (Nat.le_refl _) _).alloc (by simp) _).mono hb0.size)
  have e5 : ((w.alloc (.deferred (some []))).alloc (.loop (R .ready none))).heap.size = d + 2 := by simp [hd]
  rw [← hd] at hI hIx hKb hbody hdone hstop
  generalize (w.alloc (.deferred (some []))).alloc (.loop (R .ready none)) = V at hent e1 e2 e3 e4 e5
  clear hb0 h0 hd
  refine ⟨d + 1, [{ target := .collected d, args := #[] }], V, { target := .fn (.func gf) lb, args := #[.func (.yield (d + 1)) #[] #[]] }, V, gf, #[.func (.yield (d + 1)) #[] #[]] ++ lb, V, hent, by simp only [resolve, hg]; simp [go_sem], fun f' _ => trivial, by simp [invoke, go_sem, eg], fun h => (by cases h), ?_⟩
  refine (hseq (n - 1) (d + 1) (fun pre W => I pre W ∧ W.heap[d + 1]? = some (.loop (R .ready none)) ∧ W.heap[d]? = some (.deferred (some [])))
    (fun pre W => ∃ c, Ix c pre W ∧ W.heap[d + 1]? = some (.loop (R .done (some c))) ∧ W.heap[d]? = some (.deferred (some []))) V e4 ?abide ?abidex ?round ⟨e3, e1, e2⟩).mono ?behind
  case abide =>
    rintro s A C row ⟨h1, h2, h3⟩ hg' hr
    exact ⟨own_mono hI (by omega) s A C row h1 hg' hr, block_kept hg' hr (by omega) h2, block_kept hg' hr (by omega) h3⟩
  case abidex =>
    rintro s A C row ⟨c, h1, h2, h3⟩ hg' hr
    exact ⟨c, own_mono (hIx c) (by omega) s A C row h1 hg' hr, block_kept hg' hr (by omega) h2, block_kept hg' hr (by omega) h3⟩
  case round =>
    rintro m pre x W ⟨h1, h2, h3⟩ hlen
    have hy := run_yield (P := P) (args := encs x) h2 (by rw [hR]; exact hps x)
    rw [hR] at hy
    refine ⟨fn, _, assign, body, hy, roundIn_of_wpIn hfn (hassign m _ x W _ ?_)⟩
    clear hy
    refine ⟨_, run_beginRound h2 (by rw [hR]), ?_⟩
    have hlt : d + 1 < W.heap.size := (Array.getElem?_eq_some_iff.1 h2).1
    have p2 : (W.putObj (d + 1) (.loop { R .ready none with state := .busy })).heap[d + 1]? = some (.loop { R .ready none with state := .busy }) := World.putObj_heap_same hlt
    have p3 : (W.putObj (d + 1) (.loop { R .ready none with state := .busy })).heap[d]? = some (.deferred (some [])) := (World.putObj_heap_other (by omega)).trans h3
    have pk : Kp W (W.putObj (d + 1) (.loop { R .ready none with state := .busy })) := hKb _ _ _ _ (by omega) h2 rfl rfl
    have pf : KeepsFrom V.heap.size W (W.putObj (d + 1) (.loop { R .ready none with state := .busy })) := keeps_put W _ (by omega)
    have pI := hI.putObj (.loop { R .ready none with state := .busy }) h1 (by omega) h2 rfl
    generalize W.putObj (d + 1) (.loop { R .ready none with state := .busy }) = Wb at p2 p3 pk pf pI
    refine wpIn_mono (hbody m _ pre x Wb pI hlen) ?_
    have last : ∀ (jump : Option Code) (W3 : World), KeepsFrom d Wb W3 →
        (Instr.endRound (d + 1) jump).run P W3 = .ok (.bool jump.isNone) (W3.putObj (d + 1) (.loop (R (if jump.isNone then .ready else .done) jump))) ∧ (∃ r, W3.heap[d + 1]? = some (.loop r)) ∧
        (W3.putObj (d + 1) (.loop (R (if jump.isNone then .ready else .done) jump))).heap[d + 1]? = some (.loop (R (if jump.isNone then .ready else .done) jump)) ∧
        (W3.putObj (d + 1) (.loop (R (if jump.isNone then .ready else .done) jump))).heap[d]? = some (.deferred (some [])) ∧
        KeepsFrom V.heap.size W (W3.putObj (d + 1) (.loop (R (if jump.isNone then .ready else .done) jump))) := fun jump W3 hk => by
      have q2 := hk.same _ _ (Nat.le_succ d) p2 rfl
      have q3 := hk.same _ _ (Nat.le_refl d) p3 rfl
      have q4 := run_endRound (P := P) jump q2
      refine ⟨?_, ⟨_, q2⟩, World.putObj_heap_same (Array.getElem?_eq_some_iff.1 q2).1, (World.putObj_heap_other (by omega)).trans q3, (pf.trans (keeps_mono hk (by omega))).trans (keeps_put W3 _ (by omega))⟩
      rw [hR] at q4 ⊢
      exact q4
    rintro e a3 W3 hp
    cases e with
    | normal =>
      obtain ⟨k1, k2, k3⟩ := hp
      obtain ⟨r1, ⟨_, r2⟩, r3, r4, r5⟩ := last none W3 k1
      exact ⟨_, _, r1, r5, .inl ⟨rfl, ⟨hI.putObj _ k3 (by omega) r2 rfl, r3, r4⟩, hKt (hKt pk k2) (hKb _ _ _ _ (by omega) r2 rfl rfl)⟩⟩
    | ret =>
      obtain ⟨k1, k3⟩ := hp
      obtain ⟨r1, ⟨_, r2⟩, r3, r4, r5⟩ := last (some .ret) W3 k1
      exact ⟨_, _, r1, r5, .inr ⟨rfl, .ret, (hIx _).putObj _ k3 (by omega) r2 rfl, r3, r4⟩⟩
    | exit id =>
      obtain ⟨k1, k3⟩ := hp
      obtain ⟨r1, ⟨_, r2⟩, r3, r4, r5⟩ := last (some (.exit id)) W3 k1
      exact ⟨_, _, r1, r5, .inr ⟨rfl, .exit id, (hIx _).putObj _ k3 (by omega) r2 rfl, r3, r4⟩⟩
    | goto t =>
      obtain ⟨k1, k3⟩ := hp
      obtain ⟨r1, ⟨_, r2⟩, r3, r4, r5⟩ := last (some (.goto t)) W3 k1
      exact ⟨_, _, r1, r5, .inr ⟨rfl, .goto t, (hIx _).putObj _ k3 (by omega) r2 rfl, r3, r4⟩⟩
    | panic ch => exact hp.elim
    | outgrown => exact hp.elim
  case behind =>
    rintro e W2 ⟨⟨v, rfl⟩, (⟨xs, hS, h1, h2, h3⟩ | ⟨pre, hSp, c, h1, h2, h3⟩)⟩
    · refine ⟨none, _, ?_, hdone d xs (W2.putObj (d + 1) (.loop (R .exhausted none))) (Nat.le_refl _) hS (hI.putObj _ h1 (by omega) h2 rfl) ((World.putObj_heap_other (by omega)).trans h3)⟩
      have := run_endLoop (P := P) h2 (by rw [hR]; simp)
      rw [hR] at this ⊢
      exact this
    · refine ⟨some c, _, ?_, hstop d c pre (W2.putObj (d + 1) (.loop (R .exhausted (some c)))) (Nat.le_refl _) hSp ((hIx c).putObj _ h1 (by omega) h2 rfl) ((World.putObj_heap_other (by omega)).trans h3)⟩
      have := run_endLoop (P := P) h2 (by rw [hR]; simp)
      rw [hR] at this ⊢
      exact this
section
variable {F : Fence} {n l : Nat} {P : Program} {md : Region.Mode} {ops : Array Oper} {Q : Exit → Act → World → Prop}

def noDefer (ops : Array Oper) : Bool := ops.toList.all fun o => match o.op with | .defer _ => false | _ => true

theorem noDefer_spec (h : noDefer ops = true) {j : Nat} {o : Oper} (ho : ops[j]? = some o) (c : Call) : o.op ≠ .defer c := fun e => by
  have := List.all_eq_true.1 h o (by simpa using Array.mem_of_getElem? ho)
  rw [e] at this
  cases this

theorem upon_round {o : Oper} {a : Act} {K : Act → World → Prop} (r : Result Next) (h : o.uponIn F n P a K Q r) : o.uponIn (F.inRound l) n P a K Q r := by
  cases r with
  | ok x w => cases x <;> exact h
  | halt x w => cases x <;> exact h

theorem op_round (hro : F.round = none) (hd : noDefer ops = true) {i : Nat} {a : Act} {w : World} {K : Act → World → Prop} (h : wpOpIn F n P ops Q i K a w) : wpOpIn (F.inRound l) n P ops Q i K a w := by
  unfold wpOpIn at *
  split
  · rename_i ho
    simpa [ho] using h
  · rename_i o ho
    simp only [ho] at h
    split
    · rename_i hw
      simp only [hw, if_true] at h
      unfold Oper.wpIn at *
      refine ⟨h.1, upon_round _ ?_⟩
      have h2 := h.2
      rw [hro, Oper.semAt_none] at h2
      rw [Oper.semAt_eq _ _ _ (noDefer_spec hd ho)]
      exact h2
    · rename_i hw
      simp only [hw] at h
      exact h

theorem any_round (hro : F.round = none) (hd : noDefer ops = true) : ∀ (fuel : Nat) (listed : Array Bool) (a : Act) (w : World), wpAnyIn F n P md ops Q fuel listed a w → wpAnyIn (F.inRound l) n P md ops Q fuel listed a w
  | 0, _, _, _, h => h
  | fuel + 1, _, _, _, h => ⟨h.1, fun i hi => wpOpIn_mono (fun a' w' h' => any_round hro hd fuel _ a' w' h') (op_round hro hd (h.2 i hi))⟩

/-- A statement within a round whose order Go leaves open is walked as everywhere. -/
theorem region_round {id : Nat} {a : Act} {w : World} (hm : P.follows .mixedOrders = true) (hro : F.round = none) (hd : noDefer ops = true) (h : wpAnyIn F n P .any ops Q ops.size (Array.replicate ops.size false) a w.drew) :
    (Code.region id ops true).wpIn (F.inRound l) n P Q a w := wpIn_region_any hm (any_round hro hd _ _ _ _ h)
end
end Go.Proofs.Ytfckfgabeeeccaa.Rf
namespace Go.Proofs.Ytfckfgabeeeccaa.P8
open Go.RowKit Go.Shelf P1 Mp

attribute [local go_sem] Oper.semAt_some

theorem findNow_int (x : Int) (u : TypeDesc) (hu : u = .int .i64) : ∀ (es : List MapEntry) (i : Nat), (∀ e ∈ es, ∃ y : Int, e.key = .int .i64 y) →
    (Instr.findNow u (.int .i64 x) es i = some none ∧ ∀ e ∈ es, e.key ≠ .int .i64 x) ∨ ∃ j e, Instr.findNow u (.int .i64 x) es i = some (some (i + j, e.val)) ∧ es[j]? = some e ∧ e.key = .int .i64 x := by
  subst hu
  intro es
  induction es with
  | nil => exact fun i _ => .inl ⟨rfl, by simp⟩
  | cons e es ih =>
    intro i h
    obtain ⟨y, hy⟩ := h e (by simp)
    by_cases hxy : x = y
    · subst hxy
      refine .inr ⟨0, e, ?_, rfl, hy⟩
      simp [Instr.findNow, Instr.sameNow, hy]
    · have hne : e.key ≠ .int .i64 x := by rw [hy]; simp; exact fun h => hxy h.symm
      have hf : (x == y) = false := by simpa using hxy
      rcases ih (i + 1) (fun e' he' => h e' (by simp [he'])) with ⟨h1, h2⟩ | ⟨j, e', h1, h2, h3⟩
      · refine .inl ⟨?_, ?_⟩
        · simp [Instr.findNow, Instr.sameNow, hy, hf, h1]
        · intro e' he'
          rcases List.mem_cons.1 he' with rfl | he'
          · exact hne
          · exact h2 e' he'
      · refine .inr ⟨j + 1, e', ?_, by simpa using h2, h3⟩
        simp [Instr.findNow, Instr.sameNow, hy, hf, h1]
        omega

/-- Ints as keys. -/
def keyI : KT Try.prog 3 Int where
  kv := fun x => .int .i64 x
  inj := fun x y h => by simpa using h
  check := fun em w x => by kernel_rfl
  find := fun w x es h => by
    rcases findNow_int x _ rfl es 0 h with ⟨h1, h2⟩ | ⟨j, e, h1, h2, h3⟩
    · exact .inl ⟨by simp [Instr.findKey, run_underlying Try.underlying3, h1, Result.andThen], h2⟩
    · exact .inr ⟨j, e, by simp [Instr.findKey, run_underlying Try.underlying3, h1, Result.andThen], h2, h3⟩
  stays := fun w x => by simp [Instr.keyThatStays, Instr.sameBits]
end Go.Proofs.Ytfckfgabeeeccaa.P8
