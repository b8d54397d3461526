/- A ring of numbers as plain mathematics: how far from one to another, between whom, whose a key is, who stands behind; no condition.
How far and between whom, of the program and of the specification: for every number; no condition.
The specification's OwnerOf, l08Has, OrderedFrom; condition: at most 2^20 ids.
The specification's l08Has, OrderedFrom; condition: at most 2^20 ids.
A range over a function that itself ranges over a function: what such a function must do, and what a loop over it may lean on; no condition.
Ints as keys of maps; no condition.
The program's functions that tell ids, each once, to a yield that is handed to them; condition: at most 2^20 ids.
The program's function that tells ids, each once, and how far each is; condition: at most 2^20 ids.
The program's OwnerOf; condition: at most 2^20 ids.
slices.Grow of nothing and slices.Concat, over rows of ints; condition: at most 2^20 ints in all.
Rows of ids in an array of 256, by how far they are; no condition.
The program's OrderedFrom; condition: at most 2^20 ids.
The draws of chapter 8: numbers, ids, ids of a ring; what is drawn is some of its kind, in memory of its own.
The draws of chapter 8: ids of a ring, and what the laws draw by them; what is drawn is some of its kind, in memory of its own. -/
import Derived.Test.YteladljgnbfcnaaGreatRows
import Derived.Test.YteladljgnbfcnaaGreatZA
import Derived.Test.YteladljgnbfcnaaGreatZD
import Derived.Test.YteladljgnbfcnaaGreatZJ
import Derived.Test.YteladljgnbfcnaaGreatZM
import Derived.BigQuiet
import Derived.RangeFuncNested
import Derived.RangeFuncBound
import Derived.RangeFuncCalls
import Derived.RangeFuncLeaves
import Derived.RangeFuncBox
import Derived.OrdersIn
import Derived.Shelf.Abstract
import Derived.WalkKit
import Derived.Shelf.RegionOpen
import Derived.OwnWalkIn
import Derived.TacticsInMore
import Derived.LoopNIn
import Derived.LoopIn
import Derived.Lib.AppendZeros
import Derived.Maps.AppendAt
namespace Go.Proofs.YteladljgnbfcnaaGreat.P8

/-- How far it is from f to t. -/
def ahd (f t : Int) : Nat := ((t - f) % 256).toNat

theorem ahd_cast (f t : Int) : ((ahd f t : Nat) : Int) = (t - f) % 256 := by unfold ahd; omega
theorem ahd_lt (f t : Int) : ahd f t < 256 := by unfold ahd; omega
theorem ahd_self (f : Int) : ahd f f = 0 := by unfold ahd; omega

/-- Whether x comes behind a and not behind b. -/
def btw (a x b : Int) : Bool := decide (0 < ahd a x) && decide (ahd a x ≤ if ahd a b = 0 then 256 else ahd a b)

theorem ahd_zero_iff (a b : Int) : ahd a b = 0 ↔ a % 256 = b % 256 := by unfold ahd; omega

theorem btw_same {a x b : Int} (h : a % 256 = b % 256) : btw a x b = decide (ahd a x ≠ 0) := by
  have h0 := (ahd_zero_iff a b).2 h
  have h1 := ahd_lt a x
  unfold btw
  rw [if_pos h0]
  by_cases h2 : ahd a x = 0
  · simp [h2]
  · have h3 : 0 < ahd a x := by omega
    have h4 : ahd a x ≤ 256 := by omega
    simp [h2, h3, h4]

theorem btw_unlike {a x b : Int} (h : ¬ a % 256 = b % 256) : btw a x b = (decide (0 < ahd a x) && decide (ahd a x ≤ ahd a b)) := by
  have h0 : ¬ ahd a b = 0 := fun e => h ((ahd_zero_iff a b).1 e)
  unfold btw
  rw [if_neg h0]

/-- The better one of those so far and the next. -/
def ownStep (key : Int) (o : Option Int) (x : Int) : Option Int :=
  match o with
  | none => some x
  | some b => if ahd key x < ahd key b then some x else some b

def best (key : Int) (l : List Int) : Option Int := l.foldl (ownStep key) none

def ownerOf (key : Int) (l : List Int) : Int := (best key l).getD (-1)

theorem best_snoc (key : Int) (l : List Int) (x : Int) : best key (l ++ [x]) = ownStep key (best key l) x := by simp [best]

/-- Each once, as they stand. -/
def nub : List Int → List Int := List.foldl (fun acc x => if x ∈ acc then acc else acc ++ [x]) []

theorem nub_snoc (l : List Int) (x : Int) : nub (l ++ [x]) = if x ∈ nub l then nub l else nub l ++ [x] := by unfold nub; rw [List.foldl_append]; rfl

theorem snoc_ind {P : List Int → Prop} (h0 : P []) (h1 : ∀ l x, P l → P (l ++ [x])) (l : List Int) : P l := by
  have : ∀ n (l : List Int), l.length = n → P l := by
    intro n
    induction n with
    | zero => intro l hl; rw [List.eq_nil_of_length_eq_zero hl]; exact h0
    | succ n ih =>
      intro l hl
      have hne : l ≠ [] := by intro h; simp [h] at hl
      obtain ⟨m, y, rfl⟩ : ∃ m y, l = m ++ [y] := ⟨l.dropLast, l.getLast hne, (List.dropLast_concat_getLast hne).symm⟩
      exact h1 _ _ (ih _ (by simpa using hl))
  exact this _ l rfl

theorem mem_nub (l : List Int) : ∀ x, x ∈ nub l ↔ x ∈ l := by
  refine snoc_ind (P := fun l => ∀ x, x ∈ nub l ↔ x ∈ l) ?_ ?_ l
  · simp [nub]
  · intro l y ih x
    rw [nub_snoc]
    by_cases h : y ∈ nub l
    · rw [if_pos h, ih, List.mem_append, List.mem_singleton]
      exact ⟨.inl, fun h' => h'.elim id (fun e => e ▸ (ih y).1 h)⟩
    · rw [if_neg h, List.mem_append, List.mem_append, ih]

theorem nub_length (l : List Int) : (nub l).length ≤ l.length := by
  refine snoc_ind (P := fun l => (nub l).length ≤ l.length) ?_ ?_ l
  · simp [nub]
  · intro l y ih
    rw [nub_snoc]
    by_cases h : y ∈ nub l
    · rw [if_pos h]; simp; omega
    · rw [if_neg h]; simp; omega

theorem best_least (key : Int) (l : List Int) : ∀ x ∈ l, ∃ b, best key l = some b ∧ ahd key b ≤ ahd key x := by
  refine snoc_ind (P := fun l => ∀ x ∈ l, ∃ b, best key l = some b ∧ ahd key b ≤ ahd key x) ?_ ?_ l
  · intro x hx; cases hx
  · intro l y ih x hx
    rw [best_snoc]
    cases hb : best key l with
    | none =>
      simp only [List.mem_append, List.mem_singleton] at hx
      rcases hx with hx | rfl
      · obtain ⟨b, hb', _⟩ := ih x hx
        rw [hb] at hb'; cases hb'
      · exact ⟨x, rfl, Nat.le_refl _⟩
    | some b =>
      have hlt : ∀ c, ahd key b ≤ ahd key c ∨ c = y → ∃ d, ownStep key (some b) y = some d ∧ ahd key d ≤ ahd key c := by
        intro c hc
        unfold ownStep
        dsimp only
        split
        · rename_i h
          refine ⟨y, rfl, ?_⟩
          rcases hc with hc | rfl
          · omega
          · omega
        · rename_i h
          refine ⟨b, rfl, ?_⟩
          rcases hc with hc | rfl
          · omega
          · omega
      simp only [List.mem_append, List.mem_singleton] at hx
      rcases hx with hx | rfl
      · obtain ⟨b', hb', hle⟩ := ih x hx
        rw [hb] at hb'; cases hb'
        exact hlt x (.inl hle)
      · exact hlt x (.inr rfl)

theorem best_nub (key : Int) (l : List Int) : best key (nub l) = best key l := by
  refine snoc_ind (P := fun l => best key (nub l) = best key l) rfl ?_ l
  intro l x ih
  rw [nub_snoc, best_snoc]
  by_cases h : x ∈ nub l
  · rw [if_pos h, ih]
    obtain ⟨b, hb, hle⟩ := best_least key (nub l) x h
    rw [ih] at hb
    rw [hb]
    unfold ownStep
    dsimp only
    rw [if_neg (by omega)]
  · rw [if_neg h, best_snoc, ih]

/-- Put in ahead of the first one that is further. -/
def ins (a x : Int) : List Int → List Int
  | [] => [x]
  | y :: l => if ahd a x < ahd a y then x :: y :: l else y :: ins a x l

def ordStep (a : Int) (out : List Int) (x : Int) : List Int := if x = a ∨ x ∈ out then out else ins a x out

def ordered (a : Int) (l : List Int) : List Int := l.foldl (ordStep a) []

theorem ordered_snoc (a : Int) (l : List Int) (x : Int) : ordered a (l ++ [x]) = ordStep a (ordered a l) x := by simp [ordered]

/-- Those that are d behind a. -/
def row (a : Int) (l : List Int) (d : Nat) : List Int := l.filter fun x => decide (x ≠ a) && decide (ahd a x = d)

def rows (a : Int) (l : List Int) : List Int := (List.range 256).flatMap (row a l)

theorem row_snoc (a : Int) (l : List Int) (x : Int) (d : Nat) : row a (l ++ [x]) d = if x ≠ a ∧ ahd a x = d then row a l d ++ [x] else row a l d := by
  unfold row
  rw [List.filter_append]
  by_cases h1 : x = a
  · simp [h1]
  · by_cases h2 : ahd a x = d
    · simp [h1, h2]
    · simp [h1, h2]

theorem row_length (a : Int) (l : List Int) (d : Nat) : (row a l d).length ≤ l.length := List.length_filter_le _ _

theorem mem_rows (a : Int) (l : List Int) (x : Int) : x ∈ rows a l ↔ x ∈ l ∧ x ≠ a := by
  unfold rows row
  simp only [List.mem_flatMap, List.mem_range, List.mem_filter, Bool.and_eq_true, decide_eq_true_eq]
  constructor
  · rintro ⟨d, _, h1, h2, _⟩
    exact ⟨h1, h2⟩
  · rintro ⟨h1, h2⟩
    exact ⟨ahd a x, ahd_lt a x, h1, h2, rfl⟩

theorem flat_congr {f g : Nat → List Int} : ∀ {ds : List Nat}, (∀ d ∈ ds, f d = g d) → ds.flatMap f = ds.flatMap g := by
  intro ds
  induction ds with
  | nil => intro _; rfl
  | cons d ds ih =>
    intro h
    rw [List.flatMap_cons, List.flatMap_cons, h d (by simp), ih (fun e he => h e (by simp [he]))]

theorem ins_skip (a x : Int) : ∀ (l m : List Int), (∀ y ∈ l, ahd a y ≤ ahd a x) → ins a x (l ++ m) = l ++ ins a x m := by
  intro l
  induction l with
  | nil => intro m _; rfl
  | cons y l ih =>
    intro m h
    have h1 := h y (by simp)
    show (if ahd a x < ahd a y then _ else y :: ins a x (l ++ m)) = _
    rw [if_neg (by omega), ih m (fun z hz => h z (by simp [hz]))]
    rfl

theorem ins_head (a x : Int) : ∀ (m : List Int), (∀ y ∈ m, ahd a x < ahd a y) → ins a x m = x :: m := by
  intro m h
  cases m with
  | nil => rfl
  | cons y m =>
    show (if ahd a x < ahd a y then _ else _) = _
    rw [if_pos (h y (by simp))]

theorem mem_row {a : Int} {l : List Int} {d : Nat} {y : Int} (h : y ∈ row a l d) : ahd a y = d := by
  unfold row at h
  simp only [List.mem_filter, Bool.and_eq_true, decide_eq_true_eq] at h
  exact h.2.2

theorem rows_split (a : Int) (l : List Int) (d : Nat) (hd : d < 256) : rows a l = (List.range d).flatMap (row a l) ++ (row a l d ++ (List.range' (d + 1) (255 - d)).flatMap (row a l)) := by
  have h : List.range 256 = List.range d ++ (d :: List.range' (d + 1) (255 - d)) := by
    rw [List.range_eq_range', List.range_eq_range']
    have e1 : 256 = d + (255 - d + 1) := by omega
    have e2 := @List.range'_append_1 0 d (255 - d + 1)
    rw [← e1, Nat.zero_add] at e2
    rw [← e2]
    rfl
  unfold rows
  rw [h, List.flatMap_append, List.flatMap_cons]

theorem rows_ins (a x : Int) (l : List Int) (hx : x ≠ a) : rows a (l ++ [x]) = ins a x (rows a l) := by
  have hd := ahd_lt a x
  rw [rows_split a (l ++ [x]) (ahd a x) hd, rows_split a l (ahd a x) hd]
  have e1 : (List.range (ahd a x)).flatMap (row a (l ++ [x])) = (List.range (ahd a x)).flatMap (row a l) := by
    refine flat_congr fun d h => ?_
    have := List.mem_range.1 h
    rw [row_snoc, if_neg (by omega)]
  have e2 : (List.range' (ahd a x + 1) (255 - ahd a x)).flatMap (row a (l ++ [x])) = (List.range' (ahd a x + 1) (255 - ahd a x)).flatMap (row a l) := by
    refine flat_congr fun d h => ?_
    have := List.mem_range'_1.1 h
    rw [row_snoc, if_neg (by omega)]
  rw [e1, e2, row_snoc, if_pos ⟨hx, rfl⟩, ins_skip, ins_skip, ins_head]
  · simp
  · intro y hy
    obtain ⟨d, hd1, hy1⟩ := List.mem_flatMap.1 hy
    have := List.mem_range'_1.1 hd1
    rw [mem_row hy1]
    omega
  · intro y hy
    rw [mem_row hy]
    exact Nat.le_refl _
  · intro y hy
    obtain ⟨d, hd1, hy1⟩ := List.mem_flatMap.1 hy
    have := List.mem_range.1 hd1
    rw [mem_row hy1]
    omega

theorem rows_self (a : Int) (l : List Int) : rows a (l ++ [a]) = rows a l := by
  unfold rows
  refine flat_congr fun d _ => ?_
  rw [row_snoc, if_neg (by simp)]

theorem rows_ordered (a : Int) (l : List Int) : rows a (nub l) = ordered a l := by
  refine snoc_ind (P := fun l => rows a (nub l) = ordered a l) ?_ ?_ l
  · show (List.range 256).flatMap (row a []) = []
    rw [List.flatMap_eq_nil_iff]
    intro d _
    rfl
  · intro l x ih
    rw [ordered_snoc, ← ih, nub_snoc]
    unfold ordStep
    by_cases hx : x = a
    · subst hx
      rw [if_pos (Or.inl rfl : x = x ∨ x ∈ rows x (nub l))]
      split
      · rfl
      · exact rows_self _ _
    · by_cases hm : x ∈ nub l
      · rw [if_pos hm, if_pos (.inr ((mem_rows a _ x).2 ⟨hm, hx⟩))]
      · rw [if_neg hm, if_neg (fun h => h.elim hx (fun h => hm ((mem_rows a _ x).1 h).1))]
        exact rows_ins a x _ hx

theorem ins_length (a x : Int) : ∀ l : List Int, (ins a x l).length = l.length + 1 := by
  intro l
  induction l with
  | nil => rfl
  | cons y l ih =>
    unfold ins
    split
    · simp
    · simp [ih]

theorem ordered_length (a : Int) (l : List Int) : (ordered a l).length ≤ l.length := by
  refine snoc_ind (P := fun l => (ordered a l).length ≤ l.length) (by simp [ordered]) ?_ l
  intro l x ih
  rw [ordered_snoc]
  unfold ordStep
  split
  · simp; omega
  · rw [ins_length]; simp; omega

end Go.Proofs.YteladljgnbfcnaaGreat.P8
namespace Go.Proofs.YteladljgnbfcnaaGreat.P8
set_option maxRecDepth 8000
open Go.RowKit P1

theorem tmod_low (n : Int) : n.tmod 256 = if 0 ≤ n ∨ n % 256 = 0 then n % 256 else n % 256 - 256 := by
  rw [Int.tmod_eq_emod]
  by_cases h : 0 ≤ n ∨ n % 256 = 0
  · rw [if_pos h, if_pos (h.imp id (fun e => Int.dvd_of_emod_eq_zero e))]
    omega
  · rw [if_neg h, if_neg (fun h' => h (h'.imp id (fun e => Int.emod_eq_zero_of_dvd e)))]
    omega

theorem tmod_bounds (n : Int) : -256 < n.tmod 256 ∧ n.tmod 256 < 256 := by
  rw [tmod_low]
  split <;> omega

theorem wrap_in {n : Int} (h0 : -9223372036854775808 ≤ n) (h1 : n ≤ 9223372036854775807) : wrap64 n = n := by
  unfold wrap64
  omega

theorem on_ring (n : Int) : (wrap64 (n.tmod 256 + 256)).tmod 256 = n % 256 := by
  have hb := tmod_bounds n
  rw [wrap_in (by omega) (by omega), tmod_low (n.tmod 256 + 256), tmod_low n]
  split <;> split <;> omega

theorem onRing_calls (n : Int) (w : World) :
    Calls Tryz.prog 96 #[.int .i64 n] w fun e w' => e = .returned (.int .i64 (n % 256)) ∧ w' = w := by
  go_enter Tryz.func96, Tryz.ntmps96
  go_wp2
  go_ret
  refine ⟨?_, rfl⟩
  rw [← on_ring n]
  rfl

set_option maxHeartbeats 400000 in
theorem implAhead_calls (f t : Int) (w : World) :
    Calls Tryz.prog 79 #[.int .i64 f, .int .i64 t] w fun e w' => e = .returned (.int .i64 ((ahd f t : Nat) : Int)) ∧ w' = w := by
  have H := hide (fun n => onRing_calls n w)
  go_enter Tryz.func79, Tryz.ntmps79
  go_wp2_with fail
  refine (H.out _).mono ?_
  rintro e w1 ⟨rfl, rfl⟩
  go_wp2_with fail
  refine (H.out _).mono ?_
  rintro e w1 ⟨rfl, rfl⟩
  go_wp2_with fail
  refine (H.out _).mono ?_
  rintro e w1 ⟨rfl, rfl⟩
  go_wp2_with fail
  go_ret
  exact ⟨by rw [ahd_cast]; rfl, rfl⟩

theorem mod_low {n : Int} (h : n.tmod 256 < 0) : wrap64 (n.tmod 256 + 256) = n % 256 := by
  have hb := tmod_bounds n
  rw [wrap_in (by omega) (by omega), tmod_low]
  rw [tmod_low] at h
  split <;> rename_i h'
  · rw [if_pos h'] at h; omega
  · omega

theorem mod_high {n : Int} (h : ¬ n.tmod 256 < 0) : n.tmod 256 = n % 256 := by
  rw [tmod_low] at h ⊢
  split <;> rename_i h'
  · rfl
  · rw [if_neg h'] at h; omega

set_option maxHeartbeats 400000 in
theorem mod_calls (n : Int) (w : World) :
    Calls Tryz.prog 58 #[.int .i64 n] w fun e w' => e = .returned (.int .i64 (n % 256)) ∧ w' = w := by
  by_cases h : n.tmod 256 < 0
  · have HE := hide (mod_low h)
    go_enter Tryz.func58, Tryz.ntmps58
    go_wp2
    go_ret
    exact ⟨by rw [← HE.out]; rfl, rfl⟩
  · have HE := hide (mod_high h)
    have h2 : 0 ≤ n.tmod 256 := by omega
    go_enter Tryz.func58, Tryz.ntmps58
    go_wp2
    go_ret
    exact ⟨by rw [← HE.out]; rfl, rfl⟩

set_option maxHeartbeats 400000 in
theorem specAhead_calls (f t : Int) (w : World) :
    Calls Tryz.prog 33 #[.int .i64 f, .int .i64 t] w fun e w' => e = .returned (.int .i64 ((ahd f t : Nat) : Int)) ∧ w' = w := by
  have H := hide (fun n => mod_calls n w)
  go_enter Tryz.func33, Tryz.ntmps33
  go_wp2_with fail
  refine (H.out _).mono ?_
  rintro e w1 ⟨rfl, rfl⟩
  go_wp2_with fail
  refine (H.out _).mono ?_
  rintro e w1 ⟨rfl, rfl⟩
  go_wp2_with fail
  refine (H.out _).mono ?_
  rintro e w1 ⟨rfl, rfl⟩
  go_wp2_with fail
  go_ret
  exact ⟨by rw [ahd_cast]; rfl, rfl⟩

set_option maxHeartbeats 400000 in
theorem specBetween_calls (a x b : Int) (w : World) :
    Calls Tryz.prog 95 #[.int .i64 a, .int .i64 x, .int .i64 b] w fun e w' => e = .returned (.bool (btw a x b)) ∧ w' = w := by
  have H1 := hide (specAhead_calls a x w)
  have H2 := hide (specAhead_calls a b w)
  have M1 := hide (mod_calls a w)
  have M2 := hide (mod_calls b w)
  by_cases hab : a % 256 = b % 256
  · have HR := hide (btw_same (x := x) hab)
    rw [← hab] at M2
    have hx := ahd_lt a x
    clear hab H2
    generalize btw a x b = r at *
    generalize ahd a x = p at *
    generalize a % 256 = q at *
    go_enter Tryz.func95, Tryz.ntmps95
    go_wp2_with fail
    refine M1.out.mono ?_
    rintro e w1 ⟨rfl, rfl⟩
    go_wp2_with fail
    refine M2.out.mono ?_
    rintro e w1 ⟨rfl, rfl⟩
    go_wp2_with fail
    refine H1.out.mono ?_
    rintro e w1 ⟨rfl, rfl⟩
    go_wp2_with fail
    go_ret
    refine ⟨?_, rfl⟩
    rw [HR.out]
    by_cases hp : p = 0
    · subst hp; rfl
    · have h1 : ((p : Int) != 0) = true := by simpa using hp
      simp [hp]
  · have HR := hide (btw_unlike (x := x) hab)
    have hx := ahd_lt a x
    have hne : ((a % 256) == (b % 256)) = false := by simpa using hab
    clear hab
    generalize btw a x b = r at *
    generalize ahd a x = p at *
    generalize ahd a b = s at *
    generalize a % 256 = q at *
    generalize b % 256 = t at *
    by_cases hp : 0 < p
    · go_enter Tryz.func95, Tryz.ntmps95
      go_wp2_with fail
      refine M1.out.mono ?_
      rintro e w1 ⟨rfl, rfl⟩
      go_wp2_with fail
      refine M2.out.mono ?_
      rintro e w1 ⟨rfl, rfl⟩
      go_wp2_with fail
      refine H1.out.mono ?_
      rintro e w1 ⟨rfl, rfl⟩
      go_wp2_with fail
      refine H1.out.mono ?_
      rintro e w1 ⟨rfl, rfl⟩
      go_wp2_with fail
      refine H2.out.mono ?_
      rintro e w1 ⟨rfl, rfl⟩
      go_wp2_with fail
      go_ret
      exact ⟨by rw [HR.out]; simp [hp], rfl⟩
    · obtain rfl : p = 0 := by omega
      go_enter Tryz.func95, Tryz.ntmps95
      go_wp2_with fail
      refine M1.out.mono ?_
      rintro e w1 ⟨rfl, rfl⟩
      go_wp2_with fail
      refine M2.out.mono ?_
      rintro e w1 ⟨rfl, rfl⟩
      go_wp2_with fail
      refine H1.out.mono ?_
      rintro e w1 ⟨rfl, rfl⟩
      go_wp2_with fail
      go_ret
      exact ⟨by rw [HR.out]; rfl, rfl⟩
end Go.Proofs.YteladljgnbfcnaaGreat.P8
namespace Go.Proofs.YteladljgnbfcnaaGreat.P8
set_option maxRecDepth 8000
open Go.RowKit P1

theorem drewN_more {w wr : World} (h : ∃ n, wr = w.drewN n) (m : Nat) : ∃ n, wr.drewN m = w.drewN n := by
  obtain ⟨n, rfl⟩ := h
  exact ⟨_, drewN2 _ _ _⟩

/-- The best one of the first k stands at place b. -/
def BestAt (key : Int) (l : List Int) (k : Nat) (b : Int) : Prop := (k = 0 ∧ b = -1) ∨ ∃ j : Nat, ∃ h : j < l.length, b = j ∧ j < k ∧ best key (l.take k) = some l[j]

theorem BestAt.step {key : Int} {l : List Int} {k : Nat} {b : Int} (h : BestAt key l k b) (hk : k < l.length) :
    (b < 0 → BestAt key l (k + 1) k) ∧ ∀ (j : Nat) (hj : j < l.length), b = j → (ahd key l[k] < ahd key l[j] → BestAt key l (k + 1) k) ∧ (¬ ahd key l[k] < ahd key l[j] → BestAt key l (k + 1) b) := by
  have e1 : best key (l.take (k + 1)) = ownStep key (best key (l.take k)) l[k] := by
    rw [List.take_succ_eq_append_getElem hk, best_snoc]
  constructor
  · intro hb
    rcases h with ⟨rfl, _⟩ | ⟨j, hj, rfl, _⟩
    · refine .inr ⟨0, hk, rfl, by omega, ?_⟩
      rw [e1]
      rfl
    · omega
  · intro j hj hb
    rcases h with ⟨rfl, rfl⟩ | ⟨i, hi, hbi, hik, hbest⟩
    · omega
    · obtain rfl : i = j := by omega
      rw [hbest] at e1
      unfold ownStep at e1
      dsimp only at e1
      constructor
      · intro hlt
        rw [if_pos hlt] at e1
        exact .inr ⟨k, hk, rfl, by omega, e1⟩
      · intro hlt
        rw [if_neg hlt] at e1
        exact .inr ⟨i, hi, hb, by omega, e1⟩

set_option maxHeartbeats 1000000 in
theorem specOwner_calls (w : World) (v : Value) (l : List Int) (key : Int) (hv : IntsAt w v l) (hl : l.length ≤ 1048576) :
    Calls Tryz.prog 41 #[v, .int .i64 key] w fun e w' => e = .returned (.int .i64 (ownerOf key l)) ∧ ∃ n, w' = w.drewN n := by
  obtain ⟨a, ca, rfl, HA⟩ := hv
  replace HA := hide HA
  go_enter Tryz.func41, Tryz.ntmps41
  go_wp2
  go_loopw [5, 6] (fun b i wr => ∃ k : Nat, ∃ z : Int, k ≤ l.length ∧ i = .int .i64 k ∧ b = .int .i64 z ∧ Hid (BestAt key l k z) ∧ ∃ n, wr = w.drewN n) (fun b i _ => l.length - (intOf i).toNat)
  case atStart => exact ⟨0, -1, Nat.zero_le _, rfl, rfl, .inl ⟨rfl, rfl⟩, 0, rfl⟩
  case round =>
    obtain ⟨k, z, hk, rfl, rfl, HZ, HW⟩ := hrel
    have HA' : Hid (∀ j (hj : j < l.length), ∃ g off, a = some ⟨g, off, none⟩ ∧ g < wr.heap.size ∧ wr.cell? ⟨g, off + j, none⟩ = some (.int .i64 l[j])) := by
      obtain ⟨n, rfl⟩ := HW
      exact HA.out
    replace HW := hide HW
    clear HA
    have HA := HA'
    clear HA'
    by_cases hlt : k < l.length
    · obtain ⟨ga, oa, rfl, ha2, ha3⟩ := HA.out k hlt
      have hst := HZ.out.step hlt
      by_cases hz : z < 0
      · have HN := hide (hst.1 hz)
        clear hst HZ
        have hd : decide (z < 0) = true := decide_eq_true hz
        go_wp2
        go_quiet (fail)
        go_wp2
        go_roundw
        case rel => exact ⟨k + 1, k, by omega, by go_num, rfl, HN.out, drewN_more HW.out _⟩
        case measure => simp [intOf]; omega
      · obtain ⟨j, hj, rfl, hjk⟩ : ∃ j : Nat, ∃ h : j < l.length, z = j ∧ j < k := by
          rcases HZ.out with ⟨rfl, rfl⟩ | ⟨j, hj, rfl, h1, _⟩
          · omega
          · exact ⟨j, hj, rfl, h1⟩
        obtain ⟨gb, ob, hgb, hb2, hb3⟩ := HA.out j hj
        cases hgb
        have hst2 := hst.2 j hj rfl
        have hd : decide ((j : Int) < 0) = false := decide_eq_false (by omega)
        have C1 := hide (fun wx => specAhead_calls key l[k] wx)
        have C2 := hide (fun wx => specAhead_calls key l[j] wx)
        clear hst hz
        by_cases hq : ahd key l[k] < ahd key l[j]
        · have HN := hide (hst2.1 hq)
          have hqd : decide (((ahd key l[k] : Nat) : Int) < ((ahd key l[j] : Nat) : Int)) = true := decide_eq_true (by omega)
          clear hst2 HZ
          generalize ahd key l[k] = x at *
          generalize ahd key l[j] = y at *
          generalize l[k] = lk at *
          generalize l[j] = lj at *
          go_wp2
          refine wp_region_quiet_lit (by kernel_rfl) (by kernel_rfl) ?_
          repeat (go_big_quiet_step (fail))
          go_big_quiet_step (exact Calls.quiet_of_same (C1.out _))
          repeat (go_big_quiet_step (fail))
          go_big_quiet_step (exact Calls.quiet_of_same (C2.out _))
          repeat (go_big_quiet_step (fail))
          refine wpQuiet_nil ?_
          rintro _ ⟨nq, rfl⟩
          go_wp2
          go_roundw
          case rel => exact ⟨k + 1, k, by omega, by go_num, rfl, HN.out, drewN_more HW.out _⟩
          case measure => simp [intOf]; omega
        · have HN := hide (hst2.2 hq)
          have hqd : decide (((ahd key l[k] : Nat) : Int) < ((ahd key l[j] : Nat) : Int)) = false := decide_eq_false (by omega)
          have hq2 : ahd key l[j] ≤ ahd key l[k] := by omega
          clear hst2 HZ
          generalize ahd key l[k] = x at *
          generalize ahd key l[j] = y at *
          generalize l[k] = lk at *
          generalize l[j] = lj at *
          go_wp2
          refine wp_region_quiet_lit (by kernel_rfl) (by kernel_rfl) ?_
          repeat (go_big_quiet_step (fail))
          go_big_quiet_step (exact Calls.quiet_of_same (C1.out _))
          repeat (go_big_quiet_step (fail))
          go_big_quiet_step (exact Calls.quiet_of_same (C2.out _))
          repeat (go_big_quiet_step (fail))
          refine wpQuiet_nil ?_
          rintro _ ⟨nq, rfl⟩
          go_wp2
          go_roundw
          case rel => exact ⟨k + 1, j, by omega, by go_num, rfl, HN.out, drewN_more HW.out _⟩
          case measure => simp [intOf]; omega
    · obtain rfl : k = l.length := by omega
      by_cases hz : z < 0
      · have HE : Hid (ownerOf key l = -1) := by
          show ownerOf key l = -1
          rcases HZ.out with ⟨h0, _⟩ | ⟨j, hj, rfl, _⟩
          · rw [List.eq_nil_of_length_eq_zero h0]; rfl
          · omega
        clear HZ
        go_wp2
        go_ret
        exact ⟨by rw [HE.out]; rfl, HW.out⟩
      · obtain ⟨j, hj, rfl, HE⟩ : ∃ j : Nat, ∃ h : j < l.length, z = j ∧ Hid (ownerOf key l = l[j]) := by
          rcases HZ.out with ⟨h0, rfl⟩ | ⟨j, hj, rfl, h1, h2⟩
          · omega
          · refine ⟨j, hj, rfl, ?_⟩
            show ownerOf key l = l[j]
            rw [List.take_length] at h2
            unfold ownerOf
            rw [h2]
            rfl
        obtain ⟨gb, ob, rfl, hb2, hb3⟩ := HA.out j hj
        clear HZ hz
        generalize l[j] = lj at *
        go_wp2
        go_ret
        exact ⟨by rw [HE.out]; rfl, HW.out⟩
end Go.Proofs.YteladljgnbfcnaaGreat.P8
namespace Go.Proofs.YteladljgnbfcnaaGreat.P8
set_option maxRecDepth 8000
open Go.RowKit P1

set_option maxHeartbeats 400000 in
theorem specHas_calls (w : World) (v : Value) (l : List Int) (n : Int) (hv : IntsAt w v l) (hl : l.length ≤ 1048576) :
    Calls Tryz.prog 32 #[v, .int .i64 n] w fun e w' => e = .returned (.bool (decide (n ∈ l))) ∧ w' = w := by
  obtain ⟨a, ca, rfl, HA⟩ := hv
  replace HA := hide HA
  go_enter Tryz.func32, Tryz.ntmps32
  go_wp2
  go_loopw [5] (fun i wr => ∃ k : Nat, k ≤ l.length ∧ i = .int .i64 k ∧ Hid (n ∉ l.take k) ∧ wr = w) (fun i _ => l.length - (intOf i).toNat)
  case atStart => exact ⟨0, Nat.zero_le _, rfl, by show n ∉ _; simp, rfl⟩
  case round =>
    obtain ⟨k, hk, rfl, HN, rfl⟩ := hrel
    by_cases hlt : k < l.length
    · obtain ⟨ga, oa, rfl, ha2, ha3⟩ := HA.out k hlt
      by_cases he : l[k] = n
      · have HE : Hid (decide (n ∈ l) = true) := decide_eq_true (by rw [← he]; exact List.getElem_mem hlt)
        subst he
        go_wp2
        go_ret
        exact ⟨by rw [HE.out]; rfl, rfl⟩
      · have hne : (l[k] == n) = false := by simpa using he
        have HN' : Hid (n ∉ l.take (k + 1)) := by
          show n ∉ l.take (k + 1)
          rw [List.take_succ_eq_append_getElem hlt, List.mem_append, List.mem_singleton]
          rintro (h | h)
          · exact HN.out h
          · exact he h.symm
        clear he HN
        generalize l[k] = x at *
        go_wp2
        go_roundw
        case rel => exact ⟨k + 1, by omega, by go_num, HN'.out, trivial⟩
        case measure => simp [intOf]; omega
    · have HE : Hid (decide (n ∈ l) = false) := decide_eq_false (by
        have := HN.out
        rwa [List.take_of_length_le (by omega)] at this)
      clear HN
      go_wp2
      go_ret
      exact ⟨by rw [HE.out]; rfl, rfl⟩

theorem ins_snoc (a x z : Int) : ∀ l : List Int, (∃ y ∈ l, ahd a x < ahd a y) → ins a x (l ++ [z]) = ins a x l ++ [z] := by
  intro l
  induction l with
  | nil => rintro ⟨y, hy, _⟩; cases hy
  | cons y l ih =>
    intro h
    show (if ahd a x < ahd a y then _ else y :: ins a x (l ++ [z])) = (if ahd a x < ahd a y then _ else _) ++ [z]
    by_cases hy : ahd a x < ahd a y
    · rw [if_pos hy, if_pos hy]; rfl
    · rw [if_neg hy, if_neg hy, ih]
      · rfl
      · obtain ⟨u, hu, hlt⟩ := h
        rcases List.mem_cons.1 hu with rfl | hu
        · exact absurd hlt hy
        · exact ⟨u, hu, hlt⟩

/-- How far the putting in has come. -/
def Part (a x : Int) (out : List Int) (k : Nat) (nx : List Int) (put : Bool) : Prop :=
  (put = false ∧ nx = out.take k ∧ ∀ y ∈ out.take k, ahd a y ≤ ahd a x) ∨ (put = true ∧ nx = ins a x (out.take k) ∧ ∃ y ∈ out.take k, ahd a x < ahd a y)

theorem Part.start (a x : Int) (out : List Int) : Part a x out 0 [] false := .inl ⟨rfl, rfl, by simp⟩

theorem Part.put {a x : Int} {out nx : List Int} {k : Nat} (h : Part a x out k nx true) (hk : k < out.length) : Part a x out (k + 1) (nx ++ [out[k]]) true := by
  rcases h with ⟨h, _⟩ | ⟨_, rfl, h⟩
  · cases h
  · refine .inr ⟨rfl, ?_, ?_⟩
    · rw [List.take_succ_eq_append_getElem hk, ins_snoc _ _ _ _ h]
    · rw [List.take_succ_eq_append_getElem hk]
      obtain ⟨y, hy, hlt⟩ := h
      exact ⟨y, List.mem_append_left _ hy, hlt⟩

theorem Part.now {a x : Int} {out nx : List Int} {k : Nat} (h : Part a x out k nx false) (hk : k < out.length) (hlt : ahd a x < ahd a out[k]) : Part a x out (k + 1) ((nx ++ [x]) ++ [out[k]]) true := by
  rcases h with ⟨_, rfl, h⟩ | ⟨h, _⟩
  · refine .inr ⟨rfl, ?_, ?_⟩
    · rw [List.take_succ_eq_append_getElem hk, ins_skip _ _ _ _ h, ins_head _ _ _ (by simpa using hlt)]
      simp
    · rw [List.take_succ_eq_append_getElem hk]
      exact ⟨out[k], List.mem_append_right _ (List.mem_singleton.2 rfl), hlt⟩
  · cases h

theorem Part.not {a x : Int} {out nx : List Int} {k : Nat} (h : Part a x out k nx false) (hk : k < out.length) (hlt : ¬ ahd a x < ahd a out[k]) : Part a x out (k + 1) (nx ++ [out[k]]) false := by
  rcases h with ⟨_, rfl, h⟩ | ⟨h, _⟩
  · refine .inl ⟨rfl, ?_, ?_⟩
    · rw [List.take_succ_eq_append_getElem hk]
    · rw [List.take_succ_eq_append_getElem hk]
      intro y hy
      rcases List.mem_append.1 hy with hy | hy
      · exact h y hy
      · simp only [List.mem_singleton] at hy
        subst hy
        omega
  · cases h

theorem Part.len {a x : Int} {out nx : List Int} {k : Nat} {put : Bool} (h : Part a x out k nx put) : nx.length ≤ k + 1 := by
  rcases h with ⟨_, rfl, _⟩ | ⟨_, rfl, _⟩
  · rw [List.length_take]; omega
  · rw [ins_length, List.length_take]; omega

theorem Part.endF {a x : Int} {out nx : List Int} (h : Part a x out out.length nx false) : nx ++ [x] = ins a x out := by
  rcases h with ⟨_, rfl, h⟩ | ⟨h, _⟩
  · rw [List.take_length] at h ⊢
    have := ins_skip a x out [] h
    rw [List.append_nil] at this
    rw [this]
    rfl
  · cases h

theorem Part.endT {a x : Int} {out nx : List Int} (h : Part a x out out.length nx true) : nx = ins a x out := by
  rcases h with ⟨h, _⟩ | ⟨_, rfl, _⟩
  · cases h
  · rw [List.take_length]

theorem own_lit0 (w : World) : (w.alloc (.cells #[] 3)).ownsRow w.heap.size 3 1 (.slice (some ⟨w.heap.size, 0, none⟩) 0 0) ([] : List Int).length (cellsI []) :=
  World.ownsRow_lit (base := w.heap.size) (e := 3) (size := 1) w #[] 0 (Nat.le_refl _) (by decide) rfl

theorem own_sh {w : World} {B : Nat} {e : TypeId} {size : Nat} {v : Value} {n : Nat} {xs : List Value} (h : w.ownsRow B e size v n xs) : ∃ a c, v = .slice a n c := by
  rcases h.2 with ⟨rfl, hn⟩ | ⟨g, cap, cur, rfl, _⟩
  · exact ⟨none, 0, by rw [hn]⟩
  · exact ⟨_, _, rfl⟩

set_option maxHeartbeats 4000000 in
theorem specOrdered_calls (w : World) (v : Value) (l : List Int) (a : Int) (hv : IntsAt w v l) (hl : l.length ≤ 1048576) :
    Calls Tryz.prog 10 #[v, .int .i64 a] w fun e w' => ∃ v', e = .returned v' ∧ w'.ownsRow w.heap.size 3 1 v' (ordered a l).length (cellsI (ordered a l)) ∧ Below w.heap.size w w' := by
  have HV := hide hv
  obtain ⟨av, cv, rfl, -⟩ := hv
  obtain ⟨i0, hi, hz0, hz1, hz2⟩ := info_parts info_i64
  obtain ⟨O, HO0, HOs, HOl, HOe⟩ : ∃ O : Nat → List Int, Hid (O 0 = []) ∧ Hid (∀ k (hk : k < l.length), O (k + 1) = ordStep a (O k) l[k]) ∧ Hid (∀ k, (O k).length ≤ 1048576) ∧ Hid (O l.length = ordered a l) := by
    refine ⟨fun k => ordered a (l.take k), rfl, fun k hk => ?_, fun k => ?_, ?_⟩
    · show ordered a (l.take (k + 1)) = _
      rw [List.take_succ_eq_append_getElem hk, ordered_snoc]
    · refine Nat.le_trans (ordered_length _ _) ?_
      rw [List.length_take]
      omega
    · show ordered a (l.take l.length) = _
      rw [List.take_length]
  have HS0 := hide (own_lit0 w)
  have HB0 := hide ((Below.refl w.heap.size w).alloc (Nat.le_refl _) (.cells #[] 3))
  go_enter Tryz.func10, Tryz.ntmps10
  go_wp2
  obtain ⟨B, eB⟩ : ∃ B, B = w.heap.size := ⟨_, rfl⟩
  rw [← eB] at HS0 HB0 ⊢
  have hwB : w.heap.size ≤ B := by omega
  have HBw : Hid (B ≤ w.heap.size) := by show _ ≤ _; omega
  clear eB
  generalize w.alloc (.cells #[] 3) = w0 at *
  go_loopw [5, 6] (fun vo i wr => ∃ k : Nat, k ≤ l.length ∧ i = .int .i64 k ∧ Hid (wr.ownsRow B 3 1 vo (O k).length (cellsI (O k))) ∧ Hid (Below B w wr)) (fun _ i _ => l.length - (intOf i).toNat)
  case atStart => exact ⟨0, Nat.zero_le _, rfl, by show World.ownsRow _ _ _ _ _ _ _; rw [HO0.out]; exact HS0.out, HB0.out⟩
  case round =>
    clear HS0 HB0
    obtain ⟨k, hk, rfl, HO, HB⟩ := hrel
    by_cases hlt : k < l.length
    · have hs := HOs.out k hlt
      have hol := HOl.out k
      have hBr : B ≤ wr.heap.size := by have := HB.out.size; have := HBw.out; omega
      obtain ⟨av2, cv2, hsh, HA⟩ := HV.out.below HB.out hwB
      cases hsh
      obtain ⟨ga, oa, rfl, ha2, ha3⟩ := HA k hlt
      clear HA
      have HS := hide hs
      clear hs
      obtain ⟨ao, co, hsh⟩ := own_sh HO.out
      subst hsh
      have HI := hide (IntsAt.of_own HO.out)
      obtain ⟨out, EO⟩ : ∃ out, out = O k := ⟨_, rfl⟩
      obtain ⟨x, EX⟩ : ∃ x, x = l[k] := ⟨_, rfl⟩
      rw [← EX] at ha3
      rw [← EO, ← EX] at HS
      rw [← EO] at HO HI hol ⊢
      clear EO EX
      obtain ⟨wo, ewo⟩ : ∃ wo, wo = wr := ⟨_, rfl⟩
      subst ewo
      have HH := hide (specHas_calls wo _ out x HI.out hol)
      by_cases hxa : x = a
      · have HN : Hid (O (k + 1) = out) := by show _ = _; rw [HS.out]; unfold ordStep; rw [if_pos (.inl hxa)]
        subst hxa
        clear HH HI HS
        go_wp2
        go_roundw
        case rel => exact ⟨k + 1, by omega, by go_num, by show World.ownsRow _ _ _ _ _ _ _; rw [HN.out]; exact HO.out, HB.out⟩
        case measure => simp [intOf]; omega
      · have hxd : (x == a) = false := by simpa using hxa
        have HXA := hide hxa
        clear hxa
        go_wp2_with fail
        refine HH.out.mono ?_
        rintro e w1 ⟨rfl, rfl⟩
        clear HH
        by_cases hm : x ∈ out
        · have HN : Hid (O (k + 1) = out) := by show _ = _; rw [HS.out]; unfold ordStep; rw [if_pos (.inr hm)]
          rw [decide_eq_true hm]
          clear HI HS hm
          go_wp2
          go_roundw
          case rel => exact ⟨k + 1, by omega, by go_num, by show World.ownsRow _ _ _ _ _ _ _; rw [HN.out]; exact HO.out, HB.out⟩
          case measure => simp [intOf]; omega
        · have HN : Hid (O (k + 1) = ins a x out) := by show _ = _; rw [HS.out]; unfold ordStep; rw [if_neg (fun h => h.elim HXA.out hm)]
          rw [decide_eq_false hm]
          clear HS hm
          have HS0 := hide (own_lit0 w1)
          have HB0 := hide ((Below.refl w1.heap.size w1).alloc (Nat.le_refl _) (.cells #[] 3))
          go_wp2
          obtain ⟨B2, eB⟩ : ∃ B, B = w1.heap.size := ⟨_, rfl⟩
          rw [← eB] at HS0 HB0 ⊢
          have HB2 := hide eB
          have hB2 : B ≤ B2 := by omega
          have hga2 : ga < B2 := by omega
          clear eB
          generalize w1.alloc (.cells #[] 3) = w3 at *
          go_loopw [7, 8, 9] (fun vn pb i wx => ∃ (j : Nat) (nx : List Int) (put : Bool), j ≤ out.length ∧ i = .int .i64 j ∧ pb = .bool put ∧ Hid (Part a x out j nx put) ∧ Hid (wx.ownsRow B2 3 1 vn nx.length (cellsI nx)) ∧ Hid (Below B2 w1 wx)) (fun _ _ i _ => out.length - (intOf i).toNat)
          case atStart => exact ⟨0, [], false, Nat.zero_le _, rfl, rfl, Part.start a x out, HS0.out, HB0.out⟩
          case round =>
            clear HS0 HB0
            obtain ⟨j, nx, put, hj, rfl, rfl, HP, HX, HBx⟩ := hrel
            have hBx : B2 ≤ wr.heap.size := by have := HBx.out.size; have := HB2.out; omega
            have hnx := HP.out.len
            have hx3 : wr.cell? ⟨ga, oa + k, none⟩ = some (.int .i64 x) := by rw [HBx.out.cell (p := ⟨ga, oa + k, none⟩) hga2]; exact ha3
            have hx2 : ga < wr.heap.size := by omega
            obtain ⟨an, cn, hsn⟩ := own_sh HX.out
            subst hsn
            by_cases hjl : j < out.length
            · obtain ⟨ax, cx, hax, HAx⟩ := HI.out.below HBx.out (by have := HB2.out; omega)
              cases hax
              obtain ⟨gb, ob, rfl, hb2, hb3⟩ := HAx j hjl
              have hgb2 : gb < B2 := by
                have h := HB2.out
                obtain ⟨ax, cx, hax, HAy⟩ := HI.out
                cases hax
                obtain ⟨g', o', e', hl', _⟩ := HAy j hjl
                cases e'
                omega
              clear HAx
              cases put with
              | true =>
                have HPn := hide (HP.out.put hjl)
                clear HP
                generalize out[j] = y at *
                go_wp2
                go_quiet (fail)
                have HX5 : Hid ((wr.drewN nq).ownsRow B2 3 1 (.slice an nx.length cn) nx.length (cellsI nx)) := HX.out
                have HB5 : Hid (Below B2 w1 (wr.drewN nq)) := below_drewN HBx.out nq
                have hB5 : B2 ≤ (wr.drewN nq).heap.size := hBx
                have hy3 : (wr.drewN nq).cell? ⟨gb, ob + j, none⟩ = some (.int .i64 y) := hb3
                have hy2 : gb < (wr.drewN nq).heap.size := hb2
                have hx5 : (wr.drewN nq).cell? ⟨ga, oa + k, none⟩ = some (.int .i64 x) := hx3
                have hx6 : ga < (wr.drewN nq).heap.size := hx2
                clear HX HBx hBx hb3 hb2 hx3 hx2
                generalize wr.drewN nq = w5 at *
                go_wp2_with (at_builtin; refine wpList_append_one (cs := #[.int .i64 y]) (Below.refl B2 w5) hB5 rfl (.tmp 62) (.tmp 67) 24 rfl 3 i0 (.int .i64 0) 1 8 Tryz.underlying24 hi hz0 hz1 hz2 rfl (by decide) rfl (by simp [Value.oneCell']) _ _ _ rfl HX5.out 1 rfl (by omega) (by omega) ?_)
                intro v6 w6 hown hb
                have HX6 := hide (own_snocI hown)
                have HB6 := hide (HB5.out.trans hb)
                clear hown hb
                go_wp2
                go_roundw
                case rel => exact ⟨j + 1, _, true, by omega, by go_num, rfl, HPn.out, HX6.out, HB6.out⟩
                case measure => simp [intOf]; omega
              | false =>
                have hnow := HP.out.now hjl
                have hnot := HP.out.not hjl
                have C1 := hide (fun wx => specAhead_calls a x wx)
                have C2 := hide (fun wx => specAhead_calls a out[j] wx)
                clear HP
                generalize out[j] = y at *
                by_cases hq : ahd a x < ahd a y
                · have HPn := hide (hnow hq)
                  have hqd : decide (((ahd a x : Nat) : Int) < ((ahd a y : Nat) : Int)) = true := decide_eq_true (by omega)
                  clear hnow hnot
                  generalize ahd a x = p at *
                  generalize ahd a y = q at *
                  go_wp2
                  refine wp_region_quiet_lit (by kernel_rfl) (by kernel_rfl) ?_
                  repeat (go_big_quiet_step (fail))
                  go_big_quiet_step (exact Calls.quiet_of_same (C1.out _))
                  repeat (go_big_quiet_step (fail))
                  go_big_quiet_step (exact Calls.quiet_of_same (C2.out _))
                  repeat (go_big_quiet_step (fail))
                  refine wpQuiet_nil ?_
                  rintro _ ⟨nq, rfl⟩
                  have HX5 : Hid ((wr.drewN nq).ownsRow B2 3 1 (.slice an nx.length cn) nx.length (cellsI nx)) := HX.out
                  have HB5 : Hid (Below B2 w1 (wr.drewN nq)) := below_drewN HBx.out nq
                  have hB5 : B2 ≤ (wr.drewN nq).heap.size := hBx
                  have hy3 : (wr.drewN nq).cell? ⟨gb, ob + j, none⟩ = some (.int .i64 y) := hb3
                  have hy2 : gb < (wr.drewN nq).heap.size := hb2
                  have hx5 : (wr.drewN nq).cell? ⟨ga, oa + k, none⟩ = some (.int .i64 x) := hx3
                  have hx6 : ga < (wr.drewN nq).heap.size := hx2
                  clear HX HBx hBx hb3 hb2 hx3 hx2
                  generalize wr.drewN nq = w5 at *
                  go_wp2_with (at_builtin; refine wpList_append_one (cs := #[.int .i64 x]) (Below.refl B2 w5) hB5 rfl (.tmp 55) (.tmp 60) 24 rfl 3 i0 (.int .i64 0) 1 8 Tryz.underlying24 hi hz0 hz1 hz2 rfl (by decide) rfl (by simp [Value.oneCell']) _ _ _ rfl HX5.out 1 rfl (by omega) (by omega) ?_)
                  intro v6 w6 hown hb
                  have HX6 := hide (own_snocI hown)
                  have HB6 := hide (HB5.out.trans hb)
                  have hB6 : B2 ≤ w6.heap.size := Nat.le_trans hB5 hb.size
                  have hyb : gb < B2 := hgb2
                  have hy6 : w6.cell? ⟨gb, ob + j, none⟩ = some (.int .i64 y) := by rw [hb.cell (p := ⟨gb, ob + j, none⟩) hyb]; exact hy3
                  have hy7 : gb < w6.heap.size := by omega
                  have hnl : (nx ++ [x]).length ≤ 1048577 := by simp; omega
                  obtain ⟨a6, c6, hs6⟩ := own_sh HX6.out
                  subst hs6
                  clear hown hb hy3 hy2 hx5 hx6 HX5 HB5 hB5
                  generalize nx ++ [x] = nx6 at *
                  go_wp2_with (at_builtin; refine wpList_append_one (cs := #[.int .i64 y]) (Below.refl B2 w6) hB6 rfl (.tmp 62) (.tmp 67) 24 rfl 3 i0 (.int .i64 0) 1 8 Tryz.underlying24 hi hz0 hz1 hz2 rfl (by decide) rfl (by simp [Value.oneCell']) _ _ _ rfl HX6.out 1 rfl (by omega) (by omega) ?_)
                  intro v7 w7 hown hb
                  have HX7 := hide (own_snocI hown)
                  have HB7 := hide (HB6.out.trans hb)
                  clear hown hb
                  go_wp2
                  go_roundw
                  case rel => exact ⟨j + 1, _, true, by omega, by go_num, rfl, HPn.out, HX7.out, HB7.out⟩
                  case measure => simp [intOf]; omega
                · have HPn := hide (hnot hq)
                  have hq2 : ahd a y ≤ ahd a x := by omega
                  have hqd : decide (((ahd a x : Nat) : Int) < ((ahd a y : Nat) : Int)) = false := decide_eq_false (by omega)
                  clear hnow hnot
                  generalize ahd a x = p at *
                  generalize ahd a y = q at *
                  go_wp2
                  refine wp_region_quiet_lit (by kernel_rfl) (by kernel_rfl) ?_
                  repeat (go_big_quiet_step (fail))
                  go_big_quiet_step (exact Calls.quiet_of_same (C1.out _))
                  repeat (go_big_quiet_step (fail))
                  go_big_quiet_step (exact Calls.quiet_of_same (C2.out _))
                  repeat (go_big_quiet_step (fail))
                  refine wpQuiet_nil ?_
                  rintro _ ⟨nq, rfl⟩
                  have HX5 : Hid ((wr.drewN nq).ownsRow B2 3 1 (.slice an nx.length cn) nx.length (cellsI nx)) := HX.out
                  have HB5 : Hid (Below B2 w1 (wr.drewN nq)) := below_drewN HBx.out nq
                  have hB5 : B2 ≤ (wr.drewN nq).heap.size := hBx
                  have hy3 : (wr.drewN nq).cell? ⟨gb, ob + j, none⟩ = some (.int .i64 y) := hb3
                  have hy2 : gb < (wr.drewN nq).heap.size := hb2
                  have hx5 : (wr.drewN nq).cell? ⟨ga, oa + k, none⟩ = some (.int .i64 x) := hx3
                  have hx6 : ga < (wr.drewN nq).heap.size := hx2
                  clear HX HBx hBx hb3 hb2 hx3 hx2
                  generalize wr.drewN nq = w5 at *
                  go_wp2_with (at_builtin; refine wpList_append_one (cs := #[.int .i64 y]) (Below.refl B2 w5) hB5 rfl (.tmp 62) (.tmp 67) 24 rfl 3 i0 (.int .i64 0) 1 8 Tryz.underlying24 hi hz0 hz1 hz2 rfl (by decide) rfl (by simp [Value.oneCell']) _ _ _ rfl HX5.out 1 rfl (by omega) (by omega) ?_)
                  intro v6 w6 hown hb
                  have HX6 := hide (own_snocI hown)
                  have HB6 := hide (HB5.out.trans hb)
                  clear hown hb
                  go_wp2
                  go_roundw
                  case rel => exact ⟨j + 1, _, false, by omega, by go_num, rfl, HPn.out, HX6.out, HB6.out⟩
                  case measure => simp [intOf]; omega
            · obtain rfl : j = out.length := by omega
              cases put with
              | true =>
                have HE := hide (HP.out.endT)
                have HX' : Hid (wr.ownsRow B 3 1 (.slice an nx.length cn) (O (k + 1)).length (cellsI (O (k + 1)))) := by
                  show World.ownsRow _ _ _ _ _ _ _
                  rw [HN.out, ← HE.out]
                  exact own_mono HX.out hB2
                have HBr := hide (HB.out.trans (HBx.out.mono hB2))
                clear HX HBx HP hnx
                go_wp2
                go_roundw
                case rel => exact ⟨k + 1, by omega, by go_num, HX'.out, HBr.out⟩
                case measure => simp [intOf]; omega
              | false =>
                have HE := hide (HP.out.endF)
                clear HP
                go_wp2_with (at_builtin; refine wpList_append_one (cs := #[.int .i64 x]) (Below.refl B2 wr) hBx rfl (.tmp 71) (.tmp 76) 24 rfl 3 i0 (.int .i64 0) 1 8 Tryz.underlying24 hi hz0 hz1 hz2 rfl (by decide) rfl (by simp [Value.oneCell']) _ _ _ rfl HX.out 1 rfl (by omega) (by omega) ?_)
                intro v6 w6 hown hb
                have HX6 : Hid (w6.ownsRow B 3 1 v6 (O (k + 1)).length (cellsI (O (k + 1)))) := by
                  show World.ownsRow _ _ _ _ _ _ _
                  rw [HN.out, ← HE.out]
                  exact own_mono (own_snocI hown) hB2
                have HBr := hide ((HB.out.trans (HBx.out.mono hB2)).trans (hb.mono hB2))
                clear hown hb
                go_wp2
                go_roundw
                case rel => exact ⟨k + 1, by omega, by go_num, HX6.out, HBr.out⟩
                case measure => simp [intOf]; omega
    · have hkl : k = l.length := by omega
      subst hkl
      rw [HOe.out] at HO
      go_wp2
      go_ret
      exact ⟨_, rfl, own_mono HO.out hwB, HB.out.mono hwB⟩
end Go.Proofs.YteladljgnbfcnaaGreat.P8
namespace Go.Proofs.YteladljgnbfcnaaGreat.Rf
open Go.RowKit

/-- A function tells values to a yield, one by one; what is no cells and was made since it began is its own. -/
def Tells {α : Type} (P : Program) (g : Nat) (lb : Array Value) (encs : α → Array Value) (Kp : World → World → Prop) (S Sp : List α → Prop) (N : Nat) (w : World) : Prop :=
  ∀ (n l : Nat) (J Jx : List α → World → Prop) (W : World), Below w.heap.size w W → OwnFrom W.heap.size J → OwnFrom W.heap.size Jx →
    (∀ m pre x W1, J pre W1 → pre.length < N → YieldAt Fence.wide m P l (encs x) W1 fun e W' => KeepsFrom W.heap.size W1 W' ∧
      ((e = .returned (.bool true) ∧ J (pre ++ [x]) W' ∧ Kp W1 W') ∨ (e = .returned (.bool false) ∧ Jx (pre ++ [x]) W'))) →
    J [] W →
    CallsIn Fence.wide n P g (#[.func (.yield l) #[] #[]] ++ lb) W fun e W' => (∃ v, e = .returned v) ∧ ((∃ xs, S xs ∧ J xs W') ∨ (∃ pre, Sp pre ∧ Jx pre W'))

theorem keeps_mono {B B' : Nat} {W W' : World} (h : KeepsFrom B W W') (hb : B ≤ B') : KeepsFrom B' W W' := ⟨h.size, fun k o hk => h.same k o (Nat.le_trans hb hk)⟩

theorem keeps_put {B l : Nat} (W : World) (o : Obj) (h : l < B) : KeepsFrom B W (W.putObj l o) := KeepsFrom.of_grownBy (grownBy_putObj' W l o) (fun j e => by cases e; exact h)

theorem own_mono {β : Type} {B B' : Nat} {I : β → World → Prop} (h : OwnFrom B I) (hb : B ≤ B') : OwnFrom B' I := fun s A C row hs hg hr => h s A C row hs hg (fun r e => ⟨Nat.le_trans hb (hr r e).1, (hr r e).2⟩)

/-- A block below what may be turned lies as it lay. -/
theorem block_kept {B k : Nat} {A C : World} {row : Option Nat} {o : Obj} (hg : A.grownBy C row) (hr : ∀ r, row = some r → B ≤ r ∧ ∃ o : Obj, A.heap[r]? = some o ∧ o.isCells = false) (hk : k < B) (h : A.heap[k]? = some o) : C.heap[k]? = some o :=
  (hg.block k (Array.getElem?_eq_some_iff.1 h).1 (fun e => by have := (hr k e.symm).1; omega)).trans h

variable {P : Program}

/-- The loop over it. -/
theorem range_tells {α : Type} {g : Operand} {ps : Array Tmp} {assign body : Code} {Q : Exit → Act → World → Prop} {a : Act} {w : World} {n : Nat} {gf : Nat} {lb : Array Value}
    (hg : a.eval g = .func (.func gf) #[] lb) (eg : ∀ args w, (callFunc gf args).run P w = .ok (.enter gf args) w)
    {encs : α → Array Value} {Kp : World → World → Prop} {S Sp : List α → Prop} {N : Nat} {w0 : World} (hseq : Tells P gf lb encs Kp S Sp N w0)
    (hKt : ∀ {A B C : World}, Kp A B → Kp B C → Kp A C) (hKb : ∀ (W : World) (l : Nat) (o o' : Obj), w.heap.size ≤ l → W.heap[l]? = some o → o.isCells = false → o.isWalk = false → Kp W (W.putObj l o')) (hb0 : Below w0.heap.size w0 w) (hps : ∀ x, (encs x).size = ps.size)
    (I : List α → World → Prop) (Ix : Code → List α → World → Prop) (hI : OwnFrom w.heap.size I) (hIx : ∀ c, OwnFrom w.heap.size (Ix c)) (h0 : I [] w) (a₁ : α → Act)
    (hassign : ∀ (m l : Nat) (x : α) (W : World) (K : Act → World → Prop), K (a₁ x) W →
      assign.wpIn (Fence.wide.inRound l) m P (Exit.then K (fun _ _ _ => False)) { tmps := (ps.zip (encs x)).foldl (fun t (p, v) => t.setIfInBounds p v) a.tmps, defers := [] } W)
    (hbody : ∀ (m l : Nat) (pre : List α) (x : α) (W : World), I pre W → pre.length < N → body.wpIn (Fence.wide.inRound l) m P (ownPostG w.heap.size Kp I Ix (pre ++ [x]) W) (a₁ x) W)
    (hdone : ∀ (D : Nat) (xs : List α) (W : World), w.heap.size ≤ D → S xs → I xs W → W.heap[D]? = some (.deferred (some [])) → Q .normal { a with defers := { target := .collected D, args := #[] } :: a.defers } W)
    (hstop : ∀ (D : Nat) (c : Code) (pre : List α) (W : World), w.heap.size ≤ D → Sp pre → Ix c pre W → W.heap[D]? = some (.deferred (some [])) → c.wpIn Fence.wide n P Q { a with defers := { target := .collected D, args := #[] } :: a.defers } W) :
    (Code.rangeFunc g ps assign body).wpIn Fence.wide n P Q a w := by
  refine wpIn_rangeFunc fun fn hfn => ?_
  obtain ⟨d, hd⟩ : ∃ d, d = w.heap.size := ⟨_, rfl⟩
  obtain ⟨R, hR⟩ : ∃ R : LoopState → Option Code → Loop, R = fun st pe => { state := st, pending := pe, fn, tmps := a.tmps, params := ps, assign, body, defers := d } := ⟨_, rfl⟩
  have hent : (Instr.enterLoop fn a.tmps ps assign body none).run P w = .ok (d + 1, [{ target := .collected d, args := #[] }]) ((w.alloc (.deferred (some []))).alloc (.loop (R .ready none))) := by
    rw [hR, hd]
    exact run_enterLoop_outer _ _ _ _ _
  have e1 : ((w.alloc (.deferred (some []))).alloc (.loop (R .ready none))).heap[d + 1]? = some (.loop (R .ready none)) := by
    have := World.alloc_heap_new (w.alloc (.deferred (some []))) (.loop (R .ready none))
    rw [World.size_alloc, ← hd] at this
    exact this
  have e2 : ((w.alloc (.deferred (some []))).alloc (.loop (R .ready none))).heap[d]? = some (.deferred (some [])) := by
    rw [hd]
    exact (Below.heap_alloc _ _ _ (by simp)).trans (World.alloc_heap_new w _)
  have e3 : I [] ((w.alloc (.deferred (some []))).alloc (.loop (R .ready none))) := hI.alloc _ (hI.alloc _ h0)
  have e4 : Below w0.heap.size w0 ((w.alloc (.deferred (some []))).alloc (.loop (R .ready none))) := hb0.trans ((((Below.refl _ w).alloc (Nat.le_refl _) _).alloc (by simp) _).mono hb0.size)
  have e5 : ((w.alloc (.deferred (some []))).alloc (.loop (R .ready none))).heap.size = d + 2 := by simp [hd]
  rw [← hd] at hI hIx hKb hbody hdone hstop
  generalize (w.alloc (.deferred (some []))).alloc (.loop (R .ready none)) = V at hent e1 e2 e3 e4 e5
  clear hb0 h0 hd
  refine ⟨d + 1, [{ target := .collected d, args := #[] }], V, { target := .fn (.func gf) lb, args := #[.func (.yield (d + 1)) #[] #[]] }, V, gf, #[.func (.yield (d + 1)) #[] #[]] ++ lb, V, hent, by simp only [resolve, hg]; simp [go_sem], fun f' _ => trivial, by simp [invoke, go_sem, eg], fun h => (by cases h), ?_⟩
  refine (hseq (n - 1) (d + 1) (fun pre W => I pre W ∧ W.heap[d + 1]? = some (.loop (R .ready none)) ∧ W.heap[d]? = some (.deferred (some [])))
    (fun pre W => ∃ c, Ix c pre W ∧ W.heap[d + 1]? = some (.loop (R .done (some c))) ∧ W.heap[d]? = some (.deferred (some []))) V e4 ?abide ?abidex ?round ⟨e3, e1, e2⟩).mono ?behind
  case abide =>
    rintro s A C row ⟨h1, h2, h3⟩ hg' hr
    exact ⟨own_mono hI (by omega) s A C row h1 hg' hr, block_kept hg' hr (by omega) h2, block_kept hg' hr (by omega) h3⟩
  case abidex =>
    rintro s A C row ⟨c, h1, h2, h3⟩ hg' hr
    exact ⟨c, own_mono (hIx c) (by omega) s A C row h1 hg' hr, block_kept hg' hr (by omega) h2, block_kept hg' hr (by omega) h3⟩
  case round =>
    rintro m pre x W ⟨h1, h2, h3⟩ hlen
    have hy := run_yield (P := P) (args := encs x) h2 (by rw [hR]; exact hps x)
    rw [hR] at hy
    refine ⟨fn, _, assign, body, hy, roundIn_of_wpIn hfn (hassign m _ x W _ ?_)⟩
    clear hy
    refine ⟨_, run_beginRound h2 (by rw [hR]), ?_⟩
    have hlt : d + 1 < W.heap.size := (Array.getElem?_eq_some_iff.1 h2).1
    have p2 : (W.putObj (d + 1) (.loop { R .ready none with state := .busy })).heap[d + 1]? = some (.loop { R .ready none with state := .busy }) := World.putObj_heap_same hlt
    have p3 : (W.putObj (d + 1) (.loop { R .ready none with state := .busy })).heap[d]? = some (.deferred (some [])) := (World.putObj_heap_other (by omega)).trans h3
    have pk : Kp W (W.putObj (d + 1) (.loop { R .ready none with state := .busy })) := hKb _ _ _ _ (by omega) h2 rfl rfl
    have pf : KeepsFrom V.heap.size W (W.putObj (d + 1) (.loop { R .ready none with state := .busy })) := keeps_put W _ (by omega)
    have pI := hI.putObj (.loop { R .ready none with state := .busy }) h1 (by omega) h2 rfl
    generalize W.putObj (d + 1) (.loop { R .ready none with state := .busy }) = Wb at p2 p3 pk pf pI
    refine wpIn_mono (hbody m _ pre x Wb pI hlen) ?_
    have last : ∀ (jump : Option Code) (W3 : World), KeepsFrom d Wb W3 →
        (Instr.endRound (d + 1) jump).run P W3 = .ok (.bool jump.isNone) (W3.putObj (d + 1) (.loop (R (if jump.isNone then .ready else .done) jump))) ∧ (∃ r, W3.heap[d + 1]? = some (.loop r)) ∧
        (W3.putObj (d + 1) (.loop (R (if jump.isNone then .ready else .done) jump))).heap[d + 1]? = some (.loop (R (if jump.isNone then .ready else .done) jump)) ∧
        (W3.putObj (d + 1) (.loop (R (if jump.isNone then .ready else .done) jump))).heap[d]? = some (.deferred (some [])) ∧
        KeepsFrom V.heap.size W (W3.putObj (d + 1) (.loop (R (if jump.isNone then .ready else .done) jump))) := fun jump W3 hk => by
      have q2 := hk.same _ _ (Nat.le_succ d) p2 rfl
      have q3 := hk.same _ _ (Nat.le_refl d) p3 rfl
      have q4 := run_endRound (P := P) jump q2
      refine ⟨?_, ⟨_, q2⟩, World.putObj_heap_same (Array.getElem?_eq_some_iff.1 q2).1, (World.putObj_heap_other (by omega)).trans q3, (pf.trans (keeps_mono hk (by omega))).trans (keeps_put W3 _ (by omega))⟩
      rw [hR] at q4 ⊢
      exact q4
    rintro e a3 W3 hp
    cases e with
    | normal =>
      obtain ⟨k1, k2, k3⟩ := hp
      obtain ⟨r1, ⟨_, r2⟩, r3, r4, r5⟩ := last none W3 k1
      exact ⟨_, _, r1, r5, .inl ⟨rfl, ⟨hI.putObj _ k3 (by omega) r2 rfl, r3, r4⟩, hKt (hKt pk k2) (hKb _ _ _ _ (by omega) r2 rfl rfl)⟩⟩
    | ret =>
      obtain ⟨k1, k3⟩ := hp
      obtain ⟨r1, ⟨_, r2⟩, r3, r4, r5⟩ := last (some .ret) W3 k1
      exact ⟨_, _, r1, r5, .inr ⟨rfl, .ret, (hIx _).putObj _ k3 (by omega) r2 rfl, r3, r4⟩⟩
    | exit id =>
      obtain ⟨k1, k3⟩ := hp
      obtain ⟨r1, ⟨_, r2⟩, r3, r4, r5⟩ := last (some (.exit id)) W3 k1
      exact ⟨_, _, r1, r5, .inr ⟨rfl, .exit id, (hIx _).putObj _ k3 (by omega) r2 rfl, r3, r4⟩⟩
    | goto t =>
      obtain ⟨k1, k3⟩ := hp
      obtain ⟨r1, ⟨_, r2⟩, r3, r4, r5⟩ := last (some (.goto t)) W3 k1
      exact ⟨_, _, r1, r5, .inr ⟨rfl, .goto t, (hIx _).putObj _ k3 (by omega) r2 rfl, r3, r4⟩⟩
    | panic ch => exact hp.elim
    | outgrown => exact hp.elim
  case behind =>
    rintro e W2 ⟨⟨v, rfl⟩, (⟨xs, hS, h1, h2, h3⟩ | ⟨pre, hSp, c, h1, h2, h3⟩)⟩
    · refine ⟨none, _, ?_, hdone d xs (W2.putObj (d + 1) (.loop (R .exhausted none))) (Nat.le_refl _) hS (hI.putObj _ h1 (by omega) h2 rfl) ((World.putObj_heap_other (by omega)).trans h3)⟩
      have := run_endLoop (P := P) h2 (by rw [hR]; simp)
      rw [hR] at this ⊢
      exact this
    · refine ⟨some c, _, ?_, hstop d c pre (W2.putObj (d + 1) (.loop (R .exhausted (some c)))) (Nat.le_refl _) hSp ((hIx c).putObj _ h1 (by omega) h2 rfl) ((World.putObj_heap_other (by omega)).trans h3)⟩
      have := run_endLoop (P := P) h2 (by rw [hR]; simp)
      rw [hR] at this ⊢
      exact this
section
variable {F : Fence} {n l : Nat} {P : Program} {md : Region.Mode} {ops : Array Oper} {Q : Exit → Act → World → Prop}

def noDefer (ops : Array Oper) : Bool := ops.toList.all fun o => match o.op with | .defer _ => false | _ => true

theorem noDefer_spec (h : noDefer ops = true) {j : Nat} {o : Oper} (ho : ops[j]? = some o) (c : Call) : o.op ≠ .defer c := fun e => by
  have := List.all_eq_true.1 h o (by simpa using Array.mem_of_getElem? ho)
  rw [e] at this
  cases this

theorem upon_round {o : Oper} {a : Act} {K : Act → World → Prop} (r : Result Next) (h : o.uponIn F n P a K Q r) : o.uponIn (F.inRound l) n P a K Q r := by
  cases r with
  | ok x w => cases x <;> exact h
  | halt x w => cases x <;> exact h

theorem op_round (hro : F.round = none) (hd : noDefer ops = true) {i : Nat} {a : Act} {w : World} {K : Act → World → Prop} (h : wpOpIn F n P ops Q i K a w) : wpOpIn (F.inRound l) n P ops Q i K a w := by
  unfold wpOpIn at *
  split
  · rename_i ho
    simpa [ho] using h
  · rename_i o ho
    simp only [ho] at h
    split
    · rename_i hw
      simp only [hw, if_true] at h
      unfold Oper.wpIn at *
      refine ⟨h.1, upon_round _ ?_⟩
      have h2 := h.2
      rw [hro, Oper.semAt_none] at h2
      rw [Oper.semAt_eq _ _ _ (noDefer_spec hd ho)]
      exact h2
    · rename_i hw
      simp only [hw] at h
      exact h

theorem any_round (hro : F.round = none) (hd : noDefer ops = true) : ∀ (fuel : Nat) (listed : Array Bool) (a : Act) (w : World), wpAnyIn F n P md ops Q fuel listed a w → wpAnyIn (F.inRound l) n P md ops Q fuel listed a w
  | 0, _, _, _, h => h
  | fuel + 1, _, _, _, h => ⟨h.1, fun i hi => wpOpIn_mono (fun a' w' h' => any_round hro hd fuel _ a' w' h') (op_round hro hd (h.2 i hi))⟩

/-- A statement within a round whose order Go leaves open is walked as everywhere. -/
theorem region_round {id : Nat} {a : Act} {w : World} (hm : P.follows .mixedOrders = true) (hro : F.round = none) (hd : noDefer ops = true) (h : wpAnyIn F n P .any ops Q ops.size (Array.replicate ops.size false) a w.drew) :
    (Code.region id ops true).wpIn (F.inRound l) n P Q a w := wpIn_region_any hm (any_round hro hd _ _ _ _ h)
end
end Go.Proofs.YteladljgnbfcnaaGreat.Rf
namespace Go.Proofs.YteladljgnbfcnaaGreat.P8
open Go.RowKit Go.Shelf P1 Mp

attribute [local go_sem] Oper.semAt_some

theorem findNow_int (x : Int) (u : TypeDesc) (hu : u = .int .i64) : ∀ (es : List MapEntry) (i : Nat), (∀ e ∈ es, ∃ y : Int, e.key = .int .i64 y) →
    (Instr.findNow u (.int .i64 x) es i = some none ∧ ∀ e ∈ es, e.key ≠ .int .i64 x) ∨ ∃ j e, Instr.findNow u (.int .i64 x) es i = some (some (i + j, e.val)) ∧ es[j]? = some e ∧ e.key = .int .i64 x := by
  subst hu
  intro es
  induction es with
  | nil => exact fun i _ => .inl ⟨rfl, by simp⟩
  | cons e es ih =>
    intro i h
    obtain ⟨y, hy⟩ := h e (by simp)
    by_cases hxy : x = y
    · subst hxy
      refine .inr ⟨0, e, ?_, rfl, hy⟩
      simp [Instr.findNow, Instr.sameNow, hy]
    · have hne : e.key ≠ .int .i64 x := by rw [hy]; simp; exact fun h => hxy h.symm
      have hf : (x == y) = false := by simpa using hxy
      rcases ih (i + 1) (fun e' he' => h e' (by simp [he'])) with ⟨h1, h2⟩ | ⟨j, e', h1, h2, h3⟩
      · refine .inl ⟨?_, ?_⟩
        · simp [Instr.findNow, Instr.sameNow, hy, hf, h1]
        · intro e' he'
          rcases List.mem_cons.1 he' with rfl | he'
          · exact hne
          · exact h2 e' he'
      · refine .inr ⟨j + 1, e', ?_, by simpa using h2, h3⟩
        simp [Instr.findNow, Instr.sameNow, hy, hf, h1]
        omega

/-- Ints as keys. -/
def keyI : KT Tryz.prog 3 Int where
  kv := fun x => .int .i64 x
  inj := fun x y h => by simpa using h
  check := fun em w x => by kernel_rfl
  find := fun w x es h => by
    rcases findNow_int x _ rfl es 0 h with ⟨h1, h2⟩ | ⟨j, e, h1, h2, h3⟩
    · exact .inl ⟨by simp [Instr.findKey, run_underlying Tryz.underlying3, h1, Result.andThen], h2⟩
    · exact .inr ⟨j, e, by simp [Instr.findKey, run_underlying Tryz.underlying3, h1, Result.andThen], h2, h3⟩
  stays := fun w x => by simp [Instr.keyThatStays, Instr.sameBits]
end Go.Proofs.YteladljgnbfcnaaGreat.P8
namespace Go.Proofs.YteladljgnbfcnaaGreat.P8
set_option maxRecDepth 8000
open Go.RowKit Go.Shelf P1 Mp Rf

attribute [local go_sem] Oper.semAt_some

theorem zero_unit8 : ∀ w : World, (zeroValue 88).run Tryz.prog w = .ok (.agg #[]) w := fun w => by kernel_rfl

theorem nub_append (l : List Int) (m : List Int) : nub l <+: nub (l ++ m) := by
  induction m generalizing l with
  | nil => simp
  | cons x m ih =>
    have h1 : nub l <+: nub (l ++ [x]) := by
      rw [nub_snoc]
      split
      · exact List.prefix_refl _
      · exact List.prefix_append _ _
    have := ih (l ++ [x])
    rw [List.append_assoc, List.singleton_append] at this
    exact h1.trans this

theorem nub_prefix (l : List Int) (k : Nat) : nub (l.take k) <+: nub l := by
  have := nub_append (l.take k) (l.drop k)
  rwa [List.take_append_drop] at this

/-- What has been told. -/
def toldF (L : List Int) (x : Int) : Option Value := if x ∈ L then some (.agg #[]) else none

theorem told_look {w : World} {km n : Nat} {L : List Int} (h : MapR keyI w km n (toldF L)) (x : Int) :
    (Instr.lookup 87 (.map (some km)) (.int .i64 x) true).run Tryz.prog w = .ok (.tuple #[.agg #[], .bool (decide (x ∈ L))]) w := by
  have := h.look (t := 87) Tryz.underlying87 (zero_unit8 w) true x
  rw [if_pos rfl] at this
  refine this.trans ?_
  unfold toldF
  by_cases hf : x ∈ L
  · simp [hf]
  · simp [hf]

theorem told_upd (L : List Int) (c x : Int) : toldF (L ++ [c]) x = upd (toldF L) c (.agg #[]) x := by
  unfold toldF upd
  by_cases hx : x = c
  · subst hx
    simp
  · simp [hx]

/-- The slice's ints lie below n₀. -/
def IntsLow (n₀ : Nat) (W : World) (v : Value) (l : List Int) : Prop :=
  ∃ a cap, v = .slice a l.length cap ∧ ∀ j (hj : j < l.length), ∃ g off, a = some ⟨g, off, none⟩ ∧ g < n₀ ∧ W.cell? ⟨g, off + j, none⟩ = some (.int .i64 l[j])

theorem IntsLow.below {n₀ : Nat} {W W' : World} {v : Value} {l : List Int} (h : IntsLow n₀ W v l) (hb : Below n₀ W W') : IntsLow n₀ W' v l := by
  obtain ⟨a, cap, h1, h2⟩ := h
  refine ⟨a, cap, h1, fun j hj => ?_⟩
  obtain ⟨g, off, e1, e2, e3⟩ := h2 j hj
  exact ⟨g, off, e1, e2, (hb.cell (p := ⟨g, off + j, none⟩) e2).trans e3⟩

theorem IntsLow.of {w : World} {v : Value} {l : List Int} (h : IntsAt w v l) : IntsLow w.heap.size w v l := h

theorem cell_same {W W' : World} {b : Nat} (h : W'.heap[b]? = W.heap[b]?) (o : Nat) : W'.cell? ⟨b, o, none⟩ = W.cell? ⟨b, o, none⟩ := World.cell?_of_block h

set_option maxRecDepth 100000 in
set_option maxHeartbeats 2000000 in
theorem once1_in (n : Nat) (l bi n₀ B : Nat) (v : Value) (ids : List Int) (hl : ids.length ≤ 1048576) (J Jx : List Int → World → Prop) (W : World) (hB : B = W.heap.size) (hJ : OwnFrom B J)
    (hbi : W.cell? ⟨bi, 0, none⟩ = some v) (hv : IntsLow n₀ W v ids) (hn₀ : n₀ ≤ W.heap.size)
    (hY : ∀ m pre x W1, J pre W1 → pre.length < ids.length → YieldAt Fence.wide m Tryz.prog l #[.int .i64 x] W1 fun e W' => KeepsFrom B W1 W' ∧
      ((e = .returned (.bool true) ∧ J (pre ++ [x]) W' ∧ Below n₀ W1 W') ∨ (e = .returned (.bool false) ∧ Jx (pre ++ [x]) W')))
    (h0 : J [] W) :
    CallsIn Fence.wide n Tryz.prog 64 #[.func (.yield l) #[] #[], .pointer (some ⟨bi, 0, none⟩)] W fun e W' => (∃ v, e = .returned v) ∧
      ((∃ ys, ys = nub ids ∧ J ys W') ∨ (∃ pre, pre <+: nub ids ∧ Jx pre W')) := by
  have HV := hide hv
  obtain ⟨av, cv, rfl, -⟩ := hv
  have HY := hide hY
  have HJ := hide hJ
  have H0 := hide h0
  clear hY hJ h0
  have lbi : bi < W.heap.size := cell_lt' hbi
  have hmk := fun wx : World => (show (Instr.makeMap 87 none).run Tryz.prog wx = .ok (.map (some wx.heap.size)) (wx.alloc (.map #[] 0)) from by kernel_rfl)
  have hbm := (Below.refl W.heap.size W).alloc (Nat.le_refl _) (.map #[] 0)
  have HJm := hide (HJ.out [] W (W.alloc (.map #[] 0)) none H0.out (World.grownBy_alloc W _ none) (fun r e => by cases e))
  have HM0 := hide (MapR.made (T := keyI) W)
  have HVm := hide (HV.out.below (hbm.mono hn₀))
  have hbi2 := hbm.cell (p := ⟨bi, 0, none⟩) lbi
  rw [hbi] at hbi2
  have hbl2 : bi < (W.alloc (.map #[] 0)).heap.size := by simp; omega
  refine callsIn_of_wp Tryz.func64 rfl trivial ?_ rfl
  simp only [Tryz.ntmps64, List.size_toArray, List.length_cons, List.length_nil, Nat.reduceAdd, Nat.reduceSub, Array.replicate_succ, Array.replicate_zero, List.push_toArray, List.append_toArray, List.nil_append, List.cons_append]
  gi_wp2
  obtain ⟨bm, em⟩ : ∃ b, b = W.heap.size := ⟨_, rfl⟩
  rw [← em] at HM0 ⊢
  have HEm : Hid (B ≤ bm) := by show _ ≤ _; omega
  have hnm : n₀ ≤ bm := by omega
  have hsz1 : n₀ ≤ (W.alloc (.map #[] 0)).heap.size := by simp; omega
  clear hmk em hbi2 hbl2 hbm HV H0
  generalize W.alloc (.map #[] 0) = w1 at *
  gi_loopw [11] (fun i wr => ∃ k : Nat, k ≤ ids.length ∧ i = .int .i64 k ∧ Hid (J (nub (ids.take k)) wr) ∧ Hid (MapR keyI wr bm k (toldF (nub (ids.take k)))) ∧ Hid (IntsLow n₀ wr (.slice av ids.length cv) ids) ∧ Hid (n₀ ≤ wr.heap.size)) (fun i _ => ids.length - (intOf i).toNat)
  case atStart => exact ⟨0, Nat.zero_le _, rfl, HJm.out, HM0.out.congr (fun x => by simp [toldF, nub]), HVm.out, hsz1⟩
  case round =>
    clear HJm HM0 HVm
    obtain ⟨k, hk, rfl, HJr, HMr, HVr, HZr⟩ := hrel
    by_cases hlt : k < ids.length
    · obtain ⟨a2, c2, hsh, HA⟩ := HVr.out
      cases hsh
      obtain ⟨ga, oa, rfl, ha2, ha3⟩ := HA k hlt
      clear HA
      have hz := HZr.out
      have hga : ga < wr.heap.size := by omega
      have HT := hide (nub_snoc (ids.take k) ids[k])
      rw [← List.take_succ_eq_append_getElem hlt] at HT
      have hln : (nub (ids.take k)).length < ids.length := by
        have h1 := nub_length (ids.take k)
        rw [List.length_take] at h1
        omega
      have hb1 := (Below.refl wr.heap.size wr).alloc (Nat.le_refl _) (.cells #[] 88)
      have hM2 := HMr.out.at_ (hb1.block bm HMr.out.lt)
      have hlk := told_look HMr.out ids[k]
      have HJ2 := hide (HJ.out _ wr (wr.alloc (.cells #[] 88)) none HJr.out (World.grownBy_alloc wr _ none) (fun r e => by cases e))
      have HV2 := hide (HVr.out.below (hb1.mono hz))
      generalize ids[k] = x at *
      by_cases hm : x ∈ nub (ids.take k)
      · have HN : Hid (nub (ids.take (k + 1)) = nub (ids.take k)) := by show _ = _; rw [HT.out, if_pos hm]
        rw [decide_eq_true hm] at hlk
        have HM2 := hide (hM2.mono (Nat.le_succ k))
        have HZ2 : Hid (n₀ ≤ (wr.alloc (.cells #[] 88)).heap.size) := Nat.le_trans hz hb1.size
        clear hm HT hM2 hb1 HMr HJr HVr HZr hz
        gi_wp2
        go_roundw
        case rel => exact ⟨k + 1, by omega, by go_num, by show J _ _; rw [HN.out]; exact HJ2.out, by show MapR _ _ _ _ _; rw [HN.out]; exact HM2.out, HV2.out, HZ2.out⟩
        case measure => simp [intOf]; omega
      · have HN : Hid (nub (ids.take (k + 1)) = nub (ids.take k) ++ [x]) := by show _ = _; rw [HT.out, if_neg hm]
        rw [decide_eq_false hm] at hlk
        obtain ⟨w4, hrun, hM4, hg4, hs4⟩ := hM2.store (t := 87) Tryz.underlying87 x (.agg #[])
        change (Instr.mapUpdate 87 (.map (some bm)) (.int .i64 x) (.agg #[])).run Tryz.prog _ = .ok () w4 at hrun
        have hJ4 : J (nub (ids.take k)) w4 := HJ.out _ _ w4 (some bm) HJ2.out hg4 (fun r e => by
          cases e
          obtain ⟨es, clock, h1, _⟩ := hM2
          exact ⟨HEm.out, _, h1, rfl⟩)
        have hB4 : Below n₀ (wr.alloc (.cells #[] 88)) w4 := ⟨hg4.os, hg4.tape, hg4.output, hg4.size, fun q hq => hg4.block q (by simp; omega) (fun e => by cases e; omega)⟩
        have HV4 := hide (HV2.out.below hB4)
        have HM4 : Hid (MapR keyI w4 bm (k + 1) (toldF (nub (ids.take (k + 1))))) := by
          show MapR _ _ _ _ _
          rw [HN.out]
          exact hM4.congr (fun y => told_upd _ _ y)
        have HZ4 : Hid (n₀ ≤ w4.heap.size) := by show _ ≤ _; have h1 := hb1.size; have h2 := hg4.size; omega
        obtain ⟨fn, tmps, assign, body, hy, hR⟩ := HY.out (n - 1) _ x w4 hJ4 hln
        have HR := hide hR
        clear hm HT hM2 hM4 hb1 hg4 hs4 HMr HJr HVr HZr HJ2 HV2 hJ4 hB4 hz hR
        gi_wp2
        refine ⟨fun h => (by cases h), HR.out.mono ?_⟩
        rintro e W3 ⟨hkf, (⟨rfl, hJ3, hk3⟩ | ⟨rfl, hJx3⟩)⟩
        · have HJ3 := hide hJ3
          have HV3 := hide (HV4.out.below hk3)
          have HM3 : Hid (MapR keyI W3 bm (k + 1) (toldF (nub (ids.take (k + 1))))) := by
            obtain ⟨es, clock, h1, h2⟩ := HM4.out
            exact ⟨es, clock, hkf.same bm _ HEm.out h1 rfl, h2⟩
          have HZ3 : Hid (n₀ ≤ W3.heap.size) := Nat.le_trans HZ4.out hkf.size
          clear hJ3 hk3 hkf HV4 HM4 HZ4 HR
          gi_wp2
          go_roundw
          case rel => exact ⟨k + 1, by omega, by go_num, by show J _ _; rw [HN.out]; exact HJ3.out, HM3.out, HV3.out, HZ3.out⟩
          case measure => simp [intOf]; omega
        · gi_wp2
          refine bodyPost_ret (results_none rfl _ _ _) rfl ?_
          exact ⟨⟨_, rfl⟩, .inr ⟨_, by rw [← HN.out]; exact nub_prefix ids _, hJx3⟩⟩
    · obtain rfl : k = ids.length := by omega
      rw [List.take_length] at HJr
      gi_wp2
      go_end0
      exact ⟨⟨_, rfl⟩, .inl ⟨_, rfl, HJr.out⟩⟩

/-- The function that once hands back tells each id once. -/
theorem once_tells (bi n₀ : Nat) (v : Value) (ids : List Int) (hl : ids.length ≤ 1048576) (w : World) (hbi : w.cell? ⟨bi, 0, none⟩ = some v) (hv : IntsLow n₀ w v ids) (hn₀ : n₀ ≤ w.heap.size) :
    Tells Tryz.prog 64 #[.pointer (some ⟨bi, 0, none⟩)] (fun x : Int => #[Value.int .i64 x]) (Below n₀) (fun ys => ys = nub ids) (fun pre => pre <+: nub ids) ids.length w := fun n l J Jx W hW hJ _ hY h0 =>
  once1_in n l bi n₀ _ v ids hl J Jx W rfl hJ ((hW.cell (p := ⟨bi, 0, none⟩) (cell_lt' hbi)).trans hbi) (hv.below (hW.mono hn₀)) (Nat.le_trans hn₀ hW.size) hY h0

set_option maxHeartbeats 400000 in
theorem once_calls (v : Value) (a : Option Addr) (len cap : Nat) (w : World) (hv : v = .slice a len cap) :
    Calls Tryz.prog 49 #[v] w fun e w' => e = .returned (.func (.func 64) #[] #[.pointer (some ⟨w.heap.size, 0, none⟩)]) ∧ w' = w.alloc (.cells #[v] 24) := by
  subst hv
  go_enter Tryz.func49, Tryz.ntmps49
  go_wp2
  go_ret
  exact ⟨rfl, rfl⟩

set_option maxHeartbeats 400000 in
theorem behind_calls (v : Value) (a : Option Addr) (len cap : Nat) (frm : Int) (w : World) (hv : v = .slice a len cap) :
    Calls Tryz.prog 65 #[v, .int .i64 frm] w fun e w' => e = .returned (.func (.func 78) #[] #[.pointer (some ⟨w.heap.size, 0, none⟩), .pointer (some ⟨w.heap.size + 1, 0, none⟩)]) ∧ w' = (w.alloc (.cells #[v] 24)).alloc (.cells #[.int .i64 frm] 3) := by
  subst hv
  go_enter Tryz.func65, Tryz.ntmps65
  go_wp2
  go_ret
  exact ⟨rfl, rfl⟩
end Go.Proofs.YteladljgnbfcnaaGreat.P8
namespace Go.Proofs.YteladljgnbfcnaaGreat.P8
open Go.RowKit Go.Shelf P1 Mp Rf

attribute [local go_sem] Oper.semAt_some

/-- What a round that goes on keeps: what lay below n₀, the box of what is told from, every box of a yield. -/
def Kp (n₀ bf : Nat) (W W' : World) : Prop := Below n₀ W W' ∧ W'.heap[bf]? = W.heap[bf]? ∧ ∀ B u, Boxed W B 106 u → Boxed W' B 106 u

theorem Kp.trans {n₀ bf : Nat} {A B C : World} (h : Kp n₀ bf A B) (k : Kp n₀ bf B C) : Kp n₀ bf A C := ⟨h.1.trans k.1, k.2.1.trans h.2.1, fun b u hb => k.2.2 b u (h.2.2 b u hb)⟩

theorem Kp.refl (n₀ bf : Nat) (A : World) : Kp n₀ bf A A := ⟨Below.refl _ _, rfl, fun _ _ h => h⟩

/-- What a box of another type keeps of a turn of a block that is no cells. -/
theorem boxed_keep {W W' : World} {row : Option Nat} {B : Nat} {t : TypeId} {v : Value} (h : Boxed W B t v) (hg : W.grownBy W' row) (hr : ∀ r, row = some r → ∃ o : Obj, W.heap[r]? = some o ∧ o.isCells = false) : Boxed W' B t v :=
  h.kept hg (fun e => by
    obtain ⟨o, h1, h2⟩ := hr B e.symm
    rw [show W.heap[B]? = _ from h] at h1
    cases h1
    cases h2)

theorem kp_b {n₀ bf : Nat} {w : World} (hn : n₀ ≤ w.heap.size) (hf : bf < w.heap.size) (W : World) (l : Nat) (o o' : Obj) (hl : w.heap.size ≤ l) (h : W.heap[l]? = some o) (h1 : o.isCells = false) (h2 : o.isWalk = false) : Kp n₀ bf W (W.putObj l o') :=
  ⟨belowK_b hn W l o o' hl h h1 h2, World.putObj_heap_other (by omega), fun B u hb => boxed_keep hb (grownBy_putObj' W l o') (fun r e => by cases e; exact ⟨o, h, h1⟩)⟩

set_option maxRecDepth 100000 in
set_option maxHeartbeats 2000000 in
theorem behind1_in (n : Nat) (l bi bf n₀ B : Nat) (frm : Int) (v : Value) (ids : List Int) (hl : ids.length ≤ 1048576) (J Jx : List Int → World → Prop) (W : World) (hB : B = W.heap.size) (hJ : OwnFrom B J) (hJx : OwnFrom B Jx)
    (hbi : W.cell? ⟨bi, 0, none⟩ = some v) (hbf : W.cell? ⟨bf, 0, none⟩ = some (.int .i64 frm)) (hv : IntsLow n₀ W v ids) (hn₀ : n₀ ≤ W.heap.size)
    (hY : ∀ m pre x W1, J pre W1 → pre.length < ids.length → YieldAt Fence.wide m Tryz.prog l #[.int .i64 x, .int .i64 ((ahd frm x : Nat) : Int)] W1 fun e W' => KeepsFrom B W1 W' ∧
      ((e = .returned (.bool true) ∧ J (pre ++ [x]) W' ∧ Kp n₀ bf W1 W') ∨ (e = .returned (.bool false) ∧ Jx (pre ++ [x]) W')))
    (h0 : J [] W) :
    CallsIn Fence.wide n Tryz.prog 78 #[.func (.yield l) #[] #[], .pointer (some ⟨bi, 0, none⟩), .pointer (some ⟨bf, 0, none⟩)] W fun e W' => (∃ v, e = .returned v) ∧
      ((∃ ys, ys = nub ids ∧ J ys W') ∨ (∃ pre, True ∧ Jx pre W')) := by
  have HV := hide hv
  obtain ⟨av, cv, rfl, -⟩ := hv
  have HY := hide hY
  clear hY
  have lbi : bi < W.heap.size := cell_lt' hbi
  have lbf : bf < W.heap.size := cell_lt' hbf
  have hb1 := (Below.refl W.heap.size W).alloc (Nat.le_refl _) (.cells #[.func (.yield l) #[] #[]] 106)
  have hbi2 := hb1.cell (p := ⟨bi, 0, none⟩) lbi
  rw [hbi] at hbi2
  have hbl2 : bi < (W.alloc (.cells #[.func (.yield l) #[] #[]] 106)).heap.size := by simp; omega
  refine callsIn_of_wp_marks Tryz.func78 rfl trivial ?_ rfl
  simp only [Tryz.ntmps78, List.size_toArray, List.length_cons, List.length_nil, Nat.reduceAdd, Nat.reduceSub, Array.replicate_succ, Array.replicate_zero, List.push_toArray, List.append_toArray, List.nil_append, List.cons_append]
  gi_wp2
  refine ⟨trivial, fun h => (by cases h), ?_⟩
  refine (callsIn_wide.2 (once_calls _ av ids.length cv _ rfl)).mono ?_
  rintro e w' ⟨rfl, rfl⟩
  have bY := (Boxed.new W 106 (.func (.yield l) #[] #[])).alloc (.cells #[.slice av ids.length cv] 24)
  have z1 : (W.alloc (.cells #[.func (.yield l) #[] #[]] 106)).heap.size = B + 1 := by simp; omega
  have bI := Boxed.new (W.alloc (.cells #[.func (.yield l) #[] #[]] 106)) 24 (.slice av ids.length cv)
  have hb2 : Below W.heap.size W ((W.alloc (.cells #[.func (.yield l) #[] #[]] 106)).alloc (.cells #[.slice av ids.length cv] 24)) := hb1.alloc (by simp) _
  have hJ2 : J [] ((W.alloc (.cells #[.func (.yield l) #[] #[]] 106)).alloc (.cells #[.slice av ids.length cv] 24)) := hJ.alloc _ (hJ.alloc _ h0)
  have z2 : ((W.alloc (.cells #[.func (.yield l) #[] #[]] 106)).alloc (.cells #[.slice av ids.length cv] 24)).heap.size = B + 2 := by simp; omega
  rw [z1] at bI ⊢
  rw [← hB] at bY hb2 lbi lbf hn₀ ⊢
  have HEB := hide hB
  clear z1 hb1 hbi2 hbl2 hB
  generalize (W.alloc (.cells #[.func (.yield l) #[] #[]] 106)).alloc (.cells #[.slice av ids.length cv] 24) = w2 at *
  have hV2 : IntsLow n₀ w2 (.slice av ids.length cv) ids := HV.out.below (hb2.mono hn₀)
  have hF2 : w2.heap[bf]? = W.heap[bf]? := hb2.block bf lbf
  clear HV
  gi_wp2
  refine range_tells (gf := 64) (lb := #[.pointer (some ⟨B + 1, 0, none⟩)]) rfl (enters_of Tryz.func64 (by kernel_rfl) rfl)
    (once_tells (B + 1) n₀ _ ids hl w2 bI.cell hV2 (by omega)) (fun h k => h.trans k) (belowK_b (by omega)) (Below.refl _ _) (fun _ => rfl)
    (fun pre X => (J pre X ∧ Boxed X B 106 (.func (.yield l) #[] #[])) ∧ X.heap[bf]? = W.heap[bf]?)
    (fun c pre X => c = .ret ∧ Jx pre X)
    (OwnFrom.and (OwnFrom.and (own_mono hJ (by omega)) (Own.from (boxed_own _ _ (fun _ => Value.func (.yield l) #[] #[])) _)) ?own1)
    ?own2
    ⟨⟨hJ2, bY⟩, hF2⟩
    (fun x => { tmps := #[.func (.yield l) #[] #[], .pointer (some ⟨bi, 0, none⟩), .pointer (some ⟨bf, 0, none⟩), .pointer (some ⟨B, 0, none⟩), .int .i64 x, .slice av ids.length cv, .func (.func 64) #[] #[.pointer (some ⟨B + 1, 0, none⟩)], .int .i64 x, undef, undef, undef, undef, undef, undef, undef], defers := [] }) ?assign ?body ?done ?stop
  case own1 =>
    intro s A C row hs hg hr
    refine (hg.block bf ?_ (fun e => ?_)).trans hs
    · have h1 : (A.heap[bf]?).isSome = true := by
        rw [hs]
        have := HEB.out
        simp
        omega
      simpa using h1
    · have := (hr bf e.symm).1
      omega
  case own2 =>
    intro c s A C row hs hg hr
    exact ⟨hs.1, own_mono hJx (by omega) s A C row hs.2 hg hr⟩
  case assign =>
    intro m l x W K hK
    gi_wp2
    exact hK
  case body =>
    have hBw : B ≤ w2.heap.size := by omega
    rintro m l' pre x X ⟨⟨hJX, hbX⟩, hFX⟩ hlt
    have c1 := hbX.cell
    have l1 := hbX.lt
    have c2 : X.cell? ⟨bf, 0, none⟩ = some (.int .i64 frm) := (cell_same hFX 0).trans hbf
    have l2 : bf < X.heap.size := cell_lt' c2
    have hgd : X.grownBy X.drew none := ⟨rfl, rfl, rfl, Nat.le_refl _, fun _ _ _ => rfl⟩
    obtain ⟨fn, tmps, assign, body, hy, hR⟩ := HY.out (m - 1) _ x X.drew (hJ _ _ _ none hJX hgd (fun r e => by cases e)) hlt
    have HR := hide hR
    have HBX : Hid (Boxed X.drew B 106 (.func (.yield l) #[] #[])) := hbX
    have HFX : Hid (X.drew.heap[bf]? = W.heap[bf]?) := hFX
    have hdr : Below n₀ X X.drew := (Below.refl n₀ X).drew
    have d1 : X.drew.cell? ⟨B, 0, none⟩ = some (.func (.yield l) #[] #[]) := c1
    have d2 : X.drew.cell? ⟨bf, 0, none⟩ = some (.int .i64 frm) := c2
    clear hR hJX hbX hFX hgd
    gi_wp2
    refine region_round (F := Fence.wide) (by kernel_rfl) rfl (by kernel_rfl) ?_
    refine wpAnyIn_take (i := 1) (v := .int .i64 x) rfl rfl (by kernel_rfl) (by kernel_rfl) (by kernel_rfl) (fun _ _ _ h => h) ⟨Or.inl ⟨by rfl, fun w => by go_simp⟩, fun _ => rfl⟩ ?_
    refine wpAnyIn_take (i := 3) (v := .int .i64 x) rfl rfl (by kernel_rfl) (by kernel_rfl) (by kernel_rfl) (fun _ _ _ h => h) ⟨Or.inl ⟨by rfl, fun w => by go_simp⟩, fun _ => rfl⟩ ?_
    refine wpAnyIn_ready (rs := [0, 2]) (by kernel_rfl) (by simp) ?_
    refine AllReadyIn.cons rfl (fun K hK => ?_) (AllReadyIn.cons rfl (fun K hK => ?_) AllReadyIn.nil)
    · go_simp
      refine hK _ _ ?_
      clear hK K
      refine wpAnyIn_ready (rs := [2]) (by kernel_rfl) (by simp) ?_
      refine AllReadyIn.cons rfl (fun K hK => ?_) AllReadyIn.nil
      go_simp
      refine hK _ _ ?_
      clear hK K
      refine wpAnyIn_ready (rs := [4]) (by kernel_rfl) (by simp) ?_
      refine AllReadyIn.cons rfl (fun K hK => ?_) AllReadyIn.nil
      go_simp
      refine ⟨trivial, fun h => (by cases h), (callsIn_wide.2 (implAhead_calls frm x _)).mono ?_⟩
      rintro e w' ⟨rfl, rfl⟩
      refine hK _ _ ?_
      clear hK K
      refine wpAnyIn_ready (rs := [5]) (by kernel_rfl) (by simp) ?_
      refine AllReadyIn.cons rfl (fun K hK => ?_) AllReadyIn.nil
      go_simp
      refine ⟨fun h => (by cases h), HR.out.mono ?_⟩
      rintro e X3 ⟨hkf, (⟨rfl, hJ3, hk3⟩ | ⟨rfl, hJx3⟩)⟩
      · refine hK _ _ ?_
        clear hK K
        refine wpAnyIn_ready (rs := [6]) (by kernel_rfl) (by simp) ?_
        refine AllReadyIn.cons rfl (fun K hK => ?_) AllReadyIn.nil
        go_simp
        refine hK _ _ ?_
        clear hK K
        refine wpAnyIn_done (by kernel_rfl) ?_ _
        gi_wp2
        exact ⟨((KeepsOthers.drew X).from _).trans (keeps_mono hkf hBw), hdr.trans hk3.1, ⟨hJ3, hk3.2.2 _ _ HBX.out⟩, hk3.2.1.trans HFX.out⟩
      · refine hK _ _ ?_
        clear hK K
        refine wpAnyIn_ready (rs := [6]) (by kernel_rfl) (by simp) ?_
        refine AllReadyIn.cons rfl (fun K hK => ?_) AllReadyIn.nil
        go_simp
        refine hK _ _ ?_
        clear hK K
        refine wpAnyIn_done (by kernel_rfl) ?_ _
        gi_wp2
        exact ⟨((KeepsOthers.drew X).from _).trans (keeps_mono hkf hBw), rfl, hJx3⟩
    · go_simp
      refine hK _ _ ?_
      clear hK K
      refine wpAnyIn_ready (rs := [0, 4]) (by kernel_rfl) (by simp) ?_
      refine AllReadyIn.cons rfl (fun K hK => ?_) (AllReadyIn.cons rfl (fun K hK => ?_) AllReadyIn.nil)
      · go_simp
        refine hK _ _ ?_
        clear hK K
        refine wpAnyIn_ready (rs := [4]) (by kernel_rfl) (by simp) ?_
        refine AllReadyIn.cons rfl (fun K hK => ?_) AllReadyIn.nil
        go_simp
        refine ⟨trivial, fun h => (by cases h), (callsIn_wide.2 (implAhead_calls frm x _)).mono ?_⟩
        rintro e w' ⟨rfl, rfl⟩
        refine hK _ _ ?_
        clear hK K
        refine wpAnyIn_ready (rs := [5]) (by kernel_rfl) (by simp) ?_
        refine AllReadyIn.cons rfl (fun K hK => ?_) AllReadyIn.nil
        go_simp
        refine ⟨fun h => (by cases h), HR.out.mono ?_⟩
        rintro e X3 ⟨hkf, (⟨rfl, hJ3, hk3⟩ | ⟨rfl, hJx3⟩)⟩
        · refine hK _ _ ?_
          clear hK K
          refine wpAnyIn_ready (rs := [6]) (by kernel_rfl) (by simp) ?_
          refine AllReadyIn.cons rfl (fun K hK => ?_) AllReadyIn.nil
          go_simp
          refine hK _ _ ?_
          clear hK K
          refine wpAnyIn_done (by kernel_rfl) ?_ _
          gi_wp2
          exact ⟨((KeepsOthers.drew X).from _).trans (keeps_mono hkf hBw), hdr.trans hk3.1, ⟨hJ3, hk3.2.2 _ _ HBX.out⟩, hk3.2.1.trans HFX.out⟩
        · refine hK _ _ ?_
          clear hK K
          refine wpAnyIn_ready (rs := [6]) (by kernel_rfl) (by simp) ?_
          refine AllReadyIn.cons rfl (fun K hK => ?_) AllReadyIn.nil
          go_simp
          refine hK _ _ ?_
          clear hK K
          refine wpAnyIn_done (by kernel_rfl) ?_ _
          gi_wp2
          exact ⟨((KeepsOthers.drew X).from _).trans (keeps_mono hkf hBw), rfl, hJx3⟩
      · go_simp
        refine ⟨trivial, fun h => (by cases h), (callsIn_wide.2 (implAhead_calls frm x _)).mono ?_⟩
        rintro e w' ⟨rfl, rfl⟩
        refine hK _ _ ?_
        clear hK K
        refine wpAnyIn_ready (rs := [0]) (by kernel_rfl) (by simp) ?_
        refine AllReadyIn.cons rfl (fun K hK => ?_) AllReadyIn.nil
        go_simp
        refine hK _ _ ?_
        clear hK K
        refine wpAnyIn_ready (rs := [5]) (by kernel_rfl) (by simp) ?_
        refine AllReadyIn.cons rfl (fun K hK => ?_) AllReadyIn.nil
        go_simp
        refine ⟨fun h => (by cases h), HR.out.mono ?_⟩
        rintro e X3 ⟨hkf, (⟨rfl, hJ3, hk3⟩ | ⟨rfl, hJx3⟩)⟩
        · refine hK _ _ ?_
          clear hK K
          refine wpAnyIn_ready (rs := [6]) (by kernel_rfl) (by simp) ?_
          refine AllReadyIn.cons rfl (fun K hK => ?_) AllReadyIn.nil
          go_simp
          refine hK _ _ ?_
          clear hK K
          refine wpAnyIn_done (by kernel_rfl) ?_ _
          gi_wp2
          exact ⟨((KeepsOthers.drew X).from _).trans (keeps_mono hkf hBw), hdr.trans hk3.1, ⟨hJ3, hk3.2.2 _ _ HBX.out⟩, hk3.2.1.trans HFX.out⟩
        · refine hK _ _ ?_
          clear hK K
          refine wpAnyIn_ready (rs := [6]) (by kernel_rfl) (by simp) ?_
          refine AllReadyIn.cons rfl (fun K hK => ?_) AllReadyIn.nil
          go_simp
          refine hK _ _ ?_
          clear hK K
          refine wpAnyIn_done (by kernel_rfl) ?_ _
          gi_wp2
          exact ⟨((KeepsOthers.drew X).from _).trans (keeps_mono hkf hBw), rfl, hJx3⟩
  case done =>
    rintro D ys X hD rfl ⟨⟨hJX, hbX⟩, hFX⟩ hK
    gi_wp2
    refine ⟨by simp, .inl ⟨_, _, rfl, run_takeDeferred hK, ?_⟩⟩
    exact ⟨_, results_none rfl _ _ _, ⟨_, rfl⟩, .inl ⟨_, rfl, hJ.putObj _ hJX (by omega) hK rfl⟩⟩
  case stop =>
    rintro D c pre X hD _ ⟨rfl, hx⟩ hK
    gi_wp2
    refine ⟨by simp, .inl ⟨_, _, rfl, run_takeDeferred hK, ?_⟩⟩
    exact ⟨_, results_none rfl _ _ _, ⟨_, rfl⟩, .inr ⟨_, trivial, hJx.putObj _ hx (by omega) hK rfl⟩⟩

/-- The function that behind hands back tells each id once. -/
theorem behind_tells (bi bf n₀ : Nat) (frm : Int) (v : Value) (ids : List Int) (hl : ids.length ≤ 1048576) (w : World) (hbi : w.cell? ⟨bi, 0, none⟩ = some v) (hbf : w.cell? ⟨bf, 0, none⟩ = some (.int .i64 frm)) (hv : IntsLow n₀ w v ids) (hn₀ : n₀ ≤ w.heap.size) :
    Tells Tryz.prog 78 #[.pointer (some ⟨bi, 0, none⟩), .pointer (some ⟨bf, 0, none⟩)] (fun x : Int => #[Value.int .i64 x, Value.int .i64 ((ahd frm x : Nat) : Int)]) (Kp n₀ bf) (fun ys => ys = nub ids) (fun _ => True) ids.length w := fun n l J Jx W hW hJ hJx hY h0 =>
  behind1_in n l bi bf n₀ _ frm v ids hl J Jx W rfl hJ hJx ((hW.cell (p := ⟨bi, 0, none⟩) (cell_lt' hbi)).trans hbi) ((hW.cell (p := ⟨bf, 0, none⟩) (cell_lt' hbf)).trans hbf) (hv.below (hW.mono hn₀)) (Nat.le_trans hn₀ hW.size) hY h0
end Go.Proofs.YteladljgnbfcnaaGreat.P8
namespace Go.Proofs.YteladljgnbfcnaaGreat.P8
open Go.RowKit Go.Shelf P1 Mp Rf

attribute [local go_sem] Oper.semAt_some

/-- How far the best one is. -/
def leastOf (key : Int) (l : List Int) : Nat := ((best key l).map (ahd key)).getD 256

theorem owner_hit {key : Int} {pre : List Int} {x : Int} (h : ahd key x < leastOf key pre) : ownerOf key (pre ++ [x]) = x ∧ leastOf key (pre ++ [x]) = ahd key x := by
  unfold ownerOf leastOf at *
  rw [best_snoc]
  cases hb : best key pre with
  | none => exact ⟨rfl, rfl⟩
  | some b =>
    rw [hb] at h
    have h' : ahd key x < ahd key b := h
    unfold ownStep
    dsimp only
    rw [if_pos h']
    exact ⟨rfl, rfl⟩

theorem owner_miss {key : Int} {pre : List Int} {x : Int} (h : ¬ ahd key x < leastOf key pre) : ownerOf key (pre ++ [x]) = ownerOf key pre ∧ leastOf key (pre ++ [x]) = leastOf key pre := by
  unfold ownerOf leastOf at *
  rw [best_snoc]
  cases hb : best key pre with
  | none =>
    rw [hb] at h
    exact absurd (ahd_lt key x) h
  | some b =>
    rw [hb] at h
    have h' : ¬ ahd key x < ahd key b := h
    unfold ownStep
    dsimp only
    rw [if_neg h']
    exact ⟨rfl, rfl⟩

theorem boxed_cells (B : Nat) (t : TypeId) {β : Type} (f : β → Value) : Own (fun (s : β) W => Boxed W B t (f s)) := by
  intro s X Y row hv hg hrow
  refine hv.kept hg (fun e' => ?_)
  obtain ⟨o, ho, hc⟩ := hrow B e'.symm
  rw [show X.heap[B]? = _ from hv] at ho
  cases ho
  cases hc

theorem boxed_other {W : World} {B b : Nat} {t : TypeId} {v : Value} (h : Boxed W B t v) (hne : B ≠ b) (u : Value) : Boxed (W.setCell ⟨b, 0, none⟩ u) B t v :=
  h.kept (grownBy_setCell' W b u) (fun e => hne (by simpa using e))

theorem kp_set {n₀ bf b : Nat} {W : World} (hb : n₀ ≤ b) (hne : bf ≠ b) (v : Value) {t : TypeId} {u : Value} (hx : Boxed W b t u) (ht : t ≠ 106) : Kp n₀ bf W (W.setCell ⟨b, 0, none⟩ v) :=
  ⟨(Below.refl n₀ W).setCell (p := ⟨b, 0, none⟩) hb v, Below.heap_setCell _ _ _ _ hne, fun B y hB => hB.other (fun e => by
    subst e
    have h1 := (show W.heap[B]? = _ from hx).symm.trans (show W.heap[B]? = _ from hB)
    cases h1
    exact ht rfl) v⟩

set_option maxRecDepth 100000 in
set_option maxHeartbeats 2000000 in
theorem implOwner_calls (w : World) (v : Value) (ids : List Int) (key : Int) (hv : IntsAt w v ids) (hl : ids.length ≤ 1048576) :
    Calls Tryz.prog 53 #[v, .int .i64 key] w fun e w' => e = .returned (.int .i64 (ownerOf key ids)) ∧ Below w.heap.size w w' := by
  refine (callsIn_wide (n := 9)).1 ?_
  have HV := hide hv
  obtain ⟨a, cap, rfl, -⟩ := hv
  refine callsIn_of_wp_marks Tryz.func53 rfl trivial ?_ rfl
  simp only [Tryz.ntmps53, List.size_toArray, List.length_cons, List.length_nil, Nat.reduceAdd, Nat.reduceSub, Array.replicate_succ, Array.replicate_zero, List.push_toArray, List.append_toArray, List.nil_append, List.cons_append]
  gi_wp2
  refine ⟨trivial, ?_⟩
  refine (callsIn_wide.2 (behind_calls _ a ids.length cap key _ rfl)).mono ?_
  rintro e w' ⟨rfl, rfl⟩
  have bO := ((Boxed.new w 3 (.int .i64 (-1))).alloc (.cells #[.int .i64 256] 3))
  have bL := Boxed.new (w.alloc (.cells #[.int .i64 (-1)] 3)) 3 (.int .i64 256)
  have z1 : (w.alloc (.cells #[.int .i64 (-1)] 3)).heap.size = w.heap.size + 1 := by simp
  have z2 : ((w.alloc (.cells #[.int .i64 (-1)] 3)).alloc (.cells #[.int .i64 256] 3)).heap.size = w.heap.size + 2 := by simp
  rw [z1] at bL
  have hB0 : Below w.heap.size w ((w.alloc (.cells #[.int .i64 (-1)] 3)).alloc (.cells #[.int .i64 256] 3)) := ((Below.refl _ w).alloc (Nat.le_refl _) _).alloc (by simp) _
  clear z1
  generalize (w.alloc (.cells #[.int .i64 (-1)] 3)).alloc (.cells #[.int .i64 256] 3) = w1 at *
  have bI := ((Boxed.new w1 24 (.slice a ids.length cap)).alloc (.cells #[.int .i64 key] 3))
  have bF := Boxed.new (w1.alloc (.cells #[.slice a ids.length cap] 24)) 3 (.int .i64 key)
  have z3 : (w1.alloc (.cells #[.slice a ids.length cap] 24)).heap.size = w.heap.size + 3 := by simp; omega
  have z4 : ((w1.alloc (.cells #[.slice a ids.length cap] 24)).alloc (.cells #[.int .i64 key] 3)).heap.size = w.heap.size + 4 := by simp; omega
  rw [z3] at bF
  rw [z2] at bI ⊢
  have hB1 : Below w.heap.size w ((w1.alloc (.cells #[.slice a ids.length cap] 24)).alloc (.cells #[.int .i64 key] 3)) := hB0.trans ((((Below.refl w1.heap.size w1).alloc (Nat.le_refl _) _).alloc (by simp) _).mono (by omega))
  replace bO := (bO.alloc (.cells #[.slice a ids.length cap] 24)).alloc (.cells #[.int .i64 key] 3)
  replace bL := (bL.alloc (.cells #[.slice a ids.length cap] 24)).alloc (.cells #[.int .i64 key] 3)
  clear z3
  generalize (w1.alloc (.cells #[.slice a ids.length cap] 24)).alloc (.cells #[.int .i64 key] 3) = w2 at *
  have hV2 : IntsLow w.heap.size w2 (.slice a ids.length cap) ids := (IntsLow.of HV.out).below hB1
  clear HV hB0 z2
  gi_wp2
  refine range_tells (gf := 78) (lb := #[.pointer (some ⟨w.heap.size + 2, 0, none⟩), .pointer (some ⟨w.heap.size + 2 + 1, 0, none⟩)]) rfl (enters_of Tryz.func78 (by kernel_rfl) rfl)
    (behind_tells (w.heap.size + 2) (w.heap.size + 3) w.heap.size key _ ids hl w2 bI.cell bF.cell hV2 (by omega)) (fun h k => h.trans k) (kp_b (by omega) (by omega)) (Below.refl _ _) (fun _ => rfl)
    (fun pre W => (Boxed W w.heap.size 3 (.int .i64 (ownerOf key pre)) ∧ Boxed W (w.heap.size + 1) 3 (.int .i64 ((leastOf key pre : Nat) : Int))) ∧ Below w.heap.size w W)
    (fun _ _ _ => False)
    (OwnFrom.and (OwnFrom.and (Own.from (boxed_cells _ _ (fun pre => Value.int .i64 (ownerOf key pre))) _) (Own.from (boxed_cells _ _ (fun pre => Value.int .i64 ((leastOf key pre : Nat) : Int))) _)) (ownFrom_below (Nat.le_refl _) (by omega)))
    (fun _ _ _ _ _ hs _ _ => hs)
    ⟨⟨bO, bL⟩, hB1⟩
    (fun x => { tmps := #[.slice a ids.length cap, .int .i64 key, undef, undef, .int .i64 0, .pointer (some ⟨w.heap.size, 0, none⟩), .pointer (some ⟨w.heap.size + 1, 0, none⟩), .int .i64 x, .int .i64 ((ahd key x : Nat) : Int), .slice a ids.length cap, .int .i64 key, .func (.func 78) #[] #[.pointer (some ⟨w.heap.size + 2, 0, none⟩), .pointer (some ⟨w.heap.size + 2 + 1, 0, none⟩)], .int .i64 x, .int .i64 ((ahd key x : Nat) : Int), undef, undef, undef, undef, undef, undef], defers := [] }) ?assign ?body ?done ?stop
  case assign =>
    intro m l x W K hK
    gi_wp2
    exact hK
  case body =>
    rintro m l pre x W ⟨⟨hO, hL⟩, hB⟩ hlt
    have c1 := hO.cell
    have f1 := hO.frozen
    have l1 := hO.lt
    have c2 := hL.cell
    have f2 := hL.frozen
    have l2 := hL.lt
    by_cases hx : ahd key x < leastOf key pre
    · have hd : decide (((ahd key x : Nat) : Int) < ((leastOf key pre : Nat) : Int)) = true := decide_eq_true (by omega)
      obtain ⟨e1, e2⟩ := owner_hit hx
      gi_wp2
      refine ⟨((KeepsOthers.setCell _ _ _).trans (KeepsOthers.setCell _ _ _)).from _, (kp_set (Nat.le_refl _) (by omega) _ hO (by decide)).trans (kp_set (by omega) (by omega) _ (boxed_other hL (by omega) _) (by decide)), ⟨?_, ?_⟩, (hB.setCell (p := ⟨w.heap.size, 0, none⟩) (Nat.le_refl _) _).setCell (p := ⟨w.heap.size + 1, 0, none⟩) (Nat.le_succ _) _⟩
      · rw [e1]
        exact boxed_other (hO.set _) (by omega) _
      · rw [e2]
        exact Boxed.set _ (boxed_other hL (by omega) _)
    · have hd : decide (((ahd key x : Nat) : Int) < ((leastOf key pre : Nat) : Int)) = false := decide_eq_false (by omega)
      have hd2 : leastOf key pre ≤ ahd key x := by omega
      obtain ⟨e1, e2⟩ := owner_miss hx
      gi_wp2
      exact ⟨KeepsFrom.refl _ _, Kp.refl _ _ _, ⟨by rw [e1]; exact hO, by rw [e2]; exact hL⟩, hB⟩
  case done =>
    rintro D ys W hD rfl ⟨⟨hO, hL⟩, hB⟩ hK
    have c1 := hO.cell
    gi_wp2
    refine ⟨by simp, .inl ⟨_, _, rfl, run_takeDeferred hK, ?_⟩⟩
    refine ⟨_, results_tmp rfl _ _ _, ?_, hB.trans (belowK_b (w := w) (Nat.le_refl _) W D _ _ (by omega) hK rfl rfl)⟩
    unfold ownerOf
    rw [best_nub]
    rfl
  case stop =>
    rintro D c pre W _ _ h _
    exact h.elim
end Go.Proofs.YteladljgnbfcnaaGreat.P8
namespace Go.Proofs.YteladljgnbfcnaaGreat.P8
set_option maxRecDepth 8000
open Go.RowKit P1 Rc

set_option maxHeartbeats 1000000 in
theorem grow_calls (w : World) (n : Nat) (hn : n ≤ 4194304) :
    Calls Tryz.prog 80 #[.slice none 0 0, .int .i64 n] w fun e w' => ∃ v, e = .returned v ∧ w'.ownsRow w.heap.size 3 1 v 0 [] ∧ Below w.heap.size w w' := by
  obtain ⟨i0, hi, hz0, hz1, hz2⟩ := info_parts info_i64
  by_cases h0 : n = 0
  · subst h0
    go_enter Tryz.func80, Tryz.ntmps80
    go_wp2
    go_ret
    exact ⟨_, rfl, ⟨rfl, .inl ⟨rfl, rfl⟩⟩, Below.refl _ _⟩
  · have hp : 0 < n := by omega
    have hrun := Lib.run_append_nil_zeros (P := Tryz.prog) w 24 3 24 3 i0 (.int .i64 0) .i64 .i64 Tryz.underlying24 Tryz.underlying3 hi hz0 n hp (by omega) (by omega) (by rw [hz2]; omega)
    have hge := grownCap_ge w n 0 3
    have hle := grownCap_le_maxLen w n 0 3 (by unfold maxLen; omega)
    go_enter Tryz.func80, Tryz.ntmps80
    go_wp2_with (at_builtin; refine Lib.wpList_append_run _ rfl _ _ _ _ rfl _ _ rfl rfl _ _ hrun ?_)
    go_ret
    generalize grownCap w n 0 3 = c at *
    refine ⟨_, rfl, ⟨rfl, .inr ⟨w.heap.size, c, Builtin.zeroCells #[.int .i64 0] n ++ Builtin.zeroCells #[.int .i64 0] (c - n), rfl, Nat.le_refl _, ?_, Nat.zero_le _, hle, ?_, ?_⟩⟩, ?_⟩
    · show (w.heap.push _)[w.heap.size]? = _
      rw [Array.getElem?_push_size]
    · simp [Builtin.zeroCells]
      omega
    · simp
    · exact ((Below.refl _ _).alloc (Nat.le_refl _) _).drew

/-- Ints as records of one. -/
def inR8 : RI Int := ⟨1, fun x => [x], fun _ => rfl, by decide⟩

theorem flat_in8 (l : List Int) : flat inR8 l = l := by simp [flat, inR8]

/-- What the first k rows hold. -/
def upTo (R : Nat → List Int) (k : Nat) : List Int := (List.range k).flatMap R

theorem upTo_succ (R : Nat → List Int) (k : Nat) : upTo R (k + 1) = upTo R k ++ R k := by simp [upTo, List.range_succ]

theorem upTo_le (R : Nat → List Int) : ∀ {j k : Nat}, j ≤ k → (upTo R j).length ≤ (upTo R k).length := by
  intro j k h
  induction k with
  | zero => rw [Nat.le_zero.1 h]; exact Nat.le_refl _
  | succ k ih =>
    rcases Nat.lt_or_ge j (k + 1) with h1 | h1
    · rw [upTo_succ, List.length_append]
      have := ih (by omega)
      omega
    · rw [show j = k + 1 by omega]; exact Nat.le_refl _

set_option maxHeartbeats 2000000 in
theorem concat_calls (w : World) (bR : Nat) (V : Nat → Value) (R : Nat → List Int) (B : Nat) (hR : ∀ d, d < 256 → w.cell? ⟨bR, d, none⟩ = some (V d) ∧ w.ownsRow B 3 1 (V d) (R d).length (cellsI (R d))) (hb : bR < w.heap.size) (hl : (upTo R 256).length ≤ 1048576) :
    Calls Tryz.prog 66 #[.slice (some ⟨bR, 0, none⟩) 256 256] w fun e w' => ∃ v, e = .returned v ∧ w'.ownsRow w.heap.size 3 1 v (upTo R 256).length (cellsI (upTo R 256)) ∧ Below w.heap.size w w' := by
  obtain ⟨i0, hi, hz0, hz1, hz2⟩ := info_parts info_i64
  have HR := hide hR
  have HU := hide (fun k => upTo_succ R k)
  have HL : Hid (∀ k, k ≤ 256 → (upTo R k).length ≤ 1048576) := fun k hk => Nat.le_trans (upTo_le R hk) hl
  have HU0 : Hid (upTo R 0 = []) := rfl
  clear hR
  generalize upTo R = U at *
  go_enter Tryz.func66, Tryz.ntmps66
  go_wp2
  go_loopw [3, 11] (fun z i wr => ∃ k : Nat, k ≤ 256 ∧ i = .int .i64 k ∧ z = .int .i64 ((U k).length : Nat) ∧ wr = w) (fun _ i _ => 256 - (intOf i).toNat)
  case atStart => exact ⟨0, Nat.zero_le _, rfl, by rw [HU0.out]; rfl, rfl⟩
  case round =>
    obtain ⟨k, hk, rfl, rfl, rfl⟩ := hrel
    by_cases hlt : k < 256
    · obtain ⟨hc, ho⟩ := HR.out k hlt
      obtain ⟨ak, ck, hsh⟩ := own_sh ho
      rw [hsh] at hc
      have hs : (U (k + 1)).length = (U k).length + (R k).length := by rw [HU.out, List.length_append]
      have hl1 := HL.out k hk
      have hl2 := HL.out (k + 1) hlt
      rw [hs] at hl2
      have HS := hide hs
      have hneg : decide ((((U k).length : Nat) : Int) + (((R k).length : Nat) : Int) < 0) = false := decide_eq_false (by omega)
      clear ho hsh hs
      generalize (U k).length = n1 at *
      generalize (R k).length = n2 at *
      go_wp2
      go_roundw
      case rel => exact ⟨k + 1, by omega, by go_num, by rw [HS.out]; go_num, trivial⟩
      case measure => simp [intOf]; omega
    · have hk6 : k = 256 := by omega
      subst hk6
      obtain ⟨wo, ewo⟩ : ∃ wo, wo = wr := ⟨_, rfl⟩
      subst ewo
      have HG := hide (grow_calls wo (U 256).length (Nat.le_trans (HL.out 256 (Nat.le_refl _)) (by decide)))
      have hl6 := HL.out 256 (Nat.le_refl _)
      go_wp2_with fail
      refine HG.out.mono ?_
      rintro e w1 ⟨v1, rfl, ho1, hb1⟩
      have HO1 := hide ho1
      have HB1 := hide hb1
      obtain ⟨B0, eB⟩ : ∃ B, B = wo.heap.size := ⟨_, rfl⟩
      rw [← eB] at HO1 HB1
      have HEB := hide eB
      clear ho1 hb1 eB HG
      obtain ⟨a1, c1, hs1⟩ := own_sh HO1.out
      subst hs1
      go_wp2_with fail
      go_loopw [6, 27] (fun v i wx => ∃ k : Nat, k ≤ 256 ∧ i = .int .i64 k ∧ Hid (wx.ownsRow B0 3 1 v (U k).length (cellsI (U k))) ∧ Hid (Below B0 wo wx)) (fun _ i _ => 256 - (intOf i).toNat)
      case atStart => exact ⟨0, Nat.zero_le _, rfl, by show World.ownsRow _ _ _ _ _ _ _; rw [HU0.out]; exact HO1.out, HB1.out⟩
      case round =>
        clear HO1 HB1
        obtain ⟨k, hk, rfl, HO, HB⟩ := hrel
        by_cases hlt : k < 256
        · obtain ⟨hc0, ho0⟩ := HR.out k hlt
          obtain ⟨ak, ck, hsh⟩ := own_sh ho0
          have hb0 : bR < B0 := by rw [HEB.out]; exact hb
          have hc : wr.cell? ⟨bR, k, none⟩ = some (.slice ak (R k).length ck) := by rw [HB.out.cell (p := ⟨bR, k, none⟩) hb0, hc0, hsh]
          have hbx : bR < wr.heap.size := Nat.lt_of_lt_of_le hb HB.out.size
          have hBr : B0 ≤ wr.heap.size := by rw [HEB.out]; exact HB.out.size
          have HX := hide ((RowAt.of_own (R := inR8) (by rw [flat_in8]; exact ho0)).below HB.out (by rw [HEB.out]; exact Nat.le_refl _))
          rw [hsh] at HX
          have hs : (U (k + 1)).length = (U k).length + (R k).length := by rw [HU.out, List.length_append]
          have hl1 := HL.out k hk
          have hl2 := HL.out (k + 1) hlt
          rw [hs] at hl2
          have HS := hide hs
          have HC : Hid (cellsI (U (k + 1)) = cellsI (U k) ++ cellsI (flat inR8 (R k))) := by show _ = _; rw [HU.out, flat_in8]; simp [cellsI]
          clear hs hsh hc0 ho0
          obtain ⟨ao, co, hso⟩ := own_sh HO.out
          subst hso
          go_wp2_with (at_builtin; refine wpList_append_row (R := inR8) (B := B0) rfl (.tmp 31) (.tmp 32) 24 rfl 3 i0 (.int .i64 0) 8 Tryz.underlying24 hi hz0 hz1 hz2 rfl _ _ _ _ (R k) rfl HO.out rfl HX.out hBr (by unfold maxLen; omega) (by omega) ?_)
          intro v6 w6 hown hb6
          have HO6 : Hid (w6.ownsRow B0 3 1 v6 (U (k + 1)).length (cellsI (U (k + 1)))) := by
            show World.ownsRow _ _ _ _ _ _ _
            rw [HS.out, HC.out]
            exact hown
          have HB6 := hide (HB.out.trans hb6)
          clear hown hb6
          go_wp2
          go_roundw
          case rel => exact ⟨k + 1, by omega, by go_num, HO6.out, HB6.out⟩
          case measure => simp [intOf]; omega
        · have hk6 : k = 256 := by omega
          subst hk6
          go_wp2
          go_ret
          have hO := HO.out
          have hB := HB.out
          rw [HEB.out] at hO hB
          exact ⟨_, rfl, hO, hB⟩
end Go.Proofs.YteladljgnbfcnaaGreat.P8
namespace Go.Proofs.YteladljgnbfcnaaGreat.P8
open Go.RowKit Go.Shelf P1 Mp Rc

/-- The array bR holds a row for each distance. -/
def RowsAt (n₀ bR : Nat) (a : Int) (pre : List Int) (V : Nat → Value) (W : World) : Prop :=
  Blk W bR ((List.range 256).map V) 90 ∧ ∀ d, d < 256 → W.ownsRow n₀ 3 1 (V d) (row a pre d).length (cellsI (row a pre d)) ∧ ((V d).ownBlock = none ∨ row a pre d ≠ [])

theorem mem_row2 {a : Int} {l : List Int} {d : Nat} {y : Int} (h : y ∈ row a l d) : y ≠ a := by
  unfold row at h
  simp only [List.mem_filter, Bool.and_eq_true, decide_eq_true_eq] at h
  exact h.2.1

/-- What lies at the beginning of a row's block. -/
theorem row_first {n₀ : Nat} {a : Int} {pre : List Int} {d : Nat} {v : Value} {W : World} (h : W.ownsRow n₀ 3 1 v (row a pre d).length (cellsI (row a pre d))) (hn : v.ownBlock = none ∨ row a pre d ≠ []) {g : Nat} (hg : v.ownBlock = some g) :
    ∃ y, y ≠ a ∧ ahd a y = d ∧ W.cell? ⟨g, 0, none⟩ = some (.int .i64 y) := by
  rcases hn with hn | hn
  · rw [hn] at hg; cases hg
  · cases hr : row a pre d with
    | nil => exact absurd hr hn
    | cons y l =>
      have hy : y ∈ row a pre d := by rw [hr]; simp
      refine ⟨y, mem_row2 hy, mem_row hy, ?_⟩
      have h0 := h
      rcases h.2 with ⟨rfl, h1⟩ | ⟨g', cap, cur, rfl, _, _, _, _, _, _⟩
      · rw [hr] at h1; simp at h1
      · have e : g' = g := by simpa [Value.ownBlock] using hg
        subst e
        rw [h0.cellAt 0 (by rw [hr]; simp)]
        rw [hr]
        rfl

theorem row_ne_box {n₀ : Nat} {a : Int} {pre : List Int} {d : Nat} {v : Value} {W : World} (h : W.ownsRow n₀ 3 1 v (row a pre d).length (cellsI (row a pre d))) (hn : v.ownBlock = none ∨ row a pre d ≠ []) {b : Nat} (hb : W.cell? ⟨b, 0, none⟩ = some (.int .i64 a)) : v.ownBlock ≠ some b := by
  intro e
  obtain ⟨y, h1, _, h3⟩ := row_first h hn e
  rw [hb] at h3
  cases h3
  exact h1 rfl

theorem rows_apart {n₀ : Nat} {a : Int} {pre pre' : List Int} {d d' : Nat} {v v' : Value} {W : World} (h : W.ownsRow n₀ 3 1 v (row a pre d).length (cellsI (row a pre d))) (hn : v.ownBlock = none ∨ row a pre d ≠ [])
    (h' : W.ownsRow n₀ 3 1 v' (row a pre' d').length (cellsI (row a pre' d'))) (hn' : v'.ownBlock = none ∨ row a pre' d' ≠ []) (hd : d ≠ d') : v.ownBlock = none ∨ v.ownBlock ≠ v'.ownBlock := by
  cases hg : v.ownBlock with
  | none => exact .inl rfl
  | some g =>
    refine .inr fun e => ?_
    obtain ⟨y, _, h2, h3⟩ := row_first h hn hg
    obtain ⟨y', _, h2', h3'⟩ := row_first h' hn' e.symm
    rw [h3] at h3'
    cases h3'
    exact hd (h2.symm.trans h2')

theorem own_cells_not {n₀ : Nat} {e : TypeId} {size n : Nat} {xs : List Value} {v : Value} {W W' : World} {r : Option Nat} (h : W.ownsRow n₀ e size v n xs) (hg : W.grownBy W' r) (hr : ∀ q, r = some q → ∃ o : Obj, W.heap[q]? = some o ∧ o.isCells = false) : W'.ownsRow n₀ e size v n xs := by
  refine h.kept hg ?_
  rcases h.2 with ⟨rfl, _⟩ | ⟨g, cap, cur, rfl, _, hgb, _⟩
  · exact .inl rfl
  · refine .inr fun e' => ?_
    obtain ⟨o, ho, hc⟩ := hr g (by simpa [Value.ownBlock] using e'.symm)
    rw [hgb] at ho
    cases ho
    cases hc

theorem RowsAt.kept {n₀ bR : Nat} {a : Int} {pre : List Int} {V : Nat → Value} {W W' : World} {r : Option Nat} (h : RowsAt n₀ bR a pre V W) (hg : W.grownBy W' r) (hr : ∀ q, r = some q → ∃ o : Obj, W.heap[q]? = some o ∧ o.isCells = false) : RowsAt n₀ bR a pre V W' := by
  refine ⟨blk_grownR h.1 hg (fun e => ?_), fun d hd => ⟨own_cells_not (h.2 d hd).1 hg hr, (h.2 d hd).2⟩⟩
  obtain ⟨o, ho, hc⟩ := hr bR e
  have h1 := h.1
  unfold Blk at h1
  rw [h1] at ho
  cases ho
  cases hc

theorem rowsAt_own (n₀ bR : Nat) (a : Int) : Own (fun pre W => ∃ V, RowsAt n₀ bR a pre V W) := fun _ _ _ _ ⟨V, h⟩ hg hr => ⟨V, h.kept hg hr⟩

theorem map_set (V : Nat → Value) (d : Nat) (v : Value) : ((List.range 256).map V).set d v = (List.range 256).map (fun i => if i = d then v else V i) := by
  apply List.ext_getElem
  · simp
  · intro i h1 h2
    have hi : i < 256 := by simpa using h2
    rw [List.getElem_set]
    by_cases e : d = i
    · subst e
      simp
    · rw [if_neg e]
      have e' : ¬ i = d := fun h => e h.symm
      simp [e']

/-- One id more in its row: behind the append and the store. -/
theorem RowsAt.more {n₀ bR bf : Nat} {a x : Int} {pre : List Int} {V : Nat → Value} {W w1 : World} {v' : Value} (h : RowsAt n₀ bR a pre V W) (hx : x ≠ a) (hn₀ : n₀ ≤ W.heap.size) (hbR : n₀ ≤ bR) (hbf : W.cell? ⟨bf, 0, none⟩ = some (.int .i64 a))
    (hown : w1.ownsRow n₀ 3 1 v' ((row a pre (ahd a x)).length + 1) (cellsI (row a pre (ahd a x)) ++ [.int .i64 x]))
    (hgrow : (W.alloc (.cells #[.int .i64 x] 3)).grownBy w1 (V (ahd a x)).ownBlock) :
    Blk w1 bR ((List.range 256).map V) 90 ∧
    RowsAt n₀ bR a (pre ++ [x]) (fun i => if i = ahd a x then v' else V i) (w1.setCell ⟨bR, ahd a x, none⟩ v') ∧ KeepsOthers W (w1.setCell ⟨bR, ahd a x, none⟩ v') ∧ Kp n₀ bf W (w1.setCell ⟨bR, ahd a x, none⟩ v') ∧ (∀ b, W.cell? ⟨b, 0, none⟩ = some (.int .i64 a) → b ≠ bR → (w1.setCell ⟨bR, ahd a x, none⟩ v').heap[b]? = W.heap[b]?) := by
  have hd := ahd_lt a x
  obtain ⟨hB, hO⟩ := h
  have hal := World.grownBy_alloc W (.cells #[.int .i64 x] 3) none
  obtain ⟨hod, hnd⟩ := hO _ hd
  have hBa : Blk (W.alloc (.cells #[.int .i64 x] 3)) bR ((List.range 256).map V) 90 := blk_grownR hB hal (by simp)
  have hB1 : Blk w1 bR ((List.range 256).map V) 90 := blk_grownR hBa hgrow (own_ne_blk (hod.alloc _) hBa (by decide))
  have hcellsd : ∀ (j : Nat) (o : Obj), (V (ahd a x)).ownBlock = some j → (W.alloc (.cells #[.int .i64 x] 3)).heap[j]? = some o → o.isCells = true := by
    intro j o ej hj
    rcases (hod.alloc (.cells #[.int .i64 x] 3)).2 with ⟨e1, _⟩ | ⟨g, cap, cur, e1, _, hgb, _⟩
    · rw [e1] at ej; simp [Value.ownBlock] at ej
    · rw [e1] at ej
      obtain rfl : g = j := by simpa [Value.ownBlock] using ej
      rw [hgb] at hj; cases hj; rfl
  have hbox : ∀ b, W.cell? ⟨b, 0, none⟩ = some (.int .i64 a) → b ≠ bR → (w1.setCell ⟨bR, ahd a x, none⟩ v').heap[b]? = W.heap[b]? := by
    intro b hb hne
    have hlt : b < W.heap.size := cell_lt' hb
    rw [Below.heap_setCell _ _ _ _ hne, hgrow.block b (by simp; omega) (fun e => row_ne_box hod hnd hb e.symm), hal.block b hlt (by simp)]
  have hbfR : bf ≠ bR := by
    rintro rfl
    rw [hB.cell 0] at hbf
    have h0 := (hO 0 (by decide)).1
    have : ((List.range 256).map V)[0]? = some (V 0) := by simp
    rw [this] at hbf
    have e : V 0 = .int .i64 a := by simpa using hbf
    rw [e] at h0
    obtain ⟨_, _, hs⟩ := own_sh h0
    cases hs
  refine ⟨hB1, ⟨?_, ?_⟩, ?_, ⟨?_, hbox bf hbf hbfR, ?_⟩, hbox⟩
  · have := hB1.set (ahd a x) v'
    rw [map_set V _] at this
    exact this
  · intro d' hd'
    have hset := (⟨rfl, rfl, rfl, by simp [World.setCell], fun k _ hne => Below.heap_setCell _ _ _ _ (fun e => hne (by rw [e]))⟩ : w1.grownBy (w1.setCell ⟨bR, ahd a x, none⟩ v') (some bR))
    by_cases e : d' = ahd a x
    · subst e
      dsimp only
      rw [if_pos rfl, row_snoc, if_pos ⟨hx, rfl⟩]
      refine ⟨?_, .inr (by simp)⟩
      have h1 := hown.kept hset (.inr (own_ne_blk hown hB1 (by decide)))
      have e1 : (row a pre (ahd a x) ++ [x]).length = (row a pre (ahd a x)).length + 1 := by simp
      have e2 : cellsI (row a pre (ahd a x) ++ [x]) = cellsI (row a pre (ahd a x)) ++ [.int .i64 x] := by simp [cellsI]
      rw [e1, e2]
      exact h1
    · dsimp only
      rw [if_neg e, row_snoc, if_neg (fun h => e h.2.symm)]
      obtain ⟨ho', hn'⟩ := hO d' hd'
      have h1 := (ho'.alloc (.cells #[.int .i64 x] 3)).kept hgrow (rows_apart ho' hn' hod hnd e)
      exact ⟨h1.kept hset (.inr (own_ne_blk h1 hB1 (by decide))), hn'⟩
  · refine ((KeepsOthers.alloc W _).trans (KeepsOthers.of_grownBy hgrow fun j o ej hj => hcellsd j o ej hj)).trans (KeepsOthers.setCell _ _ _)
  · refine (((Below.refl n₀ W).alloc hn₀ _).grown hgrow (by simp; omega) (fun j ej => (hod.lt j ej).1)).setCell (p := ⟨bR, ahd a x, none⟩) hbR v'
  · intro B u hb
    have h1 := hb.alloc (.cells #[.int .i64 x] 3)
    have h2 := h1.kept hgrow (h1.not_row (by decide) (hod.alloc _))
    refine h2.kept (⟨rfl, rfl, rfl, by simp [World.setCell], fun k _ hne => Below.heap_setCell _ _ _ _ (fun e => hne (by rw [e]))⟩ : w1.grownBy (w1.setCell ⟨bR, ahd a x, none⟩ v') (some bR)) (fun e => ?_)
    obtain rfl : B = bR := by simpa using e
    have h3 := (show w1.heap[B]? = _ from h2).symm.trans (show w1.heap[B]? = _ from hB1)
    simp only [Option.some.injEq, Obj.cells.injEq] at h3
    exact absurd h3.2.1 (by decide)
end Go.Proofs.YteladljgnbfcnaaGreat.P8
namespace Go.Proofs.YteladljgnbfcnaaGreat.P8
open Go.RowKit Go.Shelf P1 Mp Rc Rf

attribute [local go_sem] Oper.semAt_some

theorem rows_zero : ∃ Z : Array Value, Z.toList = (List.range 256).map (fun _ => Value.slice none 0 0) ∧ ∀ wx : World, (zeroValue 90).run Tryz.prog wx = .ok (.agg Z) wx :=
  ⟨Array.replicate 256 (.slice none 0 0), by rw [Array.toList_replicate, List.map_const', List.length_range], fun wx => by kernel_rfl⟩

set_option maxRecDepth 100000 in
set_option maxHeartbeats 4000000 in
theorem implOrdered_calls (w : World) (v : Value) (ids : List Int) (a : Int) (hv : IntsAt w v ids) (hl : ids.length ≤ 1048576) :
    Calls Tryz.prog 50 #[v, .int .i64 a] w fun e w' => ∃ v', e = .returned v' ∧ w'.ownsRow w.heap.size 3 1 v' (ordered a ids).length (cellsI (ordered a ids)) ∧ Below w.heap.size w w' := by
  refine (callsIn_wide (n := 9)).1 ?_
  have HV := hide hv
  obtain ⟨av, cv, rfl, -⟩ := hv
  obtain ⟨Z, hZ, hz⟩ := rows_zero
  obtain ⟨i0, hi, hz0, hz1, hz2⟩ := info_parts info_i64
  have HZ := hide hZ
  clear hZ
  refine callsIn_of_wp_marks Tryz.func50 rfl trivial ?_ rfl
  simp only [Tryz.ntmps50, List.size_toArray, List.length_cons, List.length_nil, Nat.reduceAdd, Nat.reduceSub, Array.replicate_succ, Array.replicate_zero, List.push_toArray, List.append_toArray, List.nil_append, List.cons_append]
  gi_wp2
  refine ⟨trivial, ?_⟩
  refine (callsIn_wide.2 (behind_calls _ av ids.length cv a _ rfl)).mono ?_
  rintro e w' ⟨rfl, rfl⟩
  have bA := ((Boxed.new w 3 (.int .i64 a)).alloc (.cells Z 90))
  have bR := Blk.new (w.alloc (.cells #[.int .i64 a] 3)) Z 90
  rw [HZ.out] at bR
  have z1 : (w.alloc (.cells #[.int .i64 a] 3)).heap.size = w.heap.size + 1 := by simp
  have z2 : ((w.alloc (.cells #[.int .i64 a] 3)).alloc (.cells Z 90)).heap.size = w.heap.size + 2 := by simp
  rw [z1] at bR
  have hB0 : Below w.heap.size w ((w.alloc (.cells #[.int .i64 a] 3)).alloc (.cells Z 90)) := ((Below.refl _ w).alloc (Nat.le_refl _) _).alloc (by simp) _
  clear z1 hz HZ
  generalize (w.alloc (.cells #[.int .i64 a] 3)).alloc (.cells Z 90) = w1 at *
  have bI := ((Boxed.new w1 24 (.slice av ids.length cv)).alloc (.cells #[.int .i64 a] 3))
  have bF := Boxed.new (w1.alloc (.cells #[.slice av ids.length cv] 24)) 3 (.int .i64 a)
  have z3 : (w1.alloc (.cells #[.slice av ids.length cv] 24)).heap.size = w.heap.size + 3 := by simp; omega
  have z4 : ((w1.alloc (.cells #[.slice av ids.length cv] 24)).alloc (.cells #[.int .i64 a] 3)).heap.size = w.heap.size + 4 := by simp; omega
  rw [z3] at bF
  rw [z2] at bI ⊢
  have hb2 : Below w1.heap.size w1 ((w1.alloc (.cells #[.slice av ids.length cv] 24)).alloc (.cells #[.int .i64 a] 3)) := ((Below.refl w1.heap.size w1).alloc (Nat.le_refl _) _).alloc (by simp) _
  have hB1 : Below w.heap.size w ((w1.alloc (.cells #[.slice av ids.length cv] 24)).alloc (.cells #[.int .i64 a] 3)) := hB0.trans (hb2.mono (by omega))
  replace bA := (bA.alloc (.cells #[.slice av ids.length cv] 24)).alloc (.cells #[.int .i64 a] 3)
  replace bR := bR.below hb2 (by omega)
  clear z3 hb2
  generalize (w1.alloc (.cells #[.slice av ids.length cv] 24)).alloc (.cells #[.int .i64 a] 3) = w2 at *
  have hV2 : IntsLow w.heap.size w2 (.slice av ids.length cv) ids := (IntsLow.of HV.out).below hB1
  clear HV hB0 z2
  have hR0 : RowsAt w.heap.size (w.heap.size + 1) a [] (fun _ => .slice none 0 0) w2 := ⟨bR, fun d _ => ⟨⟨rfl, .inl ⟨rfl, rfl⟩⟩, .inl rfl⟩⟩
  gi_wp2
  refine range_tells (gf := 78) (lb := #[.pointer (some ⟨w.heap.size + 2, 0, none⟩), .pointer (some ⟨w.heap.size + 2 + 1, 0, none⟩)]) rfl (enters_of Tryz.func78 (by kernel_rfl) rfl)
    (behind_tells (w.heap.size + 2) (w.heap.size + 3) w.heap.size a _ ids hl w2 bI.cell bF.cell hV2 (by omega)) (fun h k => h.trans k) (kp_b (by omega) (by omega)) (Below.refl _ _) (fun _ => rfl)
    (fun pre W => ((∃ V, RowsAt w.heap.size (w.heap.size + 1) a pre V W) ∧ (Boxed W w.heap.size 3 (.int .i64 a) ∧ Boxed W (w.heap.size + 3) 3 (.int .i64 a))) ∧ Below w.heap.size w W)
    (fun _ _ _ => False)
    (OwnFrom.and (OwnFrom.and (Own.from (rowsAt_own _ _ _) _) (OwnFrom.and (Own.from (boxed_cells _ _ (fun _ => Value.int .i64 a)) _) (Own.from (boxed_cells _ _ (fun _ => Value.int .i64 a)) _))) (ownFrom_below (Nat.le_refl _) (by omega)))
    (fun _ _ _ _ _ hs _ _ => hs)
    ⟨⟨⟨_, hR0⟩, bA, bF⟩, hB1⟩
    (fun x => { tmps := #[.slice av ids.length cv, .int .i64 a, undef, .pointer (some ⟨w.heap.size, 0, none⟩), .slice none 0 0, .pointer (some ⟨w.heap.size + 1, 0, none⟩), .int .i64 x, .int .i64 ((ahd a x : Nat) : Int), .slice av ids.length cv, .int .i64 a, .func (.func 78) #[] #[.pointer (some ⟨w.heap.size + 2, 0, none⟩), .pointer (some ⟨w.heap.size + 2 + 1, 0, none⟩)], .int .i64 x, .int .i64 ((ahd a x : Nat) : Int), undef, undef, undef, undef, undef, undef, undef, undef, undef, undef, undef, undef, undef], defers := [] }) ?assign ?body ?done ?stop
  case assign =>
    intro m l x W K hK
    gi_wp2
    exact hK
  case body =>
    rintro m l pre x W ⟨⟨⟨V, hR⟩, hA, hF⟩, hB⟩ hlt
    have c1 := hA.cell
    have l1 := hA.lt
    have hd := ahd_lt a x
    by_cases hx : x = a
    · subst hx
      gi_wp2
      refine ⟨KeepsFrom.refl _ _, Kp.refl _ _ _, ⟨⟨V, ?_⟩, hA, hF⟩, hB⟩
      refine ⟨hR.1, fun d hd' => ?_⟩
      rw [row_snoc, if_neg (fun h => h.1 rfl)]
      exact hR.2 d hd'
    · have hxd : (x != a) = true := by simpa using hx
      obtain ⟨hod, hnd⟩ := hR.2 _ hd
      obtain ⟨ad, cd, hsh⟩ := own_sh hod
      have c2 : W.cell? ⟨w.heap.size + 1, ahd a x, none⟩ = some (V (ahd a x)) := by rw [hR.1.cell]; simp [hd]
      have l2 := hR.1.lt
      rw [hsh] at c2
      have hlen := row_length a pre (ahd a x)
      rw [hsh] at hod
      have HM := hide (fun w1 v' (h1 : w1.ownsRow w.heap.size 3 1 v' ((row a pre (ahd a x)).length + 1) (cellsI (row a pre (ahd a x)) ++ [.int .i64 x])) (h2 : (W.alloc (.cells #[.int .i64 x] 3)).grownBy w1 (Value.slice ad (row a pre (ahd a x)).length cd).ownBlock) => hR.more hx hB.size (Nat.le_succ _) hF.cell h1 (by rw [hsh]; exact h2))
      have c3 : ((List.range 256).map V)[ahd a x]? = some (V (ahd a x)) := by simp [hd]
      have hsz := hB.size
      have HA := hide hA
      have HF := hide hF
      have HB := hide hB
      have HN : Hid (w.heap.size + 3 ≠ w.heap.size + 1) := by show _ ≠ _; omega
      clear hnd hR hF hB hA
      gi_wp2_with (gi_at_builtin; refine wpListIn_append_own _ rfl _ _ 24 rfl w.heap.size 3 i0 (.int .i64 0) 1 8 Tryz.underlying24 hi hz0 hz1 hz2 rfl (by decide) _ _ _ rfl (hod.alloc _) ⟨W.heap.size, 0, none⟩ 1 1 [.int .i64 x] rfl rfl (cell_one_new _ _ _) (by simp [Value.oneCell']) (by unfold maxLen; omega) (by omega) (by simp; omega) ?_; intro v' w1 hown' hgrow _; obtain ⟨hb1, hr1, hk1, hp1, hx1⟩ := HM.out w1 v' hown' hgrow; obtain ⟨g', cap', rfl⟩ := ownsRow_succ hown'; have hc1 := hb1.cell (ahd a x); rw [c3] at hc1; have hf1 := hb1.free (ahd a x); have hl1 := hb1.lt)
      exact ⟨hk1.from _, hp1, ⟨⟨_, hr1⟩, (hx1 _ HA.out.cell (by omega)).trans HA.out, (hx1 _ HF.out.cell HN.out).trans HF.out⟩, HB.out.trans hp1.1⟩
  case done =>
    rintro D ys W hD rfl ⟨⟨⟨V, hR⟩, hA, hF⟩, hB⟩ hK
    have e : upTo (row a (nub ids)) 256 = ordered a ids := rows_ordered a ids
    have hle := ordered_length a ids
    have hC := concat_calls W (w.heap.size + 1) V (row a (nub ids)) w.heap.size (fun d hd => ⟨by rw [hR.1.cell]; simp [hd], (hR.2 d hd).1⟩) hR.1.lt (by rw [e]; omega)
    rw [e] at hC
    have HC := hide hC
    have hDl : D < W.heap.size := (Array.getElem?_eq_some_iff.1 hK).1
    clear e hC
    gi_wp2
    refine ⟨trivial, ?_⟩
    refine (callsIn_wide.2 HC.out).mono ?_
    rintro e w5 ⟨v5, rfl, ho5, hb5⟩
    have hK5 : w5.heap[D]? = some (.deferred (some [])) := (hb5.block D hDl).trans hK
    gi_wp2
    refine ⟨by simp, .inl ⟨_, _, rfl, run_takeDeferred hK5, ?_⟩⟩
    refine ⟨_, results_tmp rfl _ _ _, v5, rfl, own_mono (ownsRow_putObj ho5 _ hK5 rfl) hB.size, ?_⟩
    exact (hB.trans (hb5.mono hB.size)).trans (belowK_b (w := w) (Nat.le_refl _) w5 D _ _ (by omega) hK5 rfl rfl)
  case stop =>
    rintro D c pre W _ _ h _
    exact h.elim
end Go.Proofs.YteladljgnbfcnaaGreat.P8
namespace Go.Proofs.YteladljgnbfcnaaGreat.P8
set_option maxRecDepth 8000
open Go.RowKit P1 Cu

theorem grown_more {w w1 w2 : World} {g B : Nat} (h : w.grownBy w1 (some g)) (hb : Below B w1 w2) (hB : w.heap.size ≤ B) : w.grownBy w2 (some g) :=
  ⟨hb.os.trans h.os, hb.tape.trans h.tape, hb.output.trans h.output, Nat.le_trans h.size hb.size, fun i hi hne => (hb.block i (by omega)).trans (h.block i hi hne)⟩
end Go.Proofs.YteladljgnbfcnaaGreat.P8
namespace Go.Proofs.YteladljgnbfcnaaGreat.P8
set_option maxRecDepth 8000
open Go.RowKit P1 Cu

/-- The five lists of ids that a ring is drawn from. -/
def starts : List (List Int) := [[10, 80, 150, 220, 30, 100, 200, 250], [1, 2, 3, 4, 5, 6, 7, 8], [250, 5, 60, 130, 255, 0, 90, 128], [64, 128, 192, 0, 32, 96], [9, 99, 199, 249]]

theorem own_of_blk {w : World} {B b : Nat} {l : List Int} {cs : List Value} (h : Blk w b cs 3) (hcs : cs = cellsI l) (hB : B ≤ b) (hl : l.length ≤ maxLen) : w.ownsRow B 3 1 (.slice (some ⟨b, 0, none⟩) l.length l.length) l.length (cellsI l) := by
  subst hcs
  refine ⟨by simp [cellsI], .inr ⟨b, l.length, (cellsI l).toArray, rfl, hB, h, Nat.le_refl _, hl, by simp [cellsI], ?_⟩⟩
  rw [Nat.mul_one]
  show (cellsI l).take l.length = cellsI l
  rw [List.take_of_length_le (by rw [cellsI_length]; exact Nat.le_refl _)]

theorem Cu_blk {w w' : World} {b g : Nat} {cs : List Value} {t : TypeId} (h : Blk w b cs t) (hg : w.grownBy w' (some g)) (hne : b ≠ g) : Blk w' b cs t := by
  have hlt := h.lt
  unfold Blk at h ⊢
  rw [hg.block b hlt (fun e => hne (by simpa using e))]
  exact h

/-- What drawn ids of a ring leave. -/
def StartR (B g : Nat) (w : World) (e : Ending) (w' : World) : Prop := ∃ v l, l ∈ starts ∧ e = .returned v ∧ w'.ownsRow w.heap.size 3 1 v l.length (cellsI l) ∧ Cur B w' g ∧ w.grownBy w' (some g)

set_option maxHeartbeats 2000000 in
theorem start_calls (B g : Nat) (w : World) (hc : Cur B w g) :
    Calls Tryz.prog 24 #[.pointer (some ⟨g, 0, none⟩)] w fun e w' => StartR B g w e w' := by
  have hgw := hc.2.1
  have b0 := Blk.new w #[.int .i64 10, .int .i64 80, .int .i64 150, .int .i64 220, .int .i64 30, .int .i64 100, .int .i64 200, .int .i64 250] 3
  replace b0 := b0.below ((Below.refl _ _).alloc (Nat.le_refl _) (.cells #[.int .i64 1, .int .i64 2, .int .i64 3, .int .i64 4, .int .i64 5, .int .i64 6, .int .i64 7, .int .i64 8] 3)) b0.lt
  replace b0 := b0.below ((Below.refl _ _).alloc (Nat.le_refl _) (.cells #[.int .i64 250, .int .i64 5, .int .i64 60, .int .i64 130, .int .i64 255, .int .i64 0, .int .i64 90, .int .i64 128] 3)) b0.lt
  replace b0 := b0.below ((Below.refl _ _).alloc (Nat.le_refl _) (.cells #[.int .i64 64, .int .i64 128, .int .i64 192, .int .i64 0, .int .i64 32, .int .i64 96] 3)) b0.lt
  replace b0 := b0.below ((Below.refl _ _).alloc (Nat.le_refl _) (.cells #[.int .i64 9, .int .i64 99, .int .i64 199, .int .i64 249] 3)) b0.lt
  replace b0 := b0.below ((Below.refl _ _).alloc (Nat.le_refl _) (.cells #[.slice (some ⟨w.heap.size, 0, none⟩) 8 8, .slice (some ⟨w.heap.size + 1, 0, none⟩) 8 8, .slice (some ⟨w.heap.size + 2, 0, none⟩) 8 8, .slice (some ⟨w.heap.size + 3, 0, none⟩) 6 6, .slice (some ⟨w.heap.size + 4, 0, none⟩) 4 4] 24)) b0.lt
  have b1 := Blk.new (w.alloc (.cells #[.int .i64 10, .int .i64 80, .int .i64 150, .int .i64 220, .int .i64 30, .int .i64 100, .int .i64 200, .int .i64 250] 3)) #[.int .i64 1, .int .i64 2, .int .i64 3, .int .i64 4, .int .i64 5, .int .i64 6, .int .i64 7, .int .i64 8] 3
  rw [show (w.alloc (.cells #[.int .i64 10, .int .i64 80, .int .i64 150, .int .i64 220, .int .i64 30, .int .i64 100, .int .i64 200, .int .i64 250] 3)).heap.size = w.heap.size + 1 from by simp [go_sem]] at b1
  replace b1 := b1.below ((Below.refl _ _).alloc (Nat.le_refl _) (.cells #[.int .i64 250, .int .i64 5, .int .i64 60, .int .i64 130, .int .i64 255, .int .i64 0, .int .i64 90, .int .i64 128] 3)) b1.lt
  replace b1 := b1.below ((Below.refl _ _).alloc (Nat.le_refl _) (.cells #[.int .i64 64, .int .i64 128, .int .i64 192, .int .i64 0, .int .i64 32, .int .i64 96] 3)) b1.lt
  replace b1 := b1.below ((Below.refl _ _).alloc (Nat.le_refl _) (.cells #[.int .i64 9, .int .i64 99, .int .i64 199, .int .i64 249] 3)) b1.lt
  replace b1 := b1.below ((Below.refl _ _).alloc (Nat.le_refl _) (.cells #[.slice (some ⟨w.heap.size, 0, none⟩) 8 8, .slice (some ⟨w.heap.size + 1, 0, none⟩) 8 8, .slice (some ⟨w.heap.size + 2, 0, none⟩) 8 8, .slice (some ⟨w.heap.size + 3, 0, none⟩) 6 6, .slice (some ⟨w.heap.size + 4, 0, none⟩) 4 4] 24)) b1.lt
  have b2 := Blk.new ((w.alloc (.cells #[.int .i64 10, .int .i64 80, .int .i64 150, .int .i64 220, .int .i64 30, .int .i64 100, .int .i64 200, .int .i64 250] 3)).alloc (.cells #[.int .i64 1, .int .i64 2, .int .i64 3, .int .i64 4, .int .i64 5, .int .i64 6, .int .i64 7, .int .i64 8] 3)) #[.int .i64 250, .int .i64 5, .int .i64 60, .int .i64 130, .int .i64 255, .int .i64 0, .int .i64 90, .int .i64 128] 3
  rw [show ((w.alloc (.cells #[.int .i64 10, .int .i64 80, .int .i64 150, .int .i64 220, .int .i64 30, .int .i64 100, .int .i64 200, .int .i64 250] 3)).alloc (.cells #[.int .i64 1, .int .i64 2, .int .i64 3, .int .i64 4, .int .i64 5, .int .i64 6, .int .i64 7, .int .i64 8] 3)).heap.size = w.heap.size + 2 from by simp [go_sem]] at b2
  replace b2 := b2.below ((Below.refl _ _).alloc (Nat.le_refl _) (.cells #[.int .i64 64, .int .i64 128, .int .i64 192, .int .i64 0, .int .i64 32, .int .i64 96] 3)) b2.lt
  replace b2 := b2.below ((Below.refl _ _).alloc (Nat.le_refl _) (.cells #[.int .i64 9, .int .i64 99, .int .i64 199, .int .i64 249] 3)) b2.lt
  replace b2 := b2.below ((Below.refl _ _).alloc (Nat.le_refl _) (.cells #[.slice (some ⟨w.heap.size, 0, none⟩) 8 8, .slice (some ⟨w.heap.size + 1, 0, none⟩) 8 8, .slice (some ⟨w.heap.size + 2, 0, none⟩) 8 8, .slice (some ⟨w.heap.size + 3, 0, none⟩) 6 6, .slice (some ⟨w.heap.size + 4, 0, none⟩) 4 4] 24)) b2.lt
  have b3 := Blk.new (((w.alloc (.cells #[.int .i64 10, .int .i64 80, .int .i64 150, .int .i64 220, .int .i64 30, .int .i64 100, .int .i64 200, .int .i64 250] 3)).alloc (.cells #[.int .i64 1, .int .i64 2, .int .i64 3, .int .i64 4, .int .i64 5, .int .i64 6, .int .i64 7, .int .i64 8] 3)).alloc (.cells #[.int .i64 250, .int .i64 5, .int .i64 60, .int .i64 130, .int .i64 255, .int .i64 0, .int .i64 90, .int .i64 128] 3)) #[.int .i64 64, .int .i64 128, .int .i64 192, .int .i64 0, .int .i64 32, .int .i64 96] 3
  rw [show (((w.alloc (.cells #[.int .i64 10, .int .i64 80, .int .i64 150, .int .i64 220, .int .i64 30, .int .i64 100, .int .i64 200, .int .i64 250] 3)).alloc (.cells #[.int .i64 1, .int .i64 2, .int .i64 3, .int .i64 4, .int .i64 5, .int .i64 6, .int .i64 7, .int .i64 8] 3)).alloc (.cells #[.int .i64 250, .int .i64 5, .int .i64 60, .int .i64 130, .int .i64 255, .int .i64 0, .int .i64 90, .int .i64 128] 3)).heap.size = w.heap.size + 3 from by simp [go_sem]] at b3
  replace b3 := b3.below ((Below.refl _ _).alloc (Nat.le_refl _) (.cells #[.int .i64 9, .int .i64 99, .int .i64 199, .int .i64 249] 3)) b3.lt
  replace b3 := b3.below ((Below.refl _ _).alloc (Nat.le_refl _) (.cells #[.slice (some ⟨w.heap.size, 0, none⟩) 8 8, .slice (some ⟨w.heap.size + 1, 0, none⟩) 8 8, .slice (some ⟨w.heap.size + 2, 0, none⟩) 8 8, .slice (some ⟨w.heap.size + 3, 0, none⟩) 6 6, .slice (some ⟨w.heap.size + 4, 0, none⟩) 4 4] 24)) b3.lt
  have b4 := Blk.new ((((w.alloc (.cells #[.int .i64 10, .int .i64 80, .int .i64 150, .int .i64 220, .int .i64 30, .int .i64 100, .int .i64 200, .int .i64 250] 3)).alloc (.cells #[.int .i64 1, .int .i64 2, .int .i64 3, .int .i64 4, .int .i64 5, .int .i64 6, .int .i64 7, .int .i64 8] 3)).alloc (.cells #[.int .i64 250, .int .i64 5, .int .i64 60, .int .i64 130, .int .i64 255, .int .i64 0, .int .i64 90, .int .i64 128] 3)).alloc (.cells #[.int .i64 64, .int .i64 128, .int .i64 192, .int .i64 0, .int .i64 32, .int .i64 96] 3)) #[.int .i64 9, .int .i64 99, .int .i64 199, .int .i64 249] 3
  rw [show ((((w.alloc (.cells #[.int .i64 10, .int .i64 80, .int .i64 150, .int .i64 220, .int .i64 30, .int .i64 100, .int .i64 200, .int .i64 250] 3)).alloc (.cells #[.int .i64 1, .int .i64 2, .int .i64 3, .int .i64 4, .int .i64 5, .int .i64 6, .int .i64 7, .int .i64 8] 3)).alloc (.cells #[.int .i64 250, .int .i64 5, .int .i64 60, .int .i64 130, .int .i64 255, .int .i64 0, .int .i64 90, .int .i64 128] 3)).alloc (.cells #[.int .i64 64, .int .i64 128, .int .i64 192, .int .i64 0, .int .i64 32, .int .i64 96] 3)).heap.size = w.heap.size + 4 from by simp [go_sem]] at b4
  replace b4 := b4.below ((Below.refl _ _).alloc (Nat.le_refl _) (.cells #[.slice (some ⟨w.heap.size, 0, none⟩) 8 8, .slice (some ⟨w.heap.size + 1, 0, none⟩) 8 8, .slice (some ⟨w.heap.size + 2, 0, none⟩) 8 8, .slice (some ⟨w.heap.size + 3, 0, none⟩) 6 6, .slice (some ⟨w.heap.size + 4, 0, none⟩) 4 4] 24)) b4.lt
  have bS := Blk.new (((((w.alloc (.cells #[.int .i64 10, .int .i64 80, .int .i64 150, .int .i64 220, .int .i64 30, .int .i64 100, .int .i64 200, .int .i64 250] 3)).alloc (.cells #[.int .i64 1, .int .i64 2, .int .i64 3, .int .i64 4, .int .i64 5, .int .i64 6, .int .i64 7, .int .i64 8] 3)).alloc (.cells #[.int .i64 250, .int .i64 5, .int .i64 60, .int .i64 130, .int .i64 255, .int .i64 0, .int .i64 90, .int .i64 128] 3)).alloc (.cells #[.int .i64 64, .int .i64 128, .int .i64 192, .int .i64 0, .int .i64 32, .int .i64 96] 3)).alloc (.cells #[.int .i64 9, .int .i64 99, .int .i64 199, .int .i64 249] 3)) #[.slice (some ⟨w.heap.size, 0, none⟩) 8 8, .slice (some ⟨w.heap.size + 1, 0, none⟩) 8 8, .slice (some ⟨w.heap.size + 2, 0, none⟩) 8 8, .slice (some ⟨w.heap.size + 3, 0, none⟩) 6 6, .slice (some ⟨w.heap.size + 4, 0, none⟩) 4 4] 24
  rw [show (((((w.alloc (.cells #[.int .i64 10, .int .i64 80, .int .i64 150, .int .i64 220, .int .i64 30, .int .i64 100, .int .i64 200, .int .i64 250] 3)).alloc (.cells #[.int .i64 1, .int .i64 2, .int .i64 3, .int .i64 4, .int .i64 5, .int .i64 6, .int .i64 7, .int .i64 8] 3)).alloc (.cells #[.int .i64 250, .int .i64 5, .int .i64 60, .int .i64 130, .int .i64 255, .int .i64 0, .int .i64 90, .int .i64 128] 3)).alloc (.cells #[.int .i64 64, .int .i64 128, .int .i64 192, .int .i64 0, .int .i64 32, .int .i64 96] 3)).alloc (.cells #[.int .i64 9, .int .i64 99, .int .i64 199, .int .i64 249] 3)).heap.size = w.heap.size + 5 from by simp [go_sem]] at bS
  have hb : Below w.heap.size w ((((((w.alloc (.cells #[.int .i64 10, .int .i64 80, .int .i64 150, .int .i64 220, .int .i64 30, .int .i64 100, .int .i64 200, .int .i64 250] 3)).alloc (.cells #[.int .i64 1, .int .i64 2, .int .i64 3, .int .i64 4, .int .i64 5, .int .i64 6, .int .i64 7, .int .i64 8] 3)).alloc (.cells #[.int .i64 250, .int .i64 5, .int .i64 60, .int .i64 130, .int .i64 255, .int .i64 0, .int .i64 90, .int .i64 128] 3)).alloc (.cells #[.int .i64 64, .int .i64 128, .int .i64 192, .int .i64 0, .int .i64 32, .int .i64 96] 3)).alloc (.cells #[.int .i64 9, .int .i64 99, .int .i64 199, .int .i64 249] 3)).alloc (.cells #[.slice (some ⟨w.heap.size, 0, none⟩) 8 8, .slice (some ⟨w.heap.size + 1, 0, none⟩) 8 8, .slice (some ⟨w.heap.size + 2, 0, none⟩) 8 8, .slice (some ⟨w.heap.size + 3, 0, none⟩) 6 6, .slice (some ⟨w.heap.size + 4, 0, none⟩) 4 4] 24)) := (((((((Below.refl w.heap.size w).alloc (Nat.le_refl _) _).alloc (by simp) _).alloc (by simp; omega) _).alloc (by simp; omega) _).alloc (by simp; omega) _).alloc (by simp; omega) _)
  have HC := hide (cur_below hc hb hgw)
  have HG := hide (grown_more (grown_refl w (some g)) hb (Nat.le_refl _))
  clear hc hb
  go_enter Tryz.func24, Tryz.ntmps24
  go_wp2_with fail
  generalize ((((((w.alloc (.cells #[.int .i64 10, .int .i64 80, .int .i64 150, .int .i64 220, .int .i64 30, .int .i64 100, .int .i64 200, .int .i64 250] 3)).alloc (.cells #[.int .i64 1, .int .i64 2, .int .i64 3, .int .i64 4, .int .i64 5, .int .i64 6, .int .i64 7, .int .i64 8] 3)).alloc (.cells #[.int .i64 250, .int .i64 5, .int .i64 60, .int .i64 130, .int .i64 255, .int .i64 0, .int .i64 90, .int .i64 128] 3)).alloc (.cells #[.int .i64 64, .int .i64 128, .int .i64 192, .int .i64 0, .int .i64 32, .int .i64 96] 3)).alloc (.cells #[.int .i64 9, .int .i64 99, .int .i64 199, .int .i64 249] 3)).alloc (.cells #[.slice (some ⟨w.heap.size, 0, none⟩) 8 8, .slice (some ⟨w.heap.size + 1, 0, none⟩) 8 8, .slice (some ⟨w.heap.size + 2, 0, none⟩) 8 8, .slice (some ⟨w.heap.size + 3, 0, none⟩) 6 6, .slice (some ⟨w.heap.size + 4, 0, none⟩) 4 4] 24)) = w6 at *
  refine (below_calls B g w6 HC.out 5 (by decide) (by decide)).mono ?_
  rintro e w7 ⟨x, hx, rfl, hc7, hg7⟩
  have HC7 := hide hc7
  have HG7 := hide (grown_trans HG.out hg7)
  have hsz : w.heap.size ≤ w7.heap.size := HG7.out.size
  have B0 := hide (Cu_blk b0 hg7 (by omega))
  have B1 := hide (Cu_blk b1 hg7 (by omega))
  have B2 := hide (Cu_blk b2 hg7 (by omega))
  have B3 := hide (Cu_blk b3 hg7 (by omega))
  have B4 := hide (Cu_blk b4 hg7 (by omega))
  have hS := Cu_blk bS hg7 (by omega)
  have lS := hS.lt
  clear hc7 hg7 HC HG b0 b1 b2 b3 b4 bS
  have h5 : x = 0 ∨ x = 1 ∨ x = 2 ∨ x = 3 ∨ x = 4 := by omega
  rcases h5 with rfl | rfl | rfl | rfl | rfl
  · have c5 : w7.cell? ⟨w.heap.size + 5, 0, none⟩ = some (.slice (some ⟨w.heap.size, 0, none⟩) 8 8) := by rw [hS.cell 0]; rfl
    clear hS
    go_wp2_with fail
    go_ret
    exact ⟨_, [10, 80, 150, 220, 30, 100, 200, 250], by decide, rfl, own_of_blk B0.out rfl (by omega) (by decide), HC7.out, HG7.out⟩
  · have c5 : w7.cell? ⟨w.heap.size + 5, 1, none⟩ = some (.slice (some ⟨w.heap.size + 1, 0, none⟩) 8 8) := by rw [hS.cell 1]; rfl
    clear hS
    go_wp2_with fail
    go_ret
    exact ⟨_, [1, 2, 3, 4, 5, 6, 7, 8], by decide, rfl, own_of_blk B1.out rfl (by omega) (by decide), HC7.out, HG7.out⟩
  · have c5 : w7.cell? ⟨w.heap.size + 5, 2, none⟩ = some (.slice (some ⟨w.heap.size + 2, 0, none⟩) 8 8) := by rw [hS.cell 2]; rfl
    clear hS
    go_wp2_with fail
    go_ret
    exact ⟨_, [250, 5, 60, 130, 255, 0, 90, 128], by decide, rfl, own_of_blk B2.out rfl (by omega) (by decide), HC7.out, HG7.out⟩
  · have c5 : w7.cell? ⟨w.heap.size + 5, 3, none⟩ = some (.slice (some ⟨w.heap.size + 3, 0, none⟩) 6 6) := by rw [hS.cell 3]; rfl
    clear hS
    go_wp2_with fail
    go_ret
    exact ⟨_, [64, 128, 192, 0, 32, 96], by decide, rfl, own_of_blk B3.out rfl (by omega) (by decide), HC7.out, HG7.out⟩
  · have c5 : w7.cell? ⟨w.heap.size + 5, 4, none⟩ = some (.slice (some ⟨w.heap.size + 4, 0, none⟩) 4 4) := by rw [hS.cell 4]; rfl
    clear hS
    go_wp2_with fail
    go_ret
    exact ⟨_, [9, 99, 199, 249], by decide, rfl, own_of_blk B4.out rfl (by omega) (by decide), HC7.out, HG7.out⟩

set_option maxHeartbeats 400000 in
theorem drawIds_calls (w : World) (a : Option Addr) (len cap : Nat) (hc : Cu.Code w.heap.size w (.slice a len cap) len) :
    Calls Tryz.prog 5 #[.slice a len cap] w fun e w' => ∃ v l, l ∈ starts ∧ e = .returned v ∧ w'.ownsRow w.heap.size 3 1 v l.length (cellsI l) ∧ Below w.heap.size w w' := by
  have HC := hide hc
  clear hc
  go_enter Tryz.func5, Tryz.ntmps5
  go_wp2_with fail
  refine (new_calls _ a len cap HC.out).mono ?_
  rintro e w1 ⟨rfl, hc1, hb1⟩
  have HC1 := hide hc1
  have HB1 := hide hb1
  clear hc1 hb1
  go_wp2_with fail
  refine (start_calls _ _ w1 HC1.out).mono ?_
  rintro e w2 ⟨v, l, hl, rfl, ho, hc2, hg2⟩
  have HL := hide hl
  have HO := hide (own_mono ho HB1.out.size)
  have HB := hide (HB1.out.trans (below_of_grown hg2 (Nat.le_refl _) HB1.out.size))
  clear hl ho hc2 hg2 HB1 HC1 HC
  go_wp2_with fail
  go_ret
  exact ⟨_, l, HL.out, rfl, HO.out, HB.out⟩

end Go.Proofs.YteladljgnbfcnaaGreat.P8
