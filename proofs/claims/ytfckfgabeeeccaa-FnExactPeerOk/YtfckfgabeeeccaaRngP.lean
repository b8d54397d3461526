/- A ring of numbers as plain mathematics: how far from one to another, between whom, whose a key is, who stands behind; no condition. -/
namespace Go.Proofs.Ytfckfgabeeeccaa.P8

/-- How far it is from f to t. -/
def ahd (f t : Int) : Nat := ((t - f) % 256).toNat

theorem ahd_cast (f t : Int) : ((ahd f t : Nat) : Int) = (t - f) % 256 := by unfold ahd; omega
theorem ahd_lt (f t : Int) : ahd f t < 256 := by unfold ahd; omega
theorem ahd_self (f : Int) : ahd f f = 0 := by unfold ahd; omega

/-- Whether x comes behind a and not behind b. -/
def btw (a x b : Int) : Bool := decide (0 < ahd a x) && decide (ahd a x ≤ if ahd a b = 0 then 256 else ahd a b)

theorem ahd_zero_iff (a b : Int) : ahd a b = 0 ↔ a % 256 = b % 256 := by unfold ahd; omega

theorem btw_same {a x b : Int} (h : a % 256 = b % 256) : btw a x b = decide (ahd a x ≠ 0) := by
  have h0 := (ahd_zero_iff a b).2 h
  have h1 := ahd_lt a x
  unfold btw
  rw [if_pos h0]
  by_cases h2 : ahd a x = 0
  · simp [h2]
  · have h3 : 0 < ahd a x := by omega
    have h4 : ahd a x ≤ 256 := by omega
    simp [h2, h3, h4]

theorem btw_unlike {a x b : Int} (h : ¬ a % 256 = b % 256) : btw a x b = (decide (0 < ahd a x) && decide (ahd a x ≤ ahd a b)) := by
  have h0 : ¬ ahd a b = 0 := fun e => h ((ahd_zero_iff a b).1 e)
  unfold btw
  rw [if_neg h0]

/-- The better one of those so far and the next. -/
def ownStep (key : Int) (o : Option Int) (x : Int) : Option Int :=
  match o with
  | none => some x
  | some b => if ahd key x < ahd key b then some x else some b

def best (key : Int) (l : List Int) : Option Int := l.foldl (ownStep key) none

def ownerOf (key : Int) (l : List Int) : Int := (best key l).getD (-1)

theorem best_snoc (key : Int) (l : List Int) (x : Int) : best key (l ++ [x]) = ownStep key (best key l) x := by simp [best]

/-- Each once, as they stand. -/
def nub : List Int → List Int := List.foldl (fun acc x => if x ∈ acc then acc else acc ++ [x]) []

theorem nub_snoc (l : List Int) (x : Int) : nub (l ++ [x]) = if x ∈ nub l then nub l else nub l ++ [x] := by unfold nub; rw [List.foldl_append]; rfl

theorem snoc_ind {P : List Int → Prop} (h0 : P []) (h1 : ∀ l x, P l → P (l ++ [x])) (l : List Int) : P l := by
  have : ∀ n (l : List Int), l.length = n → P l := by
    intro n
    induction n with
    | zero => intro l hl; rw [List.eq_nil_of_length_eq_zero hl]; exact h0
    | succ n ih =>
      intro l hl
      have hne : l ≠ [] := by intro h; simp [h] at hl
      obtain ⟨m, y, rfl⟩ : ∃ m y, l = m ++ [y] := ⟨l.dropLast, l.getLast hne, (List.dropLast_concat_getLast hne).symm⟩
      exact h1 _ _ (ih _ (by simpa using hl))
  exact this _ l rfl

theorem mem_nub (l : List Int) : ∀ x, x ∈ nub l ↔ x ∈ l := by
  refine snoc_ind (P := fun l => ∀ x, x ∈ nub l ↔ x ∈ l) ?_ ?_ l
  · simp [nub]
  · intro l y ih x
    rw [nub_snoc]
    by_cases h : y ∈ nub l
    · rw [if_pos h, ih, List.mem_append, List.mem_singleton]
      exact ⟨.inl, fun h' => h'.elim id (fun e => e ▸ (ih y).1 h)⟩
    · rw [if_neg h, List.mem_append, List.mem_append, ih]

theorem nub_length (l : List Int) : (nub l).length ≤ l.length := by
  refine snoc_ind (P := fun l => (nub l).length ≤ l.length) ?_ ?_ l
  · simp [nub]
  · intro l y ih
    rw [nub_snoc]
    by_cases h : y ∈ nub l
    · rw [if_pos h]; simp; omega
    · rw [if_neg h]; simp; omega

theorem best_least (key : Int) (l : List Int) : ∀ x ∈ l, ∃ b, best key l = some b ∧ ahd key b ≤ ahd key x := by
  refine snoc_ind (P := fun l => ∀ x ∈ l, ∃ b, best key l = some b ∧ ahd key b ≤ ahd key x) ?_ ?_ l
  · intro x hx; cases hx
  · intro l y ih x hx
    rw [best_snoc]
    cases hb : best key l with
    | none =>
      simp only [List.mem_append, List.mem_singleton] at hx
      rcases hx with hx | rfl
      · obtain ⟨b, hb', _⟩ := ih x hx
        rw [hb] at hb'; cases hb'
      · exact ⟨x, rfl, Nat.le_refl _⟩
    | some b =>
      have hlt : ∀ c, ahd key b ≤ ahd key c ∨ c = y → ∃ d, ownStep key (some b) y = some d ∧ ahd key d ≤ ahd key c := by
        intro c hc
        unfold ownStep
        dsimp only
        split
        · rename_i h
          refine ⟨y, rfl, ?_⟩
          rcases hc with hc | rfl
          · omega
          · omega
        · rename_i h
          refine ⟨b, rfl, ?_⟩
          rcases hc with hc | rfl
          · omega
          · omega
      simp only [List.mem_append, List.mem_singleton] at hx
      rcases hx with hx | rfl
      · obtain ⟨b', hb', hle⟩ := ih x hx
        rw [hb] at hb'; cases hb'
        exact hlt x (.inl hle)
      · exact hlt x (.inr rfl)

theorem best_nub (key : Int) (l : List Int) : best key (nub l) = best key l := by
  refine snoc_ind (P := fun l => best key (nub l) = best key l) rfl ?_ l
  intro l x ih
  rw [nub_snoc, best_snoc]
  by_cases h : x ∈ nub l
  · rw [if_pos h, ih]
    obtain ⟨b, hb, hle⟩ := best_least key (nub l) x h
    rw [ih] at hb
    rw [hb]
    unfold ownStep
    dsimp only
    rw [if_neg (by omega)]
  · rw [if_neg h, best_snoc, ih]

/-- Put in ahead of the first one that is further. -/
def ins (a x : Int) : List Int → List Int
  | [] => [x]
  | y :: l => if ahd a x < ahd a y then x :: y :: l else y :: ins a x l

def ordStep (a : Int) (out : List Int) (x : Int) : List Int := if x = a ∨ x ∈ out then out else ins a x out

def ordered (a : Int) (l : List Int) : List Int := l.foldl (ordStep a) []

theorem ordered_snoc (a : Int) (l : List Int) (x : Int) : ordered a (l ++ [x]) = ordStep a (ordered a l) x := by simp [ordered]

/-- Those that are d behind a. -/
def row (a : Int) (l : List Int) (d : Nat) : List Int := l.filter fun x => decide (x ≠ a) && decide (ahd a x = d)

def rows (a : Int) (l : List Int) : List Int := (List.range 256).flatMap (row a l)

theorem row_snoc (a : Int) (l : List Int) (x : Int) (d : Nat) : row a (l ++ [x]) d = if x ≠ a ∧ ahd a x = d then row a l d ++ [x] else row a l d := by
  unfold row
  rw [List.filter_append]
  by_cases h1 : x = a
  · simp [h1]
  · by_cases h2 : ahd a x = d
    · simp [h1, h2]
    · simp [h1, h2]

theorem row_length (a : Int) (l : List Int) (d : Nat) : (row a l d).length ≤ l.length := List.length_filter_le _ _

theorem mem_rows (a : Int) (l : List Int) (x : Int) : x ∈ rows a l ↔ x ∈ l ∧ x ≠ a := by
  unfold rows row
  simp only [List.mem_flatMap, List.mem_range, List.mem_filter, Bool.and_eq_true, decide_eq_true_eq]
  constructor
  · rintro ⟨d, _, h1, h2, _⟩
    exact ⟨h1, h2⟩
  · rintro ⟨h1, h2⟩
    exact ⟨ahd a x, ahd_lt a x, h1, h2, rfl⟩

theorem flat_congr {f g : Nat → List Int} : ∀ {ds : List Nat}, (∀ d ∈ ds, f d = g d) → ds.flatMap f = ds.flatMap g := by
  intro ds
  induction ds with
  | nil => intro _; rfl
  | cons d ds ih =>
    intro h
    rw [List.flatMap_cons, List.flatMap_cons, h d (by simp), ih (fun e he => h e (by simp [he]))]

theorem ins_skip (a x : Int) : ∀ (l m : List Int), (∀ y ∈ l, ahd a y ≤ ahd a x) → ins a x (l ++ m) = l ++ ins a x m := by
  intro l
  induction l with
  | nil => intro m _; rfl
  | cons y l ih =>
    intro m h
    have h1 := h y (by simp)
    show (if ahd a x < ahd a y then _ else y :: ins a x (l ++ m)) = _
    rw [if_neg (by omega), ih m (fun z hz => h z (by simp [hz]))]
    rfl

theorem ins_head (a x : Int) : ∀ (m : List Int), (∀ y ∈ m, ahd a x < ahd a y) → ins a x m = x :: m := by
  intro m h
  cases m with
  | nil => rfl
  | cons y m =>
    show (if ahd a x < ahd a y then _ else _) = _
    rw [if_pos (h y (by simp))]

theorem mem_row {a : Int} {l : List Int} {d : Nat} {y : Int} (h : y ∈ row a l d) : ahd a y = d := by
  unfold row at h
  simp only [List.mem_filter, Bool.and_eq_true, decide_eq_true_eq] at h
  exact h.2.2

theorem rows_split (a : Int) (l : List Int) (d : Nat) (hd : d < 256) : rows a l = (List.range d).flatMap (row a l) ++ (row a l d ++ (List.range' (d + 1) (255 - d)).flatMap (row a l)) := by
  have h : List.range 256 = List.range d ++ (d :: List.range' (d + 1) (255 - d)) := by
    rw [List.range_eq_range', List.range_eq_range']
    have e1 : 256 = d + (255 - d + 1) := by omega
    have e2 := @List.range'_append_1 0 d (255 - d + 1)
    rw [← e1, Nat.zero_add] at e2
    rw [← e2]
    rfl
  unfold rows
  rw [h, List.flatMap_append, List.flatMap_cons]

theorem rows_ins (a x : Int) (l : List Int) (hx : x ≠ a) : rows a (l ++ [x]) = ins a x (rows a l) := by
  have hd := ahd_lt a x
  rw [rows_split a (l ++ [x]) (ahd a x) hd, rows_split a l (ahd a x) hd]
  have e1 : (List.range (ahd a x)).flatMap (row a (l ++ [x])) = (List.range (ahd a x)).flatMap (row a l) := by
    refine flat_congr fun d h => ?_
    have := List.mem_range.1 h
    rw [row_snoc, if_neg (by omega)]
  have e2 : (List.range' (ahd a x + 1) (255 - ahd a x)).flatMap (row a (l ++ [x])) = (List.range' (ahd a x + 1) (255 - ahd a x)).flatMap (row a l) := by
    refine flat_congr fun d h => ?_
    have := List.mem_range'_1.1 h
    rw [row_snoc, if_neg (by omega)]
  rw [e1, e2, row_snoc, if_pos ⟨hx, rfl⟩, ins_skip, ins_skip, ins_head]
  · simp
  · intro y hy
    obtain ⟨d, hd1, hy1⟩ := List.mem_flatMap.1 hy
    have := List.mem_range'_1.1 hd1
    rw [mem_row hy1]
    omega
  · intro y hy
    rw [mem_row hy]
    exact Nat.le_refl _
  · intro y hy
    obtain ⟨d, hd1, hy1⟩ := List.mem_flatMap.1 hy
    have := List.mem_range.1 hd1
    rw [mem_row hy1]
    omega

theorem rows_self (a : Int) (l : List Int) : rows a (l ++ [a]) = rows a l := by
  unfold rows
  refine flat_congr fun d _ => ?_
  rw [row_snoc, if_neg (by simp)]

theorem rows_ordered (a : Int) (l : List Int) : rows a (nub l) = ordered a l := by
  refine snoc_ind (P := fun l => rows a (nub l) = ordered a l) ?_ ?_ l
  · show (List.range 256).flatMap (row a []) = []
    rw [List.flatMap_eq_nil_iff]
    intro d _
    rfl
  · intro l x ih
    rw [ordered_snoc, ← ih, nub_snoc]
    unfold ordStep
    by_cases hx : x = a
    · subst hx
      rw [if_pos (Or.inl rfl : x = x ∨ x ∈ rows x (nub l))]
      split
      · rfl
      · exact rows_self _ _
    · by_cases hm : x ∈ nub l
      · rw [if_pos hm, if_pos (.inr ((mem_rows a _ x).2 ⟨hm, hx⟩))]
      · rw [if_neg hm, if_neg (fun h => h.elim hx (fun h => hm ((mem_rows a _ x).1 h).1))]
        exact rows_ins a x _ hx

theorem ins_length (a x : Int) : ∀ l : List Int, (ins a x l).length = l.length + 1 := by
  intro l
  induction l with
  | nil => rfl
  | cons y l ih =>
    unfold ins
    split
    · simp
    · simp [ih]

theorem ordered_length (a : Int) (l : List Int) : (ordered a l).length ≤ l.length := by
  refine snoc_ind (P := fun l => (ordered a l).length ≤ l.length) (by simp [ordered]) ?_ l
  intro l x ih
  rw [ordered_snoc]
  unfold ordStep
  split
  · simp; omega
  · rw [ins_length]; simp; omega

end Go.Proofs.Ytfckfgabeeeccaa.P8
