/- Chapter 7 as plain mathematics: steps, proofs, the proof that is made, the words in it; what is proved is so; no condition.
Chapter 7: the proof that is made is right, of words of the list alone, and no longer than the facts; no condition.
Rows of records of any cells: a list of lists of cells; read and written record by record; no condition.
Rows of steps in memory: read where they came in, owned where a call made them; no condition. -/
import Derived.Test.YthafpkpmnhgmaaaZQ
import Derived.Test.YthafpkpmnhgmaaaZM
namespace Go.Proofs.Ythafpkpmnhgmaaa.P7
open P5 P6

/-- A step: its word, its fact, the places of steps ahead. -/
structure St where
  c : Cr
  f : Fa
  fr : List Int
deriving DecidableEq

def St.zero : St := ⟨Cr.zero, ⟨0, 0, 0⟩, []⟩

/-- The fact at a place. -/
def fa (l : List St) (k : Int) : Fa := (l.getD k.toNat St.zero).f

/-- Does one of the places named, ahead of i, show a fact? -/
def shown (l : List St) (fr : List Int) (i : Int) (f : Fa) : Bool := fr.any fun x => decide ((0 ≤ x ∧ x ≤ i - 1) ∧ fa l x = f)

/-- Are the places that a step names what its kind wants? -/
def fits (l : List St) (s : St) (i : Int) : Bool :=
  if s.c.k = 1 then decide (s.f.w = s.c.wh ∧ s.fr.length = 0)
  else if s.c.k = 2 then decide (s.fr.length = 1) && shown l s.fr i ⟨s.c.aw, s.c.an, s.f.w⟩
  else if s.c.k = 4 then decide (s.fr.length = 2) && decide (fa l (s.fr.getD 0 0) = ⟨s.c.aw, s.c.an, s.f.w⟩) && decide (fa l (s.fr.getD 1 0) = ⟨s.c.bw, s.c.bn, s.f.w⟩)
  else decide (s.fr.length = 2) && decide ((fa l (s.fr.getD 0 0)).a = s.c.aw ∧ (fa l (s.fr.getD 0 0)).b = s.c.an) && decide (fa l (s.fr.getD 1 0) = ⟨(fa l (s.fr.getD 0 0)).w, s.c.bn, s.f.w⟩)

/-- What StepOk answers at a place that is there. -/
def okAt (l : List St) (s : St) (i : Int) : Bool := decide (credOk s.c) && decide (s.f.a = s.c.ow ∧ s.f.b = s.c.on) && s.fr.all (fun x => decide (0 ≤ x ∧ x ≤ i - 1)) && fits l s i

/-- What StepOk answers. -/
def stepOk (l : List St) (i : Int) : Bool := decide (0 ≤ i ∧ i ≤ (l.length : Int) - 1) && okAt l (l.getD i.toNat St.zero) i

/-- What ProofOk answers. -/
def proofOk (l : List St) (a b who : Int) : Bool :=
  decide (1 ≤ l.length ∧ l.length ≤ 200) && decide ((l.getD (l.length - 1) St.zero).f = ⟨a, b, who⟩) && (List.range l.length).all fun i => stepOk l (i : Int)

/-- The words of steps, each once. -/
def putC (l : List Cr) (c : Cr) : List Cr := if c ∈ l then l else l ++ [c]
def credsIn (l : List St) : List Cr := l.foldl (fun o s => putC o s.c) []

theorem credsIn_snoc (l : List St) (s : St) : credsIn (l ++ [s]) = putC (credsIn l) s.c := by simp [credsIn, List.foldl_append]

theorem credsIn_take (l : List St) (i : Nat) (h : i < l.length) : credsIn (l.take (i + 1)) = putC (credsIn (l.take i)) l[i].c := by
  rw [List.take_succ_eq_append_getElem h, credsIn_snoc]

theorem mem_putC {l : List Cr} {c x : Cr} : x ∈ putC l c ↔ x ∈ l ∨ x = c := by
  unfold putC
  split
  · rename_i h
    constructor
    · exact .inl
    · rintro (h' | rfl)
      · exact h'
      · exact h
  · simp

theorem mem_credsIn {l : List St} {c : Cr} : c ∈ credsIn l ↔ ∃ s ∈ l, s.c = c := by
  refine snoc_ind (p := fun l => c ∈ credsIn l ↔ ∃ s ∈ l, s.c = c) (by simp [credsIn]) (fun l s ih => ?_) l
  rw [credsIn_snoc, mem_putC, ih]
  constructor
  · rintro (⟨x, hx, h⟩ | h)
    · exact ⟨x, by simp [hx], h⟩
    · exact ⟨s, by simp, h.symm⟩
  · rintro ⟨x, hx, h⟩
    rcases List.mem_append.1 hx with hx | hx
    · exact .inl ⟨x, hx, h⟩
    · rw [List.mem_singleton.1 hx] at h
      exact .inr h.symm

theorem credsIn_le (l : List St) : (credsIn l).length ≤ l.length := by
  refine snoc_ind (p := fun l => (credsIn l).length ≤ l.length) (by simp [credsIn]) (fun l s ih => ?_) l
  rw [credsIn_snoc]
  unfold putC
  split
  · simp; omega
  · simp; omega

theorem getD_lt {l : List St} {i : Nat} (h : i < l.length) : l.getD i St.zero = l[i] := by simp [List.getD_eq_getElem?_getD, h]

/-- What a step that is right tells follows from facts that hold all that it names. -/
theorem okAt_tells {l : List St} {s : St} {i : Int} (h : okAt l s i = true) {S : Fa → Prop} (hS : ∀ x ∈ s.fr, S (fa l x)) : credOk s.c ∧ Tells S s.c s.f ∧ ∀ x ∈ s.fr, 0 ≤ x ∧ x < i := by
  simp only [okAt, Bool.and_eq_true, decide_eq_true_eq, List.all_eq_true] at h
  obtain ⟨⟨⟨hok, hof⟩, hall⟩, hf⟩ := h
  refine ⟨hok, ⟨hof.1, hof.2, ?_⟩, fun x hx => by have := hall x hx; omega⟩
  have hk := hok.2
  unfold P5.kindOk at hk
  have hk4 : s.c.k = 1 ∨ s.c.k = 2 ∨ s.c.k = 3 ∨ s.c.k = 4 := by
    rcases hk with ⟨h, _⟩ | ⟨h, _⟩ | ⟨h, _⟩ | ⟨h, _⟩ <;> omega
  unfold fits at hf
  rcases hk4 with h1 | h1 | h1 | h1
  · rw [if_pos h1] at hf
    exact .inl ⟨h1, (of_decide_eq_true hf).1⟩
  · rw [if_neg (by omega), if_pos h1] at hf
    simp only [Bool.and_eq_true, decide_eq_true_eq, shown, List.any_eq_true] at hf
    obtain ⟨_, x, hx, _, he⟩ := hf
    refine .inr (.inl ⟨h1, ?_⟩)
    have := hS x hx
    rwa [he] at this
  · rw [if_neg (by omega), if_neg (by omega), if_neg (by omega)] at hf
    simp only [Bool.and_eq_true, decide_eq_true_eq] at hf
    obtain ⟨⟨hl, h2⟩, h3⟩ := hf
    match hfr : s.fr, hl with
    | [x, y], _ =>
      rw [hfr] at h2 h3 hS
      simp only [List.getD_cons_zero, List.getD_cons_succ] at h2 h3
      refine .inr (.inr (.inl ⟨h1, (fa l x).w, ?_, ?_⟩))
      · have := hS x (by simp)
        rw [← h2.1, ← h2.2]
        exact this
      · have := hS y (by simp)
        rwa [h3] at this
  · rw [if_neg (by omega), if_neg (by omega), if_pos h1] at hf
    simp only [Bool.and_eq_true, decide_eq_true_eq] at hf
    obtain ⟨⟨hl, h2⟩, h3⟩ := hf
    match hfr : s.fr, hl with
    | [x, y], _ =>
      rw [hfr] at h2 h3 hS
      simp only [List.getD_cons_zero, List.getD_cons_succ] at h2 h3
      refine .inr (.inr (.inr ⟨h1, ?_, ?_⟩))
      · have := hS x (by simp)
        rwa [h2] at this
      · have := hS y (by simp)
        rwa [h3] at this

/-- What is proved is so, by its words alone. -/
theorem proofOk_sound {l : List St} {a b who : Int} (h : proofOk l a b who = true) : (⟨a, b, who⟩ : Fa) ∈ factsOf (credsIn l) := by
  simp only [proofOk, Bool.and_eq_true, decide_eq_true_eq, List.all_eq_true, List.mem_range] at h
  obtain ⟨⟨⟨h1, _⟩, hlast⟩, hall⟩ := h
  have key : ∀ n (hn : n < l.length), l[n].f ∈ factsOf (credsIn l) := by
    intro n
    induction n using Nat.strongRecOn with
    | _ n ih =>
      intro hn
      have h2 := hall n hn
      simp only [stepOk, Bool.and_eq_true] at h2
      have h3 := h2.2
      rw [show ((n : Int)).toNat = n from by omega, getD_lt hn] at h3
      have hpl : ∀ x ∈ l[n].fr, 0 ≤ x ∧ x < (n : Int) := by
        have h4 := h3
        simp only [okAt, Bool.and_eq_true, List.all_eq_true, decide_eq_true_eq] at h4
        intro x hx
        have := h4.1.2 x hx
        omega
      have hS : ∀ x ∈ l[n].fr, fa l x ∈ factsOf (credsIn l) := fun x hx => by
        have := hpl x hx
        have hx' : x.toNat < l.length := by omega
        unfold fa
        rw [getD_lt hx']
        exact ih x.toNat (by omega) hx'
      obtain ⟨hok, ht, _⟩ := okAt_tells h3 (S := (· ∈ factsOf (credsIn l))) hS
      exact factsOf_shut (credsIn l) l[n].c (mem_credsIn.2 ⟨l[n], List.getElem_mem hn, rfl⟩) hok _ ht
  have hlt : l.length - 1 < l.length := by omega
  rw [getD_lt hlt] at hlast
  rw [← hlast]
  exact key _ hlt

/-- The place of the first step that shows a fact. -/
def at_ (l : List St) (f : Fa) : Int := match l.findIdx? (fun s => decide (s.f = f)) with
  | some i => (i : Int)
  | none => -1

/-- The places by which a fact follows from a word, of the steps ahead. -/
def from_ (l : List St) (c : Cr) (who : Int) : List Int :=
  if c.k = 2 then [at_ l ⟨c.aw, c.an, who⟩]
  else if c.k = 4 then [at_ l ⟨c.aw, c.an, who⟩, at_ l ⟨c.bw, c.bn, who⟩]
  else if c.k = 3 then (match l.findIdx? (fun s => decide ((s.f.a = c.aw ∧ s.f.b = c.an) ∧ 0 ≤ at_ l ⟨s.f.w, c.bn, who⟩)) with
    | some i => [(i : Int), at_ l ⟨(fa l (i : Int)).w, c.bn, who⟩]
    | none => [])
  else []

/-- The facts of steps. -/
def facts (l : List St) : List Fa := l.map (·.f)

/-- One word more: steps for all that it tells. -/
def stp (S : List St) (c : Cr) : List St := S ++ ((follows (facts S) c).drop S.length).map fun f => ⟨c, f, from_ S c f.w⟩

theorem facts_stp (S : List St) (c : Cr) : facts (stp S c) = follows (facts S) c := by
  unfold stp facts
  rw [List.map_append, List.map_map]
  have h := follows_prefix (S.map (·.f)) c
  obtain ⟨t, ht⟩ := h
  have e1 : (follows (S.map (·.f)) c).drop S.length = t := by
    rw [← ht]
    simp
  show S.map (·.f) ++ ((follows (S.map (·.f)) c).drop S.length).map ((·.f) ∘ fun f => (⟨c, f, from_ S c f.w⟩ : St)) = _
  rw [e1]
  conv => rhs; rw [← ht]
  congr 1
  simp [Function.comp_def]

def roundS (list : List Cr) (S : List St) : List St := list.foldl stp S

theorem facts_round : ∀ (list : List Cr) (S : List St), facts (roundS list S) = round list (facts S)
  | [], _ => rfl
  | c :: list, S => by
    show facts (roundS list (stp S c)) = round list (follows (facts S) c)
    rw [facts_round, facts_stp]

def stepsN (list : List Cr) : Nat → List St
  | 0 => []
  | n + 1 => roundS list (stepsN list n)

theorem facts_steps (list : List Cr) : ∀ n, facts (stepsN list n) = factsN list n
  | 0 => rfl
  | n + 1 => by
    show facts (roundS list (stepsN list n)) = round list (factsN list n)
    rw [facts_round, facts_steps list n]

/-- Steps for all facts. -/
def allS (list : List Cr) : List St := stepsN list 145

theorem facts_all (list : List Cr) : facts (allS list) = factsOf list := facts_steps list 145

theorem stp_same {S : List St} {c : Cr} (h : follows (facts S) c = facts S) : stp S c = S := by
  unfold stp
  rw [h]
  simp [facts]

theorem roundS_prefix : ∀ (list : List Cr) (S : List St), S <+: roundS list S
  | [], S => List.prefix_refl S
  | c :: list, S => (show S <+: stp S c from List.prefix_append _ _).trans (roundS_prefix list (stp S c))

theorem stepsN_still {list : List Cr} {n : Nat} (h : Still list n) : roundS list (stepsN list n) = stepsN list n := by
  have h1 : facts (roundS list (stepsN list n)) = facts (stepsN list n) := by
    rw [facts_round, facts_steps]
    exact h
  exact prefix_same (roundS_prefix list _) (by
    have := congrArg List.length h1
    simp only [facts, List.length_map] at this
    omega)

theorem stepsN_later {list : List Cr} {n : Nat} (h : Still list n) : ∀ j, stepsN list (n + j) = stepsN list n
  | 0 => rfl
  | j + 1 => by
    show roundS list (stepsN list (n + j)) = _
    rw [stepsN_later h j]
    exact stepsN_still h

theorem allS_eq {list : List Cr} {n : Nat} (h : Still list n) : stepsN list n = allS list := by
  have h145 : Still list 145 := factsOf_still list
  rcases Nat.le_total n 145 with hle | hle
  · have := stepsN_later h (145 - n)
    rw [show n + (145 - n) = 145 by omega] at this
    exact this.symm
  · have := stepsN_later h145 (n - 145)
    rw [show 145 + (n - 145) = n by omega] at this
    exact this

theorem allS_le (list : List Cr) : (allS list).length ≤ 144 := by
  have := congrArg List.length (facts_all list)
  simp only [facts, List.length_map] at this
  have := factsOf_le list
  omega

/-- Which steps are wanted: from the end down. -/
def wantF (l : List St) (W : Nat → Bool) (i : Nat) : Nat → Bool := fun j => W j || (W i && decide ((j : Int) ∈ (l.getD i St.zero).fr))

/-- The steps from e down to e - n + 1 have been gone through. -/
def wants (l : List St) (e : Nat) : Nat → Nat → Bool
  | 0 => fun j => decide (j = e)
  | n + 1 => wantF l (wants l e n) (e - n)

/-- How many are wanted ahead of a place. -/
def ren (W : Nat → Bool) (i : Nat) : Nat := ((List.range i).filter W).length

/-- The steps that are wanted, with their places told anew. -/
def trim (l : List St) (W : Nat → Bool) (n : Nat) : List St := ((List.range n).filter W).map fun i => ⟨(l.getD i St.zero).c, (l.getD i St.zero).f, (l.getD i St.zero).fr.map fun x => ((ren W x.toNat : Nat) : Int)⟩

/-- What ProofOf answers. -/
def proofOf (list : List Cr) (a b who : Int) : List St × Bool := match (allS list).findIdx? (fun s => decide (s.f = ⟨a, b, who⟩)) with
  | some e => (trim (allS list) (wants (allS list) e (e + 1)) (e + 1), true)
  | none => ([], false)
end Go.Proofs.Ythafpkpmnhgmaaa.P7
namespace Go.Proofs.Ythafpkpmnhgmaaa.P7
open P5 P6

theorem fa_lt {l : List St} {i : Nat} (h : i < l.length) : fa l (i : Int) = l[i].f := by
  unfold fa
  rw [Int.toNat_natCast, getD_lt h]

theorem facts_length (l : List St) : (facts l).length = l.length := by simp [facts]

theorem facts_get {l : List St} {i : Nat} (h : i < l.length) : (facts l)[i]'(by rw [facts_length]; exact h) = l[i].f := by simp [facts]

/-- Where a fact is shown, its first place shows it. -/
theorem at_mem {l : List St} {f : Fa} (h : f ∈ facts l) : ∃ k : Nat, at_ l f = (k : Int) ∧ k < l.length ∧ fa l (k : Int) = f := by
  obtain ⟨s, hs, rfl⟩ := List.mem_map.1 h
  unfold at_
  cases he : l.findIdx? (fun t => decide (t.f = s.f)) with
  | none => exact absurd (List.findIdx?_eq_none_iff.1 he s hs) (by simp)
  | some k =>
    obtain ⟨hk, h1, _⟩ := List.findIdx?_eq_some_iff_getElem.1 he
    exact ⟨k, rfl, hk, (fa_lt hk).trans (of_decide_eq_true h1)⟩

theorem at_pos {l : List St} {f : Fa} (h : 0 ≤ at_ l f) : f ∈ facts l := by
  unfold at_ at h
  cases he : l.findIdx? (fun t => decide (t.f = f)) with
  | none =>
    rw [he] at h
    exact absurd h (by decide)
  | some k =>
    obtain ⟨hk, h1, _⟩ := List.findIdx?_eq_some_iff_getElem.1 he
    exact List.mem_map.2 ⟨l[k], List.getElem_mem hk, of_decide_eq_true h1⟩

/-- What a step's rightness says looks only at the facts of the places that it names. -/
theorem okAt_same {l m : List St} {s : St} {i : Int} (hl : ∀ x ∈ s.fr, fa l x = fa m x) (h : okAt l s i = true) : okAt m s i = true := by
  unfold okAt at h ⊢
  rw [Bool.and_eq_true] at h ⊢
  refine ⟨h.1, ?_⟩
  have h2 := h.2
  unfold fits at h2 ⊢
  by_cases k1 : s.c.k = 1
  · rw [if_pos k1] at h2 ⊢
    exact h2
  · rw [if_neg k1] at h2 ⊢
    by_cases k2 : s.c.k = 2
    · rw [if_pos k2] at h2 ⊢
      simp only [Bool.and_eq_true, shown, List.any_eq_true, decide_eq_true_eq] at h2 ⊢
      obtain ⟨h3, x, hx, h4, h5⟩ := h2
      exact ⟨h3, x, hx, h4, (hl x hx).symm.trans h5⟩
    · rw [if_neg k2] at h2 ⊢
      have key : s.fr.length = 2 → fa l (s.fr.getD 0 0) = fa m (s.fr.getD 0 0) ∧ fa l (s.fr.getD 1 0) = fa m (s.fr.getD 1 0) := by
        intro h2
        match hf : s.fr, h2 with
        | [x, y], _ =>
          rw [hf] at hl
          exact ⟨hl x (by simp), hl y (by simp)⟩
      by_cases k4 : s.c.k = 4
      · rw [if_pos k4] at h2 ⊢
        simp only [Bool.and_eq_true, decide_eq_true_eq] at h2 ⊢
        obtain ⟨⟨h3, h4⟩, h5⟩ := h2
        obtain ⟨e1, e2⟩ := key h3
        rw [← e1, ← e2]
        exact ⟨⟨h3, h4⟩, h5⟩
      · rw [if_neg k4] at h2 ⊢
        simp only [Bool.and_eq_true, decide_eq_true_eq] at h2 ⊢
        obtain ⟨⟨h3, h4⟩, h5⟩ := h2
        obtain ⟨e1, e2⟩ := key h3
        rw [← e1, ← e2]
        exact ⟨⟨h3, h4⟩, h5⟩

theorem okAt_fr {l : List St} {s : St} {i : Int} (h : okAt l s i = true) : ∀ x ∈ s.fr, 0 ≤ x ∧ x < i := by
  simp only [okAt, Bool.and_eq_true, List.all_eq_true, decide_eq_true_eq] at h
  intro x hx
  have := h.1.2 x hx
  omega

/-- A step that is made of what follows is right. -/
theorem okAt_from {S : List St} {c : Cr} {f : Fa} {i : Int} (hi : (S.length : Int) ≤ i) (hc : credOk c) (ht : Tells (· ∈ facts S) c f) : okAt S ⟨c, f, from_ S c f.w⟩ i = true := by
  obtain ⟨h1, h2, h3⟩ := ht
  have hfits : (∀ x ∈ from_ S c f.w, 0 ≤ x ∧ x ≤ i - 1) ∧ fits S ⟨c, f, from_ S c f.w⟩ i = true := by
    rcases h3 with ⟨hk, hw⟩ | ⟨hk, hm⟩ | ⟨hk, x, hx, hy⟩ | ⟨hk, hx, hy⟩
    · have e : from_ S c f.w = [] := by
        unfold from_
        rw [if_neg (by omega), if_neg (by omega), if_neg (by omega)]
      rw [e]
      refine ⟨by simp, ?_⟩
      unfold fits
      rw [if_pos hk]
      simp [hw]
    · obtain ⟨k, e1, hk1, e2⟩ := at_mem hm
      have e : from_ S c f.w = [(k : Int)] := by
        unfold from_
        rw [if_pos hk, e1]
      rw [e]
      refine ⟨by intro x hx; rw [List.mem_singleton.1 hx]; omega, ?_⟩
      unfold fits
      rw [if_neg (by show ¬ c.k = 1; omega), if_pos hk]
      simp only [shown, List.any_cons, List.any_nil, Bool.or_false, Bool.and_eq_true, decide_eq_true_eq]
      exact ⟨rfl, by omega, e2⟩
    · have e : ∃ j k : Nat, from_ S c f.w = [(j : Int), (k : Int)] ∧ j < S.length ∧ k < S.length ∧ ((fa S (j : Int)).a = c.aw ∧ (fa S (j : Int)).b = c.an) ∧ fa S (k : Int) = ⟨(fa S (j : Int)).w, c.bn, f.w⟩ := by
        unfold from_
        rw [if_neg (by omega), if_neg (by omega), if_pos hk]
        obtain ⟨s, hs, hsf⟩ := List.mem_map.1 hx
        cases he : S.findIdx? (fun s => decide ((s.f.a = c.aw ∧ s.f.b = c.an) ∧ 0 ≤ at_ S ⟨s.f.w, c.bn, f.w⟩)) with
        | none =>
          have := List.findIdx?_eq_none_iff.1 he s hs
          rw [decide_eq_false_iff_not] at this
          refine absurd ⟨?_, ?_⟩ this
          · rw [hsf]; exact ⟨rfl, rfl⟩
          · rw [hsf]
            obtain ⟨k, e1, _⟩ := at_mem hy
            rw [e1]
            omega
        | some j =>
          obtain ⟨hj, h4, _⟩ := List.findIdx?_eq_some_iff_getElem.1 he
          obtain ⟨h5, h6⟩ := of_decide_eq_true h4
          obtain ⟨k, e1, hk1, e2⟩ := at_mem (at_pos h6)
          rw [← fa_lt hj] at h5 e1 e2
          refine ⟨j, k, ?_, hj, hk1, h5, e2⟩
          show [(j : Int), at_ S ⟨(fa S (j : Int)).w, c.bn, f.w⟩] = _
          rw [e1]
      obtain ⟨j, k, e, hj, hk1, h5, h6⟩ := e
      rw [e]
      refine ⟨by intro x hx; simp only [List.mem_cons, List.not_mem_nil, or_false] at hx; rcases hx with rfl | rfl <;> omega, ?_⟩
      unfold fits
      rw [if_neg (by show ¬ c.k = 1; omega), if_neg (by show ¬ c.k = 2; omega), if_neg (by show ¬ c.k = 4; omega)]
      simp only [Bool.and_eq_true, decide_eq_true_eq, List.getD_cons_zero, List.getD_cons_succ]
      exact ⟨⟨rfl, h5⟩, h6⟩
    · obtain ⟨j, e1, hj, e2⟩ := at_mem hx
      obtain ⟨k, e3, hk1, e4⟩ := at_mem hy
      have e : from_ S c f.w = [(j : Int), (k : Int)] := by
        unfold from_
        rw [if_neg (by omega), if_pos hk, e1, e3]
      rw [e]
      refine ⟨by intro x hx; simp only [List.mem_cons, List.not_mem_nil, or_false] at hx; rcases hx with rfl | rfl <;> omega, ?_⟩
      unfold fits
      rw [if_neg (by show ¬ c.k = 1; omega), if_neg (by show ¬ c.k = 2; omega), if_pos hk]
      simp only [Bool.and_eq_true, decide_eq_true_eq, List.getD_cons_zero, List.getD_cons_succ]
      exact ⟨⟨rfl, e2⟩, e4⟩
  unfold okAt
  simp only [Bool.and_eq_true, decide_eq_true_eq, List.all_eq_true]
  exact ⟨⟨⟨hc, h1, h2⟩, hfits.1⟩, hfits.2⟩

/-- All steps are right, and of words of the list; no fact is there twice. -/
structure Good (list : List Cr) (S : List St) : Prop where
  ok : ∀ n (h : n < S.length), okAt S S[n] (n : Int) = true
  of : ∀ s ∈ S, s.c ∈ list
  one : (facts S).Nodup

theorem fa_prefix {S T : List St} (h : S <+: T) {x : Int} (h0 : 0 ≤ x) (h1 : x < (S.length : Int)) : fa T x = fa S x := by
  obtain ⟨t, rfl⟩ := h
  unfold fa
  congr 1
  have : x.toNat < S.length := by omega
  simp [List.getD_eq_getElem?_getD, List.getElem?_append_left this]

theorem Good.stp {list : List Cr} {S : List St} (h : Good list S) {c : Cr} (hc : c ∈ list) : Good list (stp S c) := by
  have hp : S <+: P7.stp S c := List.prefix_append _ _
  have hnd : (facts (P7.stp S c)).Nodup := by rw [facts_stp]; exact follows_nodup h.one c
  refine ⟨fun n hn => ?_, fun s hs => ?_, hnd⟩
  · rcases Nat.lt_or_ge n S.length with hlt | hge
    · have e : (P7.stp S c)[n] = S[n] := by
        unfold P7.stp
        exact List.getElem_append_left hlt
      rw [e]
      refine okAt_same (fun x hx => ?_) (h.ok n hlt)
      obtain ⟨h0, h1⟩ := okAt_fr (h.ok n hlt) x hx
      exact (fa_prefix hp h0 (by omega)).symm
    · have e : ∃ f, f ∈ (follows (facts S) c).drop S.length ∧ (P7.stp S c)[n] = ⟨c, f, from_ S c f.w⟩ := by
        have h1 : (P7.stp S c)[n] = (((follows (facts S) c).drop S.length).map fun f => (⟨c, f, from_ S c f.w⟩ : St))[n - S.length]'(by
            have : n < (S ++ ((follows (facts S) c).drop S.length).map fun f => (⟨c, f, from_ S c f.w⟩ : St)).length := hn
            rw [List.length_append] at this
            omega) := by
          unfold P7.stp
          exact List.getElem_append_right hge
        rw [h1, List.getElem_map]
        exact ⟨_, List.getElem_mem _, rfl⟩
      obtain ⟨f, hf, e⟩ := e
      rw [e]
      have hnot : f ∉ facts S := by
        intro hin
        have h3 := follows_nodup h.one c
        obtain ⟨t, ht⟩ := follows_prefix (facts S) c
        rw [← ht] at h3 hf
        have e2 : (facts S ++ t).drop S.length = t := by
          rw [← facts_length S]
          simp
        rw [e2] at hf
        exact (List.nodup_append.1 h3).2.2 f hin f hf rfl
      have hfm : f ∈ follows (facts S) c := List.mem_of_mem_drop hf
      rcases mem_follows.1 hfm with h4 | ⟨hok, ht⟩
      · exact absurd h4 hnot
      · have h5 := okAt_from (S := S) (i := (n : Int)) (by omega) hok ht
        refine okAt_same (fun x hx => ?_) h5
        have h6 : 0 ≤ x ∧ x < (S.length : Int) := okAt_fr (okAt_from (S := S) (i := (S.length : Int)) (by omega) hok ht) x hx
        exact (fa_prefix hp h6.1 h6.2).symm
  · rcases List.mem_append.1 hs with h1 | h1
    · exact h.of s h1
    · obtain ⟨f, _, rfl⟩ := List.mem_map.1 h1
      exact hc

theorem Good.round {list : List Cr} : ∀ (more : List Cr) {S : List St}, Good list S → (∀ c ∈ more, c ∈ list) → Good list (roundS more S)
  | [], _, h, _ => h
  | c :: more, S, h, hm => Good.round more (S := P7.stp S c) (h.stp (hm c (by simp))) (fun d hd => hm d (by simp [hd]))

theorem good_steps (list : List Cr) : ∀ n, Good list (stepsN list n)
  | 0 => ⟨fun n h => absurd h (by simp [stepsN]), by simp [stepsN], by simp [stepsN, facts]⟩
  | n + 1 => Good.round list (good_steps list n) (fun _ h => h)

theorem good_all (list : List Cr) : Good list (allS list) := good_steps list 145

/-- The steps that are wanted hold all that they name. -/
theorem wants_mono (l : List St) (e n : Nat) {j : Nat} (h : wants l e n j = true) : wants l e (n + 1) j = true := by
  show wantF l (wants l e n) (e - n) j = true
  simp [wantF, h]

theorem wants_shut {l : List St} (hl : ∀ n (h : n < l.length), ∀ x ∈ l[n].fr, 0 ≤ x ∧ x < (n : Int)) {e : Nat} (he : e < l.length) : ∀ n, n ≤ e + 1 → ∀ i (hi : i < l.length), i ≤ e → e < i + n → wants l e n i = true → ∀ x ∈ l[i].fr, wants l e n x.toNat = true
  | 0, _, i, _, h1, h2, _, _, _ => by omega
  | n + 1, hn, i, hi, h1, h2, hw, x, hx => by
    have hd : e - n < l.length := by omega
    have hw' : wants l e n i = true := by
      have : wantF l (wants l e n) (e - n) i = true := hw
      simp only [wantF, Bool.or_eq_true, Bool.and_eq_true, decide_eq_true_eq] at this
      rcases this with h | ⟨_, h⟩
      · exact h
      · rw [getD_lt hd] at h
        have := hl (e - n) hd _ h
        omega
    rcases Nat.lt_or_ge (e - n) i with hlt | hge
    · exact wants_mono l e n (wants_shut hl he n (by omega) i hi h1 (by omega) hw' x hx)
    · have hi' : i = e - n := by omega
      subst hi'
      show wantF l (wants l e n) (e - n) x.toNat = true
      have h0 := hl _ hi x hx
      simp only [wantF, Bool.or_eq_true, Bool.and_eq_true, decide_eq_true_eq]
      refine .inr ⟨hw', ?_⟩
      rw [getD_lt hd, show ((x.toNat : Nat) : Int) = x from by omega]
      exact hx

theorem wants_end (l : List St) (e : Nat) : ∀ n, wants l e n e = true
  | 0 => by simp [wants]
  | n + 1 => wants_mono l e n (wants_end l e n)

/-- The place of a wanted one. -/
theorem ren_at (W : Nat → Bool) {i n : Nat} (hi : i < n) (hw : W i = true) : ((List.range n).filter W)[ren W i]? = some i := by
  have e : List.range n = List.range i ++ (i :: (List.range (n - i - 1)).map (i + 1 + ·)) := by
    have h1 : List.range n = List.range (i + (n - i)) := by congr 1; omega
    rw [h1, List.range_add]
    congr 1
    obtain ⟨m, hm⟩ : ∃ m, n - i = m + 1 := ⟨n - i - 1, by omega⟩
    rw [hm, List.range_succ_eq_map]
    simp only [List.map_cons, Nat.add_zero, List.map_map, Nat.add_sub_cancel]
    congr 1
    apply List.map_congr_left
    intro a _
    simp only [Function.comp]
    omega
  unfold ren
  rw [e, List.filter_append, List.getElem?_append_right (Nat.le_refl _)]
  simp [hw]

theorem ren_lt (W : Nat → Bool) {i j : Nat} (h : i < j) (hw : W i = true) : ren W i < ren W j := by
  have := ren_at W h hw
  obtain ⟨h1, _⟩ := List.getElem?_eq_some_iff.1 this
  exact h1

theorem trim_length (l : List St) (W : Nat → Bool) (n : Nat) : (trim l W n).length = ren W n := by simp [trim, ren]

/-- A wanted step, told anew. -/
def anew (W : Nat → Bool) (s : St) : St := ⟨s.c, s.f, s.fr.map fun x => ((ren W x.toNat : Nat) : Int)⟩

theorem trim_at (l : List St) (W : Nat → Bool) {i n : Nat} (hi : i < n) (hl : i < l.length) (hw : W i = true) : (trim l W n)[ren W i]? = some (anew W l[i]) := by
  unfold trim
  rw [List.getElem?_map, ren_at W hi hw]
  simp only [Option.map_some, getD_lt hl]
  rfl

theorem trim_has (l : List St) (W : Nat → Bool) {n k : Nat} (h : k < (trim l W n).length) : ∃ i, i < n ∧ W i = true ∧ k = ren W i := by
  have h1 : k < ((List.range n).filter W).length := by simpa [trim] using h
  have hm := List.getElem_mem h1
  obtain ⟨h2, h3⟩ := List.mem_filter.1 hm
  have h2' := List.mem_range.1 h2
  refine ⟨_, h2', h3, ?_⟩
  have h4 := ren_at W h2' h3
  obtain ⟨h5, h6⟩ := List.getElem?_eq_some_iff.1 h4
  have hnd : ((List.range n).filter W).Nodup := List.Pairwise.filter _ List.nodup_range
  rcases Nat.lt_trichotomy k (ren W (((List.range n).filter W)[k])) with hlt | heq | hgt
  · exact absurd h6.symm (List.pairwise_iff_getElem.1 hnd _ _ h1 h5 hlt)
  · exact heq
  · exact absurd h6 (List.pairwise_iff_getElem.1 hnd _ _ h5 h1 hgt)

theorem trim_fa (l : List St) (W : Nat → Bool) {i n : Nat} (hi : i < n) (hl : i < l.length) (hw : W i = true) : fa (trim l W n) ((ren W i : Nat) : Int) = l[i].f := by
  unfold fa
  rw [Int.toNat_natCast, List.getD_eq_getElem?_getD, trim_at l W hi hl hw]
  rfl

/-- A right step stays right where its places are told anew. -/
theorem okAt_anew {l : List St} {W : Nat → Bool} {n i : Nat} (hn : n ≤ l.length) (hi : i < n) (hok : okAt l l[i] (i : Int) = true) (hsh : ∀ x ∈ l[i].fr, W x.toNat = true) : okAt (trim l W n) (anew W l[i]) ((ren W i : Nat) : Int) = true := by
  have hil : i < l.length := by omega
  have hfr := okAt_fr hok
  have hfa : ∀ x ∈ l[i].fr, fa (trim l W n) ((ren W x.toNat : Nat) : Int) = fa l x := fun x hx => by
    have h1 := hfr x hx
    rw [trim_fa l W (show x.toNat < n by omega) (show x.toNat < l.length by omega) (hsh x hx), ← fa_lt (show x.toNat < l.length by omega), show ((x.toNat : Nat) : Int) = x from by omega]
  have hlt : ∀ x ∈ l[i].fr, ren W x.toNat < ren W i := fun x hx => ren_lt W (by have := hfr x hx; omega) (hsh x hx)
  generalize l[i] = s at *
  simp only [okAt, Bool.and_eq_true, decide_eq_true_eq, List.all_eq_true] at hok ⊢
  obtain ⟨⟨⟨h1, h2⟩, h3⟩, h4⟩ := hok
  refine ⟨⟨⟨h1, h2⟩, fun y hy => ?_⟩, ?_⟩
  · obtain ⟨x, hx, rfl⟩ := List.mem_map.1 hy
    have := hlt x hx
    omega
  · have key : s.fr.length = 2 → (anew W s).fr.length = 2 ∧ fa (trim l W n) ((anew W s).fr.getD 0 0) = fa l (s.fr.getD 0 0) ∧ fa (trim l W n) ((anew W s).fr.getD 1 0) = fa l (s.fr.getD 1 0) := by
      intro h2
      obtain ⟨c, f, fr⟩ := s
      match fr, h2 with
      | [x, y], _ => exact ⟨rfl, hfa x (by simp), hfa y (by simp)⟩
    unfold fits at h4 ⊢
    split at h4
    · rename_i hk
      rw [if_pos (show (anew W s).c.k = 1 from hk)]
      simp only [decide_eq_true_eq] at h4 ⊢
      refine ⟨h4.1, ?_⟩
      simp only [anew, List.length_map]
      exact h4.2
    · rename_i hk1
      rw [if_neg (show ¬ (anew W s).c.k = 1 from hk1)]
      split at h4
      · rename_i hk
        rw [if_pos (show (anew W s).c.k = 2 from hk)]
        simp only [Bool.and_eq_true, shown, List.any_eq_true, decide_eq_true_eq] at h4 ⊢
        obtain ⟨h5, x, hx, h6, h7⟩ := h4
        refine ⟨by simp only [anew, List.length_map]; exact h5, _, List.mem_map.2 ⟨x, hx, rfl⟩, ?_, (hfa x hx).trans h7⟩
        have := hlt x hx
        omega
      · rename_i hk2
        rw [if_neg (show ¬ (anew W s).c.k = 2 from hk2)]
        split at h4
        · rename_i hk
          rw [if_pos (show (anew W s).c.k = 4 from hk)]
          simp only [Bool.and_eq_true, decide_eq_true_eq] at h4 ⊢
          obtain ⟨⟨h5, h6⟩, h7⟩ := h4
          obtain ⟨k0, k1, k2⟩ := key h5
          rw [k1, k2]
          exact ⟨⟨k0, h6⟩, h7⟩
        · rename_i hk
          rw [if_neg (show ¬ (anew W s).c.k = 4 from hk)]
          simp only [Bool.and_eq_true, decide_eq_true_eq] at h4 ⊢
          obtain ⟨⟨h5, h6⟩, h7⟩ := h4
          obtain ⟨k0, k1, k2⟩ := key h5
          rw [k1, k2]
          exact ⟨⟨k0, h6⟩, h7⟩

theorem ren_le (W : Nat → Bool) (n : Nat) : ren W n ≤ n := by
  have := List.length_filter_le W (List.range n)
  rw [List.length_range] at this
  exact this

/-- What is so is proved; what is not is not. -/
theorem proofOf_ok (list : List Cr) (a b who : Int) : (proofOf list a b who).2 = decide ((⟨a, b, who⟩ : Fa) ∈ factsOf list) := by
  unfold proofOf
  cases he : (allS list).findIdx? (fun s => decide (s.f = ⟨a, b, who⟩)) with
  | none =>
    symm
    rw [decide_eq_false_iff_not, ← facts_all]
    intro h
    obtain ⟨s, hs, h1⟩ := List.mem_map.1 h
    have := List.findIdx?_eq_none_iff.1 he s hs
    rw [h1] at this
    simp at this
  | some e =>
    obtain ⟨hk, h1, _⟩ := List.findIdx?_eq_some_iff_getElem.1 he
    symm
    rw [decide_eq_true_eq, ← facts_all]
    exact List.mem_map.2 ⟨_, List.getElem_mem hk, of_decide_eq_true h1⟩

theorem proofOf_none {list : List Cr} {a b who : Int} (h : (proofOf list a b who).2 = false) : (proofOf list a b who).1 = [] := by
  unfold proofOf at h ⊢
  cases he : (allS list).findIdx? (fun s => decide (s.f = ⟨a, b, who⟩)) with
  | none => rfl
  | some e => rw [he] at h; cases h

/-- The proof that is made: right, of words of the list, no longer than the facts. -/
theorem proofOf_right {list : List Cr} {a b who : Int} (h : (⟨a, b, who⟩ : Fa) ∈ factsOf list) :
    proofOk (proofOf list a b who).1 a b who = true ∧ (∀ s ∈ (proofOf list a b who).1, s.c ∈ list) ∧ (proofOf list a b who).1.length ≤ (factsOf list).length ∧ ∀ i : Nat, i < (proofOf list a b who).1.length → stepOk (proofOf list a b who).1 (i : Int) = true := by
  have hok := (proofOf_ok list a b who).trans (decide_eq_true h)
  unfold proofOf at hok ⊢
  cases he : (allS list).findIdx? (fun s => decide (s.f = ⟨a, b, who⟩)) with
  | none => rw [he] at hok; cases hok
  | some e =>
    show proofOk (trim (allS list) (wants (allS list) e (e + 1)) (e + 1)) a b who = true ∧ (∀ s ∈ trim (allS list) (wants (allS list) e (e + 1)) (e + 1), s.c ∈ list) ∧ (trim (allS list) (wants (allS list) e (e + 1)) (e + 1)).length ≤ (factsOf list).length ∧ ∀ i : Nat, i < (trim (allS list) (wants (allS list) e (e + 1)) (e + 1)).length → stepOk (trim (allS list) (wants (allS list) e (e + 1)) (e + 1)) (i : Int) = true
    obtain ⟨hk, h1, _⟩ := List.findIdx?_eq_some_iff_getElem.1 he
    have h1 := of_decide_eq_true h1
    have hlen : (allS list).length = (factsOf list).length := by rw [← facts_all, facts_length]
    have hG := good_all list
    have h144 := allS_le list
    generalize hL : allS list = l at *
    have hfr : ∀ n (h : n < l.length), ∀ x ∈ l[n].fr, 0 ≤ x ∧ x < (n : Int) := fun n h => okAt_fr (hG.ok n h)
    have hsh := wants_shut hfr hk (e + 1) (Nat.le_refl _)
    have hend := wants_end l e (e + 1)
    generalize wants l e (e + 1) = W at *
    have hT := trim_length l W (e + 1)
    have hre := ren_le W (e + 1)
    have hlt : ren W e < ren W (e + 1) := ren_lt W (Nat.lt_succ_self e) hend
    have hsteps : ∀ i : Nat, i < (trim l W (e + 1)).length → stepOk (trim l W (e + 1)) (i : Int) = true := by
      intro k hk1
      obtain ⟨i, hi, hw, rfl⟩ := trim_has l W hk1
      have hil : i < l.length := by omega
      have h5 := okAt_anew (n := e + 1) (by omega) hi (hG.ok i hil) (hsh i hil (by omega) (by omega) hw)
      unfold stepOk
      rw [Bool.and_eq_true]
      refine ⟨decide_eq_true (by omega), ?_⟩
      rw [Int.toNat_natCast, List.getD_eq_getElem?_getD, trim_at l W hi hil hw]
      exact h5
    refine ⟨?_, fun s hs => ?_, by omega, hsteps⟩
    · unfold proofOk
      simp only [Bool.and_eq_true, decide_eq_true_eq, List.all_eq_true, List.mem_range]
      refine ⟨⟨⟨by omega, by omega⟩, ?_⟩, hsteps⟩
      have hlast : (trim l W (e + 1)).length - 1 = ren W e := by
        have : ren W (e + 1) = ren W e + 1 := by
          unfold ren
          rw [List.range_succ, List.filter_append]
          simp [hend]
        omega
      rw [hlast, List.getD_eq_getElem?_getD, trim_at l W (Nat.lt_succ_self e) hk hend]
      exact h1
    · obtain ⟨k, hk1, rfl⟩ := List.getElem_of_mem hs
      obtain ⟨i, hi, hw, rfl⟩ := trim_has l W hk1
      have hil : i < l.length := by omega
      have h5 := trim_at l W hi hil hw
      rw [List.getElem?_eq_some_iff] at h5
      obtain ⟨_, h6⟩ := h5
      rw [h6]
      exact hG.of l[i] (List.getElem_mem hil)
end Go.Proofs.Ythafpkpmnhgmaaa.P7
namespace Go.Proofs.Ythafpkpmnhgmaaa.Rr
open Go.RowKit P1 Rc

/-- So many cells written, from a place on. -/
def setMany {α : Type} : List α → Nat → List α → List α
  | X, _, [] => X
  | X, p, c :: cs => setMany (X.set p c) (p + 1) cs

theorem setMany_length {α : Type} : ∀ (cs X : List α) (p : Nat), (setMany X p cs).length = X.length
  | [], _, _ => rfl
  | c :: cs, X, p => by
    show (setMany (X.set p c) (p + 1) cs).length = _
    rw [setMany_length cs, List.length_set]

theorem setMany_skip {α : Type} : ∀ (cs r Y : List α) (p : Nat), setMany (r ++ Y) (r.length + p) cs = r ++ setMany Y p cs
  | [], _, _, _ => rfl
  | c :: cs, r, Y, p => by
    show setMany ((r ++ Y).set (r.length + p) c) (r.length + p + 1) cs = r ++ setMany (Y.set p c) (p + 1) cs
    rw [List.set_append_right _ _ (by omega), show r.length + p - r.length = p by omega, Nat.add_assoc]
    exact setMany_skip cs r (Y.set p c) (p + 1)

theorem setMany_here {α : Type} : ∀ (cs r Y : List α), r.length = cs.length → setMany (r ++ Y) 0 cs = cs ++ Y
  | [], [], _, _ => rfl
  | c :: cs, x :: r, Y, h => by
    show setMany ((x :: (r ++ Y)).set 0 c) (0 + 1) cs = c :: (cs ++ Y)
    rw [List.set_cons_zero]
    have := setMany_skip cs [c] (r ++ Y) 0
    simp only [List.length_singleton, List.singleton_append, Nat.add_zero] at this
    rw [Nat.zero_add, this, setMany_here cs r Y (by simpa using h)]

/-- A record written over in a row of records. -/
theorem flatten_set {α : Type} {n : Nat} : ∀ (R : List (List α)) (j : Nat) (cs : List α), (∀ r ∈ R, r.length = n) → cs.length = n → j < R.length → setMany R.flatten (j * n) cs = (R.set j cs).flatten
  | r :: R, 0, cs, h, hc, _ => by
    rw [Nat.zero_mul]
    show setMany (r ++ R.flatten) 0 cs = cs ++ R.flatten
    exact setMany_here cs r _ (by rw [h r (by simp), hc])
  | r :: R, j + 1, cs, h, hc, hj => by
    show setMany (r ++ R.flatten) ((j + 1) * n) cs = r ++ (R.set j cs).flatten
    have hr := h r (by simp)
    rw [show (j + 1) * n = r.length + j * n by rw [hr, Nat.add_mul, Nat.one_mul, Nat.add_comm], setMany_skip, flatten_set R j cs (fun x hx => h x (by simp [hx])) hc (by simpa using hj)]

theorem flatten_length {α : Type} {n : Nat} : ∀ (R : List (List α)), (∀ r ∈ R, r.length = n) → R.flatten.length = R.length * n
  | [], _ => by simp
  | r :: R, h => by
    have := flatten_length R (fun x hx => h x (by simp [hx]))
    simp only [List.flatten_cons, List.length_append, List.length_cons, this, h r (by simp), Nat.add_mul, Nat.one_mul]
    omega

theorem flatten_get {α : Type} {n : Nat} : ∀ (R : List (List α)) (j i : Nat) (r : List α), (∀ r ∈ R, r.length = n) → R[j]? = some r → i < n → R.flatten[j * n + i]? = r[i]?
  | x :: R, 0, i, r, h, hj, hi => by
    obtain rfl : x = r := by simpa using hj
    rw [List.flatten_cons, Nat.zero_mul, Nat.zero_add, List.getElem?_append_left (by rw [h x (by simp)]; exact hi)]
  | x :: R, j + 1, i, r, h, hj, hi => by
    have hx := h x (by simp)
    rw [List.flatten_cons, List.getElem?_append_right (by rw [hx, Nat.add_mul, Nat.one_mul]; omega), hx, ← flatten_get R j i r (fun y hy => h y (by simp [hy])) (by simpa using hj) hi]
    congr 1
    rw [Nat.add_mul, Nat.one_mul]
    omega

theorem flatten_replicate {α : Type} (x : List α) : ∀ n, (List.replicate n x).flatten = (List.replicate n x).flatten := fun _ => rfl

/-- What make leaves: the zero record, so many times. -/
theorem madeCells_recs (z : Array Value) (n : Nat) (hz : z.size = n) (hn : 0 < n) : ∀ m, (madeCells z (m * n)).toList = (List.replicate m z.toList).flatten := by
  intro m
  have hlen : ((List.replicate m z.toList).flatten).length = m * n := by
    rw [flatten_length (n := n) _ (fun r hr => by rw [List.eq_of_mem_replicate hr, Array.length_toList, hz]), List.length_replicate]
  apply List.ext_getElem?
  intro k
  rcases Nat.lt_or_ge k (m * n) with hk | hk
  · have h1 : k / n < m := (Nat.div_lt_iff_lt_mul hn).2 hk
    have h2 : k % n < n := Nat.mod_lt _ hn
    have h3 : k / n * n + k % n = k := by rw [Nat.mul_comm]; exact Nat.div_add_mod k n
    conv => rhs; rw [← h3]
    rw [flatten_get (n := n) _ (k / n) (k % n) z.toList (fun r hr => by rw [List.eq_of_mem_replicate hr, Array.length_toList, hz]) (by simp [h1]) h2]
    simp only [madeCells, Array.toList_map, List.getElem?_map, Array.toList_range, List.getElem?_range hk, Option.map_some]
    rw [hz, getElem!_pos z _ (by rw [hz]; exact h2)]
    simp [hz, h2]
  · rw [List.getElem?_eq_none (by simpa [madeCells] using hk), List.getElem?_eq_none (by rw [hlen]; exact hk)]
end Go.Proofs.Ythafpkpmnhgmaaa.Rr
namespace Go.Proofs.Ythafpkpmnhgmaaa.P7
open Go.RowKit P1 P5 P6 Rc Rr

/-- The numbers of a step. -/
def ints (s : St) : List Int := [s.c.k, s.c.ow, s.c.on, s.c.wh, s.c.aw, s.c.an, s.c.bw, s.c.bn, s.c.u, s.c.n, s.f.a, s.f.b, s.f.w]

/-- A step's cells: its numbers, and the slice of its places. -/
def stC (s : St) (v : Value) : List Value := (ints s).map (.int .i64 ·) ++ [v]

theorem rec_length (s : St) (v : Value) : (stC s v).length = 14 := rfl

/-- A step as a value. -/
abbrev stepV (s : St) (v : Value) : Value := .agg #[.int .i64 s.c.k, .int .i64 s.c.ow, .int .i64 s.c.on, .int .i64 s.c.wh, .int .i64 s.c.aw, .int .i64 s.c.an, .int .i64 s.c.bw, .int .i64 s.c.bn, .int .i64 s.c.u, .int .i64 s.c.n, .int .i64 s.f.a, .int .i64 s.f.b, .int .i64 s.f.w, v]

/-- v is a slice that reads as the steps l. -/
def StepsAt (w : World) (v : Value) (l : List St) : Prop :=
  ∃ a cap, v = .slice a l.length cap ∧ ∀ j (hj : j < l.length), ∃ g off, a = some ⟨g, off, none⟩ ∧ g < w.heap.size ∧
    (∀ i, i < 13 → w.cell? ⟨g, off + j * 14 + i, none⟩ = ((ints l[j])[i]?).map (.int .i64 ·)) ∧ ∃ u, w.cell? ⟨g, off + j * 14 + 13, none⟩ = some u ∧ IntsAt w u l[j].fr

theorem StepsAt.below {B : Nat} {w w' : World} {v : Value} {l : List St} (h : StepsAt w v l) (hb : Below B w w') (hB : w.heap.size ≤ B) : StepsAt w' v l := by
  obtain ⟨a, cap, h1, h2⟩ := h
  refine ⟨a, cap, h1, fun j hj => ?_⟩
  obtain ⟨g, off, h3, h4, h5, u, h6, h7⟩ := h2 j hj
  exact ⟨g, off, h3, Nat.lt_of_lt_of_le h4 hb.size, fun i hi => (hb.cell (p := ⟨g, off + j * 14 + i, none⟩) (by show g < B; omega)).trans (h5 i hi), u, (hb.cell (p := ⟨g, off + j * 14 + 13, none⟩) (by show g < B; omega)).trans h6, h7.below hb hB⟩

/-- The cells of steps whose places lie in the slices vs. -/
def recs (l : List St) (vs : List Value) : List (List Value) := List.zipWith stC l vs

theorem recs_all {l : List St} {vs : List Value} : ∀ r ∈ recs l vs, r.length = 14 := by
  intro r hr
  obtain ⟨i, hi, rfl⟩ := List.getElem_of_mem hr
  simp [recs, rec_length]

theorem recs_length {l : List St} {vs : List Value} (h : vs.length = l.length) : (recs l vs).length = l.length := by simp [recs, h]

theorem recs_get {l : List St} {vs : List Value} {j : Nat} {s : St} {u : Value} (h1 : l[j]? = some s) (h2 : vs[j]? = some u) : (recs l vs)[j]? = some (stC s u) := by
  simp [recs, List.getElem?_zipWith, h1, h2]

theorem recs_snoc {l : List St} {vs : List Value} (h : vs.length = l.length) (s : St) (u : Value) : recs (l ++ [s]) (vs ++ [u]) = recs l vs ++ [stC s u] := by
  unfold recs
  rw [List.zipWith_append (by omega)]
  rfl

/-- The steps l lie in a row that a call made, blocks B .. E - 1, and the places of each in a row of its own. -/
structure StepsOwn (w : World) (B E : Nat) (v : Value) (l : List St) (vs : List Value) : Prop where
  len : vs.length = l.length
  row : w.ownsRow B 95 14 v l.length (recs l vs).flatten
  top : ∀ g, v.ownBlock = some g → g < E
  froms : ∀ (j : Nat) (u : Value) (s : St), vs[j]? = some u → l[j]? = some s → w.ownsRow B 3 1 u s.fr.length (cellsI s.fr) ∧ ∀ g, u.ownBlock = some g → g < E
  apart : ∀ (i j : Nat) (u u' : Value) (g : Nat), i ≠ j → vs[i]? = some u → vs[j]? = some u' → u.ownBlock = some g → u'.ownBlock ≠ some g

/-- A row stays what it is while its block does. -/
theorem own_stay {w w' : World} {B : Nat} {e : TypeId} {size n : Nat} {v : Value} {xs : List Value} (h : w.ownsRow B e size v n xs) (hk : ∀ g, v.ownBlock = some g → w'.heap[g]? = w.heap[g]?) : w'.ownsRow B e size v n xs := by
  refine ⟨h.1, ?_⟩
  rcases h.2 with h1 | ⟨g, cap, cur, rfl, h2, h3, h4⟩
  · exact .inl h1
  · exact .inr ⟨g, cap, cur, rfl, h2, (hk g rfl).trans h3, h4⟩

theorem own_block {w : World} {B : Nat} {e : TypeId} {size n g : Nat} {v : Value} {xs : List Value} (h : w.ownsRow B e size v n xs) (hg : v.ownBlock = some g) : ∃ cur, w.heap[g]? = some (.cells cur e (0, 0)) ∧ B ≤ g ∧ g < w.heap.size := by
  rcases h.2 with ⟨rfl, _⟩ | ⟨g', cap, cur, rfl, h2, h3, _⟩
  · cases hg
  · have : g' = g := by simpa [Value.ownBlock] using hg
    subst this
    exact ⟨cur, h3, h2, (Array.getElem?_eq_some_iff.1 h3).1⟩

section
variable {w w' : World} {B E : Nat} {v : Value} {l : List St} {vs : List Value}

theorem StepsOwn.stay (h : StepsOwn w B E v l vs) (hk : ∀ g, B ≤ g → g < E → w'.heap[g]? = w.heap[g]?) : StepsOwn w' B E v l vs := by
  refine ⟨h.len, own_stay h.row (fun g hg => ?_), h.top, fun j u s hu hs => ?_, h.apart⟩
  · obtain ⟨_, _, h1, _⟩ := own_block h.row hg
    exact hk g h1 (h.top g hg)
  · obtain ⟨h1, h2⟩ := h.froms j u s hu hs
    refine ⟨own_stay h1 (fun g hg => ?_), h2⟩
    obtain ⟨_, _, h3, _⟩ := own_block h1 hg
    exact hk g h3 (h2 g hg)

theorem StepsOwn.below (h : StepsOwn w B E v l vs) (hb : Below w.heap.size w w') (hE : E ≤ w.heap.size) : StepsOwn w' B E v l vs := h.stay (fun g _ hg => hb.block g (by omega))

theorem StepsOwn.mono (h : StepsOwn w B E v l vs) {B' E' : Nat} (hB : B' ≤ B) (hE : E ≤ E') : StepsOwn w B' E' v l vs :=
  ⟨h.len, own_mono h.row hB, fun g hg => Nat.lt_of_lt_of_le (h.top g hg) hE, fun j u s hu hs => ⟨own_mono (h.froms j u s hu hs).1 hB, fun g hg => Nat.lt_of_lt_of_le ((h.froms j u s hu hs).2 g hg) hE⟩, h.apart⟩

theorem StepsOwn.read (h : StepsOwn w B E v l vs) : StepsAt w v l := by
  have h0 := h.row
  rcases h.row.2 with ⟨rfl, hn⟩ | ⟨g, cap, cur, rfl, h1, h2, -, -, -, -⟩
  · exact ⟨none, 0, by rw [hn], fun j hj => by omega⟩
  · refine ⟨_, cap, rfl, fun j hj => ?_⟩
    have hs : l[j]? = some l[j] := by simp [hj]
    have hjv : j < vs.length := by rw [h.len]; exact hj
    have hu : vs[j]? = some vs[j] := by simp [hjv]
    have hb1 : (j + 1) * 14 ≤ l.length * 14 := Nat.mul_le_mul_right _ hj
    refine ⟨g, 0, rfl, (Array.getElem?_eq_some_iff.1 h2).1, fun i hi => ?_, vs[j], ?_, IntsAt.of_own (h.froms j _ _ hu hs).1⟩
    · rw [Nat.zero_add, h0.cellAt (j * 14 + i) (by omega), flatten_get _ j i _ recs_all (recs_get hs hu) (by omega)]
      unfold stC
      rw [List.getElem?_append_left (by simpa [ints] using hi), List.getElem?_map]
    · rw [Nat.zero_add, h0.cellAt (j * 14 + 13) (by omega), flatten_get _ j 13 _ recs_all (recs_get hs hu) (by omega)]
      rfl
end

theorem heap_other {w : World} {b o g : Nat} {v : Value} (h : g ≠ b) : (w.setCell ⟨b, o, none⟩ v).heap[g]? = w.heap[g]? := Below.heap_setCell _ _ _ _ h

theorem info_step : (Try.prog.info? 95).map (fun i => (i.zero, i.size, i.bytes)) = some (some (.agg #[.int .i64 0, .int .i64 0, .int .i64 0, .int .i64 0, .int .i64 0, .int .i64 0, .int .i64 0, .int .i64 0, .int .i64 0, .int .i64 0, .int .i64 0, .int .i64 0, .int .i64 0, .slice none 0 0]), 14, 128) := by kernel_rfl
end Go.Proofs.Ythafpkpmnhgmaaa.P7
