/- Chapter 6 as plain mathematics: what words tell, all that follows, who is of a circle; no condition.
Chapter 6 as plain mathematics: all that follows, again and again until nothing comes; it comes to an end, and is the least that is shut; no condition.
Chapter 6 as plain mathematics: the circles that all are of, and all who are of the circles, counted: each as many as there are facts; no condition.
Chapter 6 as the program does it: people in the order in which they came, each once; what is told of these is what is told of all; no condition. -/
import Derived.Test.YtgnldmheiknbkaaZP
namespace Go.Proofs.Ytgnldmheiknbkaa.P6
open P5

/-- A list with no two alike, all of whose members stand in another, is no longer. -/
theorem nodup_le {α : Type} [DecidableEq α] : ∀ (l m : List α), l.Nodup → (∀ x ∈ l, x ∈ m) → l.length ≤ m.length
  | [], _, _, _ => Nat.zero_le _
  | x :: l, m, hn, hs => by
    have hx : x ∈ m := hs x (by simp)
    have h1 := List.nodup_cons.1 hn
    have := nodup_le l (m.erase x) h1.2 (fun y hy => by
      have hne : y ≠ x := fun e => h1.1 (e ▸ hy)
      exact (List.mem_erase_of_ne hne).2 (hs y (by simp [hy])))
    rw [List.length_erase_of_mem hx] at this
    have hp : 0 < m.length := List.length_pos_of_mem hx
    simp only [List.length_cons]
    omega

/-- A fact: whose circle, its name, who. -/
structure Fa where
  a : Int
  b : Int
  w : Int
deriving DecidableEq

/-- One more, unless it is there. -/
def put (l : List Fa) (f : Fa) : List Fa := if f ∈ l then l else l ++ [f]

theorem mem_put {l : List Fa} {f x : Fa} : x ∈ put l f ↔ x ∈ l ∨ x = f := by
  unfold put
  split
  · rename_i h
    constructor
    · exact fun hx => .inl hx
    · rintro (hx | rfl)
      · exact hx
      · exact h
  · simp

theorem put_prefix (l : List Fa) (f : Fa) : l <+: put l f := by
  unfold put
  split
  · exact List.prefix_refl l
  · exact List.prefix_append _ _

theorem put_nodup {l : List Fa} (h : l.Nodup) (f : Fa) : (put l f).Nodup := by
  unfold put
  split
  · exact h
  · rename_i hf
    rw [List.nodup_append]
    refine ⟨h, by simp, ?_⟩
    intro a ha b hb e
    simp at hb
    subst hb
    subst e
    exact hf ha

/-- Facts added one by one, if a test says so. -/
def puts (p : Fa → Bool) (g : Fa → Fa) (l : List Fa) (out : List Fa) : List Fa := l.foldl (fun o x => if p x then put o (g x) else o) out

theorem puts_snoc (p : Fa → Bool) (g : Fa → Fa) (l : List Fa) (x : Fa) (out : List Fa) : puts p g (l ++ [x]) out = if p x then put (puts p g l out) (g x) else puts p g l out := by
  unfold puts
  rw [List.foldl_append]
  rfl

theorem puts_take (p : Fa → Bool) (g : Fa → Fa) (l : List Fa) (out : List Fa) (i : Nat) (h : i < l.length) : puts p g (l.take (i + 1)) out = if p l[i] then put (puts p g (l.take i) out) (g l[i]) else puts p g (l.take i) out := by
  rw [List.take_succ_eq_append_getElem h, puts_snoc]

theorem mem_puts {p : Fa → Bool} {g : Fa → Fa} : ∀ {l : List Fa} {out : List Fa} {x : Fa}, x ∈ puts p g l out ↔ x ∈ out ∨ ∃ y ∈ l, p y = true ∧ x = g y
  | [], out, x => by simp [puts]
  | y :: l, out, x => by
    show x ∈ puts p g l (if p y then put out (g y) else out) ↔ _
    rw [mem_puts]
    by_cases hp : p y = true
    · rw [if_pos hp, mem_put]
      constructor
      · rintro ((h | h) | ⟨z, hz, h1, h2⟩)
        · exact .inl h
        · exact .inr ⟨y, by simp, hp, h⟩
        · exact .inr ⟨z, by simp [hz], h1, h2⟩
      · rintro (h | ⟨z, hz, h1, h2⟩)
        · exact .inl (.inl h)
        · rcases List.mem_cons.1 hz with rfl | hz
          · exact .inl (.inr h2)
          · exact .inr ⟨z, hz, h1, h2⟩
    · rw [if_neg hp]
      constructor
      · rintro (h | ⟨z, hz, h1, h2⟩)
        · exact .inl h
        · exact .inr ⟨z, by simp [hz], h1, h2⟩
      · rintro (h | ⟨z, hz, h1, h2⟩)
        · exact .inl h
        · rcases List.mem_cons.1 hz with rfl | hz
          · exact absurd h1 hp
          · exact .inr ⟨z, hz, h1, h2⟩

theorem puts_prefix (p : Fa → Bool) (g : Fa → Fa) : ∀ (l out : List Fa), out <+: puts p g l out
  | [], out => List.prefix_refl out
  | y :: l, out => by
    show out <+: puts p g l (if p y then put out (g y) else out)
    refine List.IsPrefix.trans ?_ (puts_prefix p g l _)
    split
    · exact put_prefix _ _
    · exact List.prefix_refl _

theorem puts_nodup (p : Fa → Bool) (g : Fa → Fa) : ∀ (l out : List Fa), out.Nodup → (puts p g l out).Nodup
  | [], _, h => h
  | y :: l, out, h => by
    show (puts p g l (if p y then put out (g y) else out)).Nodup
    refine puts_nodup p g l _ ?_
    split
    · exact put_nodup h _
    · exact h

/-- What a CrLink tells, fact by fact. -/
def link (facts : List Fa) (c : Cr) (l out : List Fa) : List Fa := l.foldl (fun o x => if x.a = c.aw ∧ x.b = c.an then puts (fun y => decide (y.a = x.w ∧ y.b = c.bn)) (fun y => ⟨c.ow, c.on, y.w⟩) facts o else o) out

theorem link_take (facts : List Fa) (c : Cr) (l out : List Fa) (i : Nat) (h : i < l.length) : link facts c (l.take (i + 1)) out = if l[i].a = c.aw ∧ l[i].b = c.an then puts (fun y => decide (y.a = l[i].w ∧ y.b = c.bn)) (fun y => ⟨c.ow, c.on, y.w⟩) facts (link facts c (l.take i) out) else link facts c (l.take i) out := by
  unfold link
  rw [List.take_succ_eq_append_getElem h, List.foldl_append]
  rfl

/-- What a right word tells behind these facts. -/
def tells (c : Cr) (facts : List Fa) : List Fa :=
  if c.k = 1 then put facts ⟨c.ow, c.on, c.wh⟩
  else if c.k = 3 then link facts c facts facts
  else puts (fun x => decide ((x.a = c.aw ∧ x.b = c.an) ∧ (c.k = 2 ∨ (⟨c.bw, c.bn, x.w⟩ : Fa) ∈ facts))) (fun x => ⟨c.ow, c.on, x.w⟩) facts facts

/-- What Follows answers. -/
def follows (facts : List Fa) (c : Cr) : List Fa := if credOk c then tells c facts else facts

/-- What a right word tells, as a set. -/
def Tells (S : Fa → Prop) (c : Cr) (f : Fa) : Prop :=
  f.a = c.ow ∧ f.b = c.on ∧ ((c.k = 1 ∧ f.w = c.wh) ∨ (c.k = 2 ∧ S ⟨c.aw, c.an, f.w⟩) ∨ (c.k = 3 ∧ ∃ x, S ⟨c.aw, c.an, x⟩ ∧ S ⟨x, c.bn, f.w⟩) ∨ (c.k = 4 ∧ S ⟨c.aw, c.an, f.w⟩ ∧ S ⟨c.bw, c.bn, f.w⟩))

theorem Tells.mono {S T : Fa → Prop} (h : ∀ f, S f → T f) {c : Cr} {f : Fa} (ht : Tells S c f) : Tells T c f := by
  obtain ⟨h1, h2, h3⟩ := ht
  refine ⟨h1, h2, ?_⟩
  rcases h3 with h3 | ⟨h4, h5⟩ | ⟨h4, x, h5, h6⟩ | ⟨h4, h5, h6⟩
  · exact .inl h3
  · exact .inr (.inl ⟨h4, h _ h5⟩)
  · exact .inr (.inr (.inl ⟨h4, x, h _ h5, h _ h6⟩))
  · exact .inr (.inr (.inr ⟨h4, h _ h5, h _ h6⟩))

theorem mem_link {facts : List Fa} {c : Cr} : ∀ {l out : List Fa} {f : Fa}, f ∈ link facts c l out ↔ f ∈ out ∨ ∃ x ∈ l, (x.a = c.aw ∧ x.b = c.an) ∧ ∃ y ∈ facts, (y.a = x.w ∧ y.b = c.bn) ∧ f = ⟨c.ow, c.on, y.w⟩
  | [], out, f => by simp [link]
  | x :: l, out, f => by
    show f ∈ link facts c l (if x.a = c.aw ∧ x.b = c.an then puts (fun y => decide (y.a = x.w ∧ y.b = c.bn)) (fun y => ⟨c.ow, c.on, y.w⟩) facts out else out) ↔ _
    rw [mem_link]
    by_cases hx : x.a = c.aw ∧ x.b = c.an
    · rw [if_pos hx, mem_puts]
      constructor
      · rintro ((h | ⟨y, hy, h1, h2⟩) | ⟨z, hz, h1, h2⟩)
        · exact .inl h
        · exact .inr ⟨x, by simp, hx, y, hy, by simpa using h1, h2⟩
        · exact .inr ⟨z, by simp [hz], h1, h2⟩
      · rintro (h | ⟨z, hz, h1, y, hy, h2, h3⟩)
        · exact .inl (.inl h)
        · rcases List.mem_cons.1 hz with rfl | hz
          · exact .inl (.inr ⟨y, hy, by simpa using h2, h3⟩)
          · exact .inr ⟨z, hz, h1, y, hy, h2, h3⟩
    · rw [if_neg hx]
      constructor
      · rintro (h | ⟨z, hz, h1, h2⟩)
        · exact .inl h
        · exact .inr ⟨z, by simp [hz], h1, h2⟩
      · rintro (h | ⟨z, hz, h1, h2⟩)
        · exact .inl h
        · rcases List.mem_cons.1 hz with rfl | hz
          · exact absurd h1 hx
          · exact .inr ⟨z, hz, h1, h2⟩

theorem link_prefix (facts : List Fa) (c : Cr) : ∀ (l out : List Fa), out <+: link facts c l out
  | [], out => List.prefix_refl out
  | x :: l, out => by
    show out <+: link facts c l (if x.a = c.aw ∧ x.b = c.an then puts (fun y => decide (y.a = x.w ∧ y.b = c.bn)) (fun y => ⟨c.ow, c.on, y.w⟩) facts out else out)
    refine List.IsPrefix.trans ?_ (link_prefix facts c l _)
    split
    · exact puts_prefix _ _ _ _
    · exact List.prefix_refl _

theorem link_nodup (facts : List Fa) (c : Cr) : ∀ (l out : List Fa), out.Nodup → (link facts c l out).Nodup
  | [], _, h => h
  | x :: l, out, h => by
    show (link facts c l (if x.a = c.aw ∧ x.b = c.an then puts (fun y => decide (y.a = x.w ∧ y.b = c.bn)) (fun y => ⟨c.ow, c.on, y.w⟩) facts out else out)).Nodup
    refine link_nodup facts c l _ ?_
    split
    · exact puts_nodup _ _ _ _ h
    · exact h

theorem fa_eta (x : Fa) (a b : Int) (h : x.a = a ∧ x.b = b) : x = ⟨a, b, x.w⟩ := by
  obtain ⟨x1, x2, x3⟩ := x
  simp only at h
  simp [h.1, h.2]

theorem mem_tells {c : Cr} (hk : credOk c) {facts : List Fa} {f : Fa} : f ∈ tells c facts ↔ f ∈ facts ∨ Tells (· ∈ facts) c f := by
  have hk' : c.k = 1 ∨ c.k = 2 ∨ c.k = 3 ∨ c.k = 4 := by
    have := hk.2
    unfold kindOk at this
    rcases this with ⟨h, _⟩ | ⟨h, _⟩ | ⟨h, _⟩ | ⟨h, _⟩ <;> omega
  unfold tells
  by_cases h1 : c.k = 1
  · rw [if_pos h1, mem_put]
    constructor
    · rintro (h | rfl)
      · exact .inl h
      · exact .inr ⟨rfl, rfl, .inl ⟨h1, rfl⟩⟩
    · rintro (h | ⟨h2, h3, h4⟩)
      · exact .inl h
      · rcases h4 with h4 | h4 | h4 | h4
        · refine .inr ?_
          rw [fa_eta f c.ow c.on ⟨h2, h3⟩, h4.2]
        · omega
        · omega
        · omega
  · rw [if_neg h1]
    by_cases h3 : c.k = 3
    · rw [if_pos h3, mem_link]
      constructor
      · rintro (h | ⟨x, hx, h4, y, hy, h5, rfl⟩)
        · exact .inl h
        · refine .inr ⟨rfl, rfl, .inr (.inr (.inl ⟨h3, x.w, ?_, ?_⟩))⟩
          · show (⟨c.aw, c.an, x.w⟩ : Fa) ∈ facts
            rw [← fa_eta x c.aw c.an h4]
            exact hx
          · show (⟨x.w, c.bn, y.w⟩ : Fa) ∈ facts
            rw [← fa_eta y x.w c.bn h5]
            exact hy
      · rintro (h | ⟨h4, h5, h6⟩)
        · exact .inl h
        · rcases h6 with h6 | h6 | ⟨_, x, h7, h8⟩ | h6
          · omega
          · omega
          · exact .inr ⟨⟨c.aw, c.an, x⟩, h7, ⟨rfl, rfl⟩, ⟨x, c.bn, f.w⟩, h8, ⟨rfl, rfl⟩, fa_eta f c.ow c.on ⟨h4, h5⟩⟩
          · omega
    · rw [if_neg h3, mem_puts]
      constructor
      · rintro (h | ⟨x, hx, h4, rfl⟩)
        · exact .inl h
        · simp only [decide_eq_true_eq] at h4
          have hx' : (⟨c.aw, c.an, x.w⟩ : Fa) ∈ facts := by rw [← fa_eta x c.aw c.an h4.1]; exact hx
          refine .inr ⟨rfl, rfl, ?_⟩
          rcases h4.2 with h5 | h5
          · exact .inr (.inl ⟨h5, hx'⟩)
          · rcases hk' with h6 | h6 | h6 | h6
            · exact absurd h6 h1
            · exact .inr (.inl ⟨h6, hx'⟩)
            · exact absurd h6 h3
            · exact .inr (.inr (.inr ⟨h6, hx', h5⟩))
      · rintro (h | ⟨h4, h5, h6⟩)
        · exact .inl h
        · refine .inr ?_
          rcases h6 with h6 | h6 | h6 | h6
          · exact absurd h6.1 h1
          · exact ⟨⟨c.aw, c.an, f.w⟩, h6.2, by simp [h6.1], fa_eta f c.ow c.on ⟨h4, h5⟩⟩
          · exact absurd h6.1 h3
          · exact ⟨⟨c.aw, c.an, f.w⟩, h6.2.1, by simp [h6.2.2], fa_eta f c.ow c.on ⟨h4, h5⟩⟩

theorem mem_follows {facts : List Fa} {c : Cr} {f : Fa} : f ∈ follows facts c ↔ f ∈ facts ∨ (credOk c ∧ Tells (· ∈ facts) c f) := by
  unfold follows
  split
  · rename_i h
    rw [mem_tells h]
    simp [h]
  · rename_i h
    simp [h]

theorem follows_prefix (facts : List Fa) (c : Cr) : facts <+: follows facts c := by
  unfold follows
  split
  · unfold tells
    split
    · exact put_prefix _ _
    · split
      · exact link_prefix _ _ _ _
      · exact puts_prefix _ _ _ _
  · exact List.prefix_refl _

theorem follows_nodup {facts : List Fa} (h : facts.Nodup) (c : Cr) : (follows facts c).Nodup := by
  unfold follows
  split
  · unfold tells
    split
    · exact put_nodup h _
    · split
      · exact link_nodup _ _ _ _ h
      · exact puts_nodup _ _ _ _ h
  · exact h

/-- So much and some more, no two of these alike, all out of M. -/
def Grow (M l out : List Fa) : Prop := ∃ new, out = l ++ new ∧ new.Nodup ∧ ∀ x ∈ new, x ∈ M

theorem Grow.refl (M l : List Fa) : Grow M l l := ⟨[], by simp, List.nodup_nil, by simp⟩

theorem Grow.length {M l out : List Fa} (h : Grow M l out) : out.length ≤ l.length + M.length := by
  obtain ⟨new, rfl, h1, h2⟩ := h
  have := nodup_le new M h1 h2
  simp only [List.length_append]
  omega

theorem Grow.put {M l out : List Fa} (h : Grow M l out) {f : Fa} (hf : f ∈ M) : Grow M l (put out f) := by
  obtain ⟨new, rfl, h1, h2⟩ := h
  unfold P6.put
  split
  · exact ⟨new, rfl, h1, h2⟩
  · rename_i hn
    refine ⟨new ++ [f], by simp, ?_, ?_⟩
    · rw [List.nodup_append]
      refine ⟨h1, by simp, ?_⟩
      intro a ha b hb e
      simp at hb
      subst hb
      subst e
      exact hn (by simp [ha])
    · intro x hx
      rcases List.mem_append.1 hx with hx | hx
      · exact h2 x hx
      · rw [List.mem_singleton.1 hx]; exact hf

theorem Grow.puts {M l : List Fa} (p : Fa → Bool) (g : Fa → Fa) : ∀ (m out : List Fa), Grow M l out → (∀ x ∈ m, g x ∈ M) → Grow M l (puts p g m out)
  | [], _, h, _ => h
  | x :: m, out, h, hm => by
    show Grow M l (P6.puts p g m (if p x then P6.put out (g x) else out))
    refine Grow.puts p g m _ ?_ (fun y hy => hm y (by simp [hy]))
    split
    · exact h.put (hm x (by simp))
    · exact h

/-- What words of the circle a, b would be about those of whom facts tell. -/
def about (a b : Int) (facts : List Fa) : List Fa := facts.map fun y => ⟨a, b, y.w⟩

theorem about_length (a b : Int) (facts : List Fa) : (about a b facts).length = facts.length := by simp [about]

theorem mem_about {a b : Int} {facts : List Fa} {y : Fa} (h : y ∈ facts) : (⟨a, b, y.w⟩ : Fa) ∈ about a b facts := List.mem_map.2 ⟨y, h, rfl⟩

theorem Grow.link (facts : List Fa) (c : Cr) : ∀ (m out : List Fa), Grow (about c.ow c.on facts) facts out → Grow (about c.ow c.on facts) facts (link facts c m out)
  | [], _, h => h
  | x :: m, out, h => by
    show Grow _ _ (P6.link facts c m (if x.a = c.aw ∧ x.b = c.an then P6.puts (fun y => decide (y.a = x.w ∧ y.b = c.bn)) (fun y => ⟨c.ow, c.on, y.w⟩) facts out else out))
    refine Grow.link facts c m _ ?_
    split
    · exact h.puts _ _ _ _ (fun y hy => mem_about hy)
    · exact h

theorem follows_le (facts : List Fa) (c : Cr) : (follows facts c).length ≤ 2 * facts.length + 1 := by
  unfold follows
  split
  · unfold tells
    split
    · unfold put
      split
      · omega
      · simp; omega
    · split
      · have h := (Grow.link facts c facts facts (Grow.refl _ _)).length
        rw [about_length] at h
        omega
      · have h := fun p => (Grow.puts (M := about c.ow c.on facts) p (fun x => ⟨c.ow, c.on, x.w⟩) facts facts (Grow.refl _ _) (fun x hx => mem_about hx)).length
        have h2 := h (fun x => decide ((x.a = c.aw ∧ x.b = c.an) ∧ (c.k = 2 ∨ (⟨c.bw, c.bn, x.w⟩ : Fa) ∈ facts)))
        rw [about_length] at h2
        omega
  · omega
end Go.Proofs.Ytgnldmheiknbkaa.P6
namespace Go.Proofs.Ytgnldmheiknbkaa.P6
open P5

/-- A right fact. -/
def right (f : Fa) : Prop := roleOk f.a f.b ∧ 0 ≤ f.w ∧ f.w ≤ 5

/-- All right facts. -/
def allFa : List Fa := (List.range 144).map fun n => ⟨(n / 24 : Nat), (n / 6 % 4 : Nat), (n % 6 : Nat)⟩

theorem mem_allFa {f : Fa} (h : right f) : f ∈ allFa := by
  obtain ⟨a, b, w⟩ := f
  unfold right roleOk at h
  dsimp only at h
  refine List.mem_map.2 ⟨(a * 24 + b * 6 + w).toNat, by simp; omega, ?_⟩
  have h1 : (((a * 24 + b * 6 + w).toNat / 24 : Nat) : Int) = a := by omega
  have h2 : (((a * 24 + b * 6 + w).toNat / 6 % 4 : Nat) : Int) = b := by omega
  have h3 : (((a * 24 + b * 6 + w).toNat % 6 : Nat) : Int) = w := by omega
  rw [h1, h2, h3]

theorem right_le {l : List Fa} (hn : l.Nodup) (hr : ∀ f ∈ l, right f) : l.length ≤ 144 := by
  have := nodup_le l allFa hn (fun f hf => mem_allFa (hr f hf))
  simpa [allFa] using this

theorem follows_right {facts : List Fa} (h : ∀ f ∈ facts, right f) (c : Cr) : ∀ f ∈ follows facts c, right f := by
  intro f hf
  rcases mem_follows.1 hf with hf | ⟨hok, h1, h2, h3⟩
  · exact h f hf
  · have hok' := hok
    obtain ⟨⟨hro, _⟩, hk⟩ := hok
    refine ⟨by rw [h1, h2]; exact hro, ?_⟩
    rcases h3 with ⟨h4, h5⟩ | ⟨_, h5⟩ | ⟨_, x, _, h5⟩ | ⟨_, h5, _⟩
    · unfold P5.kindOk at hk
      rcases hk with ⟨h6, h7, _⟩ | ⟨h6, _⟩ | ⟨h6, _⟩ | ⟨h6, _⟩
      · rw [h5]; exact h7
      · omega
      · omega
      · omega
    · exact (h _ h5).2
    · exact (h _ h5).2
    · exact (h _ h5).2

/-- Once over all words. -/
def round (list : List Cr) (facts : List Fa) : List Fa := list.foldl follows facts

theorem round_take (list : List Cr) (facts : List Fa) (i : Nat) (h : i < list.length) : round (list.take (i + 1)) facts = follows (round (list.take i) facts) list[i] := by
  unfold round
  rw [List.take_succ_eq_append_getElem h, List.foldl_append]
  rfl

theorem round_prefix : ∀ (list : List Cr) (facts : List Fa), facts <+: round list facts
  | [], facts => List.prefix_refl facts
  | c :: list, facts => (follows_prefix facts c).trans (round_prefix list _)

theorem round_nodup : ∀ (list : List Cr) (facts : List Fa), facts.Nodup → (round list facts).Nodup
  | [], _, h => h
  | c :: list, _, h => round_nodup list _ (follows_nodup h c)

theorem round_right : ∀ (list : List Cr) (facts : List Fa), (∀ f ∈ facts, right f) → ∀ f ∈ round list facts, right f
  | [], _, h => h
  | c :: list, _, h => round_right list _ (follows_right h c)

/-- So many times over all words. -/
def factsN (list : List Cr) : Nat → List Fa
  | 0 => []
  | n + 1 => round list (factsN list n)

theorem factsN_nodup (list : List Cr) : ∀ n, (factsN list n).Nodup
  | 0 => List.nodup_nil
  | n + 1 => round_nodup list _ (factsN_nodup list n)

theorem factsN_right (list : List Cr) : ∀ n, ∀ f ∈ factsN list n, right f
  | 0 => by intro f hf; cases hf
  | n + 1 => round_right list _ (factsN_right list n)

theorem factsN_le (list : List Cr) (n : Nat) : (factsN list n).length ≤ 144 := right_le (factsN_nodup list n) (factsN_right list n)

theorem prefix_same {α : Type} {l m : List α} (h : l <+: m) (hl : m.length ≤ l.length) : m = l := by
  obtain ⟨t, rfl⟩ := h
  rw [List.length_append] at hl
  have : t = [] := List.eq_nil_of_length_eq_zero (by omega)
  rw [this, List.append_nil]

/-- Nothing comes any more. -/
def Still (list : List Cr) (n : Nat) : Prop := round list (factsN list n) = factsN list n

theorem Still.later {list : List Cr} {n : Nat} (h : Still list n) : ∀ j, factsN list (n + j) = factsN list n
  | 0 => rfl
  | j + 1 => by
    show round list (factsN list (n + j)) = _
    rw [h.later j]
    exact h

theorem still_or (list : List Cr) : ∀ n, (∃ m, m ≤ n ∧ Still list m) ∨ n + 1 ≤ (factsN list (n + 1)).length
  | 0 => by
    by_cases h : (factsN list 1).length = 0
    · refine .inl ⟨0, Nat.le_refl _, ?_⟩
      show factsN list 1 = []
      exact List.eq_nil_of_length_eq_zero h
    · exact .inr (by show 0 + 1 ≤ (factsN list 1).length; omega)
  | n + 1 => by
    rcases still_or list n with ⟨m, hm, h⟩ | h
    · exact .inl ⟨m, by omega, h⟩
    · by_cases hs : Still list (n + 1)
      · exact .inl ⟨n + 1, Nat.le_refl _, hs⟩
      · refine .inr ?_
        have hp := round_prefix list (factsN list (n + 1))
        have hlt : (factsN list (n + 1)).length < (round list (factsN list (n + 1))).length := by
          rcases Nat.lt_or_ge (factsN list (n + 1)).length (round list (factsN list (n + 1))).length with h' | h'
          · exact h'
          · exact absurd (prefix_same hp h') hs
        show n + 1 + 1 ≤ (round list (factsN list (n + 1))).length
        omega

/-- What FactsOf answers. -/
def factsOf (list : List Cr) : List Fa := factsN list 145

theorem factsOf_still (list : List Cr) : round list (factsOf list) = factsOf list := by
  rcases still_or list 144 with ⟨m, hm, h⟩ | h
  · have e := h.later (145 - m)
    rw [show m + (145 - m) = 145 by omega] at e
    unfold factsOf
    rw [e]
    exact h
  · have h2 : (factsN list (144 + 1)).length ≤ 144 := factsN_le list 145
    omega

/-- Whenever nothing comes, that is all. -/
theorem factsOf_eq {list : List Cr} {n : Nat} (h : Still list n) : factsN list n = factsOf list := by
  rcases Nat.le_total n 145 with h' | h'
  · have e := h.later (145 - n)
    rw [show n + (145 - n) = 145 by omega] at e
    exact e.symm
  · have e := Still.later (list := list) (n := 145) (factsOf_still list) (n - 145)
    rw [show 145 + (n - 145) = n by omega] at e
    exact e

theorem factsOf_nodup (list : List Cr) : (factsOf list).Nodup := factsN_nodup list 145
theorem factsOf_right (list : List Cr) : ∀ f ∈ factsOf list, right f := factsN_right list 145
theorem factsOf_le (list : List Cr) : (factsOf list).length ≤ 144 := factsN_le list 145

/-- Of a round in which nothing comes each word brings nothing. -/
theorem round_still : ∀ (list : List Cr) (facts : List Fa), round list facts = facts → ∀ c ∈ list, follows facts c = facts
  | [], _, _, c, hc => by cases hc
  | d :: list, facts, h, c, hc => by
    have h1 : follows facts d = facts := by
      have hp := round_prefix list (follows facts d)
      have hl : (follows facts d).length ≤ facts.length := by
        have := hp.length_le
        have e : round list (follows facts d) = facts := h
        rw [e] at this
        exact this
      exact prefix_same (follows_prefix facts d) hl
    rcases List.mem_cons.1 hc with rfl | hc
    · exact h1
    · refine round_still list facts ?_ c hc
      have e : round list (follows facts d) = facts := h
      rw [h1] at e
      exact e

theorem factsOf_follows {list : List Cr} {c : Cr} (hc : c ∈ list) : follows (factsOf list) c = factsOf list := round_still list _ (factsOf_still list) c hc

/-- Shut under these words. -/
def Shut (list : List Cr) (S : Fa → Prop) : Prop := ∀ c ∈ list, credOk c → ∀ f, Tells S c f → S f

theorem factsOf_shut (list : List Cr) : Shut list (· ∈ factsOf list) := by
  intro c hc hok f ht
  have h := factsOf_follows hc
  have : f ∈ follows (factsOf list) c := mem_follows.2 (.inr ⟨hok, ht⟩)
  rw [h] at this
  exact this

theorem round_least {S : Fa → Prop} : ∀ (list : List Cr) (facts : List Fa), Shut list S → (∀ f ∈ facts, S f) → ∀ f ∈ round list facts, S f
  | [], _, _, h => h
  | c :: list, facts, hs, h => by
    refine round_least list _ (fun d hd => hs d (by simp [hd])) (fun f hf => ?_)
    rcases mem_follows.1 hf with hf | ⟨hok, ht⟩
    · exact h f hf
    · exact hs c (by simp) hok f (ht.mono h)

/-- All that follows stands in whatever is shut. -/
theorem factsOf_least {list : List Cr} {S : Fa → Prop} (hs : Shut list S) : ∀ f ∈ factsOf list, S f := by
  have : ∀ n, ∀ f ∈ factsN list n, S f := by
    intro n
    induction n with
    | zero => intro f hf; cases hf
    | succ n ih => exact round_least list _ hs ih
  exact this 145

/-- More words tell no less. -/
theorem factsOf_more {list more : List Cr} (h : ∀ c ∈ list, c ∈ more) {f : Fa} (hf : f ∈ factsOf list) : f ∈ factsOf more :=
  factsOf_least (fun c hc => factsOf_shut more c (h c hc)) f hf

/-- Who is of a circle. -/
def membersOf (list : List Cr) (a b : Int) : List Int := ((List.range 6).map fun (n : Nat) => (n : Int)).filter fun i => decide ((⟨a, b, i⟩ : Fa) ∈ factsOf list)

/-- All circles, by whose they are and by name. -/
def allRoles : List (Int × Int) := (List.range 24).map fun n => (((n / 4 : Nat) : Int), ((n % 4 : Nat) : Int))

/-- Of which circles somebody is. -/
def rolesOf (list : List Cr) (who : Int) : List (Int × Int) := allRoles.filter fun r => decide ((⟨r.1, r.2, who⟩ : Fa) ∈ factsOf list)

/-- Those that are right and not over. -/
def alive (list : List Cr) (now : Int) : List Cr := list.filter fun c => decide (credOk c ∧ now ≤ c.u)
end Go.Proofs.Ytgnldmheiknbkaa.P6
namespace Go.Proofs.Ytgnldmheiknbkaa.P6
open P5

/-- The numbers below k. -/
def below (k : Nat) : List Int := (List.range k).map fun (n : Nat) => (n : Int)

theorem below_succ (k : Nat) : below (k + 1) = below k ++ [(k : Int)] := by simp [below, List.range_succ]

theorem mem_below {k : Nat} {x : Int} (h0 : 0 ≤ x) (h1 : x < k) : x ∈ below k := List.mem_map.2 ⟨x.toNat, by simp; omega, by omega⟩

/-- All right facts, by who. -/
def byWho : List Fa := (below 6).flatMap fun who => allRoles.map fun r => ⟨r.1, r.2, who⟩

/-- All right facts, by circle. -/
def byRole : List Fa := allRoles.flatMap fun r => (below 6).map fun i => ⟨r.1, r.2, i⟩

theorem byWho_nodup : byWho.Nodup := by decide +kernel

theorem byRole_nodup : byRole.Nodup := by decide +kernel

theorem mem_allRoles {a b : Int} (h : roleOk a b) : (a, b) ∈ allRoles := by
  unfold roleOk at h
  refine List.mem_map.2 ⟨(a * 4 + b).toNat, by simp; omega, ?_⟩
  have h1 : (((a * 4 + b).toNat / 4 : Nat) : Int) = a := by omega
  have h2 : (((a * 4 + b).toNat % 4 : Nat) : Int) = b := by omega
  rw [h1, h2]

theorem mem_byWho {f : Fa} (h : right f) : f ∈ byWho :=
  List.mem_flatMap.2 ⟨f.w, mem_below h.2.1 (by have := h.2.2; omega), List.mem_map.2 ⟨(f.a, f.b), mem_allRoles h.1, rfl⟩⟩

theorem mem_byRole {f : Fa} (h : right f) : f ∈ byRole :=
  List.mem_flatMap.2 ⟨(f.a, f.b), mem_allRoles h.1, List.mem_map.2 ⟨f.w, mem_below h.2.1 (by have := h.2.2; omega), rfl⟩⟩

/-- Right facts, no two alike, are as many as those of all that are among them. -/
theorem count_all {E F : List Fa} (hE : E.Nodup) (hall : ∀ f, right f → f ∈ E) (hF : F.Nodup) (hr : ∀ f ∈ F, right f) : (E.filter fun f => decide (f ∈ F)).length = F.length := by
  apply Nat.le_antisymm
  · exact nodup_le _ _ (hE.filter _) (fun f hf => by simpa using (List.mem_filter.1 hf).2)
  · exact nodup_le _ _ hF (fun f hf => List.mem_filter.2 ⟨hall f (hr f hf), by simpa using hf⟩)

theorem sum_roles (list : List Cr) : ((below 6).map fun who => (rolesOf list who).length).sum = (factsOf list).length := by
  rw [← count_all byWho_nodup (fun f h => mem_byWho h) (factsOf_nodup list) (factsOf_right list)]
  unfold byWho
  rw [List.filter_flatMap, List.length_flatMap]
  congr 1
  apply List.map_congr_left
  intro who _
  rw [List.filter_map, List.length_map]
  rfl

theorem sum_members (list : List Cr) : (allRoles.map fun r => (membersOf list r.1 r.2).length).sum = (factsOf list).length := by
  rw [← count_all byRole_nodup (fun f h => mem_byRole h) (factsOf_nodup list) (factsOf_right list)]
  unfold byRole
  rw [List.filter_flatMap, List.length_flatMap]
  congr 1
  apply List.map_congr_left
  intro r _
  rw [List.filter_map, List.length_map]
  rfl
end Go.Proofs.Ytgnldmheiknbkaa.P6
namespace Go.Proofs.Ytgnldmheiknbkaa.P6
open P5

/-- Each once, at its first place. -/
def nubF (l : List Fa) : List Fa := l.foldl put []

theorem nubF_snoc (l : List Fa) (f : Fa) : nubF (l ++ [f]) = put (nubF l) f := by simp [nubF, List.foldl_append]

theorem snoc_ind {α : Type} {p : List α → Prop} (h0 : p []) (h1 : ∀ l x, p l → p (l ++ [x])) (l : List α) : p l := by
  have : ∀ m : List α, p m.reverse := by
    intro m
    induction m with
    | nil => exact h0
    | cons x m ih => rw [List.reverse_cons]; exact h1 _ _ ih
  simpa using this l.reverse

theorem mem_nubF (l : List Fa) (x : Fa) : x ∈ nubF l ↔ x ∈ l := by
  refine snoc_ind (p := fun l => x ∈ nubF l ↔ x ∈ l) (by simp [nubF]) (fun l y ih => ?_) l
  rw [nubF_snoc, mem_put, ih]
  simp

theorem nubF_put (l : List Fa) (f : Fa) : nubF (put l f) = put (nubF l) f := by
  unfold put
  by_cases h : f ∈ l
  · rw [if_pos h, if_pos ((mem_nubF l f).2 h)]
  · rw [if_neg h, if_neg (fun h' => h ((mem_nubF l f).1 h')), nubF_snoc, put, if_neg (fun h' => h ((mem_nubF l f).1 h'))]

theorem nubF_nodup (l : List Fa) : (nubF l).Nodup := by
  refine snoc_ind (p := fun l => (nubF l).Nodup) (by simp [nubF]) (fun l y ih => ?_) l
  rw [nubF_snoc]
  exact put_nodup ih y

theorem nubF_le (l : List Fa) : (nubF l).length ≤ l.length := by
  refine snoc_ind (p := fun l => (nubF l).length ≤ l.length) (by simp [nubF]) (fun l y ih => ?_) l
  rw [nubF_snoc]
  unfold put
  split
  · simp; omega
  · simp; omega

/-- Those of a circle. -/
def ppl (K : List Fa) (r : Int × Int) : List Int := (K.filter fun f => decide (f.a = r.1 ∧ f.b = r.2)).map (·.w)

theorem ppl_le (K : List Fa) (r : Int × Int) : (ppl K r).length ≤ K.length := by
  unfold ppl
  rw [List.length_map]
  exact List.length_filter_le _ _

theorem mem_ppl {K : List Fa} {r : Int × Int} {x : Int} : x ∈ ppl K r ↔ (⟨r.1, r.2, x⟩ : Fa) ∈ K := by
  unfold ppl
  simp only [List.mem_map, List.mem_filter, decide_eq_true_eq]
  constructor
  · rintro ⟨f, ⟨h1, h2, h3⟩, rfl⟩
    obtain ⟨a, b, w⟩ := f
    simp only at h2 h3
    subst h2
    subst h3
    exact h1
  · intro h
    exact ⟨_, ⟨h, rfl, rfl⟩, rfl⟩

theorem ppl_snoc (K : List Fa) (f : Fa) (r : Int × Int) : ppl (K ++ [f]) r = if r = (f.a, f.b) then ppl K r ++ [f.w] else ppl K r := by
  unfold ppl
  rw [List.filter_append, List.map_append]
  by_cases h : r = (f.a, f.b)
  · subst h
    simp
  · rw [if_neg h]
    have : ¬ (f.a = r.1 ∧ f.b = r.2) := fun h' => h (by rw [h'.1, h'.2])
    simp [this]

/-- Ints, each once, at its first place. -/
def putI (l : List Int) (x : Int) : List Int := if x ∈ l then l else l ++ [x]
def nubI (l : List Int) : List Int := l.foldl putI []

theorem nubI_snoc (l : List Int) (x : Int) : nubI (l ++ [x]) = putI (nubI l) x := by simp [nubI, List.foldl_append]

theorem mem_nubI (l : List Int) (x : Int) : x ∈ nubI l ↔ x ∈ l := by
  refine snoc_ind (p := fun l => x ∈ nubI l ↔ x ∈ l) (by simp [nubI]) (fun l y ih => ?_) l
  rw [nubI_snoc]
  unfold putI
  split
  · rename_i h
    rw [ih]
    constructor
    · intro hx; simp [hx]
    · intro hx
      rcases List.mem_append.1 hx with hx | hx
      · exact hx
      · have e := List.mem_singleton.1 hx
        rw [← e] at h
        exact ih.1 h
  · simp [ih]

theorem ppl_nubF (F : List Fa) (r : Int × Int) : ppl (nubF F) r = nubI (ppl F r) := by
  refine snoc_ind (p := fun F => ppl (nubF F) r = nubI (ppl F r)) rfl (fun F f ih => ?_) F
  rw [nubF_snoc, ppl_snoc]
  unfold put
  by_cases hf : f ∈ nubF F
  · rw [if_pos hf, ih]
    split
    · rename_i hr
      subst hr
      have : f.w ∈ nubI (ppl F (f.a, f.b)) := (mem_nubI _ _).2 (mem_ppl.2 ((mem_nubF F f).1 hf))
      rw [nubI_snoc, putI, if_pos this]
    · rfl
  · rw [if_neg hf, ppl_snoc, ih]
    split
    · rename_i hr
      subst hr
      have : f.w ∉ nubI (ppl F (f.a, f.b)) := fun h => hf ((mem_nubF F f).2 (mem_ppl.1 ((mem_nubI _ _).1 h)))
      rw [nubI_snoc, putI, if_neg this]
    · rfl

theorem nubI_filter (q : Int → Bool) (l : List Int) : (nubI l).filter q = nubI (l.filter q) := by
  refine snoc_ind (p := fun l => (nubI l).filter q = nubI (l.filter q)) rfl (fun l x ih => ?_) l
  rw [nubI_snoc, List.filter_append]
  unfold putI
  by_cases hq : q x = true
  · have e1 : [x].filter q = [x] := by simp [hq]
    rw [e1, nubI_snoc, putI, ← ih]
    by_cases hx : x ∈ nubI l
    · rw [if_pos hx, if_pos (List.mem_filter.2 ⟨hx, hq⟩)]
    · rw [if_neg hx, if_neg (fun h => hx (List.mem_filter.1 h).1), List.filter_append, e1]
  · have e1 : [x].filter q = [] := by simp [hq]
    rw [e1, List.append_nil, ← ih]
    split
    · rfl
    · rw [List.filter_append, e1, List.append_nil]

/-- People put to a circle, one by one. -/
def adds (o n : Int) (l : List Int) (out : List Fa) : List Fa := l.foldl (fun x y => put x ⟨o, n, y⟩) out

theorem adds_snoc (o n : Int) (l : List Int) (x : Int) (out : List Fa) : adds o n (l ++ [x]) out = put (adds o n l out) ⟨o, n, x⟩ := by simp [adds, List.foldl_append]

theorem adds_append (o n : Int) (l m : List Int) (out : List Fa) : adds o n (l ++ m) out = adds o n m (adds o n l out) := by simp [adds, List.foldl_append]

theorem adds_take (o n : Int) (l : List Int) (out : List Fa) (i : Nat) (h : i < l.length) : adds o n (l.take (i + 1)) out = put (adds o n (l.take i) out) ⟨o, n, l[i]⟩ := by
  rw [List.take_succ_eq_append_getElem h, adds_snoc]

theorem mem_adds {o n : Int} {l : List Int} {out : List Fa} {f : Fa} : f ∈ adds o n l out ↔ f ∈ out ∨ ∃ x ∈ l, f = ⟨o, n, x⟩ := by
  refine snoc_ind (p := fun l => f ∈ adds o n l out ↔ f ∈ out ∨ ∃ x ∈ l, f = ⟨o, n, x⟩) (by simp [adds]) (fun l y ih => ?_) l
  rw [adds_snoc, mem_put, ih]
  constructor
  · rintro ((h | ⟨x, hx, h⟩) | h)
    · exact .inl h
    · exact .inr ⟨x, by simp [hx], h⟩
    · exact .inr ⟨y, by simp, h⟩
  · rintro (h | ⟨x, hx, h⟩)
    · exact .inl (.inl h)
    · rcases List.mem_append.1 hx with hx | hx
      · exact .inl (.inr ⟨x, hx, h⟩)
      · rw [List.mem_singleton.1 hx] at h
        exact .inr h

theorem adds_same {o n : Int} {l : List Int} {out : List Fa} (h : ∀ x ∈ l, (⟨o, n, x⟩ : Fa) ∈ out) : adds o n l out = out := by
  revert h
  refine snoc_ind (p := fun l => (∀ x ∈ l, (⟨o, n, x⟩ : Fa) ∈ out) → adds o n l out = out) (fun _ => rfl) (fun l y ih h => ?_) l
  rw [adds_snoc, ih (fun x hx => h x (by simp [hx])), put, if_pos (h y (by simp))]

theorem adds_nubI (o n : Int) (l : List Int) (out : List Fa) : adds o n (nubI l) out = adds o n l out := by
  refine snoc_ind (p := fun l => adds o n (nubI l) out = adds o n l out) rfl (fun l x ih => ?_) l
  rw [nubI_snoc, adds_snoc, ← ih]
  unfold putI
  by_cases hx : x ∈ nubI l
  · rw [if_pos hx]
    have : (⟨o, n, x⟩ : Fa) ∈ adds o n (nubI l) out := mem_adds.2 (.inr ⟨x, hx, rfl⟩)
    rw [put, if_pos this]
  · rw [if_neg hx, adds_snoc]

theorem adds_flat (o n : Int) (g : Int → List Int) (l : List Int) (out : List Fa) : adds o n ((nubI l).flatMap fun x => nubI (g x)) out = adds o n (l.flatMap g) out := by
  refine snoc_ind (p := fun l => adds o n ((nubI l).flatMap fun x => nubI (g x)) out = adds o n (l.flatMap g) out) rfl (fun l x ih => ?_) l
  rw [nubI_snoc, List.flatMap_append, adds_append, ← ih]
  have e1 : [x].flatMap g = g x := by simp
  rw [e1]
  unfold putI
  by_cases hx : x ∈ nubI l
  · rw [if_pos hx]
    symm
    apply adds_same
    intro y hy
    exact mem_adds.2 (.inr ⟨y, List.mem_flatMap.2 ⟨x, hx, (mem_nubI _ _).2 hy⟩, rfl⟩)
  · rw [if_neg hx, List.flatMap_append, adds_append]
    have e2 : ([x].flatMap fun x => nubI (g x)) = nubI (g x) := by simp
    rw [e2, adds_nubI]

theorem puts_adds (p : Fa → Bool) (o n : Int) (l out : List Fa) : puts p (fun x => ⟨o, n, x.w⟩) l out = adds o n ((l.filter p).map (·.w)) out := by
  refine snoc_ind (p := fun l => puts p (fun x => ⟨o, n, x.w⟩) l out = adds o n ((l.filter p).map (·.w)) out) rfl (fun l x ih => ?_) l
  rw [puts_snoc, ih, List.filter_append, List.map_append, adds_append]
  by_cases hp : p x = true
  · rw [if_pos hp]
    simp [hp, adds]
  · rw [if_neg hp]
    simp [hp, adds]

theorem link_adds (facts : List Fa) (c : Cr) (l out : List Fa) : link facts c l out = adds c.ow c.on ((ppl l (c.aw, c.an)).flatMap fun x => ppl facts (x, c.bn)) out := by
  refine snoc_ind (p := fun l => link facts c l out = adds c.ow c.on ((ppl l (c.aw, c.an)).flatMap fun x => ppl facts (x, c.bn)) out) rfl (fun l x ih => ?_) l
  have e0 : link facts c (l ++ [x]) out = if x.a = c.aw ∧ x.b = c.an then puts (fun y => decide (y.a = x.w ∧ y.b = c.bn)) (fun y => ⟨c.ow, c.on, y.w⟩) facts (link facts c l out) else link facts c l out := by
    unfold link
    rw [List.foldl_append]
    rfl
  rw [e0, ppl_snoc, ih]
  by_cases h : x.a = c.aw ∧ x.b = c.an
  · rw [if_pos h, if_pos (by rw [h.1, h.2]), puts_adds, List.flatMap_append, adds_append]
    congr 1
    simp [ppl]
  · rw [if_neg h, if_neg (fun h' => h (by simp only [Prod.mk.injEq] at h'; exact ⟨h'.1.symm, h'.2.symm⟩))]

/-- Whom a right word tells of, as the program finds them. -/
def told (K : List Fa) (c : Cr) : List Int :=
  if c.k = 1 then [c.wh]
  else if c.k = 2 then ppl K (c.aw, c.an)
  else if c.k = 3 then (ppl K (c.aw, c.an)).flatMap fun x => ppl K (x, c.bn)
  else (ppl K (c.aw, c.an)).filter fun x => decide ((⟨c.bw, c.bn, x⟩ : Fa) ∈ K)

theorem told_tells (F : List Fa) (c : Cr) : adds c.ow c.on (told (nubF F) c) F = tells c F := by
  unfold told tells
  by_cases h1 : c.k = 1
  · rw [if_pos h1, if_pos h1]
    simp [adds]
  rw [if_neg h1, if_neg h1]
  by_cases h2 : c.k = 2
  · rw [if_pos h2, if_neg (by omega), puts_adds, ppl_nubF, adds_nubI]
    congr 1
    unfold ppl
    congr 1
    apply List.filter_congr
    intro x _
    simp [h2]
  rw [if_neg h2]
  by_cases h3 : c.k = 3
  · rw [if_pos h3, if_pos h3, link_adds, ppl_nubF]
    have e1 : (fun x => ppl (nubF F) (x, c.bn)) = fun x => nubI (ppl F (x, c.bn)) := funext fun x => ppl_nubF F _
    rw [e1, adds_flat c.ow c.on (fun x => ppl F (x, c.bn))]
  · rw [if_neg h3, if_neg h3, puts_adds, ppl_nubF, nubI_filter, adds_nubI]
    congr 1
    unfold ppl
    rw [List.filter_map, List.filter_filter]
    congr 1
    apply List.filter_congr
    intro x _
    simp [mem_nubF, h2, Bool.and_comm]

theorem nubF_adds (o n : Int) (l : List Int) (F : List Fa) : nubF (adds o n l F) = adds o n l (nubF F) := by
  refine snoc_ind (p := fun l => nubF (adds o n l F) = adds o n l (nubF F)) rfl (fun l x ih => ?_) l
  rw [adds_snoc, nubF_put, ih, adds_snoc]

theorem nubF_self {l : List Fa} (h : l.Nodup) : nubF l = l := by
  revert h
  refine snoc_ind (p := fun l => l.Nodup → nubF l = l) (fun _ => rfl) (fun l x ih h => ?_) l
  rw [List.nodup_append] at h
  rw [nubF_snoc, ih h.1, put, if_neg]
  intro hx
  exact h.2.2 x hx x (by simp) rfl
end Go.Proofs.Ytgnldmheiknbkaa.P6
