/- The program's book of facts: what it is in memory; what it has; no condition.
The program's book of facts: what it lies in, how a fact is learnt; condition: at most 2^30 facts.
The program's circles as values behind an interface: how a word becomes one; whose circle it is; condition: none.
The program's book of facts: whom a circle tells of; condition: at most 2^30 facts, none twice.
The program's book of facts: whom a circle tells of, circle by circle; condition: at most 2^30 facts, none twice.
The program's book of facts: what a circle adds; condition: at most 2^28 facts.
The program's book of facts: made of a list of facts; the right words as circles; condition: at most 2^20 of them.
The program's book of facts: the right words as circles; all that follows from them; condition: at most 2^20 words.
The program's book of all facts that follow from words, and what it answers of them: Follows, FactsOf; condition: at most 2^20 words, 2^20 facts.
The contracts of the program's Follows, FactsOf, IsMember, MembersOf, RolesOf and Alive; condition: at most 2^20 words, 2^20 facts. -/
import Derived.Test.YtgnldmheiknbkaaZM
import Derived.Test.YtgnldmheiknbkaaZQ
import Derived.Test.YtgnldmheiknbkaaZA
import Derived.Test.YtgnldmheiknbkaaZK
import Derived.Maps.AppendAt
import Derived.Deep.CutRange
namespace Go.Proofs.Ytgnldmheiknbkaa.P6
set_option maxRecDepth 8000
open Go.RowKit P1 P5 Rc Mp

theorem zero_intP : ∀ w : World, (zeroValue 3).run Try.prog w = .ok (.int .i64 0) w := fun w => by kernel_rfl
theorem zero_ints : ∀ w : World, (zeroValue 40).run Try.prog w = .ok (.slice none 0 0) w := fun w => by kernel_rfl

/-- What is known: of each fact its first place in F. -/
def knownF (F K : List Fa) (f : Fa) : Option Value := if f ∈ K then some (.int .i64 ((F.idxOf f : Nat) : Int)) else none

/-- The place that is answered: 0 for a fact that is not known. -/
def plc (F K : List Fa) (f : Fa) : Int := if f ∈ K then ((F.idxOf f : Nat) : Int) else 0

/-- Who is of which circle. -/
def peopleF (K : List Fa) (ρ : Int × Int → Value) (r : Int × Int) : Option Value := if ppl K r = [] then none else some (ρ r)

theorem known_look {w : World} {km n : Nat} {F K : List Fa} (h : MapR keyF w km n (knownF F K)) (f : Fa) (c : Bool) :
    (Instr.lookup 76 (.map (some km)) (faV f) c).run Try.prog w = .ok (if c then .tuple #[.int .i64 (plc F K f), .bool (decide (f ∈ K))] else .int .i64 (plc F K f)) w := by
  refine (h.look (t := 76) Try.underlying76 (zero_intP w) c f).trans ?_
  unfold knownF plc
  by_cases hf : f ∈ K
  · simp [hf]
  · simp [hf]

set_option maxHeartbeats 1000000 in
theorem has_calls (w : World) (bb km pm n : Nat) (vf : Value) (F K : List Fa) (f : Fa) (hb : Blk w bb [vf, .map (some km), .map (some pm)] 79) (hm : MapR keyF w km n (knownF F K)) :
    Calls Try.prog 56 #[.pointer (some ⟨bb, 0, none⟩), faV f] w fun e w' => e = .returned (.bool (decide (f ∈ K))) ∧ Below w.heap.size w w' := by
  obtain ⟨R, HR⟩ : ∃ R, Hid (R = decide (f ∈ K)) := ⟨_, rfl⟩
  rw [← HR.out]
  obtain ⟨fa, fb, fw⟩ := f
  simp only [faV]
  have hbA := (Below.refl w.heap.size w).alloc (Nat.le_refl _) (.cells #[.int .i64 fa, .int .i64 fb, .int .i64 fw] 36)
  have HB := hide hbA
  have HG := hide (Blk.new w #[.int .i64 fa, .int .i64 fb, .int .i64 fw] 36)
  have HBB := hide (hb.below hbA hb.lt)
  have HM := hide (hm.at_ (hbA.block km hm.lt))
  clear hb hm hbA
  go_enter Try.func56, Try.ntmps56
  go_wp2_with fail
  obtain ⟨b0, e0⟩ : ∃ b, b = w.heap.size := ⟨_, rfl⟩
  rw [← e0] at HG ⊢
  clear e0
  generalize w.alloc (.cells #[.int .i64 fa, .int .i64 fb, .int .i64 fw] 36) = w1 at *
  have l0 := HG.out.lt
  have l1 := HBB.out.lt
  have n0 : ∀ p : Near w1.heap.size w1, p.w.cell? ⟨b0, 0, none⟩ = some (.int .i64 fa) := fun p => by rw [(HG.out.below p.h l0).cell 0]; rfl
  have n1 : ∀ p : Near w1.heap.size w1, p.w.cell? ⟨b0, 1, none⟩ = some (.int .i64 fb) := fun p => by rw [(HG.out.below p.h l0).cell 1]; rfl
  have n2 : ∀ p : Near w1.heap.size w1, p.w.cell? ⟨b0, 2, none⟩ = some (.int .i64 fw) := fun p => by rw [(HG.out.below p.h l0).cell 2]; rfl
  have m1 : ∀ p : Near w1.heap.size w1, p.w.cell? ⟨bb, 1, none⟩ = some (.map (some km)) := fun p => by rw [(HBB.out.below p.h l1).cell 1]; rfl
  obtain ⟨U, HU⟩ : ∃ U, Hid (U = plc F K ⟨fa, fb, fw⟩) := ⟨_, rfl⟩
  have hlk : ∀ p : Near w1.heap.size w1, (Instr.lookup 76 (.map (some km)) (.agg #[.int .i64 fa, .int .i64 fb, .int .i64 fw]) true).run Try.prog p.w = .ok (.tuple #[.int .i64 U, .bool R]) p.w := fun p => by
    rw [HR.out, HU.out]
    exact known_look (HM.out.at_ (p.h.block km HM.out.lt)) ⟨fa, fb, fw⟩ true
  have hnn := Near.some w1.heap.size w1
  refine wp_region_near w1.heap.size w1 (Below.refl _ _) (by kernel_rfl) (by kernel_rfl) ?_
  repeat (go_big_quiet_step (fail))
  refine wpQuiet_nil ?_
  rintro w2 ⟨pq, rfl⟩
  have hqb := pq.h
  obtain ⟨w2, hq⟩ := pq
  simp only at hqb ⊢
  have HP := hide hqb
  clear hq hqb hnn n0 n1 n2 m1 hlk
  go_wp2_with fail
  go_ret
  exact ⟨rfl, HB.out.trans (HP.out.mono HB.out.size)⟩
end Go.Proofs.Ytgnldmheiknbkaa.P6
namespace Go.Proofs.Ytgnldmheiknbkaa.P6
set_option maxRecDepth 8000
open Go.RowKit P1 P5 Rc Mp

theorem infoInt : (Try.prog.info? 3).map (fun i => (i.zero, i.size, i.bytes)) = some (some (.int .i64 0), 1, 8) := by kernel_rfl

/-- Only blocks of S, and new ones, have changed. -/
structure Chg (S : Nat → Prop) (w w' : World) : Prop where
  os : w'.os = w.os
  tape : w'.tape = w.tape
  output : w'.output = w.output
  size : w.heap.size ≤ w'.heap.size
  block : ∀ g, g < w.heap.size → ¬ S g → w'.heap[g]? = w.heap[g]?

theorem Chg.refl (S : Nat → Prop) (w : World) : Chg S w w := ⟨rfl, rfl, rfl, Nat.le_refl _, fun _ _ _ => rfl⟩

theorem Chg.of_below {S : Nat → Prop} {w w' : World} (h : Below w.heap.size w w') : Chg S w w' := ⟨h.os, h.tape, h.output, h.size, fun g hg _ => h.block g hg⟩

theorem Chg.of_grown {S : Nat → Prop} {w w' : World} {row : Option Nat} (h : w.grownBy w' row) (hS : ∀ k, row = some k → S k) : Chg S w w' :=
  ⟨h.os, h.tape, h.output, h.size, fun g hg hn => h.block g hg (fun e => hn (hS g e.symm))⟩

theorem Chg.trans {S T : Nat → Prop} {a b c : World} (h : Chg S a b) (k : Chg T b c) (hT : ∀ g, g < a.heap.size → T g → S g) : Chg S a c :=
  ⟨k.os.trans h.os, k.tape.trans h.tape, k.output.trans h.output, Nat.le_trans h.size k.size, fun g hg hn => (k.block g (Nat.lt_of_lt_of_le hg h.size) (fun ht => hn (hT g hg ht))).trans (h.block g hg hn)⟩

theorem Chg.below {S : Nat → Prop} {w w' : World} {B : Nat} (h : Chg S w w') (hB : B ≤ w.heap.size) (hS : ∀ g, S g → B ≤ g) : Below B w w' :=
  ⟨h.os, h.tape, h.output, h.size, fun g hg => h.block g (by omega) (fun hs => by have := hS g hs; omega)⟩

theorem Chg.drew {S : Nat → Prop} {a b : World} (h : Chg S a b) : Chg S a b.drew := ⟨h.os, h.tape, h.output, h.size, h.block⟩

theorem own_at {w w' : World} {B : Nat} {e : TypeId} {size n : Nat} {v : Value} {xs : List Value} (h : w.ownsRow B e size v n xs) (hk : ∀ g, v.ownBlock = some g → w'.heap[g]? = w.heap[g]?) : w'.ownsRow B e size v n xs := by
  refine ⟨h.1, ?_⟩
  rcases h.2 with h1 | ⟨g, cap, cur, rfl, h2, h3, h4⟩
  · exact .inl h1
  · exact .inr ⟨g, cap, cur, rfl, h2, (hk g rfl).trans h3, h4⟩

theorem own_blk {w : World} {B : Nat} {e : TypeId} {size n g : Nat} {v : Value} {xs : List Value} (h : w.ownsRow B e size v n xs) (hg : v.ownBlock = some g) : ∃ cur, w.heap[g]? = some (.cells cur e (0, 0)) ∧ B ≤ g ∧ g < w.heap.size := by
  rcases h.2 with ⟨rfl, _⟩ | ⟨g', cap, cur, rfl, h2, h3, _⟩
  · cases hg
  · have : g' = g := by simpa [Value.ownBlock] using hg
    subst this
    exact ⟨cur, h3, h2, (Array.getElem?_eq_some_iff.1 h3).1⟩

/-- The book in memory: F stands in its list, K in its maps. -/
structure Book (w : World) (B bb km pm : Nat) (vf : Value) (ρ : Int × Int → Value) (F K : List Fa) : Prop where
  blk : Blk w bb [vf, .map (some km), .map (some pm)] 79
  bb_ : B ≤ bb
  km_ : B ≤ km
  pm_ : B ≤ pm
  kp : km ≠ pm
  facts : w.ownsRow B 36 3 vf F.length (cellsI (flat faR F))
  known : MapR keyF w km K.length (knownF F K)
  people : MapR keyR w pm K.length (peopleF K ρ)
  rows : ∀ r, w.ownsRow B 3 1 (ρ r) (ppl K r).length (cellsI (ppl K r))
  nils : ∀ r, ppl K r = [] → ρ r = .slice none 0 0
  apart : ∀ r r' g, r ≠ r' → (ρ r).ownBlock = some g → (ρ r').ownBlock ≠ some g

/-- The blocks that it lies in. -/
def Foot (bb km pm : Nat) (vf : Value) (ρ : Int × Int → Value) (g : Nat) : Prop := g = bb ∨ g = km ∨ g = pm ∨ vf.ownBlock = some g ∨ ∃ r, (ρ r).ownBlock = some g

section
variable {w w' : World} {B bb km pm : Nat} {vf : Value} {ρ : Int × Int → Value} {F K : List Fa}

theorem Book.at_ (h : Book w B bb km pm vf ρ F K) (hk : ∀ g, g < w.heap.size → Foot bb km pm vf ρ g → w'.heap[g]? = w.heap[g]?) : Book w' B bb km pm vf ρ F K := by
  refine ⟨?_, h.bb_, h.km_, h.pm_, h.kp, own_at h.facts (fun g hg => ?_), h.known.at_ (hk km h.known.lt (.inr (.inl rfl))), h.people.at_ (hk pm h.people.lt (.inr (.inr (.inl rfl)))), fun r => own_at (h.rows r) (fun g hg => ?_), h.nils, h.apart⟩
  · have := hk bb h.blk.lt (.inl rfl)
    unfold Blk
    rw [this]
    exact h.blk
  · obtain ⟨cur, _, _, hlt⟩ := own_blk h.facts hg
    exact hk g hlt (.inr (.inr (.inr (.inl hg))))
  · obtain ⟨cur, _, _, hlt⟩ := own_blk (h.rows r) hg
    exact hk g hlt (.inr (.inr (.inr (.inr ⟨r, hg⟩))))

theorem Book.below (h : Book w B bb km pm vf ρ F K) (hb : Below w.heap.size w w') : Book w' B bb km pm vf ρ F K := h.at_ (fun g hg _ => hb.block g hg)

theorem Book.foot_le (h : Book w B bb km pm vf ρ F K) {g : Nat} (hf : Foot bb km pm vf ρ g) : B ≤ g := by
  rcases hf with rfl | rfl | rfl | hf | ⟨r, hf⟩
  · exact h.bb_
  · exact h.km_
  · exact h.pm_
  · exact (own_blk h.facts hf).choose_spec.2.1
  · exact (own_blk (h.rows r) hf).choose_spec.2.1

theorem Book.foot_ne (h : Book w B bb km pm vf ρ F K) {g : Nat} {cs : Array Value} {t : TypeId} {fr : Nat × Nat} (hg : w.heap[g]? = some (.cells cs t fr)) (h1 : t ≠ 79) (h2 : t ≠ 36) (h3 : t ≠ 3) : ¬ Foot bb km pm vf ρ g := by
  rintro (rfl | rfl | rfl | hf | ⟨r, hf⟩)
  · have := h.blk
    unfold Blk at this
    rw [this] at hg
    simp only [Option.some.injEq, Obj.cells.injEq] at hg
    exact h1 hg.2.1.symm
  · exact h.known.ne_blk hg rfl
  · exact h.people.ne_blk hg rfl
  · obtain ⟨cur, h4, _⟩ := own_blk h.facts hf
    rw [h4] at hg
    simp only [Option.some.injEq, Obj.cells.injEq] at hg
    exact h2 hg.2.1.symm
  · obtain ⟨cur, h4, _⟩ := own_blk (h.rows r) hf
    rw [h4] at hg
    simp only [Option.some.injEq, Obj.cells.injEq] at hg
    exact h3 hg.2.1.symm

theorem people_get (h : Book w B bb km pm vf ρ F K) (r : Int × Int) : (peopleF K ρ r).getD (.slice none 0 0) = ρ r := by
  unfold peopleF
  by_cases hr : ppl K r = []
  · rw [if_pos hr, h.nils r hr]
    rfl
  · rw [if_neg hr]
    rfl

theorem people_look (h : Book w B bb km pm vf ρ F K) (r : Int × Int) :
    (Instr.lookup 77 (.map (some pm)) (roleV r.1 r.2) false).run Try.prog w = .ok (ρ r) w := by
  have := h.people.look (t := 77) Try.underlying77 (zero_ints w) false r
  rw [people_get h] at this
  exact this
end

theorem put_new {K : List Fa} {f : Fa} (h : f ∉ K) : put K f = K ++ [f] := by unfold put; rw [if_neg h]
theorem put_old {K : List Fa} {f : Fa} (h : f ∈ K) : put K f = K := by unfold put; rw [if_pos h]

theorem map_of_R {P : Program} {k : TypeId} {α : Type} {T : KT P k α} {w : World} {b n : Nat} {f : α → Option Value} (h : MapR T w b n f) : ∃ es clock, w.heap[b]? = some (.map es clock) := by
  obtain ⟨es, clock, h1, _⟩ := h
  exact ⟨es, clock, h1⟩

theorem map_of_E {P : Program} {k : TypeId} {α : Type} {T : KT P k α} {w : World} {b n st : Nat} {x : α} {f : α → Option Value} (h : MapE T w b n x st f) : ∃ es clock, w.heap[b]? = some (.map es clock) := by
  obtain ⟨es, clock, h1, _⟩ := h
  exact ⟨es, clock, h1⟩

theorem cells_ne_map {w : World} {g m : Nat} {cs : Array Value} {t : TypeId} {fr : Nat × Nat} (h : w.heap[g]? = some (.cells cs t fr)) (hm : ∃ es clock, w.heap[m]? = some (.map es clock)) : g ≠ m := by
  rintro rfl
  obtain ⟨es, clock, h1⟩ := hm
  rw [h1] at h
  cases h

theorem cells_type {w : World} {g : Nat} {cs cs' : Array Value} {t t' : TypeId} {fr fr' : Nat × Nat} (h : w.heap[g]? = some (.cells cs t fr)) (h' : w.heap[g]? = some (.cells cs' t' fr')) : t = t' := by
  rw [h] at h'
  simp only [Option.some.injEq, Obj.cells.injEq] at h'
  exact h'.2.1

/-- The book behind a new fact. -/
theorem learn_end {w wq w3 w5 w6 w7 w8 : World} {B bb km pm : Nat} {vf v7 : Value} {ρ : Int × Int → Value} {F K : List Fa} {f : Fa} (HK : Book wq B bb km pm vf ρ F K) (HBq : Below w.heap.size w wq) (hf : f ∉ K) (hfF : f ∉ F)
    (hM3 : MapR keyF w3 km (K.length + 1) (upd (knownF F K) f (.int .i64 ((F.length : Nat) : Int)))) (hg3 : wq.grownBy w3 (some km)) (h35 : Below w3.heap.size w3 w5) (hg6 : w5.grownBy w6 (some pm))
    (hown7 : w7.ownsRow B 3 1 v7 ((ppl K (f.a, f.b)).length + 1) (cellsI (ppl K (f.a, f.b)) ++ [.int .i64 f.w])) (hg7 : w6.grownBy w7 (ρ (f.a, f.b)).ownBlock) (hloc : v7.ownBlock = (ρ (f.a, f.b)).ownBlock ∨ v7.ownBlock = some w6.heap.size)
    (hE7 : ∃ es clock, w7.heap[pm]? = some (.map es clock)) (hM8 : MapR keyR w8 pm (K.length + 1) (upd (upd (peopleF K ρ) (f.a, f.b) (ρ (f.a, f.b))) (f.a, f.b) v7)) (hg8 : w7.grownBy w8 (some pm)) :
    ∃ ρ', Book w8 B bb km pm vf ρ' F (K ++ [f]) ∧ Chg (fun g => g = km ∨ g = pm ∨ (f ∉ K ∧ (ρ (f.a, f.b)).ownBlock = some g)) w w8 ∧ (∀ r g, (ρ' r).ownBlock = some g → (ρ r).ownBlock = some g ∨ w.heap.size ≤ g) := by
  obtain ⟨r, hr⟩ : ∃ r, r = (f.a, f.b) := ⟨_, rfl⟩
  rw [← hr] at hown7 hg7 hloc hM8 ⊢
  have z3 := hg3.size
  have z5 := h35.size
  have z6 := hg6.size
  have z7 := hg7.size
  have z8 := hg8.size
  have hch : ∀ g, g < wq.heap.size → g ≠ km → g ≠ pm → (ρ r).ownBlock ≠ some g → w8.heap[g]? = wq.heap[g]? := fun g hg h1 h2 h3 =>
    (hg8.block g (by omega) (fun e => h2 (by simpa using e))).trans ((hg7.block g (by omega) (fun e => h3 e.symm)).trans ((hg6.block g (by omega) (fun e => h2 (by simpa using e))).trans ((h35.block g (by omega)).trans (hg3.block g hg (fun e => h1 (by simpa using e))))))
  have hkm := map_of_R HK.known
  have hpm := map_of_R HK.people
  have hrowne : ∀ g cs t fr, wq.heap[g]? = some (.cells cs t fr) → t ≠ 3 → (ρ r).ownBlock ≠ some g := fun g cs t fr hg ht e => by
    obtain ⟨cur, h1, _⟩ := own_blk (HK.rows r) e
    exact ht (cells_type hg h1)
  have hrowkm : (ρ r).ownBlock ≠ some km := fun e => by
    obtain ⟨cur, h1, _⟩ := own_blk (HK.rows r) e
    exact cells_ne_map h1 hkm rfl
  have hppl : ppl (K ++ [f]) r = ppl K r ++ [f.w] := by rw [ppl_snoc, if_pos hr]
  have hpplo : ∀ q, q ≠ r → ppl (K ++ [f]) q = ppl K q := fun q hq => by rw [ppl_snoc, if_neg (by rw [← hr]; exact hq)]
  have hlen : (K ++ [f]).length = K.length + 1 := by simp
  refine ⟨fun q => if q = r then v7 else ρ q, ⟨?_, HK.bb_, HK.km_, HK.pm_, HK.kp, ?_, ?_, ?_, ?_, ?_, ?_⟩, ?_, ?_⟩
  · have hb := HK.blk
    unfold Blk at hb ⊢
    rw [hch bb HK.blk.lt (cells_ne_map hb hkm) (cells_ne_map hb hpm) (hrowne bb _ _ _ hb (by decide))]
    exact hb
  · refine own_at HK.facts (fun g hg => ?_)
    obtain ⟨cur, h1, _, hlt⟩ := own_blk HK.facts hg
    exact hch g hlt (cells_ne_map h1 hkm) (cells_ne_map h1 hpm) (hrowne g _ _ _ h1 (by decide))
  · rw [hlen]
    have hlt := hM3.lt
    refine (hM3.at_ (w' := w8) ?_).congr (fun x => ?_)
    · exact (hg8.block km (by omega) (fun e => HK.kp (by simpa using e))).trans ((hg7.block km (by omega) (fun e => hrowkm e.symm)).trans ((hg6.block km (by omega) (fun e => HK.kp (by simpa using e))).trans (h35.block km hlt)))
    · unfold knownF upd
      by_cases hx : x = f
      · subst hx
        simp [List.idxOf_eq_length hfF]
      · rw [if_neg hx]
        simp [hx]
  · rw [hlen]
    refine hM8.congr (fun q => ?_)
    unfold peopleF upd
    by_cases hq : q = r
    · rw [if_pos hq, hq, hppl, if_neg (by simp)]
      simp
    · rw [if_neg hq, hpplo q hq]
      simp only [if_neg hq]
  · intro q
    show w8.ownsRow B 3 1 (if q = r then v7 else ρ q) _ _
    by_cases hq : q = r
    · rw [if_pos hq, hq, hppl]
      refine own_at (w := w7) ?_ (fun g hg => ?_)
      · rw [List.length_append]
        simpa [cellsI] using hown7
      · obtain ⟨cur, h1, _, hlt⟩ := own_blk hown7 hg
        exact hg8.block g hlt (fun e => cells_ne_map h1 hE7 (by simpa using e))
    · rw [if_neg hq, hpplo q hq]
      refine own_at (HK.rows q) (fun g hg => ?_)
      obtain ⟨cur, h1, _, hlt⟩ := own_blk (HK.rows q) hg
      exact hch g hlt (cells_ne_map h1 hkm) (cells_ne_map h1 hpm) (HK.apart q r g hq hg)
  · intro q h0
    show (if q = r then v7 else ρ q) = _
    by_cases hq : q = r
    · rw [hq, hppl] at h0
      simp at h0
    · rw [if_neg hq]
      rw [hpplo q hq] at h0
      exact HK.nils q h0
  · have aux : ∀ q g, q ≠ r → v7.ownBlock = some g → (ρ q).ownBlock ≠ some g := fun q g hq h1 h2 => by
      rcases hloc with h3 | h3
      · rw [h3] at h1
        exact HK.apart r q g (Ne.symm hq) h1 h2
      · rw [h3] at h1
        obtain ⟨cur, _, _, hlt⟩ := own_blk (HK.rows q) h2
        have : w6.heap.size = g := by simpa using h1
        omega
    intro q q' g hne h1
    show (if q' = r then v7 else ρ q').ownBlock ≠ some g
    replace h1 : (if q = r then v7 else ρ q).ownBlock = some g := h1
    by_cases hq : q = r
    · rw [if_pos hq] at h1
      have hq' : q' ≠ r := fun e => hne (hq.trans e.symm)
      rw [if_neg hq']
      exact aux q' g hq' h1
    · rw [if_neg hq] at h1
      by_cases hq' : q' = r
      · rw [if_pos hq']
        exact fun h2 => aux q g hq h2 h1
      · rw [if_neg hq']
        exact HK.apart q q' g hne h1
  · have hz := HBq.size
    exact ⟨hg8.os.trans (hg7.os.trans (hg6.os.trans (h35.os.trans (hg3.os.trans HBq.os)))), hg8.tape.trans (hg7.tape.trans (hg6.tape.trans (h35.tape.trans (hg3.tape.trans HBq.tape)))), hg8.output.trans (hg7.output.trans (hg6.output.trans (h35.output.trans (hg3.output.trans HBq.output)))), by omega,
      fun g hg hn => (hch g (by omega) (fun e => hn (.inl e)) (fun e => hn (.inr (.inl e))) (fun e => hn (.inr (.inr ⟨hf, e⟩)))).trans (HBq.block g hg)⟩
  · intro q g h1
    replace h1 : (if q = r then v7 else ρ q).ownBlock = some g := h1
    by_cases hq : q = r
    · rw [if_pos hq] at h1
      rw [hq]
      rcases hloc with h3 | h3
      · exact .inl (h3 ▸ h1)
      · rw [h3] at h1
        have : w6.heap.size = g := by simpa using h1
        have := HBq.size
        exact .inr (by omega)
    · rw [if_neg hq] at h1
      exact .inl h1

/-- Blocks of other types are as they were. -/
def Keep (w w' : World) : Prop := ∀ (g : Nat) (cs : Array Value) (t : TypeId) (fr : Nat × Nat), w.heap[g]? = some (Obj.cells cs t fr) → t ≠ 79 → t ≠ 36 → t ≠ 3 → w'.heap[g]? = some (Obj.cells cs t fr)

theorem Keep.refl (w : World) : Keep w w := fun _ _ _ _ h _ _ _ => h
theorem Keep.trans {a b c : World} (h : Keep a b) (k : Keep b c) : Keep a c := fun g cs t fr h0 h1 h2 h3 => k g cs t fr (h g cs t fr h0 h1 h2 h3) h1 h2 h3
theorem heap_lt {w : World} {g : Nat} {o : Obj} (h : w.heap[g]? = some o) : g < w.heap.size := (Array.getElem?_eq_some_iff.1 h).1
theorem Keep.of_below {w w' : World} (h : Below w.heap.size w w') : Keep w w' := fun g _ _ _ h0 _ _ _ => (h.block g (heap_lt h0)).trans h0
theorem Keep.of_chg {w w' : World} {B bb km pm : Nat} {vf : Value} {ρ : Int × Int → Value} {F K : List Fa} (hb : Book w B bb km pm vf ρ F K) {S : Nat → Prop} (h : Chg S w w') (hS : ∀ g, S g → Foot bb km pm vf ρ g) : Keep w w' :=
  fun g _ _ _ h0 h1 h2 h3 => (h.block g (heap_lt h0) (fun hs => hb.foot_ne h0 h1 h2 h3 (hS g hs))).trans h0

theorem setCell_other {w : World} {b o g : Nat} {v : Value} (h : g ≠ b) : (w.setCell ⟨b, o, none⟩ v).heap[g]? = w.heap[g]? := Below.heap_setCell _ _ _ _ h

theorem known_snoc {F K : List Fa} {f : Fa} (h : ∀ x ∈ K, x ∈ F ∨ x = f) (x : Fa) : knownF (F ++ [f]) K x = knownF F K x := by
  unfold knownF
  by_cases hx : x ∈ K
  · rw [if_pos hx, if_pos hx, List.idxOf_append]
    by_cases hF : x ∈ F
    · rw [if_pos hF]
    · have hxf : x = f := (h x hx).resolve_left hF
      subst hxf
      rw [if_neg hF, List.idxOf_eq_length hF]
      simp
  · rw [if_neg hx, if_neg hx]

/-- The book behind a fact put to its list. -/
theorem Book.append {wa w6 : World} {B bb km pm : Nat} {vf v6 : Value} {ρ : Int × Int → Value} {F K : List Fa} {f : Fa} (h : Book wa B bb km pm vf ρ F K) (hKF : ∀ x ∈ K, x ∈ F ∨ x = f) (hg : wa.grownBy w6 vf.ownBlock) (hown : w6.ownsRow B 36 3 v6 (F ++ [f]).length (cellsI (flat faR (F ++ [f])))) :
    Book (w6.setCell ⟨bb, 0, none⟩ v6) B bb km pm v6 ρ (F ++ [f]) K ∧ Below B wa (w6.setCell ⟨bb, 0, none⟩ v6) ∧ Keep wa (w6.setCell ⟨bb, 0, none⟩ v6) := by
  have hb6 : Blk w6 bb [vf, .map (some km), .map (some pm)] 79 := blk_grownR h.blk hg (own_ne_blk h.facts h.blk (by decide))
  have hbb := h.blk
  unfold Blk at hbb
  have hkm := map_of_R h.known
  have hpm := map_of_R h.people
  have hvm : ∀ m, (∃ es clock, wa.heap[m]? = some (.map es clock)) → some m ≠ vf.ownBlock := fun m hm e => by
    obtain ⟨cur, h1, _⟩ := own_blk h.facts e.symm
    exact cells_ne_map h1 hm rfl
  have hch : ∀ g, g < wa.heap.size → some g ≠ vf.ownBlock → g ≠ bb → (w6.setCell ⟨bb, 0, none⟩ v6).heap[g]? = wa.heap[g]? := fun g h1 h2 h3 => (setCell_other h3).trans (hg.block g h1 h2)
  have hmb : ∀ m, (∃ es clock, wa.heap[m]? = some (.map es clock)) → m ≠ bb := fun m hm e => cells_ne_map hbb hm e.symm
  refine ⟨⟨?_, h.bb_, h.km_, h.pm_, h.kp, ?_, (h.known.at_ (hch km h.known.lt (hvm km hkm) (hmb km hkm))).congr (fun x => known_snoc hKF x), h.people.at_ (hch pm h.people.lt (hvm pm hpm) (hmb pm hpm)), ?_, h.nils, h.apart⟩, ?_, ?_⟩
  · exact hb6.set 0 v6
  · refine own_at hown (fun g hgo => setCell_other ?_)
    obtain ⟨cur, h1, _⟩ := own_blk hown hgo
    rintro rfl
    have h2 := hb6
    unfold Blk at h2
    have := cells_type h1 h2
    revert this
    decide
  · intro r
    refine own_at (h.rows r) (fun g hgo => ?_)
    obtain ⟨cur, h1, _, hlt⟩ := own_blk (h.rows r) hgo
    refine hch g hlt (fun e => ?_) (fun e => ?_)
    · obtain ⟨cur', h2, _⟩ := own_blk h.facts e.symm
      have := cells_type h1 h2
      revert this
      decide
    · subst e
      have := cells_type h1 hbb
      revert this
      decide
  · have h1 : Below B wa w6 := ⟨hg.os, hg.tape, hg.output, hg.size, fun k hk => hg.block k (by have := h.bb_; have := h.blk.lt; omega) (fun e => by
      obtain ⟨_, _, h2, _⟩ := own_blk h.facts e.symm
      omega)⟩
    refine ⟨h1.os, h1.tape, h1.output, by simpa [World.setCell] using h1.size, fun k hk => (setCell_other ?_).trans (h1.block k hk)⟩
    have := h.bb_
    omega
  · intro g cs t fr h0 h1 h2 h3
    refine (hch g (heap_lt h0) (fun e => ?_) (fun e => ?_)).trans h0
    · obtain ⟨cur', h4, _⟩ := own_blk h.facts e.symm
      exact h2 (cells_type h0 h4)
    · subst e
      exact h1 (cells_type h0 hbb)

set_option maxHeartbeats 2000000 in
theorem write_calls (w : World) (B bb km pm : Nat) (vf : Value) (ρ : Int × Int → Value) (F K : List Fa) (f : Fa) (h : Book w B bb km pm vf ρ F K) (hKF : ∀ x, x ∈ K ↔ x ∈ F) (hB : B ≤ w.heap.size) (hK : K.length ≤ 1073741824) (hF : F.length ≤ 1073741824) :
    Calls Try.prog 74 #[.pointer (some ⟨bb, 0, none⟩), faV f] w fun e w' => e = .returned (.tuple #[]) ∧ ∃ vf' ρ', Book w' B bb km pm vf' ρ' (F ++ [f]) (put K f) ∧
      Chg (fun g => g = km ∨ g = pm ∨ g = bb ∨ vf.ownBlock = some g ∨ (f ∉ K ∧ (ρ (f.a, f.b)).ownBlock = some g)) w w' ∧ (∀ r g, (ρ' r).ownBlock = some g → (ρ r).ownBlock = some g ∨ w.heap.size ≤ g) := by
  obtain ⟨fa, fb, fw⟩ := f
  simp only [faV]
  have hbA := (Below.refl w.heap.size w).alloc (Nat.le_refl _) (.cells #[.int .i64 fa, .int .i64 fb, .int .i64 fw] 36)
  have HBA := hide hbA
  have HG := hide (Blk.new w #[.int .i64 fa, .int .i64 fb, .int .i64 fw] 36)
  have HK1 := hide (h.below hbA)
  have H0 := hide h
  have HKF := hide hKF
  obtain ⟨av, cv, hsv⟩ := own_shape h.facts
  subst hsv
  clear h hbA hKF
  go_enter Try.func74, Try.ntmps74
  go_wp2_with fail
  obtain ⟨b0, e0⟩ : ∃ b, b = w.heap.size := ⟨_, rfl⟩
  have Hb0 := hide e0
  rw [← e0] at HG ⊢
  clear e0
  generalize w.alloc (.cells #[.int .i64 fa, .int .i64 fb, .int .i64 fw] 36) = w1 at *
  refine (has_calls w1 bb km pm K.length _ F K ⟨fa, fb, fw⟩ HK1.out.blk HK1.out.known).mono ?_
  rintro e w2 ⟨rfl, hb⟩
  have HK2 := hide (HK1.out.below hb)
  have HG2 := hide (HG.out.below hb HG.out.lt)
  have HB2 := hide (HBA.out.trans (hb.mono HBA.out.size))
  clear hb HK1 HG HBA
  by_cases hf : (⟨fa, fb, fw⟩ : Fa) ∈ K
  · rw [decide_eq_true hf]
    have HP := hide (put_old hf)
    clear hf
    have HKt := hide HK2.out
    have HGt := hide HG2.out
    have HCt : Hid (Chg (fun g => g = km ∨ g = pm ∨ g = bb ∨ (Value.slice av F.length cv).ownBlock = some g ∨ ((⟨fa, fb, fw⟩ : Fa) ∉ K ∧ (ρ (fa, fb)).ownBlock = some g)) w w2) := .of_below HB2.out
    have HKFt : Hid (∀ x ∈ K, x ∈ F ∨ x = ⟨fa, fb, fw⟩) := fun x hx => .inl ((HKF.out x).1 hx)
    have HRt : Hid (∀ r g, (ρ r).ownBlock = some g → (ρ r).ownBlock = some g ∨ w.heap.size ≤ g) := fun _ _ h => .inl h
    clear HK2 HG2 HB2
    go_wp2_with fail
    have l0 := HGt.out.lt
    have l1 := HKt.out.blk.lt
    have n0 : ∀ p : Near w2.heap.size w2, p.w.cell? ⟨b0, 0, none⟩ = some (.int .i64 fa) := fun p => by rw [(HGt.out.below p.h l0).cell 0]; rfl
    have n1 : ∀ p : Near w2.heap.size w2, p.w.cell? ⟨b0, 1, none⟩ = some (.int .i64 fb) := fun p => by rw [(HGt.out.below p.h l0).cell 1]; rfl
    have n2 : ∀ p : Near w2.heap.size w2, p.w.cell? ⟨b0, 2, none⟩ = some (.int .i64 fw) := fun p => by rw [(HGt.out.below p.h l0).cell 2]; rfl
    have m1 : ∀ p : Near w2.heap.size w2, p.w.cell? ⟨bb, 0, none⟩ = some (.slice av F.length cv) := fun p => by rw [(HKt.out.blk.below p.h l1).cell 0]; rfl
    have hnn := Near.some w2.heap.size w2
    refine wp_region_open (fun wd => ∃ p : Near w2.heap.size w2, wd = p.w) ⟨⟨_, (Below.refl _ _).drew⟩, rfl⟩ (by kernel_rfl) ?_
    rintro wd ⟨pt, rfl⟩
    refine wpAny_seg_lit 0 1 10 rfl (by decide) (by kernel_rfl) (by kernel_rfl) (fun _ _ _ _ _ h => h) ?_
    simp only [List.take_succ_cons, List.take_zero, List.drop_zero]
    go_big_quiet_step (fail)
    refine wpQuiet_nil ?_
    refine wpAny_of_K (c := 7) (D := fun w' => ∃ p : Near w2.heap.size w2, w' = p.w) _ _ _ _ ?_
    refine wpAnyK_seg_lit3 1 5 4 5 rfl (by decide) (by decide) (by kernel_rfl) (by kernel_rfl) (by kernel_rfl) (by kernel_rfl) (fun _ _ _ _ _ h => h) ⟨pt, rfl⟩ ?_
    simp only [List.take_succ_cons, List.take_zero, List.drop_succ_cons, List.drop_zero]
    repeat (go_big_quiet_step (fail))
    refine wpQuiet_nil ?_
    refine wpAnyK_one 6 (by kernel_rfl) rfl ?_
    go_wp2_with fail
    refine ⟨⟨⟨_, pt.h.alloc pt.h.size _⟩, rfl⟩, ?_⟩
    clear n0 n1 n2 m1 hnn
    have hqb := pt.h
    obtain ⟨wt, hq⟩ := pt
    simp only at hqb ⊢
    have HKu := hide (HKt.out.below hqb)
    have HCu := hide (HCt.out.trans (Chg.of_below (S := fun _ => False) hqb) (fun _ _ h => h.elim))
    have hBu : B ≤ wt.heap.size := by have := HCu.out.size; omega
    clear hq hqb HKt HCt HGt l0 l1
    obtain ⟨j0, hj, hy0, hy1, hy2⟩ := info_parts info_fact
    refine wpAnyK_last (by kernel_rfl) (by decide) ?_
    refine wpAny_one 7 (by kernel_rfl) rfl ?_
    refine wpList_append_oneG (cs := #[.int .i64 fa, .int .i64 fb, .int .i64 fw]) hBu rfl (.tmp 35) (.tmp 37) 31 rfl 36 j0 (.agg #[.int .i64 0, .int .i64 0, .int .i64 0]) 3 24 Try.underlying31 hj hy0 hy1 hy2 rfl (by decide) rfl (by simp [Value.oneCell']) _ _ _ rfl HKu.out.facts 1 rfl (by omega) (by omega) ?_
    intro v6 wv hown6 hg6
    obtain ⟨a6, c6, hsh6⟩ := own_shape hown6
    subst hsh6
    have hown6' := own_snocR (R := faR) (x := ⟨fa, fb, fw⟩) rfl hown6
    obtain ⟨hk7, hb7, he7⟩ := HKu.out.append HKFt.out hg6 hown6'
    have hblk6 : Blk wv bb [.slice av F.length cv, .map (some km), .map (some pm)] 79 := blk_grownR HKu.out.blk hg6 (own_ne_blk HKu.out.facts HKu.out.blk (by decide))
    have HK7 := hide hk7
    have HC7 : Hid (Chg (fun g => g = km ∨ g = pm ∨ g = bb ∨ (Value.slice av F.length cv).ownBlock = some g ∨ ((⟨fa, fb, fw⟩ : Fa) ∉ K ∧ (ρ (fa, fb)).ownBlock = some g)) w (wv.setCell ⟨bb, 0, none⟩ (.slice a6 (F.length + 1) c6))) := HCu.out.trans (T := fun g => g = bb ∨ (Value.slice av F.length cv).ownBlock = some g) ⟨hg6.os, hg6.tape, hg6.output, by simpa [World.setCell] using hg6.size, fun g h1 h2 => (setCell_other (fun e => h2 (.inl e))).trans (hg6.block g h1 (fun e => h2 (.inr e.symm)))⟩ (fun g _ h => by
      rcases h with h | h
      · exact .inr (.inr (.inl h))
      · exact .inr (.inr (.inr (.inl h))))
    have c0 : wv.cell? ⟨bb, 0, none⟩ = some (.slice av F.length cv) := by rw [hblk6.cell 0]; rfl
    have f0 : wv.frozen? ⟨bb, 0, none⟩ = false := hblk6.free 0
    have l6 := hblk6.lt
    clear hown6 hown6' hg6 hk7 hb7 he7 hblk6
    go_wp2_with fail
    show wpAny _ _ _ _ _ _ _ _
    refine wpAny_rest 8 rfl (by kernel_rfl) ?_
    simp only [List.drop_succ_cons, List.drop_zero]
    go_wp2_with fail
    go_end0
    exact ⟨rfl, _, _, by rw [HP.out]; exact HK7.out, HC7.out, HRt.out⟩
  · rw [decide_eq_false hf]
    have HP := hide (put_new hf)
    have HN := hide hf
    have HNF : Hid ((⟨fa, fb, fw⟩ : Fa) ∉ F) := fun h => hf ((HKF.out _).2 h)
    clear hf
    go_wp2_with fail
    have l0 := HG2.out.lt
    have lb := HK2.out.blk.lt
    have d0 : w2.cell? ⟨b0, 0, none⟩ = some (.int .i64 fa) := by rw [HG2.out.cell 0]; rfl
    have d1 : w2.cell? ⟨b0, 1, none⟩ = some (.int .i64 fb) := by rw [HG2.out.cell 1]; rfl
    have d2 : w2.cell? ⟨b0, 2, none⟩ = some (.int .i64 fw) := by rw [HG2.out.cell 2]; rfl
    have c1 : w2.cell? ⟨bb, 1, none⟩ = some (.map (some km)) := by rw [HK2.out.blk.cell 1]; rfl
    have c2 : w2.cell? ⟨bb, 0, none⟩ = some (.slice av F.length cv) := by rw [HK2.out.blk.cell 0]; rfl
    have hm2 : MapR keyF w2.drew km K.length (knownF F K) := HK2.out.known
    obtain ⟨w3, hrun, hM3, hg3, hs3⟩ := hm2.store (t := 76) Try.underlying76 ⟨fa, fb, fw⟩ (.int .i64 ((F.length : Nat) : Int))
    have HM3 := hide hM3
    have Hg3 := hide hg3
    have Hs3 := hide hs3
    clear hM3 hg3 hm2 hs3
    change (Instr.mapUpdate 76 (.map (some km)) (.agg #[.int .i64 fa, .int .i64 fb, .int .i64 fw]) (.int .i64 ((F.length : Nat) : Int))).run Try.prog w2.drew = .ok () w3 at hrun
    refine wp_region_tail 10 (fun wd => wd = w2.drew) rfl (by kernel_rfl) (by kernel_rfl) ?_
    rintro wd rfl
    have d0 : w2.drew.cell? ⟨b0, 0, none⟩ = some (.int .i64 fa) := d0
    have d1 : w2.drew.cell? ⟨b0, 1, none⟩ = some (.int .i64 fb) := d1
    have d2 : w2.drew.cell? ⟨b0, 2, none⟩ = some (.int .i64 fw) := d2
    have c1 : w2.drew.cell? ⟨bb, 1, none⟩ = some (.map (some km)) := c1
    have c2 : w2.drew.cell? ⟨bb, 0, none⟩ = some (.slice av F.length cv) := c2
    have l0 : b0 < w2.drew.heap.size := l0
    have lb : bb < w2.drew.heap.size := lb
    have HK2 : Hid (Book w2.drew B bb km pm (.slice av F.length cv) ρ F K) := HK2.out.at_ (fun _ _ _ => rfl)
    have HB2 : Hid (Below w.heap.size w w2.drew) := HB2.out.drew
    have HG2 : Hid (Blk w2.drew b0 [.int .i64 fa, .int .i64 fb, .int .i64 fw] 36) := HG2.out
    generalize w2.drew = wq at *
    simp only [List.take_succ_cons, List.take_zero, List.drop_succ_cons, List.drop_zero]
    repeat (go_big_quiet_step (fail))
    refine wpQuiet_nil ?_
    go_wp2_with fail
    clear hrun d0 d1 d2 c1 c2 l0 lb
    have HG3 : Hid (Blk w3 b0 [.int .i64 fa, .int .i64 fb, .int .i64 fw] 36) := blk_grownR HG2.out Hg3.out (by
      intro e
      have : km = b0 := by simpa using e
      have h2 := HG2.out
      unfold Blk at h2
      exact HK2.out.known.ne_blk h2 this.symm)
    have HBB3 : Hid (Blk w3 bb [.slice av F.length cv, .map (some km), .map (some pm)] 79) := blk_grownR HK2.out.blk Hg3.out (by
      intro e
      have : km = bb := by simpa using e
      have h2 := HK2.out.blk
      unfold Blk at h2
      exact HK2.out.known.ne_blk h2 this.symm)
    have HP3 : Hid (MapR keyR w3 pm K.length (peopleF K ρ)) := HK2.out.people.at_ (Hg3.out.block pm HK2.out.people.lt (by
      intro e
      exact HK2.out.kp (by simpa using e.symm)))
    have l0 := HG3.out.lt
    have l1 := HBB3.out.lt
    have n0 : ∀ p : Near w3.heap.size w3, p.w.cell? ⟨b0, 0, none⟩ = some (.int .i64 fa) := fun p => by rw [(HG3.out.below p.h l0).cell 0]; rfl
    have n1 : ∀ p : Near w3.heap.size w3, p.w.cell? ⟨b0, 1, none⟩ = some (.int .i64 fb) := fun p => by rw [(HG3.out.below p.h l0).cell 1]; rfl
    have n2 : ∀ p : Near w3.heap.size w3, p.w.cell? ⟨b0, 2, none⟩ = some (.int .i64 fw) := fun p => by rw [(HG3.out.below p.h l0).cell 2]; rfl
    have m1 : ∀ p : Near w3.heap.size w3, p.w.cell? ⟨bb, 2, none⟩ = some (.map (some pm)) := fun p => by rw [(HBB3.out.below p.h l1).cell 2]; rfl
    have hnn := Near.some w3.heap.size w3
    refine wp_region_open (fun wd => ∃ p : Near w3.heap.size w3, wd = p.w) ⟨⟨_, (Below.refl _ _).drew⟩, rfl⟩ (by kernel_rfl) ?_
    rintro wd ⟨pd, rfl⟩
    refine wpAny_of_K (c := 9) (D := fun w' => ∃ p : Near w3.heap.size w3, w' = p.w) _ _ _ _ ?_
    refine wpAnyK_seg_lit3 0 8 4 6 rfl (by decide) (by decide) (by kernel_rfl) (by kernel_rfl) (by kernel_rfl) (by kernel_rfl) (fun _ _ _ _ _ h => h) ⟨pd, rfl⟩ ?_
    simp only [List.take_succ_cons, List.take_zero, List.drop_zero]
    repeat (go_big_quiet_step (fail))
    refine wpQuiet_nil ?_
    refine wpAnyK_one 8 (by kernel_rfl) rfl ?_
    go_wp2_with fail
    refine ⟨⟨⟨_, pd.h.alloc pd.h.size _⟩, rfl⟩, ?_⟩
    clear n0 n1 n2 m1 hnn
    have HP4 := hide (pd.h.alloc pd.h.size (.cells #[.int .i64 fw] 3))
    have HNw := hide (Blk.new pd.w #[.int .i64 fw] 3)
    obtain ⟨b5, eb5⟩ : ∃ b, b = pd.w.heap.size := ⟨_, rfl⟩
    have hb5 : w3.heap.size ≤ b5 := by rw [eb5]; exact pd.h.size
    rw [← eb5] at HNw ⊢
    generalize pd.w.alloc (.cells #[.int .i64 fw] 3) = w5 at *
    have hm5 : MapR keyR w5 pm K.length (peopleF K ρ) := HP3.out.at_ (HP4.out.block pm HP3.out.lt)
    obtain ⟨st, w6, hrun, hE6, hg6, hs6⟩ := hm5.entry (t := 77) Try.underlying77 (zero_ints w5) (fa, fb)
    rw [people_get H0.out] at hrun hE6
    change (Instr.mapEntry 77 (.map (some pm)) (.agg #[.int .i64 fa, .int .i64 fb])).run Try.prog w5 = .ok (.tuple #[ρ (fa, fb), .int .i64 (st : Int)]) w6 at hrun
    have HE6 := hide hE6
    have Hg6 := hide hg6
    have Hs6 := hide hs6
    have Hm5 := hide hm5
    clear hE6 hg6 hs6 hm5 eb5
    refine wpAnyK_last (by kernel_rfl) (by decide) ?_
    refine wpAny_one 9 (by kernel_rfl) rfl ?_
    go_wp2_with fail
    show wpAny _ _ _ _ _ _ _ _
    refine wpAny_seg_lit 10 1 3 rfl (by decide) (by kernel_rfl) (by kernel_rfl) (fun _ _ _ _ _ h => h) ?_
    simp only [List.take_succ_cons, List.take_zero, List.drop_succ_cons, List.drop_zero]
    go_big_quiet_step (fail)
    refine wpQuiet_nil ?_
    refine wpAny_seg_lit 12 1 2 rfl (by decide) (by kernel_rfl) (by kernel_rfl) (fun _ _ _ _ _ h => h) ?_
    simp only [List.take_succ_cons, List.take_zero, List.drop_succ_cons, List.drop_zero]
    go_big_quiet_step (fail)
    refine wpQuiet_nil ?_
    refine wpAny_one 11 (by kernel_rfl) rfl ?_
    have hR6 : w6.ownsRow B 3 1 (ρ (fa, fb)) (ppl K (fa, fb)).length (cellsI (ppl K (fa, fb))) := own_at (HK2.out.rows (fa, fb)) (fun g hg => by
      obtain ⟨cur, h1, _, hlt⟩ := own_blk (HK2.out.rows (fa, fb)) hg
      have z3 := Hg3.out.size
      have z5 := HP4.out.size
      exact (Hg6.out.block g (by omega) (fun e => cells_ne_map h1 (map_of_R HK2.out.people) (by simpa using e))).trans ((HP4.out.block g (by omega)).trans (Hg3.out.block g hlt (fun e => cells_ne_map h1 (map_of_R HK2.out.known) (by simpa using e)))))
    have hN6 : Blk w6 b5 [.int .i64 fw] 3 := blk_grownR HNw.out Hg6.out (fun e => by
      have h2 := HNw.out
      unfold Blk at h2
      exact cells_ne_map h2 (map_of_R Hm5.out) (by simpa using e.symm))
    have hB6 : B ≤ w6.heap.size := by
      have z2 := HB2.out.size
      have z3 := Hg3.out.size
      have z5 := HP4.out.size
      have z6 := Hg6.out.size
      omega
    have hple := ppl_le K (fa, fb)
    have HR6 := hide hR6
    have HN6 := hide hN6
    clear hR6 hN6
    obtain ⟨i0, hi, hz0, hz1, hz2⟩ := info_parts infoInt
    refine wpList_append_own_at _ rfl (.tmp 24) (.tmp 27) 40 rfl B 3 i0 (.int .i64 0) 1 8 Try.underlying40 hi hz0 hz1 hz2 rfl (by decide) _ _ _ rfl HR6.out ⟨b5, 0, none⟩ 1 1 [.int .i64 fw] rfl rfl (fun j u hj => by
      simp only [Go.WideShapes.add_plain, Nat.zero_add]
      rw [HN6.out.cell j]
      exact hj) (by simp [Value.oneCell']) (by unfold maxLen; omega) (by omega) hB6 ?_
    intro v7 w7 hown7 hg7 _ hloc7
    have HE7 := hide (HE6.out.at_ (hg7.block pm HE6.out.lt (fun e => by
      obtain ⟨cur, h1, _⟩ := own_blk HR6.out e.symm
      exact cells_ne_map h1 (map_of_E HE6.out) rfl)))
    obtain ⟨w8, hrun8, hM8, hg8, hsz8⟩ := HE7.out.store 77 v7
    have HO7 := hide hown7
    have Hg7 := hide hg7
    have Hl7 := hide hloc7
    have HM8 := hide hM8
    have Hg8 := hide hg8
    clear hown7 hg7 hloc7 hM8 hg8 hsz8
    have hch8 : ∀ g, g < wq.heap.size → g ≠ km → g ≠ pm → (ρ (fa, fb)).ownBlock ≠ some g → w8.heap[g]? = wq.heap[g]? := fun g hg h1 h2 h3 => by
      have z3 := Hg3.out.size
      have z5 := HP4.out.size
      have z6 := Hg6.out.size
      have z7 := Hg7.out.size
      exact (Hg8.out.block g (by omega) (fun e => h2 (by simpa using e))).trans ((Hg7.out.block g (by omega) (fun e => h3 e.symm)).trans ((Hg6.out.block g (by omega) (fun e => h2 (by simpa using e))).trans ((HP4.out.block g (by omega)).trans (Hg3.out.block g hg (fun e => h1 (by simpa using e))))))
    change (Instr.entryStore 77 (.map (some pm)) (.int .i64 (st : Int)) v7).run Try.prog w7 = .ok () w8 at hrun8
    go_wp2_with fail
    show wpAny _ _ _ _ _ _ _ _
    refine wpAny_one 13 (by kernel_rfl) rfl ?_
    go_wp2_with fail
    show wpAny _ _ _ _ _ _ _ _
    refine ⟨by kernel_rfl, ?_⟩
    obtain ⟨ρ8, hk8, hc8, hr8⟩ := learn_end HK2.out HB2.out HN.out HNF.out HM3.out Hg3.out HP4.out Hg6.out HO7.out Hg7.out Hl7.out (map_of_E HE7.out) HM8.out Hg8.out
    have HKt := hide hk8
    have HGt : Hid (Blk w8 b0 [.int .i64 fa, .int .i64 fb, .int .i64 fw] 36) := by
      have h1 := HG2.out
      show Blk _ _ _ _
      unfold Blk at h1 ⊢
      have hz := HB2.out.size
      rw [hch8 b0 HG2.out.lt (cells_ne_map h1 (map_of_R HK2.out.known)) (cells_ne_map h1 (map_of_R HK2.out.people)) (fun e => by
        obtain ⟨cur, h4, _⟩ := own_blk (HK2.out.rows (fa, fb)) e
        have := cells_type h1 h4
        revert this
        decide)]
      exact h1
    have HCt : Hid (Chg (fun g => g = km ∨ g = pm ∨ g = bb ∨ (Value.slice av F.length cv).ownBlock = some g ∨ ((⟨fa, fb, fw⟩ : Fa) ∉ K ∧ (ρ (fa, fb)).ownBlock = some g)) w w8) := ⟨hc8.os, hc8.tape, hc8.output, hc8.size, fun g h1 h2 => hc8.block g h1 (fun h3 => h2 (by
      rcases h3 with h3 | h3 | h3
      · exact .inl h3
      · exact .inr (.inl h3)
      · exact .inr (.inr (.inr (.inr h3)))))⟩
    have HKFt : Hid (∀ x ∈ K ++ [(⟨fa, fb, fw⟩ : Fa)], x ∈ F ∨ x = ⟨fa, fb, fw⟩) := fun x hx => by
      rcases List.mem_append.1 hx with hx | hx
      · exact .inl ((HKF.out x).1 hx)
      · exact .inr (List.mem_singleton.1 hx)
    have HRt := hide hr8
    clear hk8 hc8 hr8 hch8 HK2 HB2 HM3 Hg3 HP4 Hg6 HO7 Hg7 Hl7 HE7 HM8 Hg8 HN HNF HG2 HG3 HBB3 HP3 HE6 Hm5 HNw HR6 HN6 Hs3 Hs6 hrun8
    go_wp2_with fail
    have l0 := HGt.out.lt
    have l1 := HKt.out.blk.lt
    have n0 : ∀ p : Near w8.heap.size w8, p.w.cell? ⟨b0, 0, none⟩ = some (.int .i64 fa) := fun p => by rw [(HGt.out.below p.h l0).cell 0]; rfl
    have n1 : ∀ p : Near w8.heap.size w8, p.w.cell? ⟨b0, 1, none⟩ = some (.int .i64 fb) := fun p => by rw [(HGt.out.below p.h l0).cell 1]; rfl
    have n2 : ∀ p : Near w8.heap.size w8, p.w.cell? ⟨b0, 2, none⟩ = some (.int .i64 fw) := fun p => by rw [(HGt.out.below p.h l0).cell 2]; rfl
    have m1 : ∀ p : Near w8.heap.size w8, p.w.cell? ⟨bb, 0, none⟩ = some (.slice av F.length cv) := fun p => by rw [(HKt.out.blk.below p.h l1).cell 0]; rfl
    have hnn := Near.some w8.heap.size w8
    refine wp_region_open (fun wd => ∃ p : Near w8.heap.size w8, wd = p.w) ⟨⟨_, (Below.refl _ _).drew⟩, rfl⟩ (by kernel_rfl) ?_
    rintro wd ⟨pt, rfl⟩
    refine wpAny_seg_lit 0 1 10 rfl (by decide) (by kernel_rfl) (by kernel_rfl) (fun _ _ _ _ _ h => h) ?_
    simp only [List.take_succ_cons, List.take_zero, List.drop_zero]
    go_big_quiet_step (fail)
    refine wpQuiet_nil ?_
    refine wpAny_of_K (c := 7) (D := fun w' => ∃ p : Near w8.heap.size w8, w' = p.w) _ _ _ _ ?_
    refine wpAnyK_seg_lit3 1 5 4 5 rfl (by decide) (by decide) (by kernel_rfl) (by kernel_rfl) (by kernel_rfl) (by kernel_rfl) (fun _ _ _ _ _ h => h) ⟨pt, rfl⟩ ?_
    simp only [List.take_succ_cons, List.take_zero, List.drop_succ_cons, List.drop_zero]
    repeat (go_big_quiet_step (fail))
    refine wpQuiet_nil ?_
    refine wpAnyK_one 6 (by kernel_rfl) rfl ?_
    go_wp2_with fail
    refine ⟨⟨⟨_, pt.h.alloc pt.h.size _⟩, rfl⟩, ?_⟩
    clear n0 n1 n2 m1 hnn
    have hqb := pt.h
    obtain ⟨wt, hq⟩ := pt
    simp only at hqb ⊢
    have HKu := hide (HKt.out.below hqb)
    have HCu := hide (HCt.out.trans (Chg.of_below (S := fun _ => False) hqb) (fun _ _ h => h.elim))
    have hBu : B ≤ wt.heap.size := by have := HCu.out.size; omega
    clear hq hqb HKt HCt HGt l0 l1
    obtain ⟨j0, hj, hy0, hy1, hy2⟩ := info_parts info_fact
    refine wpAnyK_last (by kernel_rfl) (by decide) ?_
    refine wpAny_one 7 (by kernel_rfl) rfl ?_
    refine wpList_append_oneG (cs := #[.int .i64 fa, .int .i64 fb, .int .i64 fw]) hBu rfl (.tmp 35) (.tmp 37) 31 rfl 36 j0 (.agg #[.int .i64 0, .int .i64 0, .int .i64 0]) 3 24 Try.underlying31 hj hy0 hy1 hy2 rfl (by decide) rfl (by simp [Value.oneCell']) _ _ _ rfl HKu.out.facts 1 rfl (by omega) (by omega) ?_
    intro v6 wv hown6 hg6
    obtain ⟨a6, c6, hsh6⟩ := own_shape hown6
    subst hsh6
    have hown6' := own_snocR (R := faR) (x := ⟨fa, fb, fw⟩) rfl hown6
    obtain ⟨hk7, hb7, he7⟩ := HKu.out.append HKFt.out hg6 hown6'
    have hblk6 : Blk wv bb [.slice av F.length cv, .map (some km), .map (some pm)] 79 := blk_grownR HKu.out.blk hg6 (own_ne_blk HKu.out.facts HKu.out.blk (by decide))
    have HK7 := hide hk7
    have HC7 : Hid (Chg (fun g => g = km ∨ g = pm ∨ g = bb ∨ (Value.slice av F.length cv).ownBlock = some g ∨ ((⟨fa, fb, fw⟩ : Fa) ∉ K ∧ (ρ (fa, fb)).ownBlock = some g)) w (wv.setCell ⟨bb, 0, none⟩ (.slice a6 (F.length + 1) c6))) := HCu.out.trans (T := fun g => g = bb ∨ (Value.slice av F.length cv).ownBlock = some g) ⟨hg6.os, hg6.tape, hg6.output, by simpa [World.setCell] using hg6.size, fun g h1 h2 => (setCell_other (fun e => h2 (.inl e))).trans (hg6.block g h1 (fun e => h2 (.inr e.symm)))⟩ (fun g _ h => by
      rcases h with h | h
      · exact .inr (.inr (.inl h))
      · exact .inr (.inr (.inr (.inl h))))
    have c0 : wv.cell? ⟨bb, 0, none⟩ = some (.slice av F.length cv) := by rw [hblk6.cell 0]; rfl
    have f0 : wv.frozen? ⟨bb, 0, none⟩ = false := hblk6.free 0
    have l6 := hblk6.lt
    clear hown6 hown6' hg6 hk7 hb7 he7 hblk6
    go_wp2_with fail
    show wpAny _ _ _ _ _ _ _ _
    refine wpAny_rest 8 rfl (by kernel_rfl) ?_
    simp only [List.drop_succ_cons, List.drop_zero]
    go_wp2_with fail
    go_end0
    exact ⟨rfl, _, _, by rw [HP.out]; exact HK7.out, HC7.out, HRt.out⟩
end Go.Proofs.Ytgnldmheiknbkaa.P6
namespace Go.Proofs.Ytgnldmheiknbkaa.P6
set_option maxRecDepth 8000
open Go.RowKit P1 P5 Rc Mp

/-- A right word as the program keeps it. -/
def circV (c : Cr) : Value :=
  if c.k = 1 then .iface 111 (.agg #[.int .i64 c.ow, .int .i64 c.on, .int .i64 c.wh])
  else if c.k = 2 then .iface 113 (.agg #[.int .i64 c.ow, .int .i64 c.on, .int .i64 c.aw, .int .i64 c.an])
  else if c.k = 3 then .iface 115 (.agg #[.int .i64 c.ow, .int .i64 c.on, .int .i64 c.aw, .int .i64 c.an, .int .i64 c.bn])
  else .iface 117 (.agg #[.int .i64 c.ow, .int .i64 c.on, .int .i64 c.aw, .int .i64 c.an, .int .i64 c.bw, .int .i64 c.bn])

theorem role_calls (w : World) (a b : Int) : Calls Try.prog 101 #[roleV a b] w fun e w' => e = .returned (roleV a b) ∧ Below w.heap.size w w' := by
  simp only [roleV]
  go_enter Try.func101, Try.ntmps101
  go_wp2_with fail
  have h1 := (Below.refl w.heap.size w).alloc (Nat.le_refl _) (.cells #[.int .i64 a, .int .i64 b] 108)
  refine bodyPost_ret (v := roleV a b) (by simp [results, Try.results101, go_sem]) rfl ⟨rfl, h1.alloc h1.size _⟩

theorem kind_of {c : Cr} (h : credOk c) : c.k = 1 ∨ c.k = 2 ∨ c.k = 3 ∨ c.k = 4 := by
  have := h.2
  unfold P5.kindOk at this
  rcases this with ⟨h, _⟩ | ⟨h, _⟩ | ⟨h, _⟩ | ⟨h, _⟩ <;> omega

set_option maxHeartbeats 1000000 in
theorem circleOf_calls (w : World) (c : Cr) : Calls Try.prog 54 #[credV c] w fun e w' => e = .returned (.tuple #[if credOk c then circV c else .nilIface, .bool (decide (credOk c))]) ∧ Below w.heap.size w w' := by
  have HOK := hide (fun wx => implCredOk_calls c wx)
  obtain ⟨U, HU⟩ : ∃ U, Hid (U = if credOk c then circV c else .nilIface) := ⟨_, rfl⟩
  rw [← HU.out]
  obtain ⟨T, HT⟩ : ∃ T, Hid (T = decide (credOk c)) := ⟨_, rfl⟩
  rw [← HT.out]
  have hbA := (Below.refl w.heap.size w).alloc (Nat.le_refl _) (.cells ((credV c).cells) 29)
  have HA := hide hbA
  have HG := hide (Blk.new w ((credV c).cells) 29)
  clear hbA
  obtain ⟨k, ow, on, wh, aw, an, bw, bn, u, n⟩ := c
  simp only [credV] at HOK ⊢
  change Hid (Below w.heap.size w (w.alloc (.cells #[.int .i64 k, .int .i64 ow, .int .i64 on, .int .i64 wh, .int .i64 aw, .int .i64 an, .int .i64 bw, .int .i64 bn, .int .i64 u, .int .i64 n] 29))) at HA
  change Hid (Blk (w.alloc (.cells #[.int .i64 k, .int .i64 ow, .int .i64 on, .int .i64 wh, .int .i64 aw, .int .i64 an, .int .i64 bw, .int .i64 bn, .int .i64 u, .int .i64 n] 29)) w.heap.size [.int .i64 k, .int .i64 ow, .int .i64 on, .int .i64 wh, .int .i64 aw, .int .i64 an, .int .i64 bw, .int .i64 bn, .int .i64 u, .int .i64 n] 29) at HG
  go_enter Try.func54, Try.ntmps54
  go_wp2_with fail
  obtain ⟨b0, e0⟩ : ∃ b, b = w.heap.size := ⟨_, rfl⟩
  rw [← e0] at HG ⊢
  clear e0
  generalize w.alloc (.cells #[.int .i64 k, .int .i64 ow, .int .i64 on, .int .i64 wh, .int .i64 aw, .int .i64 an, .int .i64 bw, .int .i64 bn, .int .i64 u, .int .i64 n] 29) = w1 at *
  refine (HOK.out w1).mono ?_
  rintro e w2 ⟨rfl, hb⟩
  have HB := hide (HA.out.trans (hb.mono HA.out.size))
  have G := hide (HG.out.below hb HG.out.lt)
  clear hb HA HG HOK
  by_cases hok : credOk ⟨k, ow, on, wh, aw, an, bw, bn, u, n⟩
  · rw [decide_eq_true hok]
    have HT1 : Hid (T = true) := HT.out.trans (decide_eq_true hok)
    have HU1 : Hid (U = circV ⟨k, ow, on, wh, aw, an, bw, bn, u, n⟩) := HU.out.trans (if_pos hok)
    have hk : k = 1 ∨ k = 2 ∨ k = 3 ∨ k = 4 := kind_of hok
    clear hok HT HU
    have c0 : w2.cell? ⟨b0, 0, none⟩ = some (.int .i64 k) := by rw [G.out.cell 0]; rfl
    have c1 : w2.cell? ⟨b0, 1, none⟩ = some (.int .i64 ow) := by rw [G.out.cell 1]; rfl
    have c2 : w2.cell? ⟨b0, 2, none⟩ = some (.int .i64 on) := by rw [G.out.cell 2]; rfl
    have c3 : w2.cell? ⟨b0, 3, none⟩ = some (.int .i64 wh) := by rw [G.out.cell 3]; rfl
    have c4 : w2.cell? ⟨b0, 4, none⟩ = some (.int .i64 aw) := by rw [G.out.cell 4]; rfl
    have c5 : w2.cell? ⟨b0, 5, none⟩ = some (.int .i64 an) := by rw [G.out.cell 5]; rfl
    have c6 : w2.cell? ⟨b0, 6, none⟩ = some (.int .i64 bw) := by rw [G.out.cell 6]; rfl
    have c7 : w2.cell? ⟨b0, 7, none⟩ = some (.int .i64 bn) := by rw [G.out.cell 7]; rfl
    have l0 := G.out.lt
    have n0 : b0 ≠ w2.heap.size := by omega
    have HB3 := hide (HB.out.alloc HB.out.size (.cells #[.int .i64 ow, .int .i64 on] 108))
    rcases hk with rfl | rfl | rfl | rfl
    all_goals
      go_wp2_with fail
      go_ret2
      refine ⟨?_, ?_⟩
      · rw [HT1.out, HU1.out]
        rfl
      · exact HB3.out
  · rw [decide_eq_false hok]
    have HT1 : Hid (T = false) := HT.out.trans (decide_eq_false hok)
    have HU1 : Hid (U = .nilIface) := HU.out.trans (if_neg hok)
    clear hok HT HU
    go_wp2_with fail
    go_ret2
    exact ⟨by rw [HT1.out, HU1.out]; rfl, HB.out⟩

theorem ta_0_0 (w : World) (ow on wh : Int) : (Instr.typeAssert (.iface 111 (.agg #[.int .i64 ow, .int .i64 on, .int .i64 wh])) 84 111 true).run Try.prog w = .ok (.tuple #[.agg #[.int .i64 ow, .int .i64 on, .int .i64 wh], .bool true]) w := by kernel_rfl
theorem ta_1_1 (w : World) (ow on aw an : Int) : (Instr.typeAssert (.iface 113 (.agg #[.int .i64 ow, .int .i64 on, .int .i64 aw, .int .i64 an])) 84 113 true).run Try.prog w = .ok (.tuple #[.agg #[.int .i64 ow, .int .i64 on, .int .i64 aw, .int .i64 an], .bool true]) w := by kernel_rfl
theorem ta_1_0 (w : World) (ow on aw an : Int) : (Instr.typeAssert (.iface 113 (.agg #[.int .i64 ow, .int .i64 on, .int .i64 aw, .int .i64 an])) 84 111 true).run Try.prog w = .ok (.tuple #[.agg #[.int .i64 0, .int .i64 0, .int .i64 0], .bool false]) w := by kernel_rfl
theorem ta_2_2 (w : World) (ow on aw an bn : Int) : (Instr.typeAssert (.iface 115 (.agg #[.int .i64 ow, .int .i64 on, .int .i64 aw, .int .i64 an, .int .i64 bn])) 84 115 true).run Try.prog w = .ok (.tuple #[.agg #[.int .i64 ow, .int .i64 on, .int .i64 aw, .int .i64 an, .int .i64 bn], .bool true]) w := by kernel_rfl
theorem ta_2_0 (w : World) (ow on aw an bn : Int) : (Instr.typeAssert (.iface 115 (.agg #[.int .i64 ow, .int .i64 on, .int .i64 aw, .int .i64 an, .int .i64 bn])) 84 111 true).run Try.prog w = .ok (.tuple #[.agg #[.int .i64 0, .int .i64 0, .int .i64 0], .bool false]) w := by kernel_rfl
theorem ta_2_1 (w : World) (ow on aw an bn : Int) : (Instr.typeAssert (.iface 115 (.agg #[.int .i64 ow, .int .i64 on, .int .i64 aw, .int .i64 an, .int .i64 bn])) 84 113 true).run Try.prog w = .ok (.tuple #[.agg #[.int .i64 0, .int .i64 0, .int .i64 0, .int .i64 0], .bool false]) w := by kernel_rfl
theorem ta_3_3 (w : World) (ow on aw an bw bn : Int) : (Instr.typeAssert (.iface 117 (.agg #[.int .i64 ow, .int .i64 on, .int .i64 aw, .int .i64 an, .int .i64 bw, .int .i64 bn])) 84 117 true).run Try.prog w = .ok (.tuple #[.agg #[.int .i64 ow, .int .i64 on, .int .i64 aw, .int .i64 an, .int .i64 bw, .int .i64 bn], .bool true]) w := by kernel_rfl
theorem ta_3_0 (w : World) (ow on aw an bw bn : Int) : (Instr.typeAssert (.iface 117 (.agg #[.int .i64 ow, .int .i64 on, .int .i64 aw, .int .i64 an, .int .i64 bw, .int .i64 bn])) 84 111 true).run Try.prog w = .ok (.tuple #[.agg #[.int .i64 0, .int .i64 0, .int .i64 0], .bool false]) w := by kernel_rfl
theorem ta_3_1 (w : World) (ow on aw an bw bn : Int) : (Instr.typeAssert (.iface 117 (.agg #[.int .i64 ow, .int .i64 on, .int .i64 aw, .int .i64 an, .int .i64 bw, .int .i64 bn])) 84 113 true).run Try.prog w = .ok (.tuple #[.agg #[.int .i64 0, .int .i64 0, .int .i64 0, .int .i64 0], .bool false]) w := by kernel_rfl
theorem ta_3_2 (w : World) (ow on aw an bw bn : Int) : (Instr.typeAssert (.iface 117 (.agg #[.int .i64 ow, .int .i64 on, .int .i64 aw, .int .i64 an, .int .i64 bw, .int .i64 bn])) 84 115 true).run Try.prog w = .ok (.tuple #[.agg #[.int .i64 0, .int .i64 0, .int .i64 0, .int .i64 0, .int .i64 0], .bool false]) w := by kernel_rfl
end Go.Proofs.Ytgnldmheiknbkaa.P6
namespace Go.Proofs.Ytgnldmheiknbkaa.P6
set_option maxRecDepth 8000
open Go.RowKit P1 P5 Rc Mp

/-- Ints as records. -/
def inR : RI Int := ⟨1, fun x => [x], fun _ => rfl, by decide⟩

theorem flat_in (l : List Int) : flat inR l = l := by simp [flat, inR]

theorem ppl_nodup {K : List Fa} (h : K.Nodup) (r : Int × Int) : (ppl K r).Nodup := by
  unfold ppl
  have h1 : (K.filter fun f => decide (f.a = r.1 ∧ f.b = r.2)).Nodup := h.filter _
  unfold List.Nodup at h1 ⊢
  rw [List.pairwise_map]
  refine List.Pairwise.imp_of_mem ?_ h1
  intro x y hx hy hne e
  have hx2 := (List.mem_filter.1 hx).2
  have hy2 := (List.mem_filter.1 hy).2
  simp only [decide_eq_true_eq] at hx2 hy2
  apply hne
  obtain ⟨xa, xb, xw⟩ := x
  obtain ⟨ya, yb, yw⟩ := y
  simp only at hx2 hy2 e
  rw [hx2.1, hx2.2, hy2.1, hy2.2, e]

theorem flat_congr {g h : Int → List Int} : ∀ (l : List Int), (∀ y ∈ l, g y = h y) → l.flatMap g = l.flatMap h
  | [], _ => rfl
  | x :: l, hl => by
    rw [List.flatMap_cons, List.flatMap_cons, hl x (by simp), flat_congr l (fun y hy => hl y (by simp [hy]))]

theorem filter_split (x : Int) : ∀ K : List Fa, (K.filter fun f => decide (f.a = x)).length + (K.filter fun f => !decide (f.a = x)).length = K.length
  | [] => rfl
  | f :: K => by
    have ih := filter_split x K
    by_cases hf : f.a = x
    · simp only [List.filter_cons, hf, decide_true, if_true, List.length_cons, Bool.not_true, Bool.false_eq_true, if_false]
      omega
    · simp only [List.filter_cons, hf, decide_false, if_true, List.length_cons, Bool.not_false, Bool.false_eq_true, if_false]
      omega

theorem flat_ppl_le (n : Int) : ∀ (l : List Int) (K : List Fa), l.Nodup → (l.flatMap fun x => ppl K (x, n)).length ≤ K.length
  | [], K, _ => by simp
  | x :: l, K, h => by
    have h1 := List.nodup_cons.1 h
    have e1 : (l.flatMap fun y => ppl K (y, n)) = l.flatMap fun y => ppl (K.filter fun f => !decide (f.a = x)) (y, n) := by
      apply flat_congr
      intro y hy
      unfold ppl
      rw [List.filter_filter]
      congr 1
      apply List.filter_congr
      intro f _
      have hne : y ≠ x := fun e => h1.1 (e ▸ hy)
      by_cases hf : f.a = y
      · subst hf
        simp [hne]
      · simp [hf]
    have h2 := flat_ppl_le n l (K.filter fun f => !decide (f.a = x)) h1.2
    have h3 : (ppl K (x, n)).length ≤ (K.filter fun f => decide (f.a = x)).length := by
      unfold ppl
      rw [List.length_map]
      have : (K.filter fun f => decide (f.a = x ∧ f.b = n)) = (K.filter fun f => decide (f.a = x)).filter fun f => decide (f.b = n) := by
        rw [List.filter_filter]
        apply List.filter_congr
        intro f _
        by_cases h1 : f.a = x <;> by_cases h2 : f.b = n <;> simp [h1, h2]
      rw [this]
      exact List.length_filter_le _ _
    have h4 := filter_split x K
    simp only [List.flatMap_cons, List.length_append]
    rw [e1]
    omega

set_option maxHeartbeats 2000000 in
theorem linked_calls (w : World) (B bb km pm : Nat) (vf : Value) (ρ : Int × Int → Value) (F K : List Fa) (a b nm : Int) (h : Book w B bb km pm vf ρ F K) (hN : K.Nodup) (hK : K.length ≤ 1073741824) :
    Calls Try.prog 82 #[.pointer (some ⟨bb, 0, none⟩), roleV a b, .int .i64 nm] w fun e w' => ∃ v', e = .returned v' ∧ w'.ownsRow w.heap.size 3 1 v' ((ppl K (a, b)).flatMap fun x => ppl K (x, nm)).length (cellsI ((ppl K (a, b)).flatMap fun x => ppl K (x, nm))) ∧ Below w.heap.size w w' := by
  obtain ⟨l, hl⟩ : ∃ l, l = ppl K (a, b) := ⟨_, rfl⟩
  obtain ⟨M, HM⟩ : ∃ M : Nat → List Int, Hid (M 0 = [] ∧ (∀ i (hi : i < l.length), M (i + 1) = M i ++ ppl K (l[i], nm)) ∧ (∀ i, (M i).length ≤ 1073741824) ∧ M l.length = l.flatMap fun x => ppl K (x, nm)) := by
    refine ⟨fun i => (l.take i).flatMap fun x => ppl K (x, nm), rfl, fun i hi => ?_, fun i => ?_, ?_⟩
    · show (l.take (i + 1)).flatMap _ = _
      rw [List.take_succ_eq_append_getElem hi, List.flatMap_append]
      simp
    · refine Nat.le_trans (flat_ppl_le nm (l.take i) K ?_) hK
      rw [hl]
      exact (ppl_nodup hN _).sublist (List.take_sublist _ _)
    · show (l.take l.length).flatMap _ = _
      rw [List.take_length]
  rw [← hl, ← HM.out.2.2.2]
  simp only [roleV]
  have hbA := (Below.refl w.heap.size w).alloc (Nat.le_refl _) (.cells #[.int .i64 a, .int .i64 b] 27)
  have HBA := hide hbA
  have HG := hide (Blk.new w #[.int .i64 a, .int .i64 b] 27)
  have HK1 := hide (h.below hbA)
  have hll : l.length ≤ 1073741824 := by rw [hl]; exact Nat.le_trans (ppl_le K _) hK
  clear h hbA
  have HL : Hid ((w.alloc (.cells #[.int .i64 a, .int .i64 b] 27)).ownsRow B 3 1 (ρ (a, b)) l.length (cellsI l)) := by
    show World.ownsRow _ _ _ _ _ _ _
    rw [hl]
    exact HK1.out.rows (a, b)
  have hlook : ∀ (q : World) (hq : Below (w.alloc (.cells #[.int .i64 a, .int .i64 b] 27)).heap.size (w.alloc (.cells #[.int .i64 a, .int .i64 b] 27)) q) (r : Int × Int), (Instr.lookup 77 (.map (some pm)) (roleV r.1 r.2) false).run Try.prog q = .ok (ρ r) q := fun q hq r => people_look (HK1.out.below hq) r
  obtain ⟨ar, cr, hsh⟩ := own_shape HL.out
  have HI := hide (IntsAt.of_own HL.out)
  rw [hsh] at HI
  replace hl := hide hl
  go_enter Try.func82, Try.ntmps82
  go_wp2_with fail
  obtain ⟨b0, e0⟩ : ∃ b, b = w.heap.size := ⟨_, rfl⟩
  rw [← e0] at HG ⊢
  have hB0 : w.heap.size ≤ b0 := by omega
  have hB1 : Hid (b0 = w.heap.size) := e0
  clear e0
  have hz1 : b0 + 1 ≤ (w.alloc (.cells #[.int .i64 a, .int .i64 b] 27)).heap.size := HG.out.lt
  generalize w.alloc (.cells #[.int .i64 a, .int .i64 b] 27) = w1 at *
  have l0 := HG.out.lt
  have l1 := HK1.out.blk.lt
  have n0 : ∀ p : Near w1.heap.size w1, p.w.cell? ⟨b0, 0, none⟩ = some (.int .i64 a) := fun p => by rw [(HG.out.below p.h l0).cell 0]; rfl
  have n1 : ∀ p : Near w1.heap.size w1, p.w.cell? ⟨b0, 1, none⟩ = some (.int .i64 b) := fun p => by rw [(HG.out.below p.h l0).cell 1]; rfl
  have m1 : ∀ p : Near w1.heap.size w1, p.w.cell? ⟨bb, 2, none⟩ = some (.map (some pm)) := fun p => by rw [(HK1.out.blk.below p.h l1).cell 2]; rfl
  have hlk : ∀ p : Near w1.heap.size w1, (Instr.lookup 77 (.map (some pm)) (.agg #[.int .i64 a, .int .i64 b]) false).run Try.prog p.w = .ok (.slice ar l.length cr) p.w := fun p => by
    rw [← hsh]
    exact hlook p.w p.h (a, b)
  have HLK := hide hlook
  have hnn := Near.some w1.heap.size w1
  clear hlook
  refine wp_region_near w1.heap.size w1 (Below.refl _ _) (by kernel_rfl) (by kernel_rfl) ?_
  repeat (go_big_quiet_step (fail))
  refine wpQuiet_nil ?_
  rintro w2 ⟨pq, rfl⟩
  have hqb := pq.h
  obtain ⟨w2, hq⟩ := pq
  simp only at hqb ⊢
  have HB2 := hide hqb
  clear hq hqb hnn n0 n1 m1 hlk
  have hz2 : b0 + 1 ≤ w2.heap.size := by have := HB2.out.size; omega
  go_wp2_with fail
  go_loopw [7, 17] (fun vo i wr => ∃ j : Nat, j ≤ l.length ∧ i = .int .i64 j ∧ Hid (wr.ownsRow w1.heap.size 3 1 vo (M j).length (cellsI (M j))) ∧ Hid (Below w1.heap.size w1 wr)) (fun _ i _ => l.length - (intOf i).toNat)
  case atStart =>
    refine ⟨0, Nat.zero_le _, rfl, ?_, HB2.out⟩
    show World.ownsRow _ _ _ _ _ _ _
    rw [HM.out.1]
    exact ⟨rfl, .inl ⟨rfl, rfl⟩⟩
  case round =>
    clear HB2 hz2
    obtain ⟨j, hj, rfl, HO, HB⟩ := hrel
    by_cases hlt : j < l.length
    · obtain ⟨ax, cx, hax, hcell⟩ := HI.out
      cases hax
      obtain ⟨g, off, hg, hgl, hc⟩ := hcell j hlt
      subst hg
      have hs := HM.out.2.1 j hlt
      have hle := HM.out.2.2.1 (j + 1)
      have fj : wr.cell? ⟨g, off + j, none⟩ = some (.int .i64 l[j]) := (HB.out.cell (p := ⟨g, off + j, none⟩) hgl).trans hc
      have hgr : g < wr.heap.size := Nat.lt_of_lt_of_le hgl HB.out.size
      have HKr := hide (HK1.out.below HB.out)
      have lr := HKr.out.blk.lt
      have cb : wr.cell? ⟨bb, 2, none⟩ = some (.map (some pm)) := by rw [HKr.out.blk.cell 2]; rfl
      generalize l[j] = x at *
      have hlkx : (Instr.lookup 77 (.map (some pm)) (.agg #[.int .i64 x, .int .i64 nm]) false).run Try.prog wr = .ok (ρ (x, nm)) wr := HLK.out wr HB.out (x, nm)
      have hrow : wr.ownsRow B 3 inR.n (ρ (x, nm)) (ppl K (x, nm)).length (cellsI (flat inR (ppl K (x, nm)))) := by rw [flat_in]; exact HKr.out.rows (x, nm)
      have HX := hide (RowAt.of_own hrow)
      have HS := hide hs
      have hsl : (M (j + 1)).length = (M j).length + (ppl K (x, nm)).length := by rw [hs, List.length_append]
      clear hs hrow hcell hc
      obtain ⟨i0, hi, hz0, hz1', hz2'⟩ := info_parts infoInt
      go_wp2_with (at_builtin; refine wpList_append_row (R := inR) (B := w1.heap.size) rfl (.tmp 21) (.tmp 29) 40 rfl 3 i0 (.int .i64 0) 8 Try.underlying40 hi hz0 hz1' hz2' rfl _ _ _ _ (ppl K (x, nm)) rfl HO.out rfl HX.out HB.out.size (by unfold maxLen; omega) (by omega) ?_)
      intro v5 w5 hown5 hb5
      have HO5 : Hid (w5.ownsRow w1.heap.size 3 1 v5 (M (j + 1)).length (cellsI (M (j + 1)))) := by
        show World.ownsRow _ _ _ _ _ _ _
        rw [HS.out]
        rw [flat_in] at hown5
        change w5.ownsRow w1.heap.size 3 1 v5 _ _ at hown5
        simpa [cellsI] using hown5
      have HB5 := hide (HB.out.trans hb5)
      clear hown5 hb5 hlkx fj cb
      go_wp2_with fail
      go_roundw
      case rel => exact ⟨j + 1, by omega, by go_num, HO5.out, HB5.out⟩
      case measure => simp [intOf]; omega
    · have hjl : j = l.length := by omega
      subst hjl
      go_wp2
      go_ret
      exact ⟨_, rfl, own_mono HO.out HBA.out.size, HBA.out.trans (HB.out.mono HBA.out.size)⟩

set_option maxHeartbeats 2000000 in
theorem common_calls (w : World) (B bb km pm : Nat) (vf : Value) (ρ : Int × Int → Value) (F K : List Fa) (a b c d : Int) (h : Book w B bb km pm vf ρ F K) (hK : K.length ≤ 1073741824) :
    Calls Try.prog 83 #[.pointer (some ⟨bb, 0, none⟩), roleV a b, roleV c d] w fun e w' => ∃ v', e = .returned v' ∧ w'.ownsRow w.heap.size 3 1 v' ((ppl K (a, b)).filter fun x => decide ((⟨c, d, x⟩ : Fa) ∈ K)).length (cellsI ((ppl K (a, b)).filter fun x => decide ((⟨c, d, x⟩ : Fa) ∈ K))) ∧ Below w.heap.size w w' := by
  obtain ⟨l, hl⟩ : ∃ l, l = ppl K (a, b) := ⟨_, rfl⟩
  obtain ⟨M, HM⟩ : ∃ M : Nat → List Int, Hid (M 0 = [] ∧ (∀ i (hi : i < l.length), M (i + 1) = if (⟨c, d, l[i]⟩ : Fa) ∈ K then M i ++ [l[i]] else M i) ∧ (∀ i, (M i).length ≤ 1073741824) ∧ M l.length = l.filter fun x => decide ((⟨c, d, x⟩ : Fa) ∈ K)) := by
    refine ⟨fun i => (l.take i).filter fun x => decide ((⟨c, d, x⟩ : Fa) ∈ K), rfl, fun i hi => ?_, fun i => ?_, ?_⟩
    · show (l.take (i + 1)).filter _ = _
      rw [List.take_succ_eq_append_getElem hi, List.filter_append]
      by_cases hx : (⟨c, d, l[i]⟩ : Fa) ∈ K
      · simp [hx]
      · simp [hx]
    · have h1 := List.length_filter_le (fun x => decide ((⟨c, d, x⟩ : Fa) ∈ K)) (l.take i)
      have h2 : (l.take i).length ≤ l.length := by rw [List.length_take]; omega
      have h3 := ppl_le K (a, b)
      rw [← hl] at h3
      show ((l.take i).filter _).length ≤ _
      omega
    · show (l.take l.length).filter _ = _
      rw [List.take_length]
  rw [← hl, ← HM.out.2.2.2]
  simp only [roleV]
  have hbA := (Below.refl w.heap.size w).alloc (Nat.le_refl _) (.cells #[.int .i64 a, .int .i64 b] 27)
  have hbB := hbA.alloc hbA.size (.cells #[.int .i64 c, .int .i64 d] 27)
  have hg0 := Blk.new w #[.int .i64 a, .int .i64 b] 27
  have HG := hide (hg0.below ((Below.refl _ _).alloc (Nat.le_refl _) (.cells #[.int .i64 c, .int .i64 d] 27)) hg0.lt)
  have hg1 := Blk.new (w.alloc (.cells #[.int .i64 a, .int .i64 b] 27)) #[.int .i64 c, .int .i64 d] 27
  rw [show (w.alloc (.cells #[.int .i64 a, .int .i64 b] 27)).heap.size = w.heap.size + 1 from by simp [go_sem]] at hg1
  have HG1 := hide hg1
  have HBA := hide hbB
  have HK1 := hide (h.below hbB)
  have hll : l.length ≤ 1073741824 := by rw [hl]; exact Nat.le_trans (ppl_le K _) hK
  clear h hbA hbB hg0 hg1
  have HL : Hid (((w.alloc (.cells #[.int .i64 a, .int .i64 b] 27)).alloc (.cells #[.int .i64 c, .int .i64 d] 27)).ownsRow B 3 1 (ρ (a, b)) l.length (cellsI l)) := by
    show World.ownsRow _ _ _ _ _ _ _
    rw [hl]
    exact HK1.out.rows (a, b)
  obtain ⟨ar, cr, hsh⟩ := own_shape HL.out
  have HI := hide (IntsAt.of_own HL.out)
  rw [hsh] at HI
  replace hl := hide hl
  go_enter Try.func83, Try.ntmps83
  go_wp2_with fail
  obtain ⟨b0, e0⟩ : ∃ b, b = w.heap.size := ⟨_, rfl⟩
  rw [← e0] at HG HG1 ⊢
  clear e0
  generalize (w.alloc (.cells #[.int .i64 a, .int .i64 b] 27)).alloc (.cells #[.int .i64 c, .int .i64 d] 27) = w1 at *
  have l0 := HG.out.lt
  have l1 := HK1.out.blk.lt
  have n0 : ∀ p : Near w1.heap.size w1, p.w.cell? ⟨b0, 0, none⟩ = some (.int .i64 a) := fun p => by rw [(HG.out.below p.h l0).cell 0]; rfl
  have n1 : ∀ p : Near w1.heap.size w1, p.w.cell? ⟨b0, 1, none⟩ = some (.int .i64 b) := fun p => by rw [(HG.out.below p.h l0).cell 1]; rfl
  have m1 : ∀ p : Near w1.heap.size w1, p.w.cell? ⟨bb, 2, none⟩ = some (.map (some pm)) := fun p => by rw [(HK1.out.blk.below p.h l1).cell 2]; rfl
  have hlk : ∀ p : Near w1.heap.size w1, (Instr.lookup 77 (.map (some pm)) (.agg #[.int .i64 a, .int .i64 b]) false).run Try.prog p.w = .ok (.slice ar l.length cr) p.w := fun p => by
    rw [← hsh]
    exact people_look (HK1.out.below p.h) (a, b)
  have hnn := Near.some w1.heap.size w1
  refine wp_region_near w1.heap.size w1 (Below.refl _ _) (by kernel_rfl) (by kernel_rfl) ?_
  repeat (go_big_quiet_step (fail))
  refine wpQuiet_nil ?_
  rintro w2 ⟨pq, rfl⟩
  have hqb := pq.h
  obtain ⟨w2, hq⟩ := pq
  simp only at hqb ⊢
  have HB2 := hide hqb
  clear hq hqb hnn n0 n1 m1 hlk
  go_wp2_with fail
  go_loopw [7, 17] (fun vo i wr => ∃ j : Nat, j ≤ l.length ∧ i = .int .i64 j ∧ Hid (wr.ownsRow w1.heap.size 3 1 vo (M j).length (cellsI (M j))) ∧ Hid (Below w1.heap.size w1 wr)) (fun _ i _ => l.length - (intOf i).toNat)
  case atStart =>
    refine ⟨0, Nat.zero_le _, rfl, ?_, HB2.out⟩
    show World.ownsRow _ _ _ _ _ _ _
    rw [HM.out.1]
    exact ⟨rfl, .inl ⟨rfl, rfl⟩⟩
  case round =>
    clear HB2
    obtain ⟨j, hj, rfl, HO, HB⟩ := hrel
    by_cases hlt : j < l.length
    · obtain ⟨ax, cx, hax, hcell⟩ := HI.out
      cases hax
      obtain ⟨g, off, hg, hgl, hc⟩ := hcell j hlt
      subst hg
      have hs := HM.out.2.1 j hlt
      have hle := HM.out.2.2.1 j
      have fj : wr.cell? ⟨g, off + j, none⟩ = some (.int .i64 l[j]) := (HB.out.cell (p := ⟨g, off + j, none⟩) hgl).trans hc
      have hgr : g < wr.heap.size := Nat.lt_of_lt_of_le hgl HB.out.size
      have HKr := hide (HK1.out.below HB.out)
      have Gr := hide (HG1.out.below HB.out HG1.out.lt)
      have lr := Gr.out.lt
      have c0 : wr.cell? ⟨b0 + 1, 0, none⟩ = some (.int .i64 c) := by rw [Gr.out.cell 0]; rfl
      have c1 : wr.cell? ⟨b0 + 1, 1, none⟩ = some (.int .i64 d) := by rw [Gr.out.cell 1]; rfl
      generalize l[j] = x at *
      have HH := hide (has_calls wr bb km pm K.length vf F K ⟨c, d, x⟩ HKr.out.blk HKr.out.known)
      simp only [faV] at HH
      have HS := hide hs
      clear hs hcell hc
      go_wp2_with fail
      refine HH.out.mono ?_
      rintro e w5 ⟨rfl, hb5⟩
      have HO5 := hide (own_below HO.out hb5)
      have HB5 := hide (HB.out.trans (hb5.mono HB.out.size))
      have hB5 : w1.heap.size ≤ w5.heap.size := HB5.out.size
      clear hb5 HH HO HB fj c0 c1 hgr lr
      by_cases hm : (⟨c, d, x⟩ : Fa) ∈ K
      · rw [decide_eq_true hm]
        have HN : Hid (M (j + 1) = M j ++ [x]) := HS.out.trans (if_pos hm)
        clear HS hm
        obtain ⟨i0, hi, hz0, hz1', hz2'⟩ := info_parts infoInt
        go_wp2_with (at_builtin; refine wpList_append_one (cs := #[.int .i64 x]) (Below.refl w1.heap.size w5) hB5 rfl (.tmp 26) (.tmp 28) 40 rfl 3 i0 (.int .i64 0) 1 8 Try.underlying40 hi hz0 hz1' hz2' rfl (by decide) rfl (by simp [Value.oneCell']) _ _ _ rfl HO5.out 1 rfl (by omega) (by omega) ?_)
        intro v6 w6 hown6 hb6
        have HO6 : Hid (w6.ownsRow w1.heap.size 3 1 v6 (M (j + 1)).length (cellsI (M (j + 1)))) := by
          show World.ownsRow _ _ _ _ _ _ _
          rw [HN.out, List.length_append]
          simpa [cellsI] using hown6
        have HB6 := hide (HB5.out.trans hb6)
        clear hown6 hb6
        go_wp2_with fail
        go_roundw
        case rel => exact ⟨j + 1, by omega, by go_num, HO6.out, HB6.out⟩
        case measure => simp [intOf]; omega
      · rw [decide_eq_false hm]
        have HN : Hid (M (j + 1) = M j) := HS.out.trans (if_neg hm)
        clear HS hm
        go_wp2_with fail
        go_roundw
        case rel => exact ⟨j + 1, by omega, by go_num, by show World.ownsRow _ _ _ _ _ _ _; rw [HN.out]; exact HO5.out, HB5.out⟩
        case measure => simp [intOf]; omega
    · have hjl : j = l.length := by omega
      subst hjl
      go_wp2
      go_ret
      exact ⟨_, rfl, own_mono HO.out HBA.out.size, HBA.out.trans (HB.out.mono HBA.out.size)⟩
end Go.Proofs.Ytgnldmheiknbkaa.P6
namespace Go.Proofs.Ytgnldmheiknbkaa.P6
set_option maxRecDepth 8000
open Go.RowKit P1 P5 Rc Mp


set_option maxHeartbeats 2000000 in
theorem told_calls (w : World) (B bb km pm : Nat) (vf : Value) (ρ : Int × Int → Value) (F K : List Fa) (c : Cr) (h : Book w B bb km pm vf ρ F K) (hN : K.Nodup) (hK : K.length ≤ 1073741824) (hB : B ≤ w.heap.size) (hok : c.k = 1 ∨ c.k = 2 ∨ c.k = 3 ∨ c.k = 4) :
    Calls Try.prog 75 #[.pointer (some ⟨bb, 0, none⟩), circV c] w fun e w' => ∃ v', e = .returned v' ∧ w'.ownsRow B 3 1 v' (told K c).length (cellsI (told K c)) ∧ Below w.heap.size w w' ∧
      (∀ x ∈ told K c, ∀ g, (⟨c.ow, c.on, x⟩ : Fa) ∉ K → v'.ownBlock = some g → (ρ (c.ow, c.on)).ownBlock ≠ some g) := by
  obtain ⟨k, ow, on, wh, aw, an, bw, bn, u, n⟩ := c
  dsimp only at hok ⊢
  have H0 := hide h
  have fresh : ∀ (v' : Value) (w' : World) (n : Nat) (xs : List Value), w'.ownsRow w.heap.size 3 1 v' n xs → ∀ g, v'.ownBlock = some g → (ρ (ow, on)).ownBlock ≠ some g := fun v' w' n xs ho g hg e => by
    obtain ⟨_, _, h1, _⟩ := own_blk ho hg
    obtain ⟨_, _, _, h2⟩ := own_blk (H0.out.rows (ow, on)) e
    omega
  have HF := hide fresh
  clear fresh
  rcases hok with rfl | rfl | rfl | rfl
  · have HT : Hid (told K ⟨1, ow, on, wh, aw, an, bw, bn, u, n⟩ = [wh]) := by show told _ _ = _; unfold told; rw [if_pos rfl]
    obtain ⟨T, ET⟩ : ∃ T, T = ([wh] : List Int) := ⟨_, rfl⟩
    rw [HT.out, ← ET]
    have HE := hide ET
    clear ET
    have h1 := (Below.refl w.heap.size w).alloc (Nat.le_refl _) (.cells #[.int .i64 ow, .int .i64 on, .int .i64 wh] 111)
    have HB2 := hide (h1.alloc h1.size (.cells #[.int .i64 wh] 3))
    have hO := World.ownsRow_lit (base := w.heap.size) (e := 3) (size := 1) (w.alloc (.cells #[.int .i64 ow, .int .i64 on, .int .i64 wh] 111)) #[.int .i64 wh] 1 h1.size (by decide) rfl
    rw [show (w.alloc (.cells #[.int .i64 ow, .int .i64 on, .int .i64 wh] 111)).heap.size = w.heap.size + 1 from by simp [go_sem]] at hO
    have HO := hide hO
    clear h1 hO h
    simp only [circV, if_true]
    have t0 := fun wx => ta_0_0 wx ow on wh
    go_enter Try.func75, Try.ntmps75
    go_wp2_with fail
    go_ret
    exact ⟨_, rfl, by rw [HE.out]; exact own_mono HO.out hB, HB2.out, fun x _ g _ hg => HF.out _ _ _ _ HO.out g hg⟩
  · have HT : Hid (told K ⟨2, ow, on, wh, aw, an, bw, bn, u, n⟩ = ppl K (aw, an)) := by show told _ _ = _; unfold told; rw [if_neg (show ¬ ((2 : Int) = 1) by decide), if_pos rfl]
    rw [HT.out]
    have h1 := (Below.refl w.heap.size w).alloc (Nat.le_refl _) (.cells #[.int .i64 ow, .int .i64 on, .int .i64 aw, .int .i64 an] 113)
    have HB1 := hide h1
    have HG := hide (Blk.new w #[.int .i64 ow, .int .i64 on, .int .i64 aw, .int .i64 an] 113)
    have HK1 := hide (h.below h1)
    clear h1 h
    simp only [circV, show ¬ ((2 : Int) = 1) by decide, if_false, if_true]
    have t0 := fun wx => ta_1_0 wx ow on aw an
    have t1 := fun wx => ta_1_1 wx ow on aw an
    go_enter Try.func75, Try.ntmps75
    go_wp2_with fail
    obtain ⟨b0, e0⟩ : ∃ b, b = w.heap.size := ⟨_, rfl⟩
    rw [← e0] at HG ⊢
    clear e0
    generalize w.alloc (.cells #[.int .i64 ow, .int .i64 on, .int .i64 aw, .int .i64 an] 113) = w1 at *
    have l0 := HG.out.lt
    have l1 := HK1.out.blk.lt
    have n0 : ∀ p : Near w1.heap.size w1, p.w.cell? ⟨b0, 2, none⟩ = some (.int .i64 aw) := fun p => by rw [(HG.out.below p.h l0).cell 2]; rfl
    have n1 : ∀ p : Near w1.heap.size w1, p.w.cell? ⟨b0, 3, none⟩ = some (.int .i64 an) := fun p => by rw [(HG.out.below p.h l0).cell 3]; rfl
    have m1 : ∀ p : Near w1.heap.size w1, p.w.cell? ⟨bb, 2, none⟩ = some (.map (some pm)) := fun p => by rw [(HK1.out.blk.below p.h l1).cell 2]; rfl
    have hlk : ∀ p : Near w1.heap.size w1, (Instr.lookup 77 (.map (some pm)) (.agg #[.int .i64 aw, .int .i64 an]) false).run Try.prog p.w = .ok (ρ (aw, an)) p.w := fun p => people_look (HK1.out.below p.h) (aw, an)
    have hnn := Near.some w1.heap.size w1
    refine wp_region_near w1.heap.size w1 (Below.refl _ _) (by kernel_rfl) (by kernel_rfl) ?_
    repeat (go_big_quiet_step (fail))
    refine wpQuiet_nil ?_
    rintro w2 ⟨pq, rfl⟩
    have hqb := pq.h
    obtain ⟨w2, hq⟩ := pq
    simp only at hqb ⊢
    have HB2 := hide hqb
    clear hq hqb hnn n0 n1 m1 hlk
    go_wp2_with fail
    go_ret
    refine ⟨_, rfl, (HK1.out.below HB2.out).rows (aw, an), HB1.out.trans (HB2.out.mono HB1.out.size), ?_⟩
    intro x hx g hn hg
    by_cases hr : ((ow, on) : Int × Int) = (aw, an)
    · exfalso
      apply hn
      have := mem_ppl.1 hx
      simp only [Prod.mk.injEq] at hr
      rw [hr.1, hr.2]
      exact this
    · exact H0.out.apart (aw, an) (ow, on) g (Ne.symm hr) hg
  · have HT : Hid (told K ⟨3, ow, on, wh, aw, an, bw, bn, u, n⟩ = (ppl K (aw, an)).flatMap fun x => ppl K (x, bn)) := by show told _ _ = _; unfold told; rw [if_neg (show ¬ ((3 : Int) = 1) by decide), if_neg (show ¬ ((3 : Int) = 2) by decide), if_pos rfl]
    rw [HT.out]
    have h1 := (Below.refl w.heap.size w).alloc (Nat.le_refl _) (.cells #[.int .i64 ow, .int .i64 on, .int .i64 aw, .int .i64 an, .int .i64 bn] 115)
    have HB1 := hide h1
    have HC := hide (linked_calls _ B bb km pm vf ρ F K aw an bn (h.below h1) hN hK)
    simp only [roleV] at HC
    clear h1 h
    simp only [circV, show ¬ ((3 : Int) = 1) by decide, show ¬ ((3 : Int) = 2) by decide, if_false, if_true]
    have t0 := fun wx => ta_2_0 wx ow on aw an bn
    have t1 := fun wx => ta_2_1 wx ow on aw an bn
    have t2 := fun wx => ta_2_2 wx ow on aw an bn
    go_enter Try.func75, Try.ntmps75
    go_wp2_with fail
    refine HC.out.mono ?_
    rintro e w2 ⟨v2, rfl, ho, hb⟩
    have HO := hide (own_mono ho HB1.out.size)
    have HB2 := hide (HB1.out.trans (hb.mono HB1.out.size))
    clear ho hb
    go_wp2_with fail
    go_ret
    exact ⟨_, rfl, own_mono HO.out hB, HB2.out, fun x _ g _ hg => HF.out _ _ _ _ HO.out g hg⟩
  · have HT : Hid (told K ⟨4, ow, on, wh, aw, an, bw, bn, u, n⟩ = (ppl K (aw, an)).filter fun x => decide ((⟨bw, bn, x⟩ : Fa) ∈ K)) := by show told _ _ = _; unfold told; rw [if_neg (show ¬ ((4 : Int) = 1) by decide), if_neg (show ¬ ((4 : Int) = 2) by decide), if_neg (show ¬ ((4 : Int) = 3) by decide)]
    rw [HT.out]
    have h1 := (Below.refl w.heap.size w).alloc (Nat.le_refl _) (.cells #[.int .i64 ow, .int .i64 on, .int .i64 aw, .int .i64 an, .int .i64 bw, .int .i64 bn] 117)
    have HB1 := hide h1
    have HC := hide (common_calls _ B bb km pm vf ρ F K aw an bw bn (h.below h1) hK)
    simp only [roleV] at HC
    clear h1 h
    simp only [circV, show ¬ ((4 : Int) = 1) by decide, show ¬ ((4 : Int) = 2) by decide, show ¬ ((4 : Int) = 3) by decide, if_false]
    have t0 := fun wx => ta_3_0 wx ow on aw an bw bn
    have t1 := fun wx => ta_3_1 wx ow on aw an bw bn
    have t2 := fun wx => ta_3_2 wx ow on aw an bw bn
    have t3 := fun wx => ta_3_3 wx ow on aw an bw bn
    go_enter Try.func75, Try.ntmps75
    go_wp2_with fail
    refine HC.out.mono ?_
    rintro e w2 ⟨v2, rfl, ho, hb⟩
    have HO := hide (own_mono ho HB1.out.size)
    have HB2 := hide (HB1.out.trans (hb.mono HB1.out.size))
    clear ho hb
    go_wp2_with fail
    go_ret
    exact ⟨_, rfl, own_mono HO.out hB, HB2.out, fun x _ g _ hg => HF.out _ _ _ _ HO.out g hg⟩
end Go.Proofs.Ytgnldmheiknbkaa.P6
namespace Go.Proofs.Ytgnldmheiknbkaa.P6
set_option maxRecDepth 8000
open Go.RowKit P1 P5 Rc Mp

theorem told_le {K : List Fa} (hN : K.Nodup) (c : Cr) : (told K c).length ≤ K.length + 1 := by
  unfold told
  have h1 := ppl_le K (c.aw, c.an)
  split
  · simp
  · split
    · omega
    · split
      · have := flat_ppl_le c.bn (ppl K (c.aw, c.an)) K (ppl_nodup hN _)
        omega
      · have := List.length_filter_le (fun x => decide ((⟨c.bw, c.bn, x⟩ : Fa) ∈ K)) (ppl K (c.aw, c.an))
        omega

theorem adds_le (o n : Int) (l : List Int) (out : List Fa) : (adds o n l out).length ≤ out.length + l.length := by
  refine snoc_ind (p := fun l => (adds o n l out).length ≤ out.length + l.length) (by simp [adds]) (fun l x ih => ?_) l
  rw [adds_snoc, List.length_append]
  have := put_le (adds o n l out) ⟨o, n, x⟩
  simp only [List.length_cons, List.length_nil]
  omega

theorem circ_inv (c : Cr) (hok : c.k = 1 ∨ c.k = 2 ∨ c.k = 3 ∨ c.k = 4) : ∃ tv vv, circV c = .iface tv vv ∧ ∀ (m : Nat) (wx : World), (method (m + 1) tv vv "loop.example/g00474/impl.role").run Try.prog wx = .ok (101, .agg #[.int .i64 c.ow, .int .i64 c.on]) wx := by
  obtain ⟨k, ow, on, wh, aw, an, bw, bn, u, n⟩ := c
  dsimp only at hok ⊢
  rcases hok with rfl | rfl | rfl | rfl
  · exact ⟨_, _, rfl, fun m wx => by kernel_rfl⟩
  · exact ⟨_, _, rfl, fun m wx => by kernel_rfl⟩
  · exact ⟨_, _, rfl, fun m wx => by kernel_rfl⟩
  · exact ⟨_, _, rfl, fun m wx => by kernel_rfl⟩

set_option maxHeartbeats 2000000 in
theorem add_calls (w : World) (B bb km pm : Nat) (vf : Value) (ρ : Int × Int → Value) (F K : List Fa) (c : Cr) (h : Book w B bb km pm vf ρ F K) (hN : K.Nodup) (hFK : ∀ x, x ∈ K ↔ x ∈ F) (hK : K.length ≤ 268435456) (hF : F.length ≤ 268435456) (hB : B ≤ w.heap.size) (hok : c.k = 1 ∨ c.k = 2 ∨ c.k = 3 ∨ c.k = 4) :
    Calls Try.prog 55 #[.pointer (some ⟨bb, 0, none⟩), circV c] w fun e w' => e = .returned (.tuple #[]) ∧ ∃ vf' ρ', Book w' B bb km pm vf' ρ' (adds c.ow c.on (told K c) F) (adds c.ow c.on (told K c) K) ∧ Below B w w' ∧ Keep w w' := by
  have HT := hide (told_calls w B bb km pm vf ρ F K c h hN (by omega) hB hok)
  have htl := told_le hN c
  have H0 := hide h
  obtain ⟨tv, vv, hcv, hinv⟩ := circ_inv c hok
  rw [hcv] at HT ⊢
  obtain ⟨T, ET⟩ : ∃ T, T = told K c := ⟨_, rfl⟩
  rw [← ET] at HT htl ⊢
  clear ET h hok hcv
  obtain ⟨ow, eow⟩ : ∃ o, o = c.ow := ⟨_, rfl⟩
  obtain ⟨on, eon⟩ : ∃ o, o = c.on := ⟨_, rfl⟩
  rw [← eow, ← eon] at HT hinv ⊢
  have HI := hide hinv
  have HFK : Hid (∀ j x, x ∈ adds ow on (T.take j) K ↔ x ∈ adds ow on (T.take j) F) := fun j x => by rw [mem_adds, mem_adds, hFK x]
  have HLK : Hid (∀ j, j ≤ T.length → (adds ow on (T.take j) K).length ≤ 1073741824 ∧ (adds ow on (T.take j) F).length ≤ 1073741824) := fun j hj => by
    have h1 := adds_le ow on (T.take j) K
    have h2 := adds_le ow on (T.take j) F
    rw [List.length_take] at h1 h2
    omega
  clear eow eon hinv hFK hN
  go_enter Try.func55, Try.ntmps55
  go_wp2_with fail
  refine HT.out.mono ?_
  rintro e w1 ⟨vT, rfl, hoT, hb1, hsafe⟩
  obtain ⟨aT, cT, hsh⟩ := own_shape hoT
  have HOT := hide hoT
  have HB1 := hide hb1
  have HS := hide hsafe
  have HK1 := hide (H0.out.below hb1)
  clear hoT hb1 hsafe HT
  subst hsh
  go_wp2_with fail
  go_loopw [11] (fun i wr => ∃ (j : Nat) (vf' : Value) (ρ' : Int × Int → Value), j ≤ T.length ∧ i = .int .i64 j ∧ Hid (Book wr B bb km pm vf' ρ' (adds ow on (T.take j) F) (adds ow on (T.take j) K)) ∧ Hid (Below B w wr) ∧ Hid (Keep w wr) ∧
      Hid (wr.ownsRow B 3 1 (.slice aT T.length cT) T.length (cellsI T)) ∧ Hid (∀ x ∈ T, ∀ g, (⟨ow, on, x⟩ : Fa) ∉ adds ow on (T.take j) K → (Value.slice aT T.length cT).ownBlock = some g → (ρ' (ow, on)).ownBlock ≠ some g)) (fun i _ => T.length - (intOf i).toNat)
  case atStart => exact ⟨0, vf, ρ, Nat.zero_le _, rfl, HK1.out, HB1.out.mono hB, Keep.of_below HB1.out, HOT.out, HS.out⟩
  case round =>
    clear HK1 HB1 HOT HS
    obtain ⟨j, vf', ρ', hj, rfl, HKr, HB, HKe, HO, HSf⟩ := hrel
    by_cases hlt : j < T.length
    · obtain ⟨ax, cx, hax, hcell⟩ := IntsAt.of_own HO.out
      cases hax
      obtain ⟨g, off, hg, hgl, hc⟩ := hcell j hlt
      subst hg
      have HAK := hide (adds_take ow on T K j hlt)
      have HAF := hide (adds_take ow on T F j hlt)
      have HSx := hide (HSf.out T[j] (List.getElem_mem hlt))
      obtain ⟨hlK, hlF⟩ := HLK.out j hj
      have HFKj := hide (HFK.out j)
      generalize T[j] = x at *
      generalize hKj : adds ow on (T.take j) K = Kj at *
      generalize hFj : adds ow on (T.take j) F = Fj at *
      clear hKj hFj hcell
      go_wp2_with fail
      rw [HI.out]
      go_wp2_with fail
      refine (role_calls wr ow on).mono ?_
      rintro e w2 ⟨rfl, hb2⟩
      have HK2 := hide (HKr.out.below hb2)
      have HO2 := hide (own_below HO.out hb2)
      have HBx := hide hb2
      clear hb2 hc
      simp only [roleV]
      go_wp2_with fail
      have hb3 := (Below.refl w2.heap.size w2).alloc (Nat.le_refl _) (.cells #[.int .i64 ow, .int .i64 on, .int .i64 x] 36)
      have HK3 := hide (HK2.out.below hb3)
      have HO3 := hide (own_below HO2.out hb3)
      have HG3 := hide (Blk.new w2 #[.int .i64 ow, .int .i64 on, .int .i64 x] 36)
      have HBy := hide (HBx.out.trans (hb3.mono HBx.out.size))
      obtain ⟨b3, e3⟩ : ∃ b, b = w2.heap.size := ⟨_, rfl⟩
      rw [← e3] at HG3 ⊢
      clear hb3 HK2 HO2 HBx e3
      generalize w2.alloc (.cells #[.int .i64 ow, .int .i64 on, .int .i64 x] 36) = w3 at *
      have hB3 : B ≤ w3.heap.size := by have := HB.out.size; have := HBy.out.size; omega
      have hgl3 : g < w3.heap.size := Nat.lt_of_lt_of_le hgl HBy.out.size
      refine (has_calls w3 bb km pm Kj.length vf' Fj Kj ⟨ow, on, x⟩ HK3.out.blk HK3.out.known).mono ?_
      rintro e w4 ⟨rfl, hb4⟩
      have HK4 := hide (HK3.out.below hb4)
      have HO4 := hide (own_below HO3.out hb4)
      have HG4 := hide (HG3.out.below hb4 HG3.out.lt)
      have HBz := hide (HBy.out.trans (hb4.mono HBy.out.size))
      have hB4 : B ≤ w4.heap.size := Nat.le_trans hB3 hb4.size
      have hgl4 : g < w4.heap.size := Nat.lt_of_lt_of_le hgl3 hb4.size
      have HB4 := hide (HB.out.trans (HBz.out.mono (by have := HB.out.size; omega)))
      have HE4 := hide (HKe.out.trans (Keep.of_below HBz.out))
      clear hb4 HK3 HO3 HG3 HBy HKr HB HKe HO hB3 hgl3 HBz
      by_cases hf : (⟨ow, on, x⟩ : Fa) ∈ Kj
      · rw [decide_eq_true hf]
        have HP := hide (put_old hf)
        have HPF := hide (put_old ((HFKj.out _).1 hf))
        clear hf
        go_wp2_with fail
        go_roundw
        case rel => exact ⟨j + 1, vf', ρ', by omega, by go_num, by show Book _ _ _ _ _ _ _ _ _; rw [HAK.out, HAF.out, HPF.out, HP.out]; exact HK4.out, HB4.out, HE4.out, HO4.out, by show ∀ _, _; rw [HAK.out, HP.out]; exact HSf.out⟩
        case measure => simp [intOf]; omega
      · rw [decide_eq_false hf]
        have HP := hide (put_new hf)
        have HPF := hide (put_new (fun h => hf ((HFKj.out _).2 h)))
        have HNf := hide hf
        clear hf
        have d0 : w4.cell? ⟨b3, 0, none⟩ = some (.int .i64 ow) := by rw [HG4.out.cell 0]; rfl
        have d1 : w4.cell? ⟨b3, 1, none⟩ = some (.int .i64 on) := by rw [HG4.out.cell 1]; rfl
        have d2 : w4.cell? ⟨b3, 2, none⟩ = some (.int .i64 x) := by rw [HG4.out.cell 2]; rfl
        have l4 := HG4.out.lt
        go_wp2_with fail
        refine (write_calls w4 B bb km pm vf' ρ' Fj Kj ⟨ow, on, x⟩ HK4.out HFKj.out hB4 hlK hlF).mono ?_
        rintro e w5 ⟨rfl, vf5, ρ5, hk5, hch5, hrho5⟩
        have hfoot : ∀ g, (g = km ∨ g = pm ∨ g = bb ∨ vf'.ownBlock = some g ∨ ((⟨ow, on, x⟩ : Fa) ∉ Kj ∧ (ρ' (ow, on)).ownBlock = some g)) → Foot bb km pm vf' ρ' g := by
          rintro g (h | h | h | h | ⟨_, h⟩)
          · exact .inr (.inl h)
          · exact .inr (.inr (.inl h))
          · exact .inl h
          · exact .inr (.inr (.inr (.inl h)))
          · exact .inr (.inr (.inr (.inr ⟨_, h⟩)))
        have hkeep5 : Keep w4 w5 := Keep.of_chg HK4.out hch5 hfoot
        have hbel5 : Below B w4 w5 := hch5.below hB4 (fun g hg => HK4.out.foot_le (hfoot g hg))
        have hrow : w5.ownsRow B 3 1 (.slice (some ⟨g, off, none⟩) T.length cT) T.length (cellsI T) := own_at HO4.out (fun g' hg' => by
          have : g = g' := by simpa [Value.ownBlock] using hg'
          subst this
          obtain ⟨cur, h1, _⟩ := own_blk HO4.out hg'
          refine hch5.block g hgl4 ?_
          rintro (h2 | h2 | h2 | h2 | ⟨h2, h3⟩)
          · exact cells_ne_map h1 (map_of_R HK4.out.known) h2
          · exact cells_ne_map h1 (map_of_R HK4.out.people) h2
          · subst h2
            have h4 := HK4.out.blk
            unfold Blk at h4
            have := cells_type h1 h4
            revert this
            decide
          · obtain ⟨cur', h4, _⟩ := own_blk HK4.out.facts h2
            have := cells_type h1 h4
            revert this
            decide
          · exact HSx.out g h2 rfl h3)
        have HSf5 : Hid (∀ y ∈ T, ∀ g', (⟨ow, on, y⟩ : Fa) ∉ put Kj ⟨ow, on, x⟩ → (Value.slice (some ⟨g, off, none⟩) T.length cT).ownBlock = some g' → (ρ5 (ow, on)).ownBlock ≠ some g') := fun y hy g' hn hg' he => by
          have : g = g' := by simpa [Value.ownBlock] using hg'
          subst this
          rcases hrho5 _ _ he with h1 | h1
          · exact HSf.out y hy g (fun h => hn (mem_put.2 (.inl h))) hg' h1
          · omega
        have HK5 := hide hk5
        have HR5 := hide hrow
        have HB5 := hide (HB4.out.trans hbel5)
        have HE5 := hide (HE4.out.trans hkeep5)
        clear hk5 hch5 hrho5 hkeep5 hbel5 hrow hfoot HK4 HO4 HG4 HSf HB4 HE4 HSx d0 d1 d2 l4
        go_wp2_with fail
        go_roundw
        case rel => exact ⟨j + 1, vf5, ρ5, by omega, by go_num, by show Book _ _ _ _ _ _ _ _ _; rw [HAK.out, HAF.out, HPF.out]; exact HK5.out, HB5.out, HE5.out, HR5.out, by show ∀ _, _; rw [HAK.out]; exact HSf5.out⟩
        case measure => simp [intOf]; omega
    · have hjl : j = T.length := by omega
      have HKr' : Hid (Book wr B bb km pm vf' ρ' (adds ow on T F) (adds ow on T K)) := by
        have h1 := HKr.out
        rw [hjl, List.take_length] at h1
        exact h1
      clear HKr HSf HFK HLK
      go_wp2_with fail
      go_end0
      exact ⟨rfl, vf', ρ', HKr'.out, HB.out, HKe.out⟩
end Go.Proofs.Ytgnldmheiknbkaa.P6
namespace Go.Proofs.Ytgnldmheiknbkaa.P6
set_option maxRecDepth 8000
open Go.RowKit P1 P5 Rc Mp

/-- The book that is empty. -/
theorem Book.new (w : World) : Book (((w.alloc (.map #[] 0)).alloc (.map #[] 0)).alloc (.cells #[.slice none 0 0, .map (some w.heap.size), .map (some (w.heap.size + 1))] 79)) w.heap.size (w.heap.size + 2) w.heap.size (w.heap.size + 1) (.slice none 0 0) (fun _ => .slice none 0 0) [] [] := by
  have e1 : (w.alloc (.map #[] 0)).heap.size = w.heap.size + 1 := by simp [go_sem]
  have e2 : ((w.alloc (.map #[] 0)).alloc (.map #[] 0)).heap.size = w.heap.size + 2 := by simp [go_sem]
  have k1 : ∀ (x : World) (o : Obj) (g : Nat), g < x.heap.size → (x.alloc o).heap[g]? = x.heap[g]? := fun x o g hg => ((Below.refl x.heap.size x).alloc (Nat.le_refl _) o).block g hg
  refine ⟨?_, by omega, Nat.le_refl _, by omega, by omega, ⟨rfl, .inl ⟨rfl, rfl⟩⟩, ?_, ?_, fun r => ⟨rfl, .inl ⟨rfl, rfl⟩⟩, fun _ _ => rfl, ?_⟩
  · have := Blk.new ((w.alloc (.map #[] 0)).alloc (.map #[] 0)) #[.slice none 0 0, .map (some w.heap.size), .map (some (w.heap.size + 1))] 79
    rw [e2] at this
    exact this
  · refine (MapR.made (T := keyF) w).at_ ?_ |>.congr (fun x => ?_)
    · rw [k1 _ _ _ (by omega), k1 _ _ _ (by omega)]
    · simp [knownF]
  · have := MapR.made (T := keyR) (w.alloc (.map #[] 0))
    rw [e1] at this
    refine this.at_ ?_ |>.congr (fun x => ?_)
    · rw [k1 _ _ _ (by omega)]
    · simp [peopleF, ppl]
  · intro r r' g _ h
    cases h

set_option maxHeartbeats 2000000 in
theorem newBook_calls (w : World) (v : Value) (l : List Fa) (hv : RowAt faR w v l) (hl : l.length ≤ 1048576) :
    Calls Try.prog 53 #[v] w fun e w' => ∃ bb km pm vf ρ, e = .returned (.pointer (some ⟨bb, 0, none⟩)) ∧ Book w' w.heap.size bb km pm vf ρ l (nubF l) ∧ Below w.heap.size w w' := by
  obtain ⟨a, ca, rfl, HA⟩ := hv.open_
  replace HA := hide HA
  clear hv
  have h1 := (Below.refl w.heap.size w).alloc (Nat.le_refl _) (.map #[] 0)
  have h2 := h1.alloc h1.size (.map #[] 0)
  have HB0 := hide (h2.alloc h2.size (.cells #[.slice none 0 0, .map (some w.heap.size), .map (some (w.heap.size + 1))] 79))
  have HK0 := hide (Book.new w)
  have HNl : Hid (∀ j (hj : j < l.length), nubF (l.take (j + 1)) = put (nubF (l.take j)) l[j] ∧ (nubF (l.take j)).length ≤ 1048576 ∧ (l.take (j + 1)) = l.take j ++ [l[j]] ∧ (l.take j).length ≤ 1048576) := fun j hj => by
    have h3 := nubF_le (l.take j)
    have h4 : (l.take j).length ≤ l.length := by rw [List.length_take]; omega
    rw [List.take_succ_eq_append_getElem hj, nubF_snoc]
    exact ⟨rfl, by omega, rfl, by omega⟩
  clear h1 h2
  have mk1 : ∀ wx : World, (Instr.makeMap 76 none).run Try.prog wx = .ok (.map (some wx.heap.size)) (wx.alloc (.map #[] 0)) := fun wx => by kernel_rfl
  have mk2 : ∀ wx : World, (Instr.makeMap 77 none).run Try.prog wx = .ok (.map (some wx.heap.size)) (wx.alloc (.map #[] 0)) := fun wx => by kernel_rfl
  go_enter Try.func53, Try.ntmps53
  go_wp2_with fail
  obtain ⟨bb, ebb⟩ : ∃ b, b = w.heap.size + 1 + 1 := ⟨_, rfl⟩
  have HK1 : Hid (Book (((w.alloc (.map #[] 0)).alloc (.map #[] 0)).alloc (.cells #[.slice none 0 0, .map (some w.heap.size), .map (some (w.heap.size + 1))] 79)) w.heap.size bb w.heap.size (w.heap.size + 1) (.slice none 0 0) (fun _ => .slice none 0 0) [] []) := by rw [ebb]; exact HK0.out
  rw [← ebb]
  clear HK0 mk1 mk2 ebb
  generalize ((w.alloc (.map #[] 0)).alloc (.map #[] 0)).alloc (.cells #[.slice none 0 0, .map (some w.heap.size), .map (some (w.heap.size + 1))] 79) = w1 at *
  obtain ⟨pm, epm⟩ : ∃ b, b = w.heap.size + 1 := ⟨_, rfl⟩
  rw [← epm] at HK1 ⊢
  clear epm
  obtain ⟨km, ekm⟩ : ∃ b, b = w.heap.size := ⟨_, rfl⟩
  have HK2 : Hid (Book w1 w.heap.size bb km pm (.slice none 0 0) (fun _ => .slice none 0 0) [] []) := by rw [ekm]; exact HK1.out
  obtain ⟨B, eB⟩ : ∃ B, B = w.heap.size := ⟨_, rfl⟩
  have HK3 : Hid (Book w1 B bb km pm (.slice none 0 0) (fun _ => .slice none 0 0) [] []) := by rw [eB]; exact HK2.out
  have hBw : B ≤ w.heap.size := by omega
  have hwB : w.heap.size ≤ B := by omega
  have HB1 : Hid (Below B w w1) := by rw [eB]; exact HB0.out
  have Hfin : Hid (∀ w' bb' vf ρ, Book w' B bb' km pm vf ρ l (nubF l) → Below B w w' → ∃ bb km pm vf ρ, Ending.returned (.pointer (some ⟨bb', 0, none⟩)) = Ending.returned (.pointer (some ⟨bb, 0, none⟩)) ∧ Book w' w.heap.size bb km pm vf ρ l (nubF l) ∧ Below w.heap.size w w') := fun w' bb' vf ρ h1 h2 => ⟨bb', km, pm, vf, ρ, rfl, by rw [← eB]; exact h1, by rw [← eB]; exact h2⟩
  rw [← ekm]
  have HA1 : Hid (∀ j (hj : j < l.length), ∃ g off, a = some ⟨g, off, none⟩ ∧ g < B ∧ w.cell? ⟨g, off + j * 3, none⟩ = some (.int .i64 l[j].a) ∧ w.cell? ⟨g, off + j * 3 + 1, none⟩ = some (.int .i64 l[j].b) ∧ w.cell? ⟨g, off + j * 3 + 2, none⟩ = some (.int .i64 l[j].w)) := fun j hj => by
    obtain ⟨g, off, h2, h3, h4⟩ := HA.out j hj
    exact ⟨g, off, h2, by omega, h4 0 (by decide), h4 1 (by decide), h4 2 (by decide)⟩
  clear HK1 HK2 HB0 ekm eB HA
  go_loopw [12] (fun i wr => ∃ (j : Nat) (vf : Value) (ρ : Int × Int → Value), j ≤ l.length ∧ i = .int .i64 j ∧ Hid (Book wr B bb km pm vf ρ (l.take j) (nubF (l.take j))) ∧ Hid (Below B w wr)) (fun i _ => l.length - (intOf i).toNat)
  case atStart => exact ⟨0, _, _, Nat.zero_le _, rfl, HK3.out, HB1.out⟩
  case round =>
    clear HK3 HB1
    obtain ⟨j, vf, ρ, hj, rfl, HKr, HB⟩ := hrel
    by_cases hlt : j < l.length
    · obtain ⟨g, off, rfl, hg, hc0, hc1, hc2⟩ := HA1.out j hlt
      obtain ⟨hn1, hn2, hn3, hn4⟩ := HNl.out j hlt
      have HN1 := hide hn1
      have HN3 := hide hn3
      generalize l[j] = f at *
      obtain ⟨fa, fb, fw⟩ := f
      dsimp only at hc0 hc1 hc2
      have f0 : wr.cell? ⟨g, off + j * 3, none⟩ = some (.int .i64 fa) := (HB.out.cell (p := ⟨g, off + j * 3, none⟩) hg).trans hc0
      have f1 : wr.cell? ⟨g, off + j * 3 + 1, none⟩ = some (.int .i64 fb) := (HB.out.cell (p := ⟨g, off + j * 3 + 1, none⟩) hg).trans hc1
      have f2 : wr.cell? ⟨g, off + j * 3 + 2, none⟩ = some (.int .i64 fw) := (HB.out.cell (p := ⟨g, off + j * 3 + 2, none⟩) hg).trans hc2
      have hzr : B ≤ wr.heap.size := by have := HB.out.size; omega
      have hgr : g < wr.heap.size := by omega
      have hb3 := (Below.refl wr.heap.size wr).alloc (Nat.le_refl _) (.cells #[.int .i64 fa, .int .i64 fb, .int .i64 fw] 36)
      have HK4 := hide (HKr.out.below hb3)
      have HG4 := hide (Blk.new wr #[.int .i64 fa, .int .i64 fb, .int .i64 fw] 36)
      have HB4 := hide (HB.out.trans (hb3.mono hzr))
      clear hn1 hn3 hc0 hc1 hc2 hb3
      go_wp2_with fail
      clear f0 f1 f2 HKr HB hgr
      obtain ⟨b3, e3⟩ : ∃ b, b = wr.heap.size := ⟨_, rfl⟩
      rw [← e3] at HG4 ⊢
      clear e3
      generalize wr.alloc (.cells #[.int .i64 fa, .int .i64 fb, .int .i64 fw] 36) = w4 at *
      have hB4 : B ≤ w4.heap.size := by have := HB4.out.size; omega
      refine (write_calls w4 B bb km pm vf ρ (l.take j) (nubF (l.take j)) ⟨fa, fb, fw⟩ HK4.out (mem_nubF _) hB4 (by omega) (by omega)).mono ?_
      rintro e w5 ⟨rfl, vf5, ρ5, hk5, hch5, _⟩
      have hfoot : ∀ g, (g = km ∨ g = pm ∨ g = bb ∨ vf.ownBlock = some g ∨ ((⟨fa, fb, fw⟩ : Fa) ∉ nubF (l.take j) ∧ (ρ (fa, fb)).ownBlock = some g)) → Foot bb km pm vf ρ g := by
        rintro g (h | h | h | h | ⟨_, h⟩)
        · exact .inr (.inl h)
        · exact .inr (.inr (.inl h))
        · exact .inl h
        · exact .inr (.inr (.inr (.inl h)))
        · exact .inr (.inr (.inr (.inr ⟨_, h⟩)))
      have HK5 : Hid (Book w5 B bb km pm vf5 ρ5 (l.take (j + 1)) (nubF (l.take (j + 1)))) := by
        show Book _ _ _ _ _ _ _ _ _
        rw [HN1.out, HN3.out]
        exact hk5
      have HB5 := hide (HB4.out.trans (hch5.below hB4 (fun g hg => HK4.out.foot_le (hfoot g hg))))
      clear hk5 hch5 hfoot HK4 HB4 HG4
      go_wp2_with fail
      go_roundw
      case rel => exact ⟨j + 1, vf5, ρ5, by omega, by go_num, HK5.out, HB5.out⟩
      case measure => simp [intOf]; omega
    · have hjl : j = l.length := by omega
      have HKr' : Hid (Book wr B bb km pm vf ρ l (nubF l)) := by
        have h1 := HKr.out
        rw [hjl, List.take_length] at h1
        exact h1
      clear HKr
      go_wp2_with fail
      go_ret
      exact Hfin.out wr bb vf ρ HKr'.out HB.out
end Go.Proofs.Ytgnldmheiknbkaa.P6
namespace Go.Proofs.Ytgnldmheiknbkaa.P6
set_option maxRecDepth 8000
open Go.RowKit P1 P5 Rc Mp

/-- The right ones. -/
def rights (L : List Cr) : List Cr := L.filter fun c => decide (credOk c)

theorem rights_take (L : List Cr) (i : Nat) (h : i < L.length) : rights (L.take (i + 1)) = if credOk L[i] then rights (L.take i) ++ [L[i]] else rights (L.take i) := by
  unfold rights
  rw [List.take_succ_eq_append_getElem h, List.filter_append]
  by_cases hc : credOk L[i]
  · simp [hc]
  · simp [hc]

theorem round_rights : ∀ (L : List Cr) (F : List Fa), round (rights L) F = round L F
  | [], _ => rfl
  | c :: L, F => by
    show round (rights (c :: L)) F = round L (follows F c)
    unfold rights
    by_cases hc : credOk c
    · rw [List.filter_cons_of_pos (by simpa using hc)]
      exact round_rights L (follows F c)
    · rw [List.filter_cons_of_neg (by simpa using hc)]
      have : follows F c = F := by unfold follows; rw [if_neg hc]
      rw [this]
      exact round_rights L F

theorem info_circle : (Try.prog.info? 84).map (fun i => (i.zero, i.size, i.bytes)) = some (some .nilIface, 1, 16) := by kernel_rfl

theorem circ_shape (c : Cr) : ∃ tv vv, circV c = .iface tv vv := by
  unfold circV
  split
  · exact ⟨_, _, rfl⟩
  · split
    · exact ⟨_, _, rfl⟩
    · split <;> exact ⟨_, _, rfl⟩

set_option maxHeartbeats 2000000 in
theorem circles_calls (w : World) (v : Value) (L : List Cr) (hv : RowAt crR w v L) (hL : L.length ≤ 1048576) :
    Calls Try.prog 71 #[v] w fun e w' => ∃ v', e = .returned v' ∧ w'.ownsRow w.heap.size 84 1 v' (rights L).length ((rights L).map circV) ∧ Below w.heap.size w w' := by
  obtain ⟨M, HM⟩ : ∃ M : Nat → List Cr, Hid (M 0 = [] ∧ (∀ i (hi : i < L.length), M (i + 1) = if credOk L[i] then M i ++ [L[i]] else M i) ∧ (∀ i, (M i).length ≤ 1048576) ∧ M L.length = rights L) := by
    refine ⟨fun i => rights (L.take i), rfl, fun i hi => rights_take L i hi, fun i => ?_, ?_⟩
    · refine Nat.le_trans (List.length_filter_le _ _) ?_
      rw [List.length_take]
      omega
    · show rights (L.take L.length) = _
      rw [List.take_length]
  rw [← HM.out.2.2.2]
  obtain ⟨a, ca, rfl, HA⟩ := hv.open_
  replace HA := hide HA
  obtain ⟨i0, hi, hz0, hz1, hz2⟩ := info_parts info_circle
  clear hv
  go_enter Try.func71, Try.ntmps71
  go_wp2_with fail
  go_loopw [3, 10] (fun vo i wr => ∃ j : Nat, j ≤ L.length ∧ i = .int .i64 j ∧ Hid (wr.ownsRow w.heap.size 84 1 vo (M j).length ((M j).map circV)) ∧ Hid (Below w.heap.size w wr)) (fun _ i _ => L.length - (intOf i).toNat)
  case atStart =>
    refine ⟨0, Nat.zero_le _, rfl, ?_, Below.refl _ _⟩
    show World.ownsRow _ _ _ _ _ _ _
    rw [HM.out.1]
    exact ⟨rfl, .inl ⟨rfl, rfl⟩⟩
  case round =>
    obtain ⟨j, hj, rfl, HO, HB⟩ := hrel
    by_cases hlt : j < L.length
    · obtain ⟨g, off, rfl, hg, hc⟩ := HA.out j hlt
      have hs := HM.out.2.1 j hlt
      have hle := HM.out.2.2.1 j
      generalize L[j] = c at *
      have HH := hide (fun wx => circleOf_calls wx c)
      obtain ⟨tv, vv, EU⟩ := circ_shape c
      rw [EU] at HH
      have HEU := hide EU
      clear EU
      obtain ⟨k, ow, on, wh, aw, an, bw, bn, u, n⟩ := c
      have f0 : wr.cell? ⟨g, off + j * 10, none⟩ = some (.int .i64 k) := (HB.out.cell (p := ⟨g, off + j * 10, none⟩) hg).trans (hc 0 (by decide))
      have f1 : wr.cell? ⟨g, off + j * 10 + 1, none⟩ = some (.int .i64 ow) := (HB.out.cell (p := ⟨g, off + j * 10 + 1, none⟩) hg).trans (hc 1 (by decide))
      have f2 : wr.cell? ⟨g, off + j * 10 + 2, none⟩ = some (.int .i64 on) := (HB.out.cell (p := ⟨g, off + j * 10 + 2, none⟩) hg).trans (hc 2 (by decide))
      have f3 : wr.cell? ⟨g, off + j * 10 + 3, none⟩ = some (.int .i64 wh) := (HB.out.cell (p := ⟨g, off + j * 10 + 3, none⟩) hg).trans (hc 3 (by decide))
      have f4 : wr.cell? ⟨g, off + j * 10 + 4, none⟩ = some (.int .i64 aw) := (HB.out.cell (p := ⟨g, off + j * 10 + 4, none⟩) hg).trans (hc 4 (by decide))
      have f5 : wr.cell? ⟨g, off + j * 10 + 5, none⟩ = some (.int .i64 an) := (HB.out.cell (p := ⟨g, off + j * 10 + 5, none⟩) hg).trans (hc 5 (by decide))
      have f6 : wr.cell? ⟨g, off + j * 10 + 6, none⟩ = some (.int .i64 bw) := (HB.out.cell (p := ⟨g, off + j * 10 + 6, none⟩) hg).trans (hc 6 (by decide))
      have f7 : wr.cell? ⟨g, off + j * 10 + 7, none⟩ = some (.int .i64 bn) := (HB.out.cell (p := ⟨g, off + j * 10 + 7, none⟩) hg).trans (hc 7 (by decide))
      have f8 : wr.cell? ⟨g, off + j * 10 + 8, none⟩ = some (.int .i64 u) := (HB.out.cell (p := ⟨g, off + j * 10 + 8, none⟩) hg).trans (hc 8 (by decide))
      have f9 : wr.cell? ⟨g, off + j * 10 + 9, none⟩ = some (.int .i64 n) := (HB.out.cell (p := ⟨g, off + j * 10 + 9, none⟩) hg).trans (hc 9 (by decide))
      have hgr : g < wr.heap.size := Nat.lt_of_lt_of_le hg HB.out.size
      simp only [credV] at HH
      have HS := hide hs
      have hb4 := (Below.refl wr.heap.size wr).alloc (Nat.le_refl _) (.cells #[.int .i64 k, .int .i64 ow, .int .i64 on, .int .i64 wh, .int .i64 aw, .int .i64 an, .int .i64 bw, .int .i64 bn, .int .i64 u, .int .i64 n] 29)
      have HO4 := hide (own_below HO.out hb4)
      have HB4 := hide (HB.out.trans (hb4.mono HB.out.size))
      clear hs hc hb4
      go_wp2_with fail
      clear f0 f1 f2 f3 f4 f5 f6 f7 f8 f9 HO HB hgr
      generalize wr.alloc (.cells #[.int .i64 k, .int .i64 ow, .int .i64 on, .int .i64 wh, .int .i64 aw, .int .i64 an, .int .i64 bw, .int .i64 bn, .int .i64 u, .int .i64 n] 29) = w4 at *
      refine (HH.out w4).mono ?_
      rintro e w5 ⟨rfl, hb⟩
      have HO5 := hide (own_below HO4.out hb)
      have HB5 := hide (HB4.out.trans (hb.mono HB4.out.size))
      have hB5 : w.heap.size ≤ w5.heap.size := HB5.out.size
      clear hb HH HO4 HB4
      by_cases hm : credOk ⟨k, ow, on, wh, aw, an, bw, bn, u, n⟩
      · rw [decide_eq_true hm, if_pos hm]
        have HN : Hid (M (j + 1) = M j ++ [⟨k, ow, on, wh, aw, an, bw, bn, u, n⟩]) := HS.out.trans (if_pos hm)
        clear HS hm
        go_wp2_with (at_builtin; refine wpList_append_one (cs := #[.iface tv vv]) (Below.refl w.heap.size w5) hB5 rfl (.tmp 20) (.tmp 22) 103 rfl 84 i0 .nilIface 1 16 Try.underlying103 hi hz0 hz1 hz2 rfl (by decide) rfl (by simp [Value.oneCell']) _ _ _ rfl HO5.out 1 rfl (by omega) (by omega) ?_)
        intro v6 w6 hown6 hb6
        have HO6 : Hid (w6.ownsRow w.heap.size 84 1 v6 (M (j + 1)).length ((M (j + 1)).map circV)) := by
          show World.ownsRow _ _ _ _ _ _ _
          rw [HN.out, List.length_append, List.map_append]
          simpa [HEU.out] using hown6
        have HB6 := hide (HB5.out.trans hb6)
        clear hown6 hb6
        go_wp2_with fail
        go_roundw
        case rel => exact ⟨j + 1, by omega, by go_num, HO6.out, HB6.out⟩
        case measure => simp [intOf]; omega
      · rw [decide_eq_false hm, if_neg hm]
        have HN : Hid (M (j + 1) = M j) := HS.out.trans (if_neg hm)
        clear HS hm
        go_wp2_with fail
        go_roundw
        case rel => exact ⟨j + 1, by omega, by go_num, by show World.ownsRow _ _ _ _ _ _ _; rw [HN.out]; exact HO5.out, HB5.out⟩
        case measure => simp [intOf]; omega
    · have hjl : j = L.length := by omega
      subst hjl
      go_wp2_with fail
      go_ret
      exact ⟨_, rfl, HO.out, HB.out⟩

/-- How long the book's list is. -/
def lenAt (w : World) (bb : Nat) : Nat := match w.cell? ⟨bb, 0, none⟩ with
  | some v => lenOf v
  | none => 0

theorem lenAt_book {w : World} {B bb km pm : Nat} {vf : Value} {ρ : Int × Int → Value} {F K : List Fa} (h : Book w B bb km pm vf ρ F K) : lenAt w bb = F.length := by
  have : w.cell? ⟨bb, 0, none⟩ = some vf := by rw [h.blk.cell 0]; rfl
  obtain ⟨a, cap, hs⟩ := own_shape h.facts
  unfold lenAt
  rw [this, hs]
  rfl

theorem follows_adds {F : List Fa} (hn : F.Nodup) {c : Cr} (hc : credOk c) : adds c.ow c.on (told F c) F = follows F c := by
  have := told_tells F c
  rw [nubF_self hn] at this
  rw [this]
  unfold follows
  rw [if_pos hc]

/-- A row that a book's work leaves alone. -/
theorem own_keep {w w' : World} {B : Nat} {e : TypeId} {size n : Nat} {v : Value} {xs : List Value} (h : w.ownsRow B e size v n xs) (hk : Keep w w') (h1 : e ≠ 79) (h2 : e ≠ 36) (h3 : e ≠ 3) : w'.ownsRow B e size v n xs :=
  own_at h (fun g hg => by
    obtain ⟨cur, h4, _⟩ := own_blk h hg
    rw [hk g _ _ _ h4 h1 h2 h3, h4])
end Go.Proofs.Ytgnldmheiknbkaa.P6
namespace Go.Proofs.Ytgnldmheiknbkaa.P6
set_option maxRecDepth 8000
open Go.RowKit P1 P5 Rc Mp

/-- A row whose elements are one cell each, as the walks want it. -/
theorem own_cells {w : World} {B : Nat} {e : TypeId} {n : Nat} {v : Value} {xs : List Value} (h : w.ownsRow B e 1 v n xs) : ∃ a cap, v = .slice a n cap ∧ ∀ j, j < n → ∃ g off, a = some ⟨g, off, none⟩ ∧ g < w.heap.size ∧ w.cell? ⟨g, off + j, none⟩ = xs[j]? := by
  have h0 := h
  rcases h.2 with ⟨rfl, hn⟩ | ⟨g, cap, cur, rfl, h1, h2, -, -, -, -⟩
  · exact ⟨none, 0, by rw [hn], fun j hj => by omega⟩
  · exact ⟨_, cap, rfl, fun j hj => ⟨g, 0, rfl, (Array.getElem?_eq_some_iff.1 h2).1, by rw [Nat.zero_add, h0.cellAt j (by omega)]⟩⟩

/-- A book is settled by whatever goes round all words: as long as something came. -/
theorem settle_calls (w : World) (bb fid : Nat) (caps : Array Value) (I : Nat → World → Prop) (N : Nat → Nat) (hN : ∀ m, N m ≤ 144) (hM : ∀ m, N m ≤ N (m + 1)) (h0 : I 0 w)
    (henter : ∀ args wx, (callFunc fid args).run Try.prog wx = .ok (.enter fid args) wx)
    (hlen : ∀ m wx, I m wx → bb < wx.heap.size ∧ ∃ a c, wx.cell? ⟨bb, 0, none⟩ = some (.slice a (N m) c))
    (hround : ∀ m wx, I m wx → Calls Try.prog fid caps wx fun e w' => e = .returned (.tuple #[]) ∧ I (m + 1) w') :
    Calls Try.prog 72 #[.pointer (some ⟨bb, 0, none⟩), .func (.func fid) #[] caps] w fun e w' => e = .returned (.tuple #[]) ∧ ∃ m, I (m + 1) w' ∧ N (m + 1) = N m := by
  have HLn : Hid (∀ m wx, I m wx → lenAt wx bb = N m) := fun m wx h => by
    obtain ⟨_, a, c, hc⟩ := hlen m wx h
    unfold lenAt
    rw [hc]
    rfl
  have HLe := hide hlen
  have HR := hide hround
  have HN := hide hN
  have HM := hide hM
  have H0 := hide h0
  clear hlen hround hN hM h0
  go_enter Try.func72, Try.ntmps72
  go_wp2_with fail
  go_loopw [4] (fun s wr => ∃ (m : Nat) (b : Bool), s = .bool b ∧ Hid (I m wr) ∧ Hid (b = false → ∃ k, m = k + 1 ∧ N (k + 1) = N k)) (fun s wr => 290 - 2 * lenAt wr bb + yesOf s)
  case atStart => exact ⟨0, true, rfl, H0.out, (by show _ → _; intro h; cases h)⟩
  case round =>
    clear H0
    obtain ⟨m, b, rfl, HI, HS⟩ := hrel
    cases b with
    | false =>
      go_wp2_with fail
      go_end0
      obtain ⟨k, rfl, hk⟩ := HS.out (by simp)
      exact ⟨rfl, k, HI.out, hk⟩
    | true =>
      clear HS
      obtain ⟨lb, a1, c1, hc1⟩ := HLe.out m wr HI.out
      have hL1 := hide (HLn.out m wr HI.out)
      have HC := hide (HR.out m wr HI.out)
      have hN1 := HN.out m
      obtain ⟨N0, EN⟩ : ∃ N0, N0 = N m := ⟨_, rfl⟩
      rw [← EN] at hc1 hL1 hN1
      have HE := hide EN
      clear EN HI
      go_wp2_with fail
      refine HC.out.mono ?_
      rintro e w2 ⟨rfl, hI2⟩
      obtain ⟨lb2, a2, c2, hc2⟩ := HLe.out (m + 1) w2 hI2
      have hL2 := hide (HLn.out (m + 1) w2 hI2)
      have HI2 := hide hI2
      have hN2 := HN.out (m + 1)
      have hM2 : N0 ≤ N (m + 1) := by rw [HE.out]; exact HM.out m
      have HS2 : Hid (decide (N0 < N (m + 1)) = false → ∃ k, m + 1 = k + 1 ∧ N (k + 1) = N k) := fun h => ⟨m, rfl, by
        have h1 : ¬ N0 < N (m + 1) := of_decide_eq_false h
        have h2 := HE.out
        omega⟩
      clear hI2 hc1 lb HC
      generalize N (m + 1) = N1 at *
      have HME : Hid (290 - 2 * N1 + yesOf (.bool (decide (N0 < N1))) < 290 - 2 * N0 + 1) := by
        show _ < _
        by_cases hq : N0 < N1
        · rw [decide_eq_true hq]
          show _ + 1 < _
          omega
        · rw [decide_eq_false hq]
          show _ + 0 < _
          omega
      go_wp2_with fail
      go_roundw
      case rel => exact ⟨m + 1, decide (N0 < N1), by simp, HI2.out, HS2.out⟩
      case measure =>
        have h1 := HME.out
        have h2 := hL1.out
        have h4 := hL2.out
        have h3 : yesOf (.bool true) = 1 := rfl
        simpa [h2, h3, h4] using h1

set_option maxHeartbeats 1000000 in
/-- Once round all words. -/
theorem bookRound_calls (w : World) (B bb km pm : Nat) (vf : Value) (ρ : Int × Int → Value) (F : List Fa) (R : List Cr) (bv bc cC : Nat) (aC : Option Addr) (hK : Book w B bb km pm vf ρ F F) (hv : Blk w bv [.pointer (some ⟨bb, 0, none⟩)] 80) (hc : Blk w bc [.slice aC R.length cC] 103)
    (hO : w.ownsRow B 84 1 (.slice aC R.length cC) R.length (R.map circV)) (hRk : ∀ c ∈ R, credOk c) (hRl : R.length ≤ 1048576) (hN : F.Nodup) (hl : ∀ i, (round (R.take i) F).length ≤ 144) (hB : B ≤ w.heap.size) :
    Calls Try.prog 73 #[.pointer (some ⟨bc, 0, none⟩), .pointer (some ⟨bv, 0, none⟩)] w fun e w' => e = .returned (.tuple #[]) ∧ ∃ vf' ρ', Book w' B bb km pm vf' ρ' (round R F) (round R F) ∧ Below B w w' ∧ Keep w w' := by
  obtain ⟨J, HJ0, HJs, HJl, HJn, HJR⟩ : ∃ J : Nat → List Fa, Hid (J 0 = F) ∧ Hid (∀ i (hi : i < R.length), J (i + 1) = follows (J i) R[i]) ∧ Hid (∀ i, (J i).length ≤ 144) ∧ Hid (∀ i, (J i).Nodup) ∧ Hid (J R.length = round R F) := by
    refine ⟨fun i => round (R.take i) F, rfl, fun i hi => round_take R _ i hi, hl, fun i => round_nodup _ _ hN, ?_⟩
    show round (R.take R.length) _ = _
    rw [List.take_length]
  have HKJ : Hid (Book w B bb km pm vf ρ (J 0) (J 0)) := by show Book _ _ _ _ _ _ _ _ _; rw [HJ0.out]; exact hK
  have HV := hide hv
  have HC := hide hc
  have HO := hide hO
  have HRk := hide hRk
  have cc : w.cell? ⟨bc, 0, none⟩ = some (.slice aC R.length cC) := by rw [hc.cell 0]; rfl
  have lc := hc.lt
  clear hK hv hc hO hRk hN hl HJ0
  go_enter Try.func73, Try.ntmps73
  go_wp2_with fail
  clear cc lc
  go_loopw [6] (fun i wx => ∃ (j : Nat) (vf : Value) (ρ : Int × Int → Value), j ≤ R.length ∧ i = .int .i64 j ∧ Hid (Book wx B bb km pm vf ρ (J j) (J j)) ∧ Hid (Below B w wx) ∧ Hid (Keep w wx)) (fun i _ => R.length - (intOf i).toNat)
  case atStart => exact ⟨0, vf, ρ, Nat.zero_le _, rfl, HKJ.out, (Below.refl w.heap.size w).mono hB, Keep.refl w⟩
  case round =>
    clear HKJ
    obtain ⟨j, vf, ρ, hj, rfl, HK, HB, HE⟩ := hrel
    by_cases hlt : j < R.length
    · obtain ⟨ax, cx, hax, hcell⟩ := own_cells (own_keep HO.out HE.out (by decide) (by decide) (by decide))
      cases hax
      obtain ⟨g, off, hg, hgl, hc⟩ := hcell j hlt
      subst hg
      have hs := HJs.out j hlt
      have hck := HRk.out R[j] (List.getElem_mem hlt)
      have hcj : wr.cell? ⟨g, off + j, none⟩ = some (circV R[j]) := by rw [hc]; simp [hlt]
      have hl1 := HJl.out j
      have hBx : B ≤ wr.heap.size := by have := HB.out.size; omega
      have HA := hide (add_calls wr B bb km pm vf ρ (J j) (J j) R[j] HK.out (HJn.out j) (fun _ => Iff.rfl) (by omega) (by omega) hBx (kind_of hck))
      rw [follows_adds (HJn.out j) hck, ← hs] at HA
      obtain ⟨tv, vv, ecv⟩ := circ_shape R[j]
      rw [ecv] at HA hcj
      have hvr : Blk wr bv [.pointer (some ⟨bb, 0, none⟩)] 80 := by
        have h1 := HV.out
        unfold Blk at h1 ⊢
        exact HE.out _ _ _ _ h1 (by decide) (by decide) (by decide)
      have cv : wr.cell? ⟨bv, 0, none⟩ = some (.pointer (some ⟨bb, 0, none⟩)) := by rw [hvr.cell 0]; rfl
      have lv := hvr.lt
      clear hs hck hc hcell ecv hvr
      go_wp2_with fail
      refine HA.out.mono ?_
      rintro e w5 ⟨rfl, vf5, ρ5, hk5, hb5, he5⟩
      have HK5 := hide hk5
      have HB5 := hide (HB.out.trans hb5)
      have HE5 := hide (HE.out.trans he5)
      clear hk5 hb5 he5 hcj cv lv
      go_wp2_with fail
      go_roundw
      case rel => exact ⟨j + 1, vf5, ρ5, by omega, by go_num, HK5.out, HB5.out, HE5.out⟩
      case measure => simp [intOf]; omega
    · have hjl : j = R.length := by omega
      subst hjl
      go_wp2_with fail
      go_end0
      exact ⟨rfl, vf, ρ, by rw [← HJR.out]; exact HK.out, HB.out, HE.out⟩

theorem enterBk : ∀ args w, (callFunc 73 args).run Try.prog w = .ok (.enter 73 args) w := run_enter Try.func73 (by kernel_rfl) (by kernel_rfl)

theorem blk_keep {w w' : World} {b : Nat} {cs : List Value} {t : TypeId} (h : Blk w b cs t) (hk : Keep w w') (h1 : t ≠ 79) (h2 : t ≠ 36) (h3 : t ≠ 3) : Blk w' b cs t := by
  unfold Blk at h ⊢
  exact hk _ _ _ _ h h1 h2 h3

set_option maxHeartbeats 2000000 in
theorem bookOf_calls (w : World) (v : Value) (L : List Cr) (hv : RowAt crR w v L) (hL : L.length ≤ 1048576) :
    Calls Try.prog 52 #[v] w fun e w' => ∃ bb km pm vf ρ, e = .returned (.pointer (some ⟨bb, 0, none⟩)) ∧ Book w' w.heap.size bb km pm vf ρ (factsOf L) (factsOf L) ∧ Below w.heap.size w w' := by
  obtain ⟨R, ER⟩ : ∃ R, R = rights L := ⟨_, rfl⟩
  have hRl : R.length ≤ 1048576 := by rw [ER]; exact Nat.le_trans (List.length_filter_le _ _) hL
  have HRk : Hid (∀ c ∈ R, credOk c) := fun c hc => by
    rw [ER] at hc
    simpa using (List.mem_filter.1 hc).2
  have HRr : Hid (∀ F, round R F = round L F) := fun F => by rw [ER]; exact round_rights L F
  have HN := hide (newBook_calls w (.slice none 0 0) [] (.inl ⟨none, 0, rfl, rfl, fun _ => rfl⟩) (by decide))
  have HV := hide hv
  obtain ⟨av, cv, rfl, -⟩ := hv.open_
  have HER := hide ER
  clear hv ER
  go_enter Try.func52, Try.ntmps52
  go_wp2_with fail
  refine HN.out.mono ?_
  rintro e w1 ⟨bb, km, pm, vf0, ρ0, rfl, hk1, hb1⟩
  go_upto_region 2 with fail
  have hbv := (Below.refl w1.heap.size w1).alloc (Nat.le_refl _) (.cells #[.pointer (some ⟨bb, 0, none⟩)] 80)
  have HK1 := hide (show Book _ w.heap.size bb km pm vf0 ρ0 [] [] from hk1.below hbv)
  have HB1 := hide (hb1.trans (hbv.mono hb1.size))
  have HV1 := hide ((HV.out.below hb1 (Nat.le_refl _)).below hbv (Nat.le_refl _))
  have HGv := hide (Blk.new w1 #[.pointer (some ⟨bb, 0, none⟩)] 80)
  obtain ⟨bv, ebv⟩ : ∃ b, b = w1.heap.size := ⟨_, rfl⟩
  rw [← ebv] at HGv ⊢
  clear hk1 hb1 HN HV hbv ebv
  generalize w1.alloc (.cells #[.pointer (some ⟨bb, 0, none⟩)] 80) = w2 at *
  have HC := hide (circles_calls w2 _ L HV1.out hL)
  rw [← HER.out] at HC
  go_wp2_with fail
  refine HC.out.mono ?_
  rintro e w3 ⟨vC, rfl, hown2, hb2⟩
  obtain ⟨aC, cC, hsh⟩ := own_shape hown2
  subst hsh
  go_upto_region 3 with fail
  have hbc := (Below.refl w3.heap.size w3).alloc (Nat.le_refl _) (.cells #[.slice aC R.length cC] 103)
  have HK3 := hide ((HK1.out.below hb2).below hbc)
  have HB3 := hide ((HB1.out.trans (hb2.mono HB1.out.size)).trans (hbc.mono (Nat.le_trans HB1.out.size hb2.size)))
  have HO3 := hide (own_below (own_mono hown2 HB1.out.size) hbc)
  have hgv := HGv.out.below hb2 HGv.out.lt
  have HGv3 := hide (hgv.below hbc hgv.lt)
  have HGc := hide (Blk.new w3 #[.slice aC R.length cC] 103)
  obtain ⟨bc, ebc⟩ : ∃ b, b = w3.heap.size := ⟨_, rfl⟩
  rw [← ebc] at HGc ⊢
  obtain ⟨B, eB⟩ : ∃ B, B = w.heap.size := ⟨_, rfl⟩
  rw [← eB] at HK3 HB3 HO3
  have hwB : B ≤ w.heap.size := by omega
  have Hfin : Hid (∀ w' vf ρ, Book w' B bb km pm vf ρ (factsOf L) (factsOf L) → Below B w w' → ∃ bb' km' pm' vf' ρ', Ending.returned (.pointer (some ⟨bb, 0, none⟩)) = Ending.returned (.pointer (some ⟨bb', 0, none⟩)) ∧ Book w' w.heap.size bb' km' pm' vf' ρ' (factsOf L) (factsOf L) ∧ Below w.heap.size w w') := fun w' vf ρ h1 h2 => ⟨bb, km, pm, vf, ρ, rfl, by rw [← eB]; exact h1, by rw [← eB]; exact h2⟩
  clear hown2 hb2 HC HK1 HB1 eB HER HV1 HGv hgv hbc ebc
  generalize w3.alloc (.cells #[.slice aC R.length cC] 103) = w4 at *
  have HS := hide (settle_calls w4 bb 73 #[.pointer (some ⟨bc, 0, none⟩), .pointer (some ⟨bv, 0, none⟩)]
    (fun m wx => ∃ vf ρ, Book wx B bb km pm vf ρ (factsN L m) (factsN L m) ∧ Blk wx bv [.pointer (some ⟨bb, 0, none⟩)] 80 ∧ Blk wx bc [.slice aC R.length cC] 103 ∧ wx.ownsRow B 84 1 (.slice aC R.length cC) R.length (R.map circV) ∧ Below B w wx)
    (fun m => (factsN L m).length) (factsN_le L) (fun m => (round_prefix L (factsN L m)).length_le) ⟨vf0, ρ0, HK3.out, HGv3.out, HGc.out, HO3.out, HB3.out⟩ enterBk
    (fun m wx ⟨vf, ρ, h1, _⟩ => by
      obtain ⟨a3, c3, hsh3⟩ := own_shape h1.facts
      exact ⟨h1.blk.lt, a3, c3, by rw [h1.blk.cell 0, ← hsh3]; rfl⟩)
    (fun m wx ⟨vf, ρ, h1, h2, h3, h4, h5⟩ => (bookRound_calls wx B bb km pm vf ρ (factsN L m) R bv bc cC aC h1 h2 h3 h4 HRk.out hRl (factsN_nodup L m) (fun i => right_le (round_nodup _ _ (factsN_nodup L m)) (round_right _ _ (factsN_right L m))) (by have := h5.size; omega)).mono (fun e w' ⟨he, vf', ρ', g1, g2, g3⟩ => ⟨he, vf', ρ', by
      rw [HRr.out] at g1
      exact ⟨g1, blk_keep h2 g3 (by decide) (by decide) (by decide), blk_keep h3 g3 (by decide) (by decide) (by decide), own_keep h4 g3 (by decide) (by decide) (by decide), h5.trans g2⟩⟩)))
  have cv : w4.cell? ⟨bv, 0, none⟩ = some (.pointer (some ⟨bb, 0, none⟩)) := by rw [HGv3.out.cell 0]; rfl
  have lv := HGv3.out.lt
  go_wp2_with fail
  refine HS.out.mono ?_
  rintro e w5 ⟨rfl, m, ⟨vf, ρ, hk, hgv, -, -, hb⟩, hm⟩
  have h3 : factsN L (m + 1) = factsN L m := prefix_same (round_prefix L (factsN L m)) (by show (factsN L (m + 1)).length ≤ _; exact Nat.le_of_eq hm)
  have hE : factsN L (m + 1) = factsOf L := by
    rw [h3]
    exact factsOf_eq (show Still L m from h3)
  rw [hE] at hk
  have HK5 := hide hk
  have HB5 := hide hb
  have cv5 : w5.cell? ⟨bv, 0, none⟩ = some (.pointer (some ⟨bb, 0, none⟩)) := by rw [hgv.cell 0]; rfl
  have lv5 := hgv.lt
  clear hk hb hgv hm h3 hE cv lv
  go_wp2_with fail
  go_ret
  exact Hfin.out w5 vf ρ HK5.out HB5.out
end Go.Proofs.Ytgnldmheiknbkaa.P6
namespace Go.Proofs.Ytgnldmheiknbkaa.P6
set_option maxRecDepth 8000
open Go.RowKit P1 P5 Rc Mp

theorem info_credI : (Try.prog.info? 29).map (fun i => (i.zero, i.size, i.bytes)) = some (some (.agg #[.int .i64 0, .int .i64 0, .int .i64 0, .int .i64 0, .int .i64 0, .int .i64 0, .int .i64 0, .int .i64 0, .int .i64 0, .int .i64 0]), 10, 80) := by kernel_rfl
theorem info_roleI : (Try.prog.info? 27).map (fun i => (i.zero, i.size, i.bytes)) = some (some (.agg #[.int .i64 0, .int .i64 0]), 2, 16) := by kernel_rfl
theorem enterB : ∀ args w, (callFunc 52 args).run Try.prog w = .ok (.enter 52 args) w := run_enter Try.func52 (by kernel_rfl) (by kernel_rfl)

theorem follows_told (l : List Fa) {c : Cr} (hc : credOk c) : adds c.ow c.on (told (nubF l) c) l = follows l c := by
  rw [told_tells]
  unfold follows
  rw [if_pos hc]

set_option maxHeartbeats 1000000 in
theorem implFollows_calls (w : World) (v : Value) (l : List Fa) (c : Cr) (hv : RowAt faR w v l) (hl : l.length ≤ 1048576) :
    Calls Try.prog 16 #[v, credV c] w fun e w' => ∃ v', e = .returned v' ∧ w'.ownsRow w.heap.size 36 3 v' (follows l c).length (cellsI (flat faR (follows l c))) ∧ Below w.heap.size w w' := by
  obtain ⟨R, ER⟩ : ∃ R, Hid (R = follows l c) := ⟨_, rfl⟩
  rw [← ER.out]
  have HCO := hide (fun wx => circleOf_calls wx c)
  have HAD := hide (fun wx B bb km pm vf ρ (h : Book wx B bb km pm vf ρ l (nubF l)) (hB : B ≤ wx.heap.size) (hc : credOk c) => add_calls wx B bb km pm vf ρ l (nubF l) c h (nubF_nodup l) (mem_nubF l) (by have := nubF_le l; omega) (by omega) hB (kind_of hc))
  have HTO := hide (fun hc : credOk c => follows_told l hc)
  have HNO := hide (fun hc : ¬ credOk c => show follows l c = l by unfold follows; rw [if_neg hc])
  obtain ⟨tv, vv, ecv⟩ := circ_shape c
  rw [ecv] at HCO
  simp only [ecv] at HAD
  clear ecv
  obtain ⟨cok, hcok⟩ : ∃ p : Prop, p = credOk c := ⟨_, rfl⟩
  have hbA := (Below.refl w.heap.size w).alloc (Nat.le_refl _) (.cells ((credV c).cells) 29)
  have HBA := hide hbA
  have HG := hide (Blk.new w ((credV c).cells) 29)
  have HV1 := hide (hv.below hbA (Nat.le_refl _))
  have HNB := hide (fun wx (hr : RowAt faR wx v l) => newBook_calls wx v l hr hl)
  obtain ⟨av, cv, rfl, -⟩ := hv.open_
  clear hbA hv hcok cok
  by_cases hok : credOk c
  · have HT := hide (HTO.out hok)
    have HA := hide (fun wx B bb km pm vf ρ h hB => HAD.out wx B bb km pm vf ρ h hB hok)
    have HC : Hid (∀ wx, Calls Try.prog 54 #[credV c] wx fun e w' => e = .returned (.tuple #[.iface tv vv, .bool true]) ∧ Below wx.heap.size wx w') := fun wx => by
      have := HCO.out wx
      rw [if_pos hok, decide_eq_true hok] at this
      exact this
    clear HTO HAD HCO HNO hok
    obtain ⟨k, ow, on, wh, aw, an, bw, bn, u, n⟩ := c
    dsimp only at HA HT
    simp only [credV] at HC ⊢
    change Hid (Blk (w.alloc (.cells #[.int .i64 k, .int .i64 ow, .int .i64 on, .int .i64 wh, .int .i64 aw, .int .i64 an, .int .i64 bw, .int .i64 bn, .int .i64 u, .int .i64 n] 29)) w.heap.size [.int .i64 k, .int .i64 ow, .int .i64 on, .int .i64 wh, .int .i64 aw, .int .i64 an, .int .i64 bw, .int .i64 bn, .int .i64 u, .int .i64 n] 29) at HG
    change Hid (Below w.heap.size w (w.alloc (.cells #[.int .i64 k, .int .i64 ow, .int .i64 on, .int .i64 wh, .int .i64 aw, .int .i64 an, .int .i64 bw, .int .i64 bn, .int .i64 u, .int .i64 n] 29))) at HBA
    change Hid (RowAt faR (w.alloc (.cells #[.int .i64 k, .int .i64 ow, .int .i64 on, .int .i64 wh, .int .i64 aw, .int .i64 an, .int .i64 bw, .int .i64 bn, .int .i64 u, .int .i64 n] 29)) (.slice av l.length cv) l) at HV1
    go_enter Try.func16, Try.ntmps16
    go_wp2_with fail
    obtain ⟨b0, e0⟩ : ∃ b, b = w.heap.size := ⟨_, rfl⟩
    rw [← e0] at HG ⊢
    clear e0
    generalize w.alloc (.cells #[.int .i64 k, .int .i64 ow, .int .i64 on, .int .i64 wh, .int .i64 aw, .int .i64 an, .int .i64 bw, .int .i64 bn, .int .i64 u, .int .i64 n] 29) = w1 at *
    refine (HNB.out w1 HV1.out).mono ?_
    clear HNB HV1
    rintro e w2 ⟨bb, km, pm, vf, ρ, rfl, hk2, hb2⟩
    have HK2 := hide hk2
    have HB2 := hide hb2
    have G2 := hide (HG.out.below hb2 HG.out.lt)
    have c0 : w2.cell? ⟨b0, 0, none⟩ = some (.int .i64 k) := by rw [G2.out.cell 0]; rfl
    have c1 : w2.cell? ⟨b0, 1, none⟩ = some (.int .i64 ow) := by rw [G2.out.cell 1]; rfl
    have c2 : w2.cell? ⟨b0, 2, none⟩ = some (.int .i64 on) := by rw [G2.out.cell 2]; rfl
    have c3 : w2.cell? ⟨b0, 3, none⟩ = some (.int .i64 wh) := by rw [G2.out.cell 3]; rfl
    have c4 : w2.cell? ⟨b0, 4, none⟩ = some (.int .i64 aw) := by rw [G2.out.cell 4]; rfl
    have c5 : w2.cell? ⟨b0, 5, none⟩ = some (.int .i64 an) := by rw [G2.out.cell 5]; rfl
    have c6 : w2.cell? ⟨b0, 6, none⟩ = some (.int .i64 bw) := by rw [G2.out.cell 6]; rfl
    have c7 : w2.cell? ⟨b0, 7, none⟩ = some (.int .i64 bn) := by rw [G2.out.cell 7]; rfl
    have c8 : w2.cell? ⟨b0, 8, none⟩ = some (.int .i64 u) := by rw [G2.out.cell 8]; rfl
    have c9 : w2.cell? ⟨b0, 9, none⟩ = some (.int .i64 n) := by rw [G2.out.cell 9]; rfl
    have l0 := G2.out.lt
    clear hk2 hb2
    go_wp2_with fail
    clear c0 c1 c2 c3 c4 c5 c6 c7 c8 c9 l0 G2 HG
    refine (HC.out w2).mono ?_
    rintro e w3 ⟨rfl, hb3⟩
    have HK3 := hide (HK2.out.below hb3)
    have HB3 := hide (HB2.out.trans (hb3.mono HB2.out.size))
    have hB3 : w1.heap.size ≤ w3.heap.size := HB3.out.size
    clear hb3 HK2 HB2 HC
    go_wp2_with fail
    refine (HA.out w3 _ bb km pm vf ρ HK3.out hB3).mono ?_
    rintro e w4 ⟨rfl, vf4, ρ4, hk4, hb4, _⟩
    rw [HT.out] at hk4
    have HK4 := hide hk4
    have HB4 := hide (HB3.out.trans hb4)
    have cb : w4.cell? ⟨bb, 0, none⟩ = some vf4 := by rw [hk4.blk.cell 0]; rfl
    have lb := hk4.blk.lt
    clear hk4 hb4 HA HK3 HB3
    go_wp2_with fail
    go_ret
    exact ⟨_, rfl, by rw [ER.out]; exact own_mono HK4.out.facts HBA.out.size, HBA.out.trans (HB4.out.mono HBA.out.size)⟩
  · have HT := hide (HNO.out hok)
    have HC : Hid (∀ wx, Calls Try.prog 54 #[credV c] wx fun e w' => e = .returned (.tuple #[.nilIface, .bool false]) ∧ Below wx.heap.size wx w') := fun wx => by
      have := HCO.out wx
      rw [if_neg hok, decide_eq_false hok] at this
      exact this
    clear HTO HAD HCO HNO hok
    obtain ⟨k, ow, on, wh, aw, an, bw, bn, u, n⟩ := c
    simp only [credV] at HC ⊢
    change Hid (Blk (w.alloc (.cells #[.int .i64 k, .int .i64 ow, .int .i64 on, .int .i64 wh, .int .i64 aw, .int .i64 an, .int .i64 bw, .int .i64 bn, .int .i64 u, .int .i64 n] 29)) w.heap.size [.int .i64 k, .int .i64 ow, .int .i64 on, .int .i64 wh, .int .i64 aw, .int .i64 an, .int .i64 bw, .int .i64 bn, .int .i64 u, .int .i64 n] 29) at HG
    change Hid (Below w.heap.size w (w.alloc (.cells #[.int .i64 k, .int .i64 ow, .int .i64 on, .int .i64 wh, .int .i64 aw, .int .i64 an, .int .i64 bw, .int .i64 bn, .int .i64 u, .int .i64 n] 29))) at HBA
    change Hid (RowAt faR (w.alloc (.cells #[.int .i64 k, .int .i64 ow, .int .i64 on, .int .i64 wh, .int .i64 aw, .int .i64 an, .int .i64 bw, .int .i64 bn, .int .i64 u, .int .i64 n] 29)) (.slice av l.length cv) l) at HV1
    go_enter Try.func16, Try.ntmps16
    go_wp2_with fail
    obtain ⟨b0, e0⟩ : ∃ b, b = w.heap.size := ⟨_, rfl⟩
    rw [← e0] at HG ⊢
    clear e0
    generalize w.alloc (.cells #[.int .i64 k, .int .i64 ow, .int .i64 on, .int .i64 wh, .int .i64 aw, .int .i64 an, .int .i64 bw, .int .i64 bn, .int .i64 u, .int .i64 n] 29) = w1 at *
    refine (HNB.out w1 HV1.out).mono ?_
    clear HNB HV1
    rintro e w2 ⟨bb, km, pm, vf, ρ, rfl, hk2, hb2⟩
    have HK2 := hide hk2
    have HB2 := hide hb2
    have G2 := hide (HG.out.below hb2 HG.out.lt)
    have c0 : w2.cell? ⟨b0, 0, none⟩ = some (.int .i64 k) := by rw [G2.out.cell 0]; rfl
    have c1 : w2.cell? ⟨b0, 1, none⟩ = some (.int .i64 ow) := by rw [G2.out.cell 1]; rfl
    have c2 : w2.cell? ⟨b0, 2, none⟩ = some (.int .i64 on) := by rw [G2.out.cell 2]; rfl
    have c3 : w2.cell? ⟨b0, 3, none⟩ = some (.int .i64 wh) := by rw [G2.out.cell 3]; rfl
    have c4 : w2.cell? ⟨b0, 4, none⟩ = some (.int .i64 aw) := by rw [G2.out.cell 4]; rfl
    have c5 : w2.cell? ⟨b0, 5, none⟩ = some (.int .i64 an) := by rw [G2.out.cell 5]; rfl
    have c6 : w2.cell? ⟨b0, 6, none⟩ = some (.int .i64 bw) := by rw [G2.out.cell 6]; rfl
    have c7 : w2.cell? ⟨b0, 7, none⟩ = some (.int .i64 bn) := by rw [G2.out.cell 7]; rfl
    have c8 : w2.cell? ⟨b0, 8, none⟩ = some (.int .i64 u) := by rw [G2.out.cell 8]; rfl
    have c9 : w2.cell? ⟨b0, 9, none⟩ = some (.int .i64 n) := by rw [G2.out.cell 9]; rfl
    have l0 := G2.out.lt
    clear hk2 hb2
    go_wp2_with fail
    clear c0 c1 c2 c3 c4 c5 c6 c7 c8 c9 l0 G2 HG
    refine (HC.out w2).mono ?_
    rintro e w3 ⟨rfl, hb3⟩
    have HK3 := hide (HK2.out.below hb3)
    have HB3 := hide (HB2.out.trans (hb3.mono HB2.out.size))
    have cb : w3.cell? ⟨bb, 0, none⟩ = some vf := by rw [HK3.out.blk.cell 0]; rfl
    have lb := HK3.out.blk.lt
    clear hb3 HK2 HB2 HC
    go_wp2_with fail
    go_ret
    exact ⟨_, rfl, by rw [ER.out, HT.out]; exact own_mono HK3.out.facts HBA.out.size, HBA.out.trans (HB3.out.mono HBA.out.size)⟩

set_option maxHeartbeats 1000000 in
theorem implFacts_calls (w : World) (v : Value) (L : List Cr) (hv : RowAt crR w v L) (hL : L.length ≤ 1048576) :
    Calls Try.prog 13 #[v] w fun e w' => ∃ v', e = .returned v' ∧ w'.ownsRow w.heap.size 36 3 v' (factsOf L).length (cellsI (flat faR (factsOf L))) ∧ Below w.heap.size w w' := by
  have HB := hide (bookOf_calls w v L hv hL)
  clear hv
  go_enter Try.func13, Try.ntmps13
  go_wp2_with fail
  refine HB.out.mono ?_
  rintro e w2 ⟨bb, km, pm, vf, ρ, rfl, hk2, hb2⟩
  have HK2 := hide hk2
  have HB2 := hide hb2
  have cb : w2.cell? ⟨bb, 0, none⟩ = some vf := by rw [hk2.blk.cell 0]; rfl
  have lb := hk2.blk.lt
  clear hk2 hb2 HB
  go_wp2_with fail
  go_ret
  exact ⟨_, rfl, HK2.out.facts, HB2.out⟩

set_option maxHeartbeats 1000000 in
theorem implIsMember_calls (w : World) (v : Value) (L : List Cr) (a b who : Int) (hv : RowAt crR w v L) (hL : L.length ≤ 1048576) :
    Calls Try.prog 17 #[v, roleV a b, .int .i64 who] w fun e w' => e = .returned (.bool (decide ((⟨a, b, who⟩ : Fa) ∈ factsOf L))) ∧ Below w.heap.size w w' := by
  have hbA := (Below.refl w.heap.size w).alloc (Nat.le_refl _) (.cells #[.int .i64 a, .int .i64 b] 27)
  have HB := hide hbA
  have HV := hide (hv.below hbA (Nat.le_refl _))
  have HG := hide (Blk.new w #[.int .i64 a, .int .i64 b] 27)
  clear hv hbA
  simp only [roleV]
  go_enter Try.func17, Try.ntmps17
  go_wp2_with fail
  obtain ⟨b0, e0⟩ : ∃ b, b = w.heap.size := ⟨_, rfl⟩
  rw [← e0] at HG ⊢
  clear e0
  generalize w.alloc (.cells #[.int .i64 a, .int .i64 b] 27) = w1 at *
  have l0 := HG.out.lt
  have n0 : ∀ p : Near w1.heap.size w1, p.w.cell? ⟨b0, 0, none⟩ = some (.int .i64 a) := fun p => by rw [(HG.out.below p.h l0).cell 0]; rfl
  have n1 : ∀ p : Near w1.heap.size w1, p.w.cell? ⟨b0, 1, none⟩ = some (.int .i64 b) := fun p => by rw [(HG.out.below p.h l0).cell 1]; rfl
  have hnn := Near.some w1.heap.size w1
  refine wp_region_open (fun wd => ∃ p : Near w1.heap.size w1, wd = p.w) ⟨⟨_, (Below.refl _ _).drew⟩, rfl⟩ (by kernel_rfl) ?_
  rintro wd ⟨pd, rfl⟩
  refine wpAny_of_K (c := 5) (D := fun w' => ∃ p : Near w1.heap.size w1, w' = p.w) _ _ _ _ ?_
  refine wpAnyK_seg_lit 0 1 4 6 rfl (by decide) (by decide) (by kernel_rfl) (by kernel_rfl) (by kernel_rfl) (by kernel_rfl) (fun _ _ _ _ _ h => h) ⟨pd, rfl⟩ ?_
  simp only [List.take_succ_cons, List.take_zero, List.drop_zero]
  repeat (go_big_quiet_step (fail))
  refine wpQuiet_nil ?_
  refine wpAnyK_seg_lit 2 3 4 3 rfl (by decide) (by decide) (by kernel_rfl) (by kernel_rfl) (by kernel_rfl) (by kernel_rfl) (fun _ _ _ _ _ h => h) ⟨pd, rfl⟩ ?_
  simp only [List.take_succ_cons, List.take_zero, List.drop_succ_cons, List.drop_zero]
  repeat (go_big_quiet_step (fail))
  refine wpQuiet_nil ?_
  have hqb := pd.h
  obtain ⟨w2, hq⟩ := pd
  simp only at hqb ⊢
  have HBT := hide hqb
  have HV2 := hide (HV.out.below hqb (Nat.le_refl _))
  clear hq hqb n0 n1 hnn
  refine wpAnyK_call 1 (by kernel_rfl) rfl rfl 52 _ _ rfl enterB #[v] rfl (fun v' w' => ∃ bb km pm vf ρ, v' = .pointer (some ⟨bb, 0, none⟩) ∧ Book w' w2.heap.size bb km pm vf ρ (factsOf L) (factsOf L) ∧ Below w2.heap.size w2 w') ?_ ?_
  · refine (bookOf_calls w2 v L HV2.out hL).mono ?_
    rintro e w3 ⟨bb, km, pm, vf, ρ, rfl, h1, h2⟩
    exact ⟨_, rfl, bb, km, pm, vf, ρ, rfl, h1, h2⟩
  rintro v3 w3 ⟨bb, km, pm, vf, ρ, rfl, hk, hb⟩
  refine ⟨⟨⟨w3, HBT.out.trans (hb.mono HBT.out.size)⟩, rfl⟩, ?_⟩
  have HH := hide (has_calls w3 bb km pm (factsOf L).length vf (factsOf L) (factsOf L) ⟨a, b, who⟩ hk.blk hk.known)
  have HB3 := hide (HB.out.trans ((HBT.out.trans (hb.mono HBT.out.size)).mono HB.out.size))
  clear hk hb HV HV2 HBT
  refine wpAnyK_last (by kernel_rfl) (by decide) ?_
  refine wpAny_rest 5 rfl (by kernel_rfl) ?_
  simp only [List.drop_succ_cons, List.drop_zero, Act.put, List.setIfInBounds_toArray, List.set_cons_succ, List.set_cons_zero]
  simp only [faV] at HH
  go_wp2_with fail
  refine HH.out.mono ?_
  rintro e w4 ⟨rfl, hb⟩
  have HB4 := hide (HB3.out.trans (hb.mono HB3.out.size))
  clear hb HH
  go_wp2_with fail
  go_ret
  exact ⟨rfl, HB4.out⟩

set_option maxHeartbeats 1000000 in
theorem implMembers_calls (w : World) (v : Value) (L : List Cr) (a b : Int) (hv : RowAt crR w v L) (hL : L.length ≤ 1048576) :
    Calls Try.prog 19 #[v, roleV a b] w fun e w' => ∃ v', e = .returned v' ∧ w'.ownsRow w.heap.size 3 1 v' (membersOf L a b).length (cellsI (membersOf L a b)) ∧ Below w.heap.size w w' := by
  obtain ⟨M, HM⟩ : ∃ M : Nat → List Int, Hid (M 0 = [] ∧ (∀ k, M (k + 1) = if (⟨a, b, (k : Int)⟩ : Fa) ∈ factsOf L then M k ++ [(k : Int)] else M k) ∧ (∀ k, (M k).length ≤ k) ∧ M 6 = membersOf L a b) := by
    refine ⟨fun k => (six k).filter fun i => decide ((⟨a, b, i⟩ : Fa) ∈ factsOf L), rfl, fun k => ?_, fun k => ?_, rfl⟩
    · show (six (k + 1)).filter _ = _
      rw [six_succ, List.filter_append]
      by_cases h : (⟨a, b, (k : Int)⟩ : Fa) ∈ factsOf L
      · simp [h]
      · simp [h]
    · refine Nat.le_trans (List.length_filter_le _ _) ?_
      simp [six]
  rw [← HM.out.2.2.2]
  have hbA := (Below.refl w.heap.size w).alloc (Nat.le_refl _) (.cells #[.int .i64 a, .int .i64 b] 27)
  have HB := hide hbA
  have HV := hide (hv.below hbA (Nat.le_refl _))
  have HG := hide (Blk.new w #[.int .i64 a, .int .i64 b] 27)
  obtain ⟨i0, hi, hz0, hz1, hz2⟩ := info_parts infoInt
  clear hv hbA
  simp only [roleV]
  go_enter Try.func19, Try.ntmps19
  go_wp2_with fail
  obtain ⟨b0, e0⟩ : ∃ b, b = w.heap.size := ⟨_, rfl⟩
  rw [← e0] at HG ⊢
  clear e0
  generalize w.alloc (.cells #[.int .i64 a, .int .i64 b] 27) = w1 at *
  refine (bookOf_calls w1 v L HV.out hL).mono ?_
  rintro e w2 ⟨bb, km, pm, vf, ρ, rfl, hk2, hb⟩
  have G2 := hide (HG.out.below hb HG.out.lt)
  have HB2 := hide (HB.out.trans (hb.mono HB.out.size))
  have HK2 := hide hk2
  clear hk2 hb HB HG HV
  obtain ⟨F, EF⟩ : ∃ F, F = factsOf L := ⟨_, rfl⟩
  rw [← EF] at HK2
  simp only [← EF] at HM
  clear EF
  go_wp2_with fail
  go_loopw [6, 10] (fun vo i wr => ∃ k : Nat, k ≤ 6 ∧ i = .int .i64 k ∧ Hid (wr.ownsRow w2.heap.size 3 1 vo (M k).length (cellsI (M k))) ∧ Hid (Below w2.heap.size w2 wr)) (fun _ i _ => 6 - (intOf i).toNat)
  case atStart =>
    refine ⟨0, by decide, rfl, ?_, Below.refl _ _⟩
    show World.ownsRow _ _ _ _ _ _ _
    rw [HM.out.1]
    exact ⟨rfl, .inl ⟨rfl, rfl⟩⟩
  case round =>
    obtain ⟨k, hk, rfl, HO, HB⟩ := hrel
    have Gr := hide (G2.out.below HB.out G2.out.lt)
    have hBr : w2.heap.size ≤ wr.heap.size := HB.out.size
    by_cases hlt : k < 6
    · have d0 : wr.cell? ⟨b0, 0, none⟩ = some (.int .i64 a) := by rw [Gr.out.cell 0]; rfl
      have d1 : wr.cell? ⟨b0, 1, none⟩ = some (.int .i64 b) := by rw [Gr.out.cell 1]; rfl
      have l0 := Gr.out.lt
      have HKr := hide (HK2.out.below HB.out)
      have HH := hide (has_calls wr bb km pm F.length vf F F ⟨a, b, (k : Int)⟩ HKr.out.blk HKr.out.known)
      simp only [faV] at HH
      have hs := HM.out.2.1 k
      have hle := HM.out.2.2.1 k
      have HS := hide hs
      clear hs
      go_wp2_with fail
      clear d0 d1 l0
      refine HH.out.mono ?_
      rintro e w5 ⟨rfl, hb⟩
      have HO5 := hide (own_below HO.out hb)
      have HB5 := hide (HB.out.trans (hb.mono hBr))
      have hB5 : w2.heap.size ≤ w5.heap.size := Nat.le_trans hBr hb.size
      clear hb HH HO HB Gr hBr HKr
      by_cases hm : (⟨a, b, (k : Int)⟩ : Fa) ∈ F
      · rw [decide_eq_true hm]
        have HN : Hid (M (k + 1) = M k ++ [(k : Int)]) := by show _ = _; rw [HS.out, if_pos hm]
        clear HS hm
        go_wp2_with (at_builtin; refine wpList_append_one (cs := #[.int .i64 (k : Int)]) (Below.refl w2.heap.size w5) hB5 rfl (.tmp 18) (.tmp 20) 40 rfl 3 i0 (.int .i64 0) 1 8 Try.underlying40 hi hz0 hz1 hz2 rfl (by decide) rfl (by simp [Value.oneCell']) _ _ _ rfl HO5.out 1 rfl (by omega) (by omega) ?_)
        intro v6 w6 hown hb
        have HO6 : Hid (w6.ownsRow w2.heap.size 3 1 v6 (M (k + 1)).length (cellsI (M (k + 1)))) := by
          show World.ownsRow _ _ _ _ _ _ _
          rw [HN.out, List.length_append]
          simpa [cellsI] using hown
        have HB6 := hide (HB5.out.trans hb)
        clear hown hb
        go_wp2_with fail
        go_roundw
        case rel => exact ⟨k + 1, by omega, by go_num, HO6.out, HB6.out⟩
        case measure => simp [intOf]; omega
      · rw [decide_eq_false hm]
        have HN : Hid (M (k + 1) = M k) := by show _ = _; rw [HS.out, if_neg hm]
        clear HS hm
        go_wp2_with fail
        go_roundw
        case rel => exact ⟨k + 1, by omega, by go_num, by show World.ownsRow _ _ _ _ _ _ _; rw [HN.out]; exact HO5.out, HB5.out⟩
        case measure => simp [intOf]; omega
    · have hk6 : k = 6 := by omega
      subst hk6
      go_wp2_with fail
      go_ret
      exact ⟨_, rfl, own_mono HO.out HB2.out.size, HB2.out.trans (HB.out.mono HB2.out.size)⟩

set_option maxHeartbeats 1000000 in
theorem implRoles_calls (w : World) (v : Value) (L : List Cr) (who : Int) (hv : RowAt crR w v L) (hL : L.length ≤ 1048576) :
    Calls Try.prog 18 #[v, .int .i64 who] w fun e w' => ∃ v', e = .returned v' ∧ w'.ownsRow w.heap.size 27 2 v' (rolesOf L who).length (cellsI (flat roR (rolesOf L who))) ∧ Below w.heap.size w w' := by
  obtain ⟨M, HM⟩ : ∃ M : Nat → List (Int × Int), Hid (M 0 = [] ∧ (∀ i k, i < 6 → k < 4 → M (4 * i + k + 1) = if (⟨(i : Int), (k : Int), who⟩ : Fa) ∈ factsOf L then M (4 * i + k) ++ [((i : Int), (k : Int))] else M (4 * i + k)) ∧ (∀ t, (M t).length ≤ 24) ∧ M 24 = rolesOf L who) := by
    refine ⟨fun t => (allRoles.take t).filter fun r => decide ((⟨r.1, r.2, who⟩ : Fa) ∈ factsOf L), rfl, fun i k hi hk => ?_, fun t => ?_, ?_⟩
    · show (allRoles.take (4 * i + k + 1)).filter _ = _
      rw [allRoles_get i k hi hk, List.filter_append]
      by_cases h : (⟨(i : Int), (k : Int), who⟩ : Fa) ∈ factsOf L
      · simp [h]
      · simp [h]
    · refine Nat.le_trans (List.length_filter_le _ _) ?_
      rw [List.length_take]
      simp [allRoles]
      omega
    · show (allRoles.take 24).filter _ = _
      rw [List.take_of_length_le (by simp [allRoles])]
      rfl
  rw [← HM.out.2.2.2]
  have HV := hide hv
  obtain ⟨i0, hi, hz0, hz1, hz2⟩ := info_parts info_roleI
  clear hv
  go_enter Try.func18, Try.ntmps18
  go_wp2_with fail
  refine (bookOf_calls w v L HV.out hL).mono ?_
  rintro e w2 ⟨bb, km, pm, vf, ρ, rfl, hk2, hb⟩
  have HB2 := hide hb
  have HK2 := hide hk2
  clear hk2 hb HV
  obtain ⟨F, EF⟩ : ∃ F, F = factsOf L := ⟨_, rfl⟩
  rw [← EF] at HK2
  simp only [← EF] at HM
  clear EF
  go_wp2_with fail
  go_loopw [6, 12] (fun vo i wr => ∃ j : Nat, j ≤ 6 ∧ i = .int .i64 j ∧ Hid (wr.ownsRow w2.heap.size 27 2 vo (M (4 * j)).length (cellsI (flat roR (M (4 * j))))) ∧ Hid (Below w2.heap.size w2 wr)) (fun _ i _ => 6 - (intOf i).toNat)
  case atStart =>
    refine ⟨0, by decide, rfl, ?_, Below.refl _ _⟩
    show World.ownsRow _ _ _ _ _ _ _
    rw [HM.out.1]
    exact ⟨rfl, .inl ⟨rfl, rfl⟩⟩
  case round =>
    obtain ⟨j, hj, rfl, HO, HB⟩ := hrel
    by_cases hjt : j < 6
    · have hjd : decide ((j : Int) < 6) = true := by simp; omega
      go_wp2
      go_loopw [6, 15] (fun vo i wx => ∃ k : Nat, k ≤ 4 ∧ i = .int .i64 k ∧ Hid (wx.ownsRow w2.heap.size 27 2 vo (M (4 * j + k)).length (cellsI (flat roR (M (4 * j + k))))) ∧ Hid (Below w2.heap.size w2 wx)) (fun _ i _ => 4 - (intOf i).toNat)
      case atStart => exact ⟨0, by decide, rfl, HO.out, HB.out⟩
      case round =>
        clear HO HB
        obtain ⟨k, hk, rfl, HO, HB⟩ := hrel
        have hBr : w2.heap.size ≤ wr.heap.size := HB.out.size
        by_cases hlt : k < 4
        · have hbA := (Below.refl wr.heap.size wr).alloc (Nat.le_refl _) (.cells #[.int .i64 (j : Int), .int .i64 (k : Int)] 27)
          have HO4 := hide (own_below HO.out hbA)
          have HB4 := hide (HB.out.trans (hbA.mono hBr))
          have G9 := hide (Blk.new wr #[.int .i64 (j : Int), .int .i64 (k : Int)] 27)
          have HKr := hide ((HK2.out.below HB.out).below hbA)
          have HH := hide (has_calls _ bb km pm F.length vf F F ⟨(j : Int), (k : Int), who⟩ HKr.out.blk HKr.out.known)
          simp only [faV] at HH
          have hB4 : w2.heap.size ≤ (wr.alloc (.cells #[.int .i64 (j : Int), .int .i64 (k : Int)] 27)).heap.size := HB4.out.size
          have hs := HM.out.2.1 j k hjt hlt
          have hle := HM.out.2.2.1 (4 * j + k)
          have HS := hide hs
          clear hs hbA HO HB hBr HKr
          go_wp2_with fail
          obtain ⟨b9, e9⟩ : ∃ b, b = wr.heap.size := ⟨_, rfl⟩
          rw [← e9] at G9 ⊢
          clear e9
          generalize wr.alloc (.cells #[.int .i64 (j : Int), .int .i64 (k : Int)] 27) = w4 at *
          refine HH.out.mono ?_
          rintro e w5 ⟨rfl, hb⟩
          have HO5 := hide (own_below HO4.out hb)
          have HB5 := hide (HB4.out.trans (hb.mono hB4))
          have G95 := hide (G9.out.below hb G9.out.lt)
          have hB5 : w2.heap.size ≤ w5.heap.size := Nat.le_trans hB4 hb.size
          clear hb HH HO4 HB4 G9 hB4
          by_cases hm : (⟨(j : Int), (k : Int), who⟩ : Fa) ∈ F
          · rw [decide_eq_true hm]
            have HN : Hid (M (4 * j + (k + 1)) = M (4 * j + k) ++ [((j : Int), (k : Int))]) := HS.out.trans (if_pos hm)
            have d0 : w5.cell? ⟨b9, 0, none⟩ = some (.int .i64 (j : Int)) := by rw [G95.out.cell 0]; rfl
            have d1 : w5.cell? ⟨b9, 1, none⟩ = some (.int .i64 (k : Int)) := by rw [G95.out.cell 1]; rfl
            have l9 := G95.out.lt
            clear HS hm
            go_wp2_with (at_builtin; refine wpList_append_one (cs := #[.int .i64 (j : Int), .int .i64 (k : Int)]) (Below.refl w2.heap.size w5) hB5 rfl (.tmp 26) (.tmp 28) 38 rfl 27 i0 (.agg #[.int .i64 0, .int .i64 0]) 2 16 Try.underlying38 hi hz0 hz1 hz2 rfl (by decide) rfl (by simp [Value.oneCell']) _ _ _ rfl HO5.out 1 rfl (by omega) (by omega) ?_)
            intro v6 w6 hown hb
            have HO6 : Hid (w6.ownsRow w2.heap.size 27 2 v6 (M (4 * j + (k + 1))).length (cellsI (flat roR (M (4 * j + (k + 1)))))) := by show World.ownsRow _ _ _ _ _ _ _; rw [HN.out]; exact own_snocR (R := roR) (x := ((j : Int), (k : Int))) rfl hown
            have HB6 := hide (HB5.out.trans hb)
            clear hown hb
            go_wp2_with fail
            go_roundw
            case rel => exact ⟨k + 1, by omega, by go_num, HO6.out, HB6.out⟩
            case measure => simp [intOf]; omega
          · rw [decide_eq_false hm]
            have HN : Hid (M (4 * j + (k + 1)) = M (4 * j + k)) := HS.out.trans (if_neg hm)
            clear HS hm
            go_wp2_with fail
            go_roundw
            case rel => exact ⟨k + 1, by omega, by go_num, by show World.ownsRow _ _ _ _ _ _ _; rw [HN.out]; exact HO5.out, HB5.out⟩
            case measure => simp [intOf]; omega
        · have hk4 : k = 4 := by omega
          subst hk4
          have HO2 : Hid (wr.ownsRow w2.heap.size 27 2 u6 (M (4 * (j + 1))).length (cellsI (flat roR (M (4 * (j + 1)))))) := HO.out
          go_wp2_with fail
          go_roundw
          case rel => exact ⟨j + 1, by omega, by go_num, HO2.out, HB.out⟩
          case measure => simp [intOf]; omega
    · have hj6 : j = 6 := by omega
      subst hj6
      go_wp2_with fail
      go_ret
      exact ⟨_, rfl, own_mono HO.out HB2.out.size, HB2.out.trans (HB.out.mono HB2.out.size)⟩

set_option maxHeartbeats 2000000 in
theorem implAlive_calls (w : World) (v : Value) (L : List Cr) (now : Int) (hv : RowAt crR w v L) (hL : L.length ≤ 1048576) :
    Calls Try.prog 30 #[v, .int .i64 now] w fun e w' => ∃ v', e = .returned v' ∧ w'.ownsRow w.heap.size 29 10 v' (alive L now).length (cellsI (flat crR (alive L now))) ∧ Below w.heap.size w w' := by
  obtain ⟨M, HM⟩ : ∃ M : Nat → List Cr, Hid (M 0 = [] ∧ (∀ i (hi : i < L.length), M (i + 1) = if credOk L[i] ∧ now ≤ L[i].u then M i ++ [L[i]] else M i) ∧ (∀ i, (M i).length ≤ 1048576) ∧ M L.length = alive L now) := by
    refine ⟨fun i => alive (L.take i) now, rfl, fun i hi => alive_take L now i hi, fun i => ?_, ?_⟩
    · refine Nat.le_trans (List.length_filter_le _ _) ?_
      rw [List.length_take]
      omega
    · show alive (L.take L.length) now = _
      rw [List.take_length]
  rw [← HM.out.2.2.2]
  obtain ⟨a, ca, rfl, HA⟩ := hv.open_
  replace HA := hide HA
  obtain ⟨i0, hi, hz0, hz1, hz2⟩ := info_parts info_credI
  clear hv
  go_enter Try.func30, Try.ntmps30
  go_wp2_with fail
  go_loopw [5, 10] (fun vo i wr => ∃ j : Nat, j ≤ L.length ∧ i = .int .i64 j ∧ Hid (wr.ownsRow w.heap.size 29 10 vo (M j).length (cellsI (flat crR (M j)))) ∧ Hid (Below w.heap.size w wr)) (fun _ i _ => L.length - (intOf i).toNat)
  case atStart =>
    refine ⟨0, Nat.zero_le _, rfl, ?_, Below.refl _ _⟩
    show World.ownsRow _ _ _ _ _ _ _
    rw [HM.out.1]
    exact ⟨rfl, .inl ⟨rfl, rfl⟩⟩
  case round =>
    obtain ⟨j, hj, rfl, HO, HB⟩ := hrel
    by_cases hlt : j < L.length
    · obtain ⟨g, off, rfl, hg, hc⟩ := HA.out j hlt
      have hs := HM.out.2.1 j hlt
      have hle := HM.out.2.2.1 j
      generalize L[j] = c at *
      obtain ⟨k, ow, on, wh, aw, an, bw, bn, u, n⟩ := c
      have f0 : wr.cell? ⟨g, off + j * 10, none⟩ = some (.int .i64 k) := (HB.out.cell (p := ⟨g, off + j * 10, none⟩) hg).trans (hc 0 (by decide))
      have f1 : wr.cell? ⟨g, off + j * 10 + 1, none⟩ = some (.int .i64 ow) := (HB.out.cell (p := ⟨g, off + j * 10 + 1, none⟩) hg).trans (hc 1 (by decide))
      have f2 : wr.cell? ⟨g, off + j * 10 + 2, none⟩ = some (.int .i64 on) := (HB.out.cell (p := ⟨g, off + j * 10 + 2, none⟩) hg).trans (hc 2 (by decide))
      have f3 : wr.cell? ⟨g, off + j * 10 + 3, none⟩ = some (.int .i64 wh) := (HB.out.cell (p := ⟨g, off + j * 10 + 3, none⟩) hg).trans (hc 3 (by decide))
      have f4 : wr.cell? ⟨g, off + j * 10 + 4, none⟩ = some (.int .i64 aw) := (HB.out.cell (p := ⟨g, off + j * 10 + 4, none⟩) hg).trans (hc 4 (by decide))
      have f5 : wr.cell? ⟨g, off + j * 10 + 5, none⟩ = some (.int .i64 an) := (HB.out.cell (p := ⟨g, off + j * 10 + 5, none⟩) hg).trans (hc 5 (by decide))
      have f6 : wr.cell? ⟨g, off + j * 10 + 6, none⟩ = some (.int .i64 bw) := (HB.out.cell (p := ⟨g, off + j * 10 + 6, none⟩) hg).trans (hc 6 (by decide))
      have f7 : wr.cell? ⟨g, off + j * 10 + 7, none⟩ = some (.int .i64 bn) := (HB.out.cell (p := ⟨g, off + j * 10 + 7, none⟩) hg).trans (hc 7 (by decide))
      have f8 : wr.cell? ⟨g, off + j * 10 + 8, none⟩ = some (.int .i64 u) := (HB.out.cell (p := ⟨g, off + j * 10 + 8, none⟩) hg).trans (hc 8 (by decide))
      have f9 : wr.cell? ⟨g, off + j * 10 + 9, none⟩ = some (.int .i64 n) := (HB.out.cell (p := ⟨g, off + j * 10 + 9, none⟩) hg).trans (hc 9 (by decide))
      have hgr : g < wr.heap.size := Nat.lt_of_lt_of_le hg HB.out.size
      have HH := hide (fun wx => implCredOk_calls ⟨k, ow, on, wh, aw, an, bw, bn, u, n⟩ wx)
      simp only [credV] at HH
      have HS := hide hs
      have hb4 := (Below.refl wr.heap.size wr).alloc (Nat.le_refl _) (.cells #[.int .i64 k, .int .i64 ow, .int .i64 on, .int .i64 wh, .int .i64 aw, .int .i64 an, .int .i64 bw, .int .i64 bn, .int .i64 u, .int .i64 n] 29)
      have HO4 := hide (own_below HO.out hb4)
      have HB4 := hide (HB.out.trans (hb4.mono HB.out.size))
      have G4 := hide (Blk.new wr #[.int .i64 k, .int .i64 ow, .int .i64 on, .int .i64 wh, .int .i64 aw, .int .i64 an, .int .i64 bw, .int .i64 bn, .int .i64 u, .int .i64 n] 29)
      clear hs hc hb4
      go_wp2_with fail
      clear f0 f1 f2 f3 f4 f5 f6 f7 f8 f9 hgr HO HB
      obtain ⟨b9, e9⟩ : ∃ b, b = wr.heap.size := ⟨_, rfl⟩
      rw [← e9] at G4 ⊢
      clear e9
      generalize wr.alloc (.cells #[.int .i64 k, .int .i64 ow, .int .i64 on, .int .i64 wh, .int .i64 aw, .int .i64 an, .int .i64 bw, .int .i64 bn, .int .i64 u, .int .i64 n] 29) = w4 at *
      refine (HH.out w4).mono ?_
      rintro e w5 ⟨rfl, hb⟩
      have HO5 := hide (own_below HO4.out hb)
      have HB5 := hide (HB4.out.trans (hb.mono HB4.out.size))
      have hB5 : w.heap.size ≤ w5.heap.size := HB5.out.size
      have G5 := hide (G4.out.below hb G4.out.lt)
      clear hb HH HO4 HB4 G4
      have d0 : w5.cell? ⟨b9, 0, none⟩ = some (.int .i64 k) := by rw [G5.out.cell 0]; rfl
      have d1 : w5.cell? ⟨b9, 1, none⟩ = some (.int .i64 ow) := by rw [G5.out.cell 1]; rfl
      have d2 : w5.cell? ⟨b9, 2, none⟩ = some (.int .i64 on) := by rw [G5.out.cell 2]; rfl
      have d3 : w5.cell? ⟨b9, 3, none⟩ = some (.int .i64 wh) := by rw [G5.out.cell 3]; rfl
      have d4 : w5.cell? ⟨b9, 4, none⟩ = some (.int .i64 aw) := by rw [G5.out.cell 4]; rfl
      have d5 : w5.cell? ⟨b9, 5, none⟩ = some (.int .i64 an) := by rw [G5.out.cell 5]; rfl
      have d6 : w5.cell? ⟨b9, 6, none⟩ = some (.int .i64 bw) := by rw [G5.out.cell 6]; rfl
      have d7 : w5.cell? ⟨b9, 7, none⟩ = some (.int .i64 bn) := by rw [G5.out.cell 7]; rfl
      have d8 : w5.cell? ⟨b9, 8, none⟩ = some (.int .i64 u) := by rw [G5.out.cell 8]; rfl
      have d9 : w5.cell? ⟨b9, 9, none⟩ = some (.int .i64 n) := by rw [G5.out.cell 9]; rfl
      have l9 := G5.out.lt
      by_cases hm : credOk ⟨k, ow, on, wh, aw, an, bw, bn, u, n⟩
      · rw [decide_eq_true hm]
        by_cases hn : now ≤ u
        · have HN : Hid (M (j + 1) = M j ++ [⟨k, ow, on, wh, aw, an, bw, bn, u, n⟩]) := HS.out.trans (if_pos ⟨hm, hn⟩)
          clear HS hm
          go_wp2_with (at_builtin; refine wpList_append_one (cs := #[.int .i64 k, .int .i64 ow, .int .i64 on, .int .i64 wh, .int .i64 aw, .int .i64 an, .int .i64 bw, .int .i64 bn, .int .i64 u, .int .i64 n]) (Below.refl w.heap.size w5) hB5 rfl (.tmp 22) (.tmp 24) 24 rfl 29 i0 (.agg #[.int .i64 0, .int .i64 0, .int .i64 0, .int .i64 0, .int .i64 0, .int .i64 0, .int .i64 0, .int .i64 0, .int .i64 0, .int .i64 0]) 10 80 Try.underlying24 hi hz0 hz1 hz2 rfl (by decide) rfl (by simp [Value.oneCell']) _ _ _ rfl HO5.out 1 rfl (by omega) (by omega) ?_)
          intro v6 w6 hown hb
          have HO6 : Hid (w6.ownsRow w.heap.size 29 10 v6 (M (j + 1)).length (cellsI (flat crR (M (j + 1))))) := by show World.ownsRow _ _ _ _ _ _ _; rw [HN.out]; exact own_snocR (R := crR) (x := ⟨k, ow, on, wh, aw, an, bw, bn, u, n⟩) rfl hown
          have HB6 := hide (HB5.out.trans hb)
          clear hown hb
          go_wp2_with fail
          go_roundw
          case rel => exact ⟨j + 1, by omega, by go_num, HO6.out, HB6.out⟩
          case measure => simp [intOf]; omega
        · have HN : Hid (M (j + 1) = M j) := HS.out.trans (if_neg (fun h => hn h.2))
          clear HS hm
          go_wp2_with fail
          go_roundw
          case rel => exact ⟨j + 1, by omega, by go_num, by show World.ownsRow _ _ _ _ _ _ _; rw [HN.out]; exact HO5.out, HB5.out⟩
          case measure => simp [intOf]; omega
      · rw [decide_eq_false hm]
        have HN : Hid (M (j + 1) = M j) := HS.out.trans (if_neg (fun h => hm h.1))
        clear HS hm
        go_wp2_with fail
        go_roundw
        case rel => exact ⟨j + 1, by omega, by go_num, by show World.ownsRow _ _ _ _ _ _ _; rw [HN.out]; exact HO5.out, HB5.out⟩
        case measure => simp [intOf]; omega
    · have hjl : j = L.length := by omega
      subst hjl
      go_wp2_with fail
      go_ret
      exact ⟨_, rfl, HO.out, HB.out⟩
end Go.Proofs.Ytgnldmheiknbkaa.P6
