/- Rows of records whose fields are all ints: read where they came in, owned where a call made them; no condition.
The contracts of the specification's l06Has and l06Put; condition: at most 2^30 facts.
The contract of the specification's Follows; condition: at most 2^20 facts.
The contracts of the specification's FactsOf and IsMember; condition: at most 2^20 words.
The contracts of the specification's IsMember, MembersOf, RolesOf and Alive; condition: at most 2^20 words.
Maps that a call made, whatever their keys and elements: looked up, stored into, an entry asked for and stored into; no condition.
The keys of the program's two maps, facts and circles: structs of ints; no condition. -/
import Derived.Test.YtgnldmheiknbkaaZD
import Derived.Test.YtgnldmheiknbkaaZA
import Derived.Test.YtgnldmheiknbkaaZQ
import Derived.Test.YtgnldmheiknbkaaZK
import Derived.Test.YtgnldmheiknbkaaZJ
import Derived.Laws.AppendOwnNone
import Derived.Maps.OwnSet
import Derived.Laws.StructEq
namespace Go.Proofs.Ytgnldmheiknbkaa.Rc
open Go.RowKit P1

/-- A struct of n ints. -/
structure RI (α : Type) where
  n : Nat
  ints : α → List Int
  len : ∀ x, (ints x).length = n
  pos : 0 < n

/-- All numbers of a list of records. -/
def flat {α : Type} (R : RI α) (l : List α) : List Int := l.flatMap R.ints

section
variable {α : Type} {R : RI α}

theorem flat_length (R : RI α) : ∀ l : List α, (flat R l).length = l.length * R.n
  | [] => by simp [flat]
  | x :: l => by
    have := flat_length R l
    simp only [flat, List.flatMap_cons, List.length_append, List.length_cons, R.len] at this ⊢
    rw [this, Nat.add_mul, Nat.one_mul, Nat.add_comm]

theorem flat_snoc (R : RI α) (l : List α) (x : α) : flat R (l ++ [x]) = flat R l ++ R.ints x := by simp [flat]

theorem flat_append (R : RI α) (l m : List α) : flat R (l ++ m) = flat R l ++ flat R m := by simp [flat]

theorem flat_get (R : RI α) : ∀ (l : List α) (j i : Nat) (hj : j < l.length), i < R.n → (flat R l)[j * R.n + i]? = (R.ints l[j])[i]?
  | x :: l, 0, i, hj, hi => by
    simp only [flat, List.flatMap_cons, Nat.zero_mul, Nat.zero_add, List.getElem_cons_zero]
    rw [List.getElem?_append_left (by rw [R.len]; exact hi)]
  | x :: l, j + 1, i, hj, hi => by
    have := flat_get R l j i (by simpa using hj) hi
    simp only [flat, List.flatMap_cons, List.getElem_cons_succ] at this ⊢
    rw [List.getElem?_append_right (by rw [R.len, Nat.add_mul, Nat.one_mul]; omega), R.len, ← this]
    congr 1
    rw [Nat.add_mul, Nat.one_mul]
    omega

/-- v is a slice that reads as the records l. -/
def RowAt (R : RI α) (w : World) (v : Value) (l : List α) : Prop :=
  (∃ a cap, v = .slice a 0 cap ∧ l = [] ∧ (a = none → cap = 0)) ∨ ∃ g off cap, v = .slice (some ⟨g, off, none⟩) l.length cap ∧ g < w.heap.size ∧ ∀ k, k < l.length * R.n → w.cell? ⟨g, off + k, none⟩ = (cellsI (flat R l))[k]?

theorem RowAt.below {B : Nat} {w w' : World} {v : Value} {l : List α} (h : RowAt R w v l) (hb : Below B w w') (hB : w.heap.size ≤ B) : RowAt R w' v l := by
  rcases h with h | ⟨g, off, cap, h1, h2, h3⟩
  · exact .inl h
  · refine .inr ⟨g, off, cap, h1, Nat.lt_of_lt_of_le h2 hb.size, fun k hk => ?_⟩
    rw [hb.cell (p := ⟨g, off + k, none⟩) (by show g < B; omega)]
    exact h3 k hk

theorem RowAt.of_own {B : Nat} {w : World} {e : TypeId} {v : Value} {l : List α} (h : w.ownsRow B e R.n v l.length (cellsI (flat R l))) : RowAt R w v l := by
  have h0 := h
  rcases h.2 with ⟨rfl, hn⟩ | ⟨g, cap, cur, rfl, h1, h2, -, -, -, -⟩
  · exact .inl ⟨none, 0, rfl, List.eq_nil_of_length_eq_zero hn, fun _ => rfl⟩
  · exact .inr ⟨g, 0, cap, rfl, (Array.getElem?_eq_some_iff.1 h2).1, fun k hk => by rw [Nat.zero_add]; exact h0.cellAt k hk⟩

/-- As the walks want it: where the j-th record lies. -/
theorem RowAt.open_ {w : World} {v : Value} {l : List α} (h : RowAt R w v l) :
    ∃ a cap, v = .slice a l.length cap ∧ ∀ j (hj : j < l.length), ∃ g off, a = some ⟨g, off, none⟩ ∧ g < w.heap.size ∧ ∀ i, i < R.n → w.cell? ⟨g, off + j * R.n + i, none⟩ = ((R.ints l[j])[i]?).map (.int .i64 ·) := by
  rcases h with ⟨a, cap, rfl, rfl, -⟩ | ⟨g, off, cap, rfl, h2, h3⟩
  · exact ⟨a, cap, rfl, fun j hj => by simp at hj⟩
  · refine ⟨_, cap, rfl, fun j hj => ⟨g, off, rfl, h2, fun i hi => ?_⟩⟩
    rw [Nat.add_assoc, h3 (j * R.n + i) (by
      have : (j + 1) * R.n ≤ l.length * R.n := Nat.mul_le_mul_right _ hj
      rw [Nat.add_mul, Nat.one_mul] at this
      omega)]
    simp only [cellsI, List.getElem?_map]
    rw [flat_get R l j i hj hi]

/-- One record more. -/
theorem own_snocR {w : World} {B : Nat} {e : TypeId} {v : Value} {l : List α} {x : α} {cs : Array Value} (hcs : cs.toList = (R.ints x).map (.int .i64 ·)) (h : w.ownsRow B e R.n v (l.length + 1) (cellsI (flat R l) ++ cs.toList)) :
    w.ownsRow B e R.n v (l ++ [x]).length (cellsI (flat R (l ++ [x]))) := by
  have e1 : cellsI (flat R (l ++ [x])) = cellsI (flat R l) ++ cs.toList := by
    rw [hcs, flat_snoc]
    simp [cellsI]
  have e2 : (l ++ [x]).length = l.length + 1 := by simp
  rw [e1, e2]
  exact h

/-- A whole slice appended to a row that the call made. -/
theorem wpList_append_row {P : Program} {w : World} {B : Nat} {ops : Array Oper} {rest : List Oper} {o : Oper} {a : Act} {Q : Exit → Act → World → Prop} (hgd : o.guard = none) (s x : Operand) (t : TypeId)
    (ho : o.op = .call { callee := .builtin .append, args := #[s, x], argTypes := #[t, t] })
    (e : TypeId) (i : TypeInfo) (z : Value) (bytes : Nat) (ht : P.underlying t = some (.slice e)) (hi : P.info? e = some i) (hz : i.zero = some z)
    (hsize : i.size = R.n) (hby : i.bytes = bytes) (hzs : z.cells.size = R.n) (v vx : Value) (n : Nat) (xs : List Value) (l : List α) (hs : a.eval s = v) (hown : w.ownsRow B e R.n v n xs) (hx : a.eval x = vx) (hrow : RowAt R w vx l)
    (hB : B ≤ w.heap.size) (h63 : n + l.length ≤ maxLen) (hbytes : (n + l.length) * bytes ≤ 140737488355328)
    (h : ∀ v' w', w'.ownsRow B e R.n v' (n + l.length) (xs ++ cellsI (flat R l)) → Below B w w' → wpList P ops Q rest (a.put o.dst v') w') : wpList P ops Q (o :: rest) a w := by
  rcases hrow with ⟨ad, cap, rfl, rfl, hn⟩ | ⟨g, off, cap, rfl, h2, h3⟩
  · cases ad with
    | none =>
      have hc0 := hn rfl
      subst hc0
      refine wpList_append_own_none hgd s x t ho B e i R.n ht hi v n xs hs hown hx ?_
      refine h v w ?_ (Below.refl _ _)
      simpa [flat, cellsI] using hown
    | some ad =>
      refine wpList_append_own _ hgd s x t ho B e i z R.n bytes ht hi hz hsize hby hzs R.pos v n xs hs hown ad 0 cap [] hx (by simp) (by simp) (by simp) h63 hbytes hB ?_
      intro v' w' h1 h2 _
      exact h v' w' (by simpa [flat, cellsI] using h1) ((Below.refl B w).grown h2 hB (fun k hk => (hown.lt k hk).1))
  · refine wpList_append_own _ hgd s x t ho B e i z R.n bytes ht hi hz hsize hby hzs R.pos v n xs hs hown ⟨g, off, none⟩ l.length cap (cellsI (flat R l)) hx (by rw [cellsI_length, flat_length]) ?_ ?_ h63 hbytes hB ?_
    · intro j u hj
      simp only [Go.WideShapes.add_plain]
      have hlt : j < l.length * R.n := by
        have := (List.getElem?_eq_some_iff.1 hj).1
        rw [cellsI_length, flat_length] at this
        exact this
      rw [h3 j hlt, hj]
    · intro u hu
      simp only [cellsI, List.mem_map] at hu
      obtain ⟨y, _, rfl⟩ := hu
      rfl
    · intro v' w' h1 h2 _
      exact h v' w' h1 ((Below.refl B w).grown h2 hB (fun k hk => (hown.lt k hk).1))

/-- One element more; only the row's own block was written. -/
theorem wpList_append_oneG {P : Program} {w0 : World} {B : Nat} (hB : B ≤ w0.heap.size) {cs : Array Value} {ops : Array Oper} {rest : List Oper} {o : Oper} {a : Act} {Q : Exit → Act → World → Prop} (hgd : o.guard = none) (s x : Operand) (t : TypeId)
    (ho : o.op = .call { callee := .builtin .append, args := #[s, x], argTypes := #[t, t] })
    (e : TypeId) (i : TypeInfo) (z : Value) (size bytes : Nat) (ht : P.underlying t = some (.slice e)) (hi : P.info? e = some i) (hz : i.zero = some z)
    (hsize : i.size = size) (hby : i.bytes = bytes) (hzs : z.cells.size = size) (hsz : 0 < size) (hcs : cs.toList.length = size) (h1 : ∀ u ∈ cs.toList, u.oneCell' = true)
    (v : Value) (n : Nat) (xs : List Value) (hs : a.eval s = v) (hown : w0.ownsRow B e size v n xs)
    (c : Nat) (hx : a.eval x = .slice (some ⟨w0.heap.size, 0, none⟩) 1 c) (hb : n < 1099511627776) (hbytes : (n + 1) * bytes ≤ 140737488355328)
    (h : ∀ v' w', w'.ownsRow B e size v' (n + 1) (xs ++ cs.toList) → w0.grownBy w' v.ownBlock → wpList P ops Q rest (a.put o.dst v') w') :
    wpList P ops Q (o :: rest) a (w0.alloc (.cells cs e)) := by
  refine wpList_append_own _ hgd s x t ho B e i z size bytes ht hi hz hsize hby hzs (by assumption) v n xs hs (hown.alloc _) ⟨w0.heap.size, 0, none⟩ 1 c cs.toList hx (by omega) ?_ h1 ?_ hbytes ?_ ?_
  · intro j u hj
    simp only [Go.WideShapes.add_plain]
    have hh : (w0.alloc (.cells cs e)).heap[w0.heap.size]? = some (.cells cs e) := by
      show (w0.heap.push _)[w0.heap.size]? = _
      simp
    simp only [World.cell?, hh]
    simpa using hj
  · unfold maxLen; omega
  · simp; omega
  · intro v' w' h1 h2 _
    have hb : Below w0.heap.size w0 (w0.alloc (.cells cs e)) := (Below.refl _ _).alloc (Nat.le_refl _) _
    exact h v' w' h1 ⟨h2.os.trans hb.os, h2.tape.trans hb.tape, h2.output.trans hb.output, Nat.le_trans hb.size h2.size, fun k hk hne => (h2.block k (Nat.lt_of_lt_of_le hk hb.size) hne).trans (hb.block k hk)⟩

theorem grown_of_below {w w' : World} (hb : Below w.heap.size w w') (r : Option Nat) : w.grownBy w' r := ⟨hb.os, hb.tape, hb.output, hb.size, fun k hk _ => hb.block k hk⟩

theorem grown_then {a b c : World} {r : Option Nat} (h : a.grownBy b r) (k : b.grownBy c r) : a.grownBy c r :=
  ⟨k.os.trans h.os, k.tape.trans h.tape, k.output.trans h.output, Nat.le_trans h.size k.size, fun i hi hne => (k.block i (Nat.lt_of_lt_of_le hi h.size) hne).trans (h.block i hi hne)⟩

theorem below_grown {B : Nat} {w w' : World} {e : TypeId} {size n : Nat} {v : Value} {xs : List Value} (hown : w.ownsRow B e size v n xs) (hB : B ≤ w.heap.size) (h : w.grownBy w' v.ownBlock) : Below B w w' :=
  (Below.refl B w).grown h hB (fun k hk => (hown.lt k hk).1)

/-- A row of one type does not lie in a block of another. -/
theorem own_ne_blk {w : World} {B : Nat} {e : TypeId} {size n b : Nat} {v : Value} {xs cs : List Value} {t : TypeId} (hown : w.ownsRow B e size v n xs) (hb : Blk w b cs t) (ht : t ≠ e) : v.ownBlock ≠ some b := by
  rcases hown.2 with ⟨rfl, _⟩ | ⟨g, cap, cur, rfl, h1, h2, -⟩
  · intro h; cases h
  · intro h
    have hg : g = b := by simpa [Value.ownBlock] using h
    subst hg
    unfold Blk at hb
    rw [h2] at hb
    simp only [Option.some.injEq, Obj.cells.injEq] at hb
    exact ht hb.2.1.symm

theorem blk_grownR {w w' : World} {b : Nat} {r : Option Nat} {cs : List Value} {t : TypeId} (h : Blk w b cs t) (hg : w.grownBy w' r) (hne : r ≠ some b) : Blk w' b cs t := by
  have := hg.block b h.lt (fun e => hne e.symm)
  unfold Blk at *
  rw [this]
  exact h

theorem madeCells_all (z : Array Value) (x : Value) (hz : 0 < z.size) (h : ∀ i (hi : i < z.size), z[i] = x) (m : Nat) : (madeCells z m).toList = List.replicate m x := by
  apply List.ext_getElem
  · simp [madeCells]
  · intro j h1 h2
    have hlt : j % z.size < z.size := Nat.mod_lt _ hz
    simp only [madeCells, Array.toList_map, List.getElem_map, List.getElem_replicate, Array.toList_range, List.getElem_range]
    rw [getElem!_pos z _ hlt]
    exact h _ hlt

theorem half_set? (F : List Int) (t : Nat) (x : Int) (h : F[t]? = some x) : (half F t).set t x = half F (t + 1) := by
  obtain ⟨hlt, rfl⟩ := List.getElem?_eq_some_iff.1 h
  exact half_set F t hlt

theorem flat_nil (R : RI α) : cellsI (flat R ([] : List α)) = [] := rfl
end
end Go.Proofs.Ytgnldmheiknbkaa.Rc
namespace Go.Proofs.Ytgnldmheiknbkaa.P6
set_option maxRecDepth 8000
open Go.RowKit P1 P5 Rc

/-- Facts as records. -/
def faR : RI Fa := ⟨3, fun f => [f.a, f.b, f.w], fun _ => rfl, by decide⟩

/-- A fact as a value. -/
abbrev faV (f : Fa) : Value := .agg #[.int .i64 f.a, .int .i64 f.b, .int .i64 f.w]

set_option maxHeartbeats 400000 in
theorem specHas_calls (w : World) (v : Value) (l : List Fa) (f : Fa) (hv : RowAt faR w v l) (hl : l.length ≤ 1073741824) :
    Calls Try.prog 62 #[v, faV f] w fun e w' => e = .returned (.bool (decide (f ∈ l))) ∧ Below w.heap.size w w' := by
  obtain ⟨a, ca, rfl, HA⟩ := hv.open_
  replace HA := hide HA
  clear hv
  obtain ⟨fa, fb, fw⟩ := f
  simp only [faV]
  obtain ⟨r, Er⟩ : ∃ r, Hid (r = decide ((⟨fa, fb, fw⟩ : Fa) ∈ l)) := ⟨_, rfl⟩
  rw [← Er.out]
  have HB := hide ((Below.refl w.heap.size w).alloc (Nat.le_refl _) (.cells #[.int .i64 fa, .int .i64 fb, .int .i64 fw] 36))
  have HG := hide (Blk.new w #[.int .i64 fa, .int .i64 fb, .int .i64 fw] 36)
  go_enter Try.func62, Try.ntmps62
  go_wp2_with fail
  obtain ⟨b0, e0⟩ : ∃ b, b = w.heap.size := ⟨_, rfl⟩
  have HA1 : Hid (∀ j (hj : j < l.length), ∃ g off, a = some ⟨g, off, none⟩ ∧ g < b0 ∧ (w.alloc (.cells #[.int .i64 fa, .int .i64 fb, .int .i64 fw] 36)).cell? ⟨g, off + j * 3, none⟩ = some (.int .i64 l[j].a) ∧ (w.alloc (.cells #[.int .i64 fa, .int .i64 fb, .int .i64 fw] 36)).cell? ⟨g, off + j * 3 + 1, none⟩ = some (.int .i64 l[j].b) ∧ (w.alloc (.cells #[.int .i64 fa, .int .i64 fb, .int .i64 fw] 36)).cell? ⟨g, off + j * 3 + 2, none⟩ = some (.int .i64 l[j].w)) := fun j hj => by
    obtain ⟨g, off, h1, h2, h3⟩ := HA.out j hj
    have hb := fun o => ((Below.refl w.heap.size w).alloc (Nat.le_refl _) (.cells #[.int .i64 fa, .int .i64 fb, .int .i64 fw] 36)).cell (p := ⟨g, o, none⟩) h2
    exact ⟨g, off, h1, by omega, (hb _).trans (h3 0 (by decide)), (hb _).trans (h3 1 (by decide)), (hb _).trans (h3 2 (by decide))⟩
  rw [← e0] at HG ⊢
  clear e0 HA
  generalize w.alloc (.cells #[.int .i64 fa, .int .i64 fb, .int .i64 fw] 36) = w1 at *
  go_loopw [5] (fun i wr => ∃ k n : Nat, k ≤ l.length ∧ i = .int .i64 k ∧ wr = w1.drewN n ∧ Hid (∀ x ∈ l.take k, x ≠ (⟨fa, fb, fw⟩ : Fa))) (fun i _ => l.length - (intOf i).toNat)
  case atStart => exact ⟨0, 0, Nat.zero_le _, rfl, rfl, by show ∀ x ∈ l.take 0, _; simp⟩
  case round =>
    obtain ⟨k, n, hk, rfl, rfl, HN⟩ := hrel
    by_cases hlt : k < l.length
    · obtain ⟨g, off, rfl, hg, hc0, hc1, hc2⟩ := HA1.out k hlt
      have hgl : g < w1.heap.size := by have := HG.out.lt; omega
      have d0 : w1.cell? ⟨b0, 0, none⟩ = some (.int .i64 fa) := by rw [HG.out.cell 0]; rfl
      have d1 : w1.cell? ⟨b0, 1, none⟩ = some (.int .i64 fb) := by rw [HG.out.cell 1]; rfl
      have d2 : w1.cell? ⟨b0, 2, none⟩ = some (.int .i64 fw) := by rw [HG.out.cell 2]; rfl
      have l0 := HG.out.lt
      have HT := hide (fun h : l[k] ≠ (⟨fa, fb, fw⟩ : Fa) => (show ∀ x ∈ l.take (k + 1), x ≠ (⟨fa, fb, fw⟩ : Fa) from fun x hx => by
        rw [List.take_succ_eq_append_getElem hlt] at hx
        rcases List.mem_append.1 hx with hx | hx
        · exact HN.out x hx
        · rw [List.mem_singleton.1 hx]; exact h))
      have HM := hide (fun h : l[k] = (⟨fa, fb, fw⟩ : Fa) => (show decide ((⟨fa, fb, fw⟩ : Fa) ∈ l) = true from decide_eq_true (h ▸ List.getElem_mem hlt)))
      clear HA1
      generalize l[k] = y at *
      obtain ⟨ya, yb, yw⟩ := y
      dsimp only at hc0 hc1 hc2
      by_cases q1 : ya = fa
      · subst q1
        by_cases q2 : yb = fb
        · subst q2
          by_cases q3 : yw = fw
          · subst q3
            have HR : Hid (r = true) := Er.out.trans (HM.out rfl)
            clear HM HT Er
            go_wp2
            go_quiet (fail)
            go_wp2
            go_ret
            exact ⟨by rw [HR.out]; rfl, below_drewN (below_drewN HB.out _) _⟩
          · skip
            have HT2 := hide (HT.out (fun h => q3 (by simp only [Fa.mk.injEq] at h; omega)))
            clear HM HT HN
            go_wp2
            go_quiet (fail)
            go_wp2
            go_roundw
            case rel => exact ⟨k + 1, _, by omega, by go_num, rfl, HT2.out⟩
            case measure => simp [intOf]; omega
        · skip
          have HT2 := hide (HT.out (fun h => q2 (by simp only [Fa.mk.injEq] at h; omega)))
          clear HM HT HN
          go_wp2
          go_quiet (fail)
          go_wp2
          go_roundw
          case rel => exact ⟨k + 1, _, by omega, by go_num, rfl, HT2.out⟩
          case measure => simp [intOf]; omega
      · skip
        have HT2 := hide (HT.out (fun h => q1 (by simp only [Fa.mk.injEq] at h; omega)))
        clear HM HT HN
        go_wp2
        go_quiet (fail)
        go_wp2
        go_roundw
        case rel => exact ⟨k + 1, _, by omega, by go_num, rfl, HT2.out⟩
        case measure => simp [intOf]; omega
    · have hkl : k = l.length := by omega
      have HR : Hid (r = false) := Er.out.trans (decide_eq_false fun h => HN.out _ (by rw [hkl, List.take_length]; exact h) rfl)
      clear HN HA1 Er
      go_wp2
      go_ret
      exact ⟨by rw [HR.out]; rfl, below_drewN HB.out _⟩

theorem info_fact : (Try.prog.info? 36).map (fun i => (i.zero, i.size, i.bytes)) = some (some (.agg #[.int .i64 0, .int .i64 0, .int .i64 0]), 3, 24) := by kernel_rfl

theorem put_le (l : List Fa) (f : Fa) : (put l f).length ≤ l.length + 1 := by
  unfold put
  split
  · omega
  · simp

set_option maxHeartbeats 400000 in
theorem specPut_calls (B : Nat) (w : World) (v : Value) (l : List Fa) (f : Fa) (hown : w.ownsRow B 36 3 v l.length (cellsI (flat faR l))) (hl : l.length ≤ 1073741823) (hB : B ≤ w.heap.size) :
    Calls Try.prog 64 #[v, faV f] w fun e w' => ∃ v', e = .returned v' ∧ w'.ownsRow B 36 3 v' (put l f).length (cellsI (flat faR (put l f))) ∧ Below B w w' ∧ w.grownBy w' v.ownBlock := by
  obtain ⟨fa, fb, fw⟩ := f
  have hbA := (Below.refl w.heap.size w).alloc (Nat.le_refl _) (.cells #[.int .i64 fa, .int .i64 fb, .int .i64 fw] 36)
  have HB := hide hbA
  have HG := hide (Blk.new w #[.int .i64 fa, .int .i64 fb, .int .i64 fw] 36)
  have HO := hide (hown.alloc (.cells #[.int .i64 fa, .int .i64 fb, .int .i64 fw] 36))
  clear hown hbA
  obtain ⟨i0, hi, hz0, hz1, hz2⟩ := info_parts info_fact
  simp only [faV]
  go_enter Try.func64, Try.ntmps64
  go_wp2_with fail
  obtain ⟨b0, e0⟩ : ∃ b, b = w.heap.size := ⟨_, rfl⟩
  rw [← e0] at HG ⊢
  clear e0
  generalize w.alloc (.cells #[.int .i64 fa, .int .i64 fb, .int .i64 fw] 36) = w1 at *
  refine (specHas_calls w1 v l ⟨fa, fb, fw⟩ (RowAt.of_own HO.out) (by omega)).mono ?_
  rintro e w2 ⟨rfl, hb⟩
  have HO := hide (own_below HO.out hb)
  have HG := hide (HG.out.below hb HG.out.lt)
  have HB := hide (HB.out.trans (hb.mono HB.out.size))
  clear hb
  by_cases hm : (⟨fa, fb, fw⟩ : Fa) ∈ l
  · rw [decide_eq_true hm]
    have HP : Hid (put l ⟨fa, fb, fw⟩ = l) := by show put _ _ = _; unfold put; rw [if_pos hm]
    go_wp2_with fail
    go_ret
    exact ⟨v, rfl, by rw [HP.out]; exact HO.out, HB.out.mono hB, grown_of_below HB.out _⟩
  · rw [decide_eq_false hm]
    have HP : Hid (put l ⟨fa, fb, fw⟩ = l ++ [⟨fa, fb, fw⟩]) := by show put _ _ = _; unfold put; rw [if_neg hm]
    have d0 : w2.cell? ⟨b0, 0, none⟩ = some (.int .i64 fa) := by rw [HG.out.cell 0]; rfl
    have d1 : w2.cell? ⟨b0, 1, none⟩ = some (.int .i64 fb) := by rw [HG.out.cell 1]; rfl
    have d2 : w2.cell? ⟨b0, 2, none⟩ = some (.int .i64 fw) := by rw [HG.out.cell 2]; rfl
    have l0 := HG.out.lt
    have hB2 : B ≤ w2.heap.size := Nat.le_trans hB HB.out.size
    clear hm
    go_wp2_with (at_builtin; refine wpList_append_oneG (cs := #[.int .i64 fa, .int .i64 fb, .int .i64 fw]) hB2 rfl (.tmp 9) (.tmp 11) 31 rfl 36 i0 (.agg #[.int .i64 0, .int .i64 0, .int .i64 0]) 3 24 Try.underlying31 hi hz0 hz1 hz2 rfl (by decide) rfl (by simp [Value.oneCell']) _ _ _ rfl HO.out 1 rfl (by omega) (by omega) ?_)
    intro v' w3 hown3 hgr3
    have hbel3 := below_grown HO.out hB2 hgr3
    have HGR := hide (grown_then (grown_of_below HB.out v.ownBlock) hgr3)
    have HO3 := hide (own_snocR (R := faR) (x := ⟨fa, fb, fw⟩) rfl hown3)
    have HB3 := hide ((HB.out.mono hB).trans hbel3)
    clear hown3 hbel3 hgr3
    go_wp2_with fail
    go_ret
    exact ⟨v', rfl, by rw [HP.out]; exact HO3.out, HB3.out, HGR.out⟩

end Go.Proofs.Ytgnldmheiknbkaa.P6
namespace Go.Proofs.Ytgnldmheiknbkaa.P6
set_option maxRecDepth 8000
open Go.RowKit P1 P5 Rc

theorem zero_role : ∀ w : World, (zeroValue 27).run Try.prog w = .ok (.agg #[.int .i64 0, .int .i64 0]) w := fun w => by
  kernel_rfl

set_option maxHeartbeats 4000000 in
theorem specFollows_calls (w : World) (v : Value) (l : List Fa) (c : Cr) (hv : RowAt faR w v l) (hl : l.length ≤ 1048576) :
    Calls Try.prog 25 #[v, credV c] w fun e w' => ∃ v', e = .returned v' ∧ w'.ownsRow w.heap.size 36 3 v' (follows l c).length (cellsI (flat faR (follows l c))) ∧ Below w.heap.size w w' := by
  obtain ⟨R, ER⟩ : ∃ R, Hid (R = follows l c) := ⟨_, rfl⟩
  rw [← ER.out]
  have HV0 := hide hv
  obtain ⟨a, ca, rfl, -⟩ := hv.open_
  clear hv
  have HOK := hide (fun wx => specCredOk_calls c wx)
  obtain ⟨k, ow, on, wh, aw, an, bw, bn, u, n⟩ := c
  simp only [credV] at HOK ⊢
  have hbA := (Below.refl w.heap.size w).alloc (Nat.le_refl _) (.cells #[.int .i64 k, .int .i64 ow, .int .i64 on, .int .i64 wh, .int .i64 aw, .int .i64 an, .int .i64 bw, .int .i64 bn, .int .i64 u, .int .i64 n] 29)
  have HBA := hide hbA
  have HV := hide (HV0.out.below hbA (Nat.le_refl _))
  have HG := hide (Blk.new w #[.int .i64 k, .int .i64 ow, .int .i64 on, .int .i64 wh, .int .i64 aw, .int .i64 an, .int .i64 bw, .int .i64 bn, .int .i64 u, .int .i64 n] 29)
  have hsz1 : (w.alloc (.cells #[.int .i64 k, .int .i64 ow, .int .i64 on, .int .i64 wh, .int .i64 aw, .int .i64 an, .int .i64 bw, .int .i64 bn, .int .i64 u, .int .i64 n] 29)).heap.size = w.heap.size + 1 := by simp [go_sem]
  obtain ⟨i0, hi, hz0, hz1, hz2⟩ := info_parts info_fact
  clear hbA HV0
  obtain ⟨w1, hw1⟩ : ∃ w1, w1 = w.alloc (.cells #[.int .i64 k, .int .i64 ow, .int .i64 on, .int .i64 wh, .int .i64 aw, .int .i64 an, .int .i64 bw, .int .i64 bn, .int .i64 u, .int .i64 n] 29) := ⟨_, rfl⟩
  rw [← hw1] at HBA HV HG hsz1
  have HLit := hide (World.ownsRow_lit (base := w.heap.size + 1) (e := 36) (size := 3) w1 #[] 0 (by omega) (by decide) rfl)
  have HVL := hide (HV.out.below ((Below.refl _ w1).alloc (Nat.le_refl _) (.cells #[] 36)) (Nat.le_refl _))
  rw [hw1] at HLit HVL
  have hB2 : w.heap.size + 1 ≤ ((w.alloc (.cells #[.int .i64 k, .int .i64 ow, .int .i64 on, .int .i64 wh, .int .i64 aw, .int .i64 an, .int .i64 bw, .int .i64 bn, .int .i64 u, .int .i64 n] 29)).alloc (.cells #[] 36)).heap.size := by simp [go_sem]
  have h0b : Below (w.heap.size + 1) w1 (w1.alloc (.cells #[] 36)) := (Below.refl _ _).alloc (by omega) _
  have HL0 := hide h0b
  clear h0b
  go_enter Try.func25, Try.ntmps25
  go_wp2_with (at_builtin; refine wpList_append_row (R := faR) (B := w.heap.size + 1) rfl (.tmp 11) (.tmp 12) 31 rfl 36 i0 (.agg #[.int .i64 0, .int .i64 0, .int .i64 0]) 24 Try.underlying31 hi hz0 hz1 hz2 rfl _ _ 0 _ l rfl (by have := HLit.out; rw [show (w.alloc (.cells #[.int .i64 k, .int .i64 ow, .int .i64 on, .int .i64 wh, .int .i64 aw, .int .i64 an, .int .i64 bw, .int .i64 bn, .int .i64 u, .int .i64 n] 29)).heap.size = w.heap.size + 1 from by simp [go_sem]] at this; exact this) rfl HVL.out hB2 (by unfold maxLen; omega) (by omega) ?_)
  intro v' w3 hown3 hbel3
  have HO := hide (show w3.ownsRow (w.heap.size + 1) 36 3 v' l.length (cellsI (flat faR l)) from hown3)
  rw [← hw1] at hbel3
  have HB := hide (HL0.out.trans hbel3)
  clear hown3 hbel3 HLit HVL hB2 HL0 hw1
  obtain ⟨b0, e0⟩ : ∃ b, b = w.heap.size := ⟨_, rfl⟩
  have HBS : Hid (b0 + 1 = w1.heap.size) := by show _ = _; omega
  have hw0 : w.heap.size ≤ b0 + 1 := by omega
  rw [← e0] at HG HO HB ⊢
  have HBw : Hid (∀ wx, Below (b0 + 1) w1 wx → Below w.heap.size w wx) := fun wx h => HBA.out.trans (h.mono hw0)
  clear hsz1 HBA e0
  have HA1 : Hid (∀ j (hj : j < l.length), ∃ g off, a = some ⟨g, off, none⟩ ∧ g < b0 + 1 ∧ w1.cell? ⟨g, off + j * 3, none⟩ = some (.int .i64 l[j].a) ∧ w1.cell? ⟨g, off + j * 3 + 1, none⟩ = some (.int .i64 l[j].b) ∧ w1.cell? ⟨g, off + j * 3 + 2, none⟩ = some (.int .i64 l[j].w)) := fun j hj => by
    obtain ⟨a', ca', h0, h1⟩ := HV.out.open_
    cases h0
    obtain ⟨g, off, h2, h3, h4⟩ := h1 j hj
    exact ⟨g, off, h2, by have := HBS.out; omega, h4 0 (by decide), h4 1 (by decide), h4 2 (by decide)⟩
  have G3 := hide (HG.out.below HB.out (Nat.lt_succ_self _))
  have hz3 : b0 + 1 ≤ w3.heap.size := by have := HB.out.size; have := HBS.out; omega
  have c0 : w3.cell? ⟨b0, 0, none⟩ = some (.int .i64 k) := by rw [G3.out.cell 0]; rfl
  have c1 : w3.cell? ⟨b0, 1, none⟩ = some (.int .i64 ow) := by rw [G3.out.cell 1]; rfl
  have c2 : w3.cell? ⟨b0, 2, none⟩ = some (.int .i64 on) := by rw [G3.out.cell 2]; rfl
  have c3 : w3.cell? ⟨b0, 3, none⟩ = some (.int .i64 wh) := by rw [G3.out.cell 3]; rfl
  have c4 : w3.cell? ⟨b0, 4, none⟩ = some (.int .i64 aw) := by rw [G3.out.cell 4]; rfl
  have c5 : w3.cell? ⟨b0, 5, none⟩ = some (.int .i64 an) := by rw [G3.out.cell 5]; rfl
  have c6 : w3.cell? ⟨b0, 6, none⟩ = some (.int .i64 bw) := by rw [G3.out.cell 6]; rfl
  have c7 : w3.cell? ⟨b0, 7, none⟩ = some (.int .i64 bn) := by rw [G3.out.cell 7]; rfl
  have c8 : w3.cell? ⟨b0, 8, none⟩ = some (.int .i64 u) := by rw [G3.out.cell 8]; rfl
  have c9 : w3.cell? ⟨b0, 9, none⟩ = some (.int .i64 n) := by rw [G3.out.cell 9]; rfl
  have l0 := G3.out.lt
  go_wp2_with fail
  clear c0 c1 c2 c3 c4 c5 c6 c7 c8 c9 l0
  refine (HOK.out _).mono ?_
  rintro e w4 ⟨rfl, hb⟩
  have HO := hide (own_below HO.out hb)
  have HB := hide (HB.out.trans (hb.mono hz3))
  have hz4 : b0 + 1 ≤ w4.heap.size := Nat.le_trans hz3 hb.size
  clear hb HOK G3 hz3
  by_cases hok : credOk ⟨k, ow, on, wh, aw, an, bw, bn, u, n⟩
  · rw [decide_eq_true hok]
    have HR : Hid (R = tells ⟨k, ow, on, wh, aw, an, bw, bn, u, n⟩ l) := by show R = _; rw [ER.out, follows, if_pos hok]
    have hk : k = 1 ∨ k = 2 ∨ k = 3 ∨ k = 4 := by
      have := hok.2
      unfold P5.kindOk at this
      dsimp only at this
      rcases this with ⟨h, _⟩ | ⟨h, _⟩ | ⟨h, _⟩ | ⟨h, _⟩ <;> omega
    clear ER hok
    have G4 := hide (HG.out.below HB.out (Nat.lt_succ_self _))
    have c0 : w4.cell? ⟨b0, 0, none⟩ = some (.int .i64 k) := by rw [G4.out.cell 0]; rfl
    have c1 : w4.cell? ⟨b0, 1, none⟩ = some (.int .i64 ow) := by rw [G4.out.cell 1]; rfl
    have c2 : w4.cell? ⟨b0, 2, none⟩ = some (.int .i64 on) := by rw [G4.out.cell 2]; rfl
    have c3 : w4.cell? ⟨b0, 3, none⟩ = some (.int .i64 wh) := by rw [G4.out.cell 3]; rfl
    have c4 : w4.cell? ⟨b0, 4, none⟩ = some (.int .i64 aw) := by rw [G4.out.cell 4]; rfl
    have c5 : w4.cell? ⟨b0, 5, none⟩ = some (.int .i64 an) := by rw [G4.out.cell 5]; rfl
    have c6 : w4.cell? ⟨b0, 6, none⟩ = some (.int .i64 bw) := by rw [G4.out.cell 6]; rfl
    have c7 : w4.cell? ⟨b0, 7, none⟩ = some (.int .i64 bn) := by rw [G4.out.cell 7]; rfl
    have c8 : w4.cell? ⟨b0, 8, none⟩ = some (.int .i64 u) := by rw [G4.out.cell 8]; rfl
    have c9 : w4.cell? ⟨b0, 9, none⟩ = some (.int .i64 n) := by rw [G4.out.cell 9]; rfl
    have l0 := G4.out.lt
    rcases hk with rfl | rfl | rfl | rfl
    · have HR1 : Hid (R = put l ⟨ow, on, wh⟩) := HR.out
      go_wp2_with fail
      clear c0 c1 c2 c3 c4 c5 c6 c7 c8 c9 l0 HA1
      refine (specPut_calls (b0 + 1) w4 v' l ⟨ow, on, wh⟩ HO.out (by omega) hz4).mono ?_
      rintro e w5 ⟨v5, rfl, hown, hb, -⟩
      have HO := hide hown
      have HB := hide (HB.out.trans hb)
      clear hown hb
      go_wp2_with fail
      go_ret
      exact ⟨v5, rfl, by rw [HR1.out]; exact own_mono HO.out hw0, HBw.out _ HB.out⟩
    · obtain ⟨O, HO0, HOs, HOl, HOR⟩ : ∃ O : Nat → List Fa, Hid (O 0 = l) ∧ Hid (∀ j (hj : j < l.length), O (j + 1) = if ((l[j].a = aw ∧ l[j].b = an) ∧ ((2 : Int) = 2 ∨ (⟨bw, bn, l[j].w⟩ : Fa) ∈ l)) then put (O j) ⟨ow, on, l[j].w⟩ else O j) ∧ Hid (∀ j, j ≤ l.length → (O j).length ≤ 2097152) ∧ Hid (O l.length = R) := by
        refine ⟨fun j => puts (fun x => decide ((x.a = aw ∧ x.b = an) ∧ ((2 : Int) = 2 ∨ (⟨bw, bn, x.w⟩ : Fa) ∈ l))) (fun x => ⟨ow, on, x.w⟩) (l.take j) l, rfl, ?_, ?_, ?_⟩
        · intro j hj
          show puts _ _ (l.take (j + 1)) l = _
          rw [puts_take _ _ _ _ _ hj]
          simp only [decide_eq_true_eq]
        · intro j hj
          have h := (Grow.puts (M := about ow on l) (fun x => decide ((x.a = aw ∧ x.b = an) ∧ ((2 : Int) = 2 ∨ (⟨bw, bn, x.w⟩ : Fa) ∈ l))) (fun x => ⟨ow, on, x.w⟩) (l.take j) l (Grow.refl _ _) (fun x hx => mem_about (List.mem_of_mem_take hx))).length
          rw [about_length] at h
          show (puts _ _ (l.take j) l).length ≤ _
          omega
        · show puts _ _ (l.take l.length) l = R
          rw [List.take_length, HR.out]
          rfl
      clear HR
      have HO : Hid (w4.ownsRow (b0 + 1) 36 3 v' (O 0).length (cellsI (flat faR (O 0)))) := by show World.ownsRow _ _ _ _ _ _ _; rw [HO0.out]; exact HO.out
      go_wp2_with fail
      clear c0 c1 c2 c3 c4 c5 c6 c7 c8 c9 l0 HO0
      go_loopw [5, 6] (fun vo i wr => ∃ j : Nat, j ≤ l.length ∧ i = .int .i64 j ∧ Hid (wr.ownsRow (b0 + 1) 36 3 vo (O j).length (cellsI (flat faR (O j)))) ∧ Hid (Below (b0 + 1) w1 wr) ∧ b0 + 1 ≤ wr.heap.size) (fun _ i _ => l.length - (intOf i).toNat)
      case atStart => exact ⟨0, Nat.zero_le _, rfl, HO.out, HB.out, hz4⟩
      case round =>
        clear HO HB hz4 G4
        obtain ⟨j, hj, rfl, HO, HB, hz⟩ := hrel
        by_cases hlt : j < l.length
        · obtain ⟨g, off, rfl, hg, hc0, hc1, hc2⟩ := HA1.out j hlt
          have hs := HOs.out j hlt
          have hle := HOl.out j hj
          have HVr := hide ((HV.out.below HB.out (by have := HBS.out; omega)).below ((Below.refl _ wr).alloc (Nat.le_refl _) (.cells #[.int .i64 l[j].a, .int .i64 l[j].b, .int .i64 l[j].w] 36)) (Nat.le_refl _))
          generalize l[j] = x at *
          obtain ⟨xa, xb, xw⟩ := x
          dsimp only at hc0 hc1 hc2 hs HVr
          have f0 : wr.cell? ⟨g, off + j * 3, none⟩ = some (.int .i64 xa) := by rw [HB.out.cell (p := ⟨g, off + j * 3, none⟩) hg]; exact hc0
          have f1 : wr.cell? ⟨g, off + j * 3 + 1, none⟩ = some (.int .i64 xb) := by rw [HB.out.cell (p := ⟨g, off + j * 3 + 1, none⟩) hg]; exact hc1
          have f2 : wr.cell? ⟨g, off + j * 3 + 2, none⟩ = some (.int .i64 xw) := by rw [HB.out.cell (p := ⟨g, off + j * 3 + 2, none⟩) hg]; exact hc2
          have hgr : g < wr.heap.size := by omega
          have Gr := hide (HG.out.below HB.out (Nat.lt_succ_self _))
          have e0 : wr.cell? ⟨b0, 0, none⟩ = some (.int .i64 2) := by rw [Gr.out.cell 0]; rfl
          have e1 : wr.cell? ⟨b0, 1, none⟩ = some (.int .i64 ow) := by rw [Gr.out.cell 1]; rfl
          have e2 : wr.cell? ⟨b0, 2, none⟩ = some (.int .i64 on) := by rw [Gr.out.cell 2]; rfl
          have e3 : wr.cell? ⟨b0, 3, none⟩ = some (.int .i64 wh) := by rw [Gr.out.cell 3]; rfl
          have e4 : wr.cell? ⟨b0, 4, none⟩ = some (.int .i64 aw) := by rw [Gr.out.cell 4]; rfl
          have e5 : wr.cell? ⟨b0, 5, none⟩ = some (.int .i64 an) := by rw [Gr.out.cell 5]; rfl
          have e6 : wr.cell? ⟨b0, 6, none⟩ = some (.int .i64 bw) := by rw [Gr.out.cell 6]; rfl
          have e7 : wr.cell? ⟨b0, 7, none⟩ = some (.int .i64 bn) := by rw [Gr.out.cell 7]; rfl
          have e8 : wr.cell? ⟨b0, 8, none⟩ = some (.int .i64 u) := by rw [Gr.out.cell 8]; rfl
          have e9 : wr.cell? ⟨b0, 9, none⟩ = some (.int .i64 n) := by rw [Gr.out.cell 9]; rfl
          have lr := Gr.out.lt
          have nr : b0 ≠ wr.heap.size := by omega
          have HB2 := hide (HB.out.alloc hz (.cells #[.int .i64 xa, .int .i64 xb, .int .i64 xw] 36))
          have HO2 := hide (HO.out.alloc (.cells #[.int .i64 xa, .int .i64 xb, .int .i64 xw] 36))
          have hz2' : b0 + 1 ≤ (wr.alloc (.cells #[.int .i64 xa, .int .i64 xb, .int .i64 xw] 36)).heap.size := by simp [go_sem]; omega
          have HS := hide hs
          clear hs hc0 hc1 hc2
          by_cases q1 : xa = aw
          · subst q1
            by_cases q2 : xb = an
            · subst q2
              have HN : Hid (O (j + 1) = put (O j) ⟨ow, on, xw⟩) := by show _ = _; rw [HS.out, if_pos (by simp)]
              clear HS
              go_wp2_with fail
              clear f0 f1 f2 e0 e1 e2 e3 e4 e5 e6 e7 e8 e9 HA1
              refine (specPut_calls (b0 + 1) _ _ (O j) ⟨ow, on, xw⟩ HO2.out (by omega) hz2').mono ?_
              rintro e w7 ⟨v7, rfl, hown, hb, -⟩
              have HO7 : Hid (w7.ownsRow (b0 + 1) 36 3 v7 (O (j + 1)).length (cellsI (flat faR (O (j + 1))))) := by show World.ownsRow _ _ _ _ _ _ _; rw [HN.out]; exact hown
              have HB7 := hide (HB2.out.trans hb)
              have hz7 : b0 + 1 ≤ w7.heap.size := Nat.le_trans hz2' hb.size
              clear hown hb
              go_wp2_with fail
              go_roundw
              case rel => exact ⟨j + 1, by omega, by go_num, HO7.out, HB7.out, hz7⟩
              case measure => simp [intOf]; omega
            · have HN : Hid (O (j + 1) = O j) := by show _ = _; rw [HS.out, if_neg (fun h => q2 h.1.2)]
              clear HS
              go_wp2_with fail
              go_roundw
              case rel => exact ⟨j + 1, by omega, by go_num, by show World.ownsRow _ _ _ _ _ _ _; rw [HN.out]; exact HO2.out, HB2.out, hz2'⟩
              case measure => simp [intOf]; omega
          · have HN : Hid (O (j + 1) = O j) := by show _ = _; rw [HS.out, if_neg (fun h => q1 h.1.1)]
            clear HS
            go_wp2_with fail
            go_roundw
            case rel => exact ⟨j + 1, by omega, by go_num, by show World.ownsRow _ _ _ _ _ _ _; rw [HN.out]; exact HO2.out, HB2.out, hz2'⟩
            case measure => simp [intOf]; omega
        · have hjl : j = l.length := by omega
          subst hjl
          go_wp2
          go_ret
          exact ⟨_, rfl, by rw [← HOR.out]; exact own_mono HO.out hw0, HBw.out _ HB.out⟩
    · obtain ⟨O, HO0, HOs, HOl, HOR⟩ : ∃ O : Nat → List Fa, Hid (O 0 = l) ∧ Hid (∀ j (hj : j < l.length), O (j + 1) = if l[j].a = aw ∧ l[j].b = an then puts (fun y => decide (y.a = l[j].w ∧ y.b = bn)) (fun y => ⟨ow, on, y.w⟩) l (O j) else O j) ∧ Hid (∀ j x m, (puts (fun y => decide (y.a = x ∧ y.b = bn)) (fun y => ⟨ow, on, y.w⟩) (l.take m) (O j)).length ≤ 2097152) ∧ Hid (O l.length = R) := by
        refine ⟨fun j => link l ⟨3, ow, on, wh, aw, an, bw, bn, u, n⟩ (l.take j) l, rfl, ?_, ?_, ?_⟩
        · intro j hj
          show link _ _ (l.take (j + 1)) l = _
          rw [link_take _ _ _ _ _ hj]
        · intro j x m
          have h1 := Grow.link l ⟨3, ow, on, wh, aw, an, bw, bn, u, n⟩ (l.take j) l (Grow.refl _ _)
          have h := (Grow.puts (fun y => decide (y.a = x ∧ y.b = bn)) (fun y => ⟨ow, on, y.w⟩) (l.take m) _ h1 (fun y hy => mem_about (List.mem_of_mem_take hy))).length
          rw [about_length] at h
          dsimp only
          omega
        · show link _ _ (l.take l.length) l = R
          rw [List.take_length, HR.out]
          rfl
      clear HR
      have HO : Hid (w4.ownsRow (b0 + 1) 36 3 v' (O 0).length (cellsI (flat faR (O 0)))) := by show World.ownsRow _ _ _ _ _ _ _; rw [HO0.out]; exact HO.out
      have hzr := zero_role
      go_wp2_with fail
      clear c0 c1 c2 c3 c4 c5 c6 c7 c8 c9 l0 HO0
      go_loopw [5, 8] (fun vo i wr => ∃ j : Nat, j ≤ l.length ∧ i = .int .i64 j ∧ Hid (wr.ownsRow (b0 + 1) 36 3 vo (O j).length (cellsI (flat faR (O j)))) ∧ Hid (Below (b0 + 1) w1 wr) ∧ b0 + 1 ≤ wr.heap.size) (fun _ i _ => l.length - (intOf i).toNat)
      case atStart => exact ⟨0, Nat.zero_le _, rfl, HO.out, HB.out, hz4⟩
      case round =>
        clear HO HB hz4 G4
        obtain ⟨j, hj, rfl, HO, HB, hz⟩ := hrel
        by_cases hlt : j < l.length
        · obtain ⟨g, off, rfl, hg, hc0, hc1, hc2⟩ := HA1.out j hlt
          have hs := HOs.out j hlt
          generalize l[j] = x at *
          obtain ⟨xa, xb, xw⟩ := x
          dsimp only at hc0 hc1 hc2 hs
          have f0 : wr.cell? ⟨g, off + j * 3, none⟩ = some (.int .i64 xa) := by rw [HB.out.cell (p := ⟨g, off + j * 3, none⟩) hg]; exact hc0
          have f1 : wr.cell? ⟨g, off + j * 3 + 1, none⟩ = some (.int .i64 xb) := by rw [HB.out.cell (p := ⟨g, off + j * 3 + 1, none⟩) hg]; exact hc1
          have f2 : wr.cell? ⟨g, off + j * 3 + 2, none⟩ = some (.int .i64 xw) := by rw [HB.out.cell (p := ⟨g, off + j * 3 + 2, none⟩) hg]; exact hc2
          have hgr : g < wr.heap.size := by omega
          have Gr := hide (HG.out.below HB.out (Nat.lt_succ_self _))
          have e0 : wr.cell? ⟨b0, 0, none⟩ = some (.int .i64 3) := by rw [Gr.out.cell 0]; rfl
          have e1 : wr.cell? ⟨b0, 1, none⟩ = some (.int .i64 ow) := by rw [Gr.out.cell 1]; rfl
          have e2 : wr.cell? ⟨b0, 2, none⟩ = some (.int .i64 on) := by rw [Gr.out.cell 2]; rfl
          have e3 : wr.cell? ⟨b0, 3, none⟩ = some (.int .i64 wh) := by rw [Gr.out.cell 3]; rfl
          have e4 : wr.cell? ⟨b0, 4, none⟩ = some (.int .i64 aw) := by rw [Gr.out.cell 4]; rfl
          have e5 : wr.cell? ⟨b0, 5, none⟩ = some (.int .i64 an) := by rw [Gr.out.cell 5]; rfl
          have e6 : wr.cell? ⟨b0, 6, none⟩ = some (.int .i64 bw) := by rw [Gr.out.cell 6]; rfl
          have e7 : wr.cell? ⟨b0, 7, none⟩ = some (.int .i64 bn) := by rw [Gr.out.cell 7]; rfl
          have e8 : wr.cell? ⟨b0, 8, none⟩ = some (.int .i64 u) := by rw [Gr.out.cell 8]; rfl
          have e9 : wr.cell? ⟨b0, 9, none⟩ = some (.int .i64 n) := by rw [Gr.out.cell 9]; rfl
          have lr := Gr.out.lt
          have HS := hide hs
          have HC2 := hide hc2
          clear hs hc0 hc1 hc2
          by_cases q1 : xa = aw
          · subst q1
            by_cases q2 : xb = an
            · subst q2
              have HN : Hid (O (j + 1) = puts (fun y => decide (y.a = xw ∧ y.b = bn)) (fun y => ⟨ow, on, y.w⟩) l (O j)) := by show _ = _; rw [HS.out, if_pos (by simp)]
              clear HS
              go_wp2
              go_quiet (fail)
              have HO : Hid ((wr.drewN nq).ownsRow (b0 + 1) 36 3 _ (O j).length (cellsI (flat faR (O j)))) := HO.out
              have HB : Hid (Below (b0 + 1) w1 (wr.drewN nq)) := below_drewN HB.out nq
              have hz : b0 + 1 ≤ (wr.drewN nq).heap.size := hz
              have hgr : g < (wr.drewN nq).heap.size := hgr
              clear e0 e1 e2 e3 e4 e5 e6 e7 e8 e9 f0 f1 f2 lr Gr
              generalize wr.drewN nq = wr at *
              have HX2 : Hid (wr.cell? ⟨g, off + j * 3 + 2, none⟩ = some (.int .i64 xw)) := by show _ = _; rw [HB.out.cell (p := ⟨g, off + j * 3 + 2, none⟩) hg]; exact HC2.out
              have Gr := hide (HG.out.below HB.out (Nat.lt_succ_self _))
              have lr := Gr.out.lt
              have n2 : ∀ p : Near wr.heap.size wr, p.w.cell? ⟨g, off + j * 3 + 2, none⟩ = some (.int .i64 xw) := fun p => by rw [p.h.cell (p := ⟨g, off + j * 3 + 2, none⟩) hgr]; exact HX2.out
              have n7 : ∀ p : Near wr.heap.size wr, p.w.cell? ⟨b0, 7, none⟩ = some (.int .i64 bn) := fun p => by rw [(Gr.out.below p.h lr).cell 7]; rfl
              have hnn := Near.some wr.heap.size wr
              obtain ⟨I, HI0, HIs, HIl, HIR⟩ : ∃ I : Nat → List Fa, Hid (I 0 = O j) ∧ Hid (∀ m (hm : m < l.length), I (m + 1) = if l[m].a = xw ∧ l[m].b = bn then put (I m) ⟨ow, on, l[m].w⟩ else I m) ∧ Hid (∀ m, (I m).length ≤ 2097152) ∧ Hid (I l.length = O (j + 1)) := by
                refine ⟨fun m => puts (fun y => decide (y.a = xw ∧ y.b = bn)) (fun y => ⟨ow, on, y.w⟩) (l.take m) (O j), rfl, ?_, fun m => HOl.out j xw m, ?_⟩
                · intro m hm
                  show puts _ _ (l.take (m + 1)) _ = _
                  rw [puts_take _ _ _ _ _ hm]
                  simp only [decide_eq_true_eq]
                · show puts _ _ (l.take l.length) _ = _
                  rw [List.take_length, HN.out]
              clear HN
              go_wp2_with fail
              refine wp_region_open (fun wd => ∃ p : Near wr.heap.size wr, wd = p.w) ⟨⟨_, (Below.refl _ _).drew⟩, rfl⟩ (by kernel_rfl) ?_
              rintro wd ⟨pd, rfl⟩
              refine wpAny_of_K (c := 10) (D := fun w' => ∃ p : Near wr.heap.size wr, w' = p.w) _ _ _ _ ?_
              refine wpAnyK_seg_lit 0 9 2 2 rfl (by decide) (by decide) (by kernel_rfl) (by kernel_rfl) (by kernel_rfl) (by kernel_rfl) (fun _ _ _ _ _ h => h) ⟨pd, rfl⟩ ?_
              simp only [List.take_succ_cons, List.take_zero, List.drop_zero]
              repeat (go_big_quiet_step (fail))
              refine wpQuiet_nil ?_
              have hqb := pd.h
              obtain ⟨w5, hq⟩ := pd
              simp only at hqb ⊢
              have HBT := hide hqb
              clear hq hqb n2 n7 hnn
              have hzw := hzr w5
              refine wpAnyK_value (i := 9) (v := .pointer (some ⟨w5.heap.size, 0, none⟩)) (w' := w5.alloc (.cells #[.int .i64 0, .int .i64 0] 27)) (by kernel_rfl) rfl rfl (by simp [execOp, go_sem, hzw, Instr.alloc]) ⟨⟨_, HBT.out.alloc HBT.out.size _⟩, rfl⟩ ?_
              refine wpAnyK_last (by kernel_rfl) (by decide) ?_
              refine wpAny_rest 10 rfl (by kernel_rfl) ?_
              simp only [List.drop_succ_cons, List.drop_zero]
              have HO5 := hide (own_below HO.out HBT.out)
              have HB5 := hide (HB.out.trans (HBT.out.mono hz))
              have hz5 : b0 + 1 ≤ w5.heap.size := Nat.le_trans hz HBT.out.size
              have HO6 : Hid ((w5.alloc (.cells #[.int .i64 xw, .int .i64 bn] 27)).ownsRow (b0 + 1) 36 3 u5 (I 0).length (cellsI (flat faR (I 0)))) := by show World.ownsRow _ _ _ _ _ _ _; rw [HI0.out]; exact HO5.out.alloc _
              have HB6 := hide (HB5.out.alloc hz5 (.cells #[.int .i64 xw, .int .i64 bn] 27))
              have G9 := hide (Blk.new w5 #[.int .i64 xw, .int .i64 bn] 27)
              have hz6 : b0 + 1 ≤ (w5.alloc (.cells #[.int .i64 xw, .int .i64 bn] 27)).heap.size := by simp [go_sem]; omega
              clear HO5 HB5 HBT HX2 HO HB Gr lr hgr hz hzw
              have hjt : decide ((j : Int) < (l.length : Int)) = true := by simp; omega
              go_wp2_with fail
              obtain ⟨b9, e9⟩ : ∃ b, b = w5.heap.size := ⟨_, rfl⟩
              rw [← e9] at G9 ⊢
              clear e9 hz5 HI0
              generalize w5.alloc (.cells #[.int .i64 xw, .int .i64 bn] 27) = w6 at *
              go_loopw [5, 10] (fun vo i wr => ∃ m : Nat, m ≤ l.length ∧ i = .int .i64 m ∧ Hid (wr.ownsRow (b0 + 1) 36 3 vo (I m).length (cellsI (flat faR (I m)))) ∧ Hid (Blk wr b9 [.int .i64 xw, .int .i64 bn] 27) ∧ Hid (Below (b0 + 1) w1 wr) ∧ b0 + 1 ≤ wr.heap.size) (fun _ i _ => l.length - (intOf i).toNat)
              case atStart => exact ⟨0, Nat.zero_le _, rfl, HO6.out, G9.out, HB6.out, hz6⟩
              case round =>
                clear HO6 HB6 hz6 G9
                obtain ⟨m, hm, rfl, HO, G9, HB, hz⟩ := hrel
                by_cases hmt : m < l.length
                · obtain ⟨g', off', heq, -, hd0, hd1, hd2⟩ := HA1.out m hmt
                  cases heq
                  have hs := HIs.out m hmt
                  have hle := HIl.out m
                  generalize l[m] = y at *
                  obtain ⟨ya, yb, yw⟩ := y
                  dsimp only at hd0 hd1 hd2 hs
                  have f0 : wr.cell? ⟨g, off + m * 3, none⟩ = some (.int .i64 ya) := by rw [HB.out.cell (p := ⟨g, off + m * 3, none⟩) hg]; exact hd0
                  have f1 : wr.cell? ⟨g, off + m * 3 + 1, none⟩ = some (.int .i64 yb) := by rw [HB.out.cell (p := ⟨g, off + m * 3 + 1, none⟩) hg]; exact hd1
                  have f2 : wr.cell? ⟨g, off + m * 3 + 2, none⟩ = some (.int .i64 yw) := by rw [HB.out.cell (p := ⟨g, off + m * 3 + 2, none⟩) hg]; exact hd2
                  have hgr : g < wr.heap.size := by omega
                  have Gr := hide (HG.out.below HB.out (Nat.lt_succ_self _))
                  have e0 : wr.cell? ⟨b0, 0, none⟩ = some (.int .i64 3) := by rw [Gr.out.cell 0]; rfl
                  have e1 : wr.cell? ⟨b0, 1, none⟩ = some (.int .i64 ow) := by rw [Gr.out.cell 1]; rfl
                  have e2 : wr.cell? ⟨b0, 2, none⟩ = some (.int .i64 on) := by rw [Gr.out.cell 2]; rfl
                  have e3 : wr.cell? ⟨b0, 3, none⟩ = some (.int .i64 wh) := by rw [Gr.out.cell 3]; rfl
                  have e4 : wr.cell? ⟨b0, 4, none⟩ = some (.int .i64 xa) := by rw [Gr.out.cell 4]; rfl
                  have e5 : wr.cell? ⟨b0, 5, none⟩ = some (.int .i64 xb) := by rw [Gr.out.cell 5]; rfl
                  have e6 : wr.cell? ⟨b0, 6, none⟩ = some (.int .i64 bw) := by rw [Gr.out.cell 6]; rfl
                  have e7 : wr.cell? ⟨b0, 7, none⟩ = some (.int .i64 bn) := by rw [Gr.out.cell 7]; rfl
                  have e8 : wr.cell? ⟨b0, 8, none⟩ = some (.int .i64 u) := by rw [Gr.out.cell 8]; rfl
                  have e9 : wr.cell? ⟨b0, 9, none⟩ = some (.int .i64 n) := by rw [Gr.out.cell 9]; rfl
                  have lr := Gr.out.lt
                  have r0 : wr.cell? ⟨b9, 0, none⟩ = some (.int .i64 xw) := by rw [G9.out.cell 0]; rfl
                  have r1 : wr.cell? ⟨b9, 1, none⟩ = some (.int .i64 bn) := by rw [G9.out.cell 1]; rfl
                  have l9 := G9.out.lt
                  have HS := hide hs
                  clear hs hd0 hd1 hd2
                  by_cases q3 : ya = xw
                  · subst q3
                    by_cases q4 : yb = bn
                    · subst q4
                      have HN : Hid (I (m + 1) = put (I m) ⟨ow, on, yw⟩) := by show _ = _; rw [HS.out, if_pos (by simp)]
                      clear HS
                      go_wp2
                      go_quiet (fail)
                      have HO : Hid ((wr.drewN nq).ownsRow (b0 + 1) 36 3 u5 (I m).length (cellsI (flat faR (I m)))) := HO.out
                      have HB : Hid (Below (b0 + 1) w1 (wr.drewN nq)) := below_drewN HB.out nq
                      have G9 : Hid (Blk (wr.drewN nq) b9 [.int .i64 ya, .int .i64 yb] 27) := G9.out
                      have hz : b0 + 1 ≤ (wr.drewN nq).heap.size := hz
                      have hgr : g < (wr.drewN nq).heap.size := hgr
                      have lr : b0 < (wr.drewN nq).heap.size := lr
                      have f2 : (wr.drewN nq).cell? ⟨g, off + m * 3 + 2, none⟩ = some (.int .i64 yw) := f2
                      have e1 : (wr.drewN nq).cell? ⟨b0, 1, none⟩ = some (.int .i64 ow) := e1
                      have e2 : (wr.drewN nq).cell? ⟨b0, 2, none⟩ = some (.int .i64 on) := e2
                      generalize wr.drewN nq = wq at *
                      go_wp2_with fail
                      refine wp_region_tail 9 (fun wd => wd = wq.drew) rfl (by kernel_rfl) (by kernel_rfl) ?_
                      rintro wd rfl
                      have HO : Hid (wq.drew.ownsRow (b0 + 1) 36 3 u5 (I m).length (cellsI (flat faR (I m)))) := HO.out
                      have HB : Hid (Below (b0 + 1) w1 wq.drew) := HB.out.drew
                      have G9 : Hid (Blk wq.drew b9 [.int .i64 ya, .int .i64 yb] 27) := G9.out
                      have hz : b0 + 1 ≤ wq.drew.heap.size := hz
                      have hgr : g < wq.drew.heap.size := hgr
                      have lr : b0 < wq.drew.heap.size := lr
                      have f2 : wq.drew.cell? ⟨g, off + m * 3 + 2, none⟩ = some (.int .i64 yw) := f2
                      have e1 : wq.drew.cell? ⟨b0, 1, none⟩ = some (.int .i64 ow) := e1
                      have e2 : wq.drew.cell? ⟨b0, 2, none⟩ = some (.int .i64 on) := e2
                      generalize wq.drew = wt at *
                      simp only [List.take_succ_cons, List.take_zero, List.drop_succ_cons, List.drop_zero]
                      repeat (go_big_quiet_step (fail))
                      refine wpQuiet_nil ?_
                      go_wp2_with fail
                      refine (specPut_calls (b0 + 1) _ _ (I m) ⟨ow, on, yw⟩ HO.out (by omega) hz).mono ?_
                      rintro e w7 ⟨v7, rfl, hown, hb, hgw⟩
                      have HO7 : Hid (w7.ownsRow (b0 + 1) 36 3 v7 (I (m + 1)).length (cellsI (flat faR (I (m + 1))))) := by show World.ownsRow _ _ _ _ _ _ _; rw [HN.out]; exact hown
                      have HB7 := hide (HB.out.trans hb)
                      have G97 := hide (blk_grownR G9.out hgw (own_ne_blk HO.out G9.out (by decide)))
                      have hz7 : b0 + 1 ≤ w7.heap.size := Nat.le_trans hz hb.size
                      clear hown hb hgw
                      go_wp2_with fail
                      go_roundw
                      case rel => exact ⟨m + 1, by omega, by go_num, HO7.out, G97.out, HB7.out, hz7⟩
                      case measure => simp [intOf]; omega
                    · have HN : Hid (I (m + 1) = I m) := by show _ = _; rw [HS.out, if_neg (fun h => q4 h.2)]
                      clear HS
                      go_wp2
                      go_quiet (fail)
                      go_wp2
                      go_roundw
                      case rel => exact ⟨m + 1, by omega, by go_num, by show World.ownsRow _ _ _ _ _ _ _; rw [HN.out]; exact HO.out, G9.out, below_drewN HB.out _, hz⟩
                      case measure => simp [intOf]; omega
                  · have HN : Hid (I (m + 1) = I m) := by show _ = _; rw [HS.out, if_neg (fun h => q3 h.1)]
                    clear HS
                    go_wp2
                    go_quiet (fail)
                    go_wp2
                    go_roundw
                    case rel => exact ⟨m + 1, by omega, by go_num, by show World.ownsRow _ _ _ _ _ _ _; rw [HN.out]; exact HO.out, G9.out, below_drewN HB.out _, hz⟩
                    case measure => simp [intOf]; omega
                · have hml : m = l.length := by omega
                  have HO2 : Hid (wr.ownsRow (b0 + 1) 36 3 u5 (O (j + 1)).length (cellsI (flat faR (O (j + 1))))) := by show World.ownsRow _ _ _ _ _ _ _; rw [← HIR.out, ← hml]; exact HO.out
                  go_wp2
                  go_roundw
                  case rel => exact ⟨j + 1, by omega, by go_num, HO2.out, HB.out, hz⟩
                  case measure => simp [intOf]; omega
            · have HN : Hid (O (j + 1) = O j) := by show _ = _; rw [HS.out, if_neg (fun h => q2 h.2)]
              clear HS
              go_wp2
              go_quiet (fail)
              go_wp2
              go_roundw
              case rel => exact ⟨j + 1, by omega, by go_num, by show World.ownsRow _ _ _ _ _ _ _; rw [HN.out]; exact HO.out, below_drewN HB.out _, hz⟩
              case measure => simp [intOf]; omega
          · have HN : Hid (O (j + 1) = O j) := by show _ = _; rw [HS.out, if_neg (fun h => q1 h.1)]
            clear HS
            go_wp2
            go_quiet (fail)
            go_wp2
            go_roundw
            case rel => exact ⟨j + 1, by omega, by go_num, by show World.ownsRow _ _ _ _ _ _ _; rw [HN.out]; exact HO.out, below_drewN HB.out _, hz⟩
            case measure => simp [intOf]; omega
        · have hjl : j = l.length := by omega
          subst hjl
          go_wp2
          go_ret
          exact ⟨_, rfl, by rw [← HOR.out]; exact own_mono HO.out hw0, HBw.out _ HB.out⟩
    · obtain ⟨O, HO0, HOs, HOl, HOR⟩ : ∃ O : Nat → List Fa, Hid (O 0 = l) ∧ Hid (∀ j (hj : j < l.length), O (j + 1) = if ((l[j].a = aw ∧ l[j].b = an) ∧ ((4 : Int) = 2 ∨ (⟨bw, bn, l[j].w⟩ : Fa) ∈ l)) then put (O j) ⟨ow, on, l[j].w⟩ else O j) ∧ Hid (∀ j, j ≤ l.length → (O j).length ≤ 2097152) ∧ Hid (O l.length = R) := by
        refine ⟨fun j => puts (fun x => decide ((x.a = aw ∧ x.b = an) ∧ ((4 : Int) = 2 ∨ (⟨bw, bn, x.w⟩ : Fa) ∈ l))) (fun x => ⟨ow, on, x.w⟩) (l.take j) l, rfl, ?_, ?_, ?_⟩
        · intro j hj
          show puts _ _ (l.take (j + 1)) l = _
          rw [puts_take _ _ _ _ _ hj]
          simp only [decide_eq_true_eq]
        · intro j hj
          have h := (Grow.puts (M := about ow on l) (fun x => decide ((x.a = aw ∧ x.b = an) ∧ ((4 : Int) = 2 ∨ (⟨bw, bn, x.w⟩ : Fa) ∈ l))) (fun x => ⟨ow, on, x.w⟩) (l.take j) l (Grow.refl _ _) (fun x hx => mem_about (List.mem_of_mem_take hx))).length
          rw [about_length] at h
          show (puts _ _ (l.take j) l).length ≤ _
          omega
        · show puts _ _ (l.take l.length) l = R
          rw [List.take_length, HR.out]
          rfl
      clear HR
      have HO : Hid (w4.ownsRow (b0 + 1) 36 3 v' (O 0).length (cellsI (flat faR (O 0)))) := by show World.ownsRow _ _ _ _ _ _ _; rw [HO0.out]; exact HO.out
      go_wp2_with fail
      clear c0 c1 c2 c3 c4 c5 c6 c7 c8 c9 l0 HO0
      go_loopw [5, 6] (fun vo i wr => ∃ j : Nat, j ≤ l.length ∧ i = .int .i64 j ∧ Hid (wr.ownsRow (b0 + 1) 36 3 vo (O j).length (cellsI (flat faR (O j)))) ∧ Hid (Below (b0 + 1) w1 wr) ∧ b0 + 1 ≤ wr.heap.size) (fun _ i _ => l.length - (intOf i).toNat)
      case atStart => exact ⟨0, Nat.zero_le _, rfl, HO.out, HB.out, hz4⟩
      case round =>
        clear HO HB hz4 G4
        obtain ⟨j, hj, rfl, HO, HB, hz⟩ := hrel
        by_cases hlt : j < l.length
        · obtain ⟨g, off, rfl, hg, hc0, hc1, hc2⟩ := HA1.out j hlt
          have hs := HOs.out j hlt
          have hle := HOl.out j hj
          have HVr := hide ((HV.out.below HB.out (by have := HBS.out; omega)).below ((Below.refl _ wr).alloc (Nat.le_refl _) (.cells #[.int .i64 l[j].a, .int .i64 l[j].b, .int .i64 l[j].w] 36)) (Nat.le_refl _))
          generalize l[j] = x at *
          obtain ⟨xa, xb, xw⟩ := x
          dsimp only at hc0 hc1 hc2 hs HVr
          have f0 : wr.cell? ⟨g, off + j * 3, none⟩ = some (.int .i64 xa) := by rw [HB.out.cell (p := ⟨g, off + j * 3, none⟩) hg]; exact hc0
          have f1 : wr.cell? ⟨g, off + j * 3 + 1, none⟩ = some (.int .i64 xb) := by rw [HB.out.cell (p := ⟨g, off + j * 3 + 1, none⟩) hg]; exact hc1
          have f2 : wr.cell? ⟨g, off + j * 3 + 2, none⟩ = some (.int .i64 xw) := by rw [HB.out.cell (p := ⟨g, off + j * 3 + 2, none⟩) hg]; exact hc2
          have hgr : g < wr.heap.size := by omega
          have Gr := hide (HG.out.below HB.out (Nat.lt_succ_self _))
          have e0 : wr.cell? ⟨b0, 0, none⟩ = some (.int .i64 4) := by rw [Gr.out.cell 0]; rfl
          have e1 : wr.cell? ⟨b0, 1, none⟩ = some (.int .i64 ow) := by rw [Gr.out.cell 1]; rfl
          have e2 : wr.cell? ⟨b0, 2, none⟩ = some (.int .i64 on) := by rw [Gr.out.cell 2]; rfl
          have e3 : wr.cell? ⟨b0, 3, none⟩ = some (.int .i64 wh) := by rw [Gr.out.cell 3]; rfl
          have e4 : wr.cell? ⟨b0, 4, none⟩ = some (.int .i64 aw) := by rw [Gr.out.cell 4]; rfl
          have e5 : wr.cell? ⟨b0, 5, none⟩ = some (.int .i64 an) := by rw [Gr.out.cell 5]; rfl
          have e6 : wr.cell? ⟨b0, 6, none⟩ = some (.int .i64 bw) := by rw [Gr.out.cell 6]; rfl
          have e7 : wr.cell? ⟨b0, 7, none⟩ = some (.int .i64 bn) := by rw [Gr.out.cell 7]; rfl
          have e8 : wr.cell? ⟨b0, 8, none⟩ = some (.int .i64 u) := by rw [Gr.out.cell 8]; rfl
          have e9 : wr.cell? ⟨b0, 9, none⟩ = some (.int .i64 n) := by rw [Gr.out.cell 9]; rfl
          have lr := Gr.out.lt
          have nr : b0 ≠ wr.heap.size := by omega
          have HB2 := hide (HB.out.alloc hz (.cells #[.int .i64 xa, .int .i64 xb, .int .i64 xw] 36))
          have HO2 := hide (HO.out.alloc (.cells #[.int .i64 xa, .int .i64 xb, .int .i64 xw] 36))
          have hz2' : b0 + 1 ≤ (wr.alloc (.cells #[.int .i64 xa, .int .i64 xb, .int .i64 xw] 36)).heap.size := by simp [go_sem]; omega
          have HS := hide hs
          clear hs hc0 hc1 hc2
          by_cases q1 : xa = aw
          · subst q1
            by_cases q2 : xb = an
            · subst q2
              go_wp2_with fail
              generalize hwf : wr.alloc (.cells #[.int .i64 xa, .int .i64 xb, .int .i64 xw] 36) = wf at *
              have hfb : wr.heap.size < wf.heap.size := by rw [← hwf]; simp [go_sem]
              have Gf : Hid (Blk wf wr.heap.size [.int .i64 xa, .int .i64 xb, .int .i64 xw] 36) := by rw [← hwf]; exact Blk.new wr #[.int .i64 xa, .int .i64 xb, .int .i64 xw] 36
              obtain ⟨bf, hbf⟩ : ∃ bf, bf = wr.heap.size := ⟨_, rfl⟩
              rw [← hbf] at Gf ⊢
              clear hwf f0 f1 f2 e0 e1 e2 e3 e4 e5 e6 e7 e8 e9 HA1 hfb hbf nr lr Gr
              refine (specHas_calls wf _ l ⟨bw, bn, xw⟩ HVr.out (by omega)).mono ?_
              rintro e w6 ⟨rfl, hb⟩
              have HO2 := hide (own_below HO2.out hb)
              have Gf := hide (Gf.out.below hb Gf.out.lt)
              have HB2 := hide (HB2.out.trans (hb.mono hz2'))
              have hz2' : b0 + 1 ≤ w6.heap.size := Nat.le_trans hz2' hb.size
              clear hb HVr
              by_cases hm : (⟨bw, bn, xw⟩ : Fa) ∈ l
              · rw [decide_eq_true hm]
                have HN : Hid (O (j + 1) = put (O j) ⟨ow, on, xw⟩) := by show _ = _; rw [HS.out, if_pos (by simp [hm])]
                clear HS hm
                have G6 := hide (HG.out.below HB2.out (Nat.lt_succ_self _))
                have e0 : w6.cell? ⟨b0, 0, none⟩ = some (.int .i64 4) := by rw [G6.out.cell 0]; rfl
                have e1 : w6.cell? ⟨b0, 1, none⟩ = some (.int .i64 ow) := by rw [G6.out.cell 1]; rfl
                have e2 : w6.cell? ⟨b0, 2, none⟩ = some (.int .i64 on) := by rw [G6.out.cell 2]; rfl
                have e3 : w6.cell? ⟨b0, 3, none⟩ = some (.int .i64 wh) := by rw [G6.out.cell 3]; rfl
                have e4 : w6.cell? ⟨b0, 4, none⟩ = some (.int .i64 xa) := by rw [G6.out.cell 4]; rfl
                have e5 : w6.cell? ⟨b0, 5, none⟩ = some (.int .i64 xb) := by rw [G6.out.cell 5]; rfl
                have e6 : w6.cell? ⟨b0, 6, none⟩ = some (.int .i64 bw) := by rw [G6.out.cell 6]; rfl
                have e7 : w6.cell? ⟨b0, 7, none⟩ = some (.int .i64 bn) := by rw [G6.out.cell 7]; rfl
                have e8 : w6.cell? ⟨b0, 8, none⟩ = some (.int .i64 u) := by rw [G6.out.cell 8]; rfl
                have e9 : w6.cell? ⟨b0, 9, none⟩ = some (.int .i64 n) := by rw [G6.out.cell 9]; rfl
                have l6 := G6.out.lt
                have lf := Gf.out.lt
                have g0 : w6.cell? ⟨bf, 0, none⟩ = some (.int .i64 xa) := by rw [Gf.out.cell 0]; rfl
                have g1 : w6.cell? ⟨bf, 1, none⟩ = some (.int .i64 xb) := by rw [Gf.out.cell 1]; rfl
                have g2 : w6.cell? ⟨bf, 2, none⟩ = some (.int .i64 xw) := by rw [Gf.out.cell 2]; rfl
                go_wp2_with fail
                clear g0 g1 g2 e0 e1 e2 e3 e4 e5 e6 e7 e8 e9
                refine (specPut_calls (b0 + 1) _ _ (O j) ⟨ow, on, xw⟩ HO2.out (by omega) hz2').mono ?_
                rintro e w7 ⟨v7, rfl, hown, hb, -⟩
                have HO7 : Hid (w7.ownsRow (b0 + 1) 36 3 v7 (O (j + 1)).length (cellsI (flat faR (O (j + 1))))) := by show World.ownsRow _ _ _ _ _ _ _; rw [HN.out]; exact hown
                have HB7 := hide (HB2.out.trans hb)
                have hz7 : b0 + 1 ≤ w7.heap.size := Nat.le_trans hz2' hb.size
                clear hown hb
                go_wp2_with fail
                go_roundw
                case rel => exact ⟨j + 1, by omega, by go_num, HO7.out, HB7.out, hz7⟩
                case measure => simp [intOf]; omega
              · rw [decide_eq_false hm]
                have HN : Hid (O (j + 1) = O j) := by show _ = _; rw [HS.out, if_neg (by simp [hm])]
                clear HS hm
                go_wp2_with fail
                go_roundw
                case rel => exact ⟨j + 1, by omega, by go_num, by show World.ownsRow _ _ _ _ _ _ _; rw [HN.out]; exact HO2.out, HB2.out, hz2'⟩
                case measure => simp [intOf]; omega
            · have HN : Hid (O (j + 1) = O j) := by show _ = _; rw [HS.out, if_neg (fun h => q2 h.1.2)]
              clear HS
              go_wp2_with fail
              go_roundw
              case rel => exact ⟨j + 1, by omega, by go_num, by show World.ownsRow _ _ _ _ _ _ _; rw [HN.out]; exact HO2.out, HB2.out, hz2'⟩
              case measure => simp [intOf]; omega
          · have HN : Hid (O (j + 1) = O j) := by show _ = _; rw [HS.out, if_neg (fun h => q1 h.1.1)]
            clear HS
            go_wp2_with fail
            go_roundw
            case rel => exact ⟨j + 1, by omega, by go_num, by show World.ownsRow _ _ _ _ _ _ _; rw [HN.out]; exact HO2.out, HB2.out, hz2'⟩
            case measure => simp [intOf]; omega
        · have hjl : j = l.length := by omega
          subst hjl
          go_wp2
          go_ret
          exact ⟨_, rfl, by rw [← HOR.out]; exact own_mono HO.out hw0, HBw.out _ HB.out⟩
  · rw [decide_eq_false hok]
    have HR : Hid (R = l) := by show R = _; rw [ER.out, follows, if_neg hok]
    clear ER hok
    go_wp2_with fail
    go_ret
    exact ⟨v', rfl, by rw [HR.out]; exact own_mono HO.out hw0, HBw.out _ HB.out⟩
end Go.Proofs.Ytgnldmheiknbkaa.P6
namespace Go.Proofs.Ytgnldmheiknbkaa.P6
set_option maxRecDepth 8000
open Go.RowKit P1 P5 Rc

/-- Words as records. -/
def crR : RI Cr := ⟨10, fun c => [c.k, c.ow, c.on, c.wh, c.aw, c.an, c.bw, c.bn, c.u, c.n], fun _ => rfl, by decide⟩

/-- How long a slice is. -/
def lenOf : Value → Nat
  | .slice _ n _ => n
  | _ => 0

/-- One for true. -/
def yesOf : Value → Nat
  | .bool true => 1
  | _ => 0

theorem own_shape {w : World} {B : Nat} {e : TypeId} {size n : Nat} {v : Value} {xs : List Value} (h : w.ownsRow B e size v n xs) : ∃ a cap, v = .slice a n cap := by
  rcases h.2 with ⟨rfl, rfl⟩ | ⟨g, cap, cur, rfl, -⟩
  · exact ⟨none, 0, rfl⟩
  · exact ⟨_, cap, rfl⟩

theorem round_le (L : List Cr) (m : Nat) (i : Nat) : (round (L.take i) (factsN L m)).length ≤ 144 := right_le (round_nodup _ _ (factsN_nodup L m)) (round_right _ _ (factsN_right L m))

set_option maxHeartbeats 2000000 in
theorem specFacts_calls (w : World) (v : Value) (L : List Cr) (hv : RowAt crR w v L) (hL : L.length ≤ 1048576) :
    Calls Try.prog 15 #[v] w fun e w' => ∃ v', e = .returned v' ∧ w'.ownsRow w.heap.size 36 3 v' (factsOf L).length (cellsI (flat faR (factsOf L))) ∧ Below w.heap.size w w' := by
  obtain ⟨a, ca, rfl, HA⟩ := hv.open_
  replace HA := hide HA
  clear hv
  have HLit := hide (World.ownsRow_lit (base := w.heap.size) (e := 36) (size := 3) w #[] 0 (Nat.le_refl _) (by decide) rfl)
  have HB0 := hide ((Below.refl w.heap.size w).alloc (Nat.le_refl _) (.cells #[] 36))
  go_enter Try.func15, Try.ntmps15
  go_wp2_with fail
  generalize w.alloc (.cells #[] 36) = w0 at *
  go_loopw [3, 4] (fun vo s wr => ∃ (m : Nat) (b : Bool), s = .bool b ∧ Hid (wr.ownsRow w.heap.size 36 3 vo (factsN L m).length (cellsI (flat faR (factsN L m)))) ∧ Hid (b = false → Still L m) ∧ Hid (Below w.heap.size w wr)) (fun vo s _ => 290 - 2 * lenOf vo + yesOf s)
  case atStart => exact ⟨0, true, rfl, HLit.out, (by show _ → _; intro h; cases h), HB0.out⟩
  case round =>
    clear HLit HB0
    obtain ⟨m, b, rfl, HO, HS, HB⟩ := hrel
    have hle := factsN_le L m
    cases b with
    | false =>
      have he := factsOf_eq (HS.out rfl)
      have HE := hide he
      clear he HS
      go_wp2
      go_ret
      exact ⟨_, rfl, by rw [← HE.out]; exact HO.out, HB.out⟩
    | true =>
      clear HS
      obtain ⟨a3, c3, hsh⟩ := own_shape HO.out
      obtain ⟨J, HJ0, HJs, HJl, HJn, HJR⟩ : ∃ J : Nat → List Fa, Hid (J 0 = factsN L m) ∧ Hid (∀ i (hi : i < L.length), J (i + 1) = follows (J i) L[i]) ∧ Hid (∀ i, (J i).length ≤ 144) ∧ Hid (∀ i, i < L.length → (J i).length ≤ (J (i + 1)).length) ∧ Hid (J L.length = factsN L (m + 1)) := by
        refine ⟨fun i => round (L.take i) (factsN L m), rfl, fun i hi => round_take L _ i hi, fun i => round_le L m i, fun i hi => ?_, ?_⟩
        · show (round (L.take i) _).length ≤ (round (L.take (i + 1)) _).length
          rw [round_take L _ i hi]
          exact (follows_prefix _ _).length_le
        · show round (L.take L.length) _ = _
          rw [List.take_length]
          rfl
      obtain ⟨N0, EN0⟩ : ∃ N0, N0 = (factsN L m).length := ⟨_, rfl⟩
      have HN0 := hide EN0
      have HO0 : Hid (wr.ownsRow w.heap.size 36 3 u3 (J 0).length (cellsI (flat faR (J 0)))) := by show World.ownsRow _ _ _ _ _ _ _; rw [HJ0.out]; exact HO.out
      have HNJ : Hid ((J 0).length = N0) := by show _ = _; rw [HJ0.out, EN0]
      have hl3 : Hid (lenOf u3 = N0) := by show _ = _; rw [hsh, EN0]; rfl
      have hN1 : N0 ≤ 144 := by omega
      clear HO hsh hle EN0 HJ0
      go_wp2
      go_loopw [3, 4, 5] (fun vo s i wr => ∃ (j : Nat) (b : Bool), j ≤ L.length ∧ i = .int .i64 j ∧ s = .bool b ∧ Hid (wr.ownsRow w.heap.size 36 3 vo (J j).length (cellsI (flat faR (J j)))) ∧ Hid (b = decide (N0 < (J j).length)) ∧ Hid (N0 ≤ (J j).length) ∧ Hid (Below w.heap.size w wr)) (fun _ _ i _ => L.length - (intOf i).toNat)
      case atStart => exact ⟨0, false, Nat.zero_le _, rfl, rfl, HO0.out, by show _ = _; rw [HNJ.out]; simp, by show _ ≤ _; rw [HNJ.out]; exact Nat.le_refl _, HB.out⟩
      case round =>
        clear HO0 HNJ HB
        obtain ⟨j, b, hj, rfl, rfl, HO, Hb, Hle, HB⟩ := hrel
        have hl1 := HJl.out j
        by_cases hlt : j < L.length
        · obtain ⟨g, off, rfl, hg, hc⟩ := HA.out j hlt
          have hs := HJs.out j hlt
          have hmo := HJn.out j hlt
          have hl2 := HJl.out (j + 1)
          generalize L[j] = c at *
          obtain ⟨k, ow, on, wh, aw, an, bw, bn, u, n⟩ := c
          have f0 : wr.cell? ⟨g, off + j * 10, none⟩ = some (.int .i64 k) := (HB.out.cell (p := ⟨g, off + j * 10, none⟩) hg).trans (hc 0 (by decide))
          have f1 : wr.cell? ⟨g, off + j * 10 + 1, none⟩ = some (.int .i64 ow) := (HB.out.cell (p := ⟨g, off + j * 10 + 1, none⟩) hg).trans (hc 1 (by decide))
          have f2 : wr.cell? ⟨g, off + j * 10 + 2, none⟩ = some (.int .i64 on) := (HB.out.cell (p := ⟨g, off + j * 10 + 2, none⟩) hg).trans (hc 2 (by decide))
          have f3 : wr.cell? ⟨g, off + j * 10 + 3, none⟩ = some (.int .i64 wh) := (HB.out.cell (p := ⟨g, off + j * 10 + 3, none⟩) hg).trans (hc 3 (by decide))
          have f4 : wr.cell? ⟨g, off + j * 10 + 4, none⟩ = some (.int .i64 aw) := (HB.out.cell (p := ⟨g, off + j * 10 + 4, none⟩) hg).trans (hc 4 (by decide))
          have f5 : wr.cell? ⟨g, off + j * 10 + 5, none⟩ = some (.int .i64 an) := (HB.out.cell (p := ⟨g, off + j * 10 + 5, none⟩) hg).trans (hc 5 (by decide))
          have f6 : wr.cell? ⟨g, off + j * 10 + 6, none⟩ = some (.int .i64 bw) := (HB.out.cell (p := ⟨g, off + j * 10 + 6, none⟩) hg).trans (hc 6 (by decide))
          have f7 : wr.cell? ⟨g, off + j * 10 + 7, none⟩ = some (.int .i64 bn) := (HB.out.cell (p := ⟨g, off + j * 10 + 7, none⟩) hg).trans (hc 7 (by decide))
          have f8 : wr.cell? ⟨g, off + j * 10 + 8, none⟩ = some (.int .i64 u) := (HB.out.cell (p := ⟨g, off + j * 10 + 8, none⟩) hg).trans (hc 8 (by decide))
          have f9 : wr.cell? ⟨g, off + j * 10 + 9, none⟩ = some (.int .i64 n) := (HB.out.cell (p := ⟨g, off + j * 10 + 9, none⟩) hg).trans (hc 9 (by decide))
          have hgr : g < wr.heap.size := Nat.lt_of_lt_of_le hg HB.out.size
          have HS := hide hs
          obtain ⟨a4, c4, hsh⟩ := own_shape HO.out
          subst hsh
          have HF := hide (specFollows_calls wr (.slice a4 (J j).length c4) (J j) ⟨k, ow, on, wh, aw, an, bw, bn, u, n⟩ (RowAt.of_own HO.out) (by omega))
          rw [← HS.out] at HF
          simp only [credV] at HF
          clear hc hs HS
          go_wp2_with fail
          refine HF.out.mono ?_
          rintro e w5 ⟨v5, rfl, hown, hb⟩
          obtain ⟨a5, c5, hsh5⟩ := own_shape hown
          have HO5 := hide (own_mono hown HB.out.size)
          have HB5 := hide (HB.out.trans (hb.mono HB.out.size))
          clear hown hb f0 f1 f2 f3 f4 f5 f6 f7 f8 f9 HF HO
          generalize (J j).length = n1 at *
          generalize hn2 : (J (j + 1)).length = n2 at *
          subst hsh5
          have hle1 := Hle.out
          by_cases hgt : n1 < n2
          · have HB2 : Hid (true = decide (N0 < (J (j + 1)).length)) := by show _ = _; rw [hn2]; simp; omega
            have HL2 : Hid (N0 ≤ (J (j + 1)).length) := by show _ ≤ _; rw [hn2]; omega
            have hO : Hid (w5.ownsRow w.heap.size 36 3 (.slice a5 n2 c5) (J (j + 1)).length (cellsI (flat faR (J (j + 1))))) := by show World.ownsRow _ _ _ _ _ _ _; rw [hn2]; exact HO5.out
            clear hn2
            go_wp2
            go_roundw
            case rel => exact ⟨j + 1, true, by omega, by go_num, rfl, hO.out, HB2.out, HL2.out, HB5.out⟩
            case measure => simp [intOf]; omega
          · have HB2 : Hid (b = decide (N0 < (J (j + 1)).length)) := by show _ = _; rw [Hb.out, hn2]; congr 1; apply propext; omega
            have HL2 : Hid (N0 ≤ (J (j + 1)).length) := by show _ ≤ _; rw [hn2]; omega
            have hO : Hid (w5.ownsRow w.heap.size 36 3 (.slice a5 n2 c5) (J (j + 1)).length (cellsI (flat faR (J (j + 1))))) := by show World.ownsRow _ _ _ _ _ _ _; rw [hn2]; exact HO5.out
            clear hn2
            go_wp2
            go_roundw
            case rel => exact ⟨j + 1, b, by omega, by go_num, rfl, hO.out, HB2.out, HL2.out, HB5.out⟩
            case measure => simp [intOf]; omega
        · have hjl : j = L.length := by omega
          obtain ⟨a4, c4, hsh⟩ := own_shape HO.out
          have hlen : lenOf u3 = (J j).length := by rw [hsh]; rfl
          have hJR := HJR.out
          rw [← hjl] at hJR
          have hO : Hid (wr.ownsRow w.heap.size 36 3 u3 (factsN L (m + 1)).length (cellsI (flat faR (factsN L (m + 1))))) := by show World.ownsRow _ _ _ _ _ _ _; rw [← hJR]; exact HO.out
          have hSt : Hid (b = false → Still L (m + 1)) := by
            show _ → _
            intro hb0
            have h1 := Hb.out
            rw [hb0] at h1
            have h2 : ¬ N0 < (J j).length := of_decide_eq_false h1.symm
            rw [hJR, HN0.out] at h2
            have h3 : factsN L (m + 1) = factsN L m := prefix_same (round_prefix L (factsN L m)) (by show (factsN L (m + 1)).length ≤ _; omega)
            have h4 : Still L m := h3
            show round L (factsN L (m + 1)) = factsN L (m + 1)
            rw [h3]
            exact h4
          have hme : 290 - 2 * lenOf u3 + (if b then 1 else 0) < 290 - 2 * N0 + 1 := by
            have h1 := Hb.out
            have h2 := Hle.out
            rw [hlen]
            cases b with
            | true =>
              have : N0 < (J j).length := of_decide_eq_true h1.symm
              simp
              omega
            | false => simp; omega
          have hme2 : 290 - 2 * lenOf u3 + yesOf (.bool b) < 290 - 2 * N0 + 1 := by cases b <;> simpa [yesOf] using hme
          have HME := hide hme2
          clear hme hme2 hlen hsh
          go_wp2
          go_roundw
          case rel => exact ⟨m + 1, b, rfl, hO.out, hSt.out, HB.out⟩
          case measure =>
            have h1 := HME.out
            have h2 := hl3.out
            have h3 : yesOf (.bool true) = 1 := rfl
            omega
end Go.Proofs.Ytgnldmheiknbkaa.P6
namespace Go.Proofs.Ytgnldmheiknbkaa.P6
set_option maxRecDepth 8000
open Go.RowKit P1 P5 Rc

/-- Roles as records. -/
def roR : RI (Int × Int) := ⟨2, fun r => [r.1, r.2], fun _ => rfl, by decide⟩

theorem enterF : ∀ args w, (callFunc 15 args).run Try.prog w = .ok (.enter 15 args) w := run_enter Try.func15 (by kernel_rfl) (by kernel_rfl)

set_option maxHeartbeats 1000000 in
theorem specIsMember_calls (w : World) (v : Value) (L : List Cr) (a b who : Int) (hv : RowAt crR w v L) (hL : L.length ≤ 1048576) :
    Calls Try.prog 26 #[v, roleV a b, .int .i64 who] w fun e w' => e = .returned (.bool (decide ((⟨a, b, who⟩ : Fa) ∈ factsOf L))) ∧ Below w.heap.size w w' := by
  have hbA := (Below.refl w.heap.size w).alloc (Nat.le_refl _) (.cells #[.int .i64 a, .int .i64 b] 27)
  have HB := hide hbA
  have HV := hide (hv.below hbA (Nat.le_refl _))
  have HG := hide (Blk.new w #[.int .i64 a, .int .i64 b] 27)
  clear hv hbA
  simp only [roleV]
  go_enter Try.func26, Try.ntmps26
  go_wp2_with fail
  obtain ⟨b0, e0⟩ : ∃ b, b = w.heap.size := ⟨_, rfl⟩
  rw [← e0] at HG ⊢
  clear e0
  generalize w.alloc (.cells #[.int .i64 a, .int .i64 b] 27) = w1 at *
  have l0 := HG.out.lt
  have n0 : ∀ p : Near w1.heap.size w1, p.w.cell? ⟨b0, 0, none⟩ = some (.int .i64 a) := fun p => by rw [(HG.out.below p.h l0).cell 0]; rfl
  have n1 : ∀ p : Near w1.heap.size w1, p.w.cell? ⟨b0, 1, none⟩ = some (.int .i64 b) := fun p => by rw [(HG.out.below p.h l0).cell 1]; rfl
  have hnn := Near.some w1.heap.size w1
  refine wp_region_open (fun wd => ∃ p : Near w1.heap.size w1, wd = p.w) ⟨⟨_, (Below.refl _ _).drew⟩, rfl⟩ (by kernel_rfl) ?_
  rintro wd ⟨pd, rfl⟩
  refine wpAny_of_K (c := 5) (D := fun w' => ∃ p : Near w1.heap.size w1, w' = p.w) _ _ _ _ ?_
  refine wpAnyK_seg_lit 0 1 4 6 rfl (by decide) (by decide) (by kernel_rfl) (by kernel_rfl) (by kernel_rfl) (by kernel_rfl) (fun _ _ _ _ _ h => h) ⟨pd, rfl⟩ ?_
  simp only [List.take_succ_cons, List.take_zero, List.drop_zero]
  repeat (go_big_quiet_step (fail))
  refine wpQuiet_nil ?_
  refine wpAnyK_seg_lit 2 3 4 3 rfl (by decide) (by decide) (by kernel_rfl) (by kernel_rfl) (by kernel_rfl) (by kernel_rfl) (fun _ _ _ _ _ h => h) ⟨pd, rfl⟩ ?_
  simp only [List.take_succ_cons, List.take_zero, List.drop_succ_cons, List.drop_zero]
  repeat (go_big_quiet_step (fail))
  refine wpQuiet_nil ?_
  have hqb := pd.h
  obtain ⟨w2, hq⟩ := pd
  simp only at hqb ⊢
  have HBT := hide hqb
  have HV2 := hide (HV.out.below hqb (Nat.le_refl _))
  clear hq hqb n0 n1 hnn
  refine wpAnyK_call 1 (by kernel_rfl) rfl rfl 15 _ _ rfl enterF #[v] rfl (fun v' w' => w'.ownsRow w2.heap.size 36 3 v' (factsOf L).length (cellsI (flat faR (factsOf L))) ∧ Below w2.heap.size w2 w') ?_ ?_
  · refine (specFacts_calls w2 v L HV2.out hL).mono ?_
    rintro e w3 ⟨v', rfl, h1, h2⟩
    exact ⟨_, rfl, h1, h2⟩
  rintro v3 w3 ⟨hown, hb⟩
  refine ⟨⟨⟨w3, HBT.out.trans (hb.mono HBT.out.size)⟩, rfl⟩, ?_⟩
  have HH := hide (specHas_calls w3 v3 (factsOf L) ⟨a, b, who⟩ (RowAt.of_own hown) (by have := factsOf_le L; omega))
  have HB3 := hide (HB.out.trans ((HBT.out.trans (hb.mono HBT.out.size)).mono HB.out.size))
  obtain ⟨a3, c3, hsh⟩ := own_shape hown
  clear hown hb HV HV2 HBT
  generalize (factsOf L).length = n3 at *
  subst hsh
  refine wpAnyK_last (by kernel_rfl) (by decide) ?_
  refine wpAny_rest 5 rfl (by kernel_rfl) ?_
  simp only [List.drop_succ_cons, List.drop_zero, Act.put, List.setIfInBounds_toArray, List.set_cons_succ, List.set_cons_zero]
  simp only [faV] at HH
  go_wp2_with fail
  refine HH.out.mono ?_
  rintro e w4 ⟨rfl, hb⟩
  have HB4 := hide (HB3.out.trans (hb.mono HB3.out.size))
  clear hb HH
  go_wp2_with fail
  go_ret
  exact ⟨rfl, HB4.out⟩

/-- The first so many of six. -/
def six (k : Nat) : List Int := (List.range k).map fun (n : Nat) => (n : Int)

theorem six_succ (k : Nat) : six (k + 1) = six k ++ [(k : Int)] := by simp [six, List.range_succ]

set_option maxHeartbeats 1000000 in
theorem specMembers_calls (w : World) (v : Value) (L : List Cr) (a b : Int) (hv : RowAt crR w v L) (hL : L.length ≤ 1048576) :
    Calls Try.prog 28 #[v, roleV a b] w fun e w' => ∃ v', e = .returned v' ∧ w'.ownsRow w.heap.size 3 1 v' (membersOf L a b).length (cellsI (membersOf L a b)) ∧ Below w.heap.size w w' := by
  obtain ⟨M, HM⟩ : ∃ M : Nat → List Int, Hid (M 0 = [] ∧ (∀ k, M (k + 1) = if (⟨a, b, (k : Int)⟩ : Fa) ∈ factsOf L then M k ++ [(k : Int)] else M k) ∧ (∀ k, (M k).length ≤ k) ∧ M 6 = membersOf L a b) := by
    refine ⟨fun k => (six k).filter fun i => decide ((⟨a, b, i⟩ : Fa) ∈ factsOf L), rfl, fun k => ?_, fun k => ?_, rfl⟩
    · show (six (k + 1)).filter _ = _
      rw [six_succ, List.filter_append]
      by_cases h : (⟨a, b, (k : Int)⟩ : Fa) ∈ factsOf L
      · simp [h]
      · simp [h]
    · refine Nat.le_trans (List.length_filter_le _ _) ?_
      simp [six]
  rw [← HM.out.2.2.2]
  have hbA := (Below.refl w.heap.size w).alloc (Nat.le_refl _) (.cells #[.int .i64 a, .int .i64 b] 27)
  have HB := hide hbA
  have HV := hide (hv.below hbA (Nat.le_refl _))
  have HG := hide (Blk.new w #[.int .i64 a, .int .i64 b] 27)
  obtain ⟨i0, hi, hz0, hz1, hz2⟩ := info_parts Cu.info_int
  clear hv hbA
  simp only [roleV]
  go_enter Try.func28, Try.ntmps28
  go_wp2_with fail
  obtain ⟨b0, e0⟩ : ∃ b, b = w.heap.size := ⟨_, rfl⟩
  rw [← e0] at HG ⊢
  clear e0
  generalize w.alloc (.cells #[.int .i64 a, .int .i64 b] 27) = w1 at *
  refine (specFacts_calls w1 v L HV.out hL).mono ?_
  rintro e w2 ⟨v2, rfl, hown, hb⟩
  have hsz : w.heap.size ≤ w2.heap.size := Nat.le_trans HB.out.size hb.size
  have G2 := hide (HG.out.below hb HG.out.lt)
  have HB2 := hide (HB.out.trans (hb.mono HB.out.size))
  have HF := hide (RowAt.of_own hown)
  have hfl := factsOf_le L
  obtain ⟨a2, c2, hsh⟩ := own_shape hown
  clear hown hb HB HG HV
  obtain ⟨F, EF⟩ : ∃ F, F = factsOf L := ⟨_, rfl⟩
  rw [← EF] at HF hsh hfl
  simp only [← EF] at HM
  clear EF
  subst hsh
  have HO0 := hide (World.ownsRow_lit (base := w2.heap.size) (e := 3) (size := 1) w2 #[] 0 (Nat.le_refl _) (by decide) rfl)
  have HB0 := hide ((Below.refl w2.heap.size w2).alloc (Nat.le_refl _) (.cells #[] 3))
  go_wp2_with fail
  obtain ⟨B2, eB⟩ : ∃ B, B = w2.heap.size := ⟨_, rfl⟩
  rw [← eB] at HO0 HB0 ⊢
  have HBS := hide eB
  have hl2 : b0 < B2 := by rw [eB]; exact G2.out.lt
  have hwB : w.heap.size ≤ B2 := by omega
  clear eB
  generalize w2.alloc (.cells #[] 3) = w3 at *
  go_loopw [6, 7] (fun vo i wr => ∃ k : Nat, k ≤ 6 ∧ i = .int .i64 k ∧ Hid (wr.ownsRow B2 3 1 vo (M k).length (cellsI (M k))) ∧ Hid (Below B2 w2 wr)) (fun _ i _ => 6 - (intOf i).toNat)
  case atStart => exact ⟨0, by decide, rfl, by show World.ownsRow _ _ _ _ _ _ _; rw [HM.out.1]; exact HO0.out, HB0.out⟩
  case round =>
    clear HO0 HB0
    obtain ⟨k, hk, rfl, HO, HB⟩ := hrel
    have Gr := hide (G2.out.below HB.out hl2)
    have hBr : B2 ≤ wr.heap.size := by have := HB.out.size; have := HBS.out; omega
    by_cases hlt : k < 6
    · have d0 : wr.cell? ⟨b0, 0, none⟩ = some (.int .i64 a) := by rw [Gr.out.cell 0]; rfl
      have d1 : wr.cell? ⟨b0, 1, none⟩ = some (.int .i64 b) := by rw [Gr.out.cell 1]; rfl
      have l0 := Gr.out.lt
      have HH := hide (specHas_calls wr _ F ⟨a, b, (k : Int)⟩ (HF.out.below HB.out (by have := HBS.out; omega)) (by omega))
      simp only [faV] at HH
      have hs := HM.out.2.1 k
      have hle := HM.out.2.2.1 k
      have HS := hide hs
      clear hs
      go_wp2_with fail
      clear d0 d1 l0
      refine HH.out.mono ?_
      rintro e w5 ⟨rfl, hb⟩
      have HO5 := hide (own_below HO.out hb)
      have HB5 := hide (HB.out.trans (hb.mono hBr))
      have hB5 : B2 ≤ w5.heap.size := Nat.le_trans hBr hb.size
      clear hb HH HO HB Gr hBr
      by_cases hm : (⟨a, b, (k : Int)⟩ : Fa) ∈ F
      · rw [decide_eq_true hm]
        have HN : Hid (M (k + 1) = M k ++ [(k : Int)]) := by show _ = _; rw [HS.out, if_pos hm]
        clear HS hm
        go_wp2_with (at_builtin; refine wpList_append_one (cs := #[.int .i64 (k : Int)]) (Below.refl B2 w5) hB5 rfl (.tmp 20) (.tmp 22) 40 rfl 3 i0 (.int .i64 0) 1 8 Try.underlying40 hi hz0 hz1 hz2 rfl (by decide) rfl (by simp [Value.oneCell']) _ _ _ rfl HO5.out 1 rfl (by omega) (by omega) ?_)
        intro v6 w6 hown hb
        have HO6 : Hid (w6.ownsRow B2 3 1 v6 (M (k + 1)).length (cellsI (M (k + 1)))) := by show World.ownsRow _ _ _ _ _ _ _; rw [HN.out]; exact own_snocI hown
        have HB6 := hide (HB5.out.trans hb)
        clear hown hb
        go_wp2
        go_roundw
        case rel => exact ⟨k + 1, by omega, by go_num, HO6.out, HB6.out⟩
        case measure => simp [intOf]; omega
      · rw [decide_eq_false hm]
        have HN : Hid (M (k + 1) = M k) := by show _ = _; rw [HS.out, if_neg hm]
        clear HS hm
        go_wp2
        go_roundw
        case rel => exact ⟨k + 1, by omega, by go_num, by show World.ownsRow _ _ _ _ _ _ _; rw [HN.out]; exact HO5.out, HB5.out⟩
        case measure => simp [intOf]; omega
    · have hk6 : k = 6 := by omega
      subst hk6
      go_wp2
      go_ret
      exact ⟨_, rfl, own_mono HO.out hwB, HB2.out.trans (HB.out.mono hwB)⟩

theorem info_role : (Try.prog.info? 27).map (fun i => (i.zero, i.size, i.bytes)) = some (some (.agg #[.int .i64 0, .int .i64 0]), 2, 16) := by kernel_rfl

theorem info_cred : (Try.prog.info? 29).map (fun i => (i.zero, i.size, i.bytes)) = some (some (.agg #[.int .i64 0, .int .i64 0, .int .i64 0, .int .i64 0, .int .i64 0, .int .i64 0, .int .i64 0, .int .i64 0, .int .i64 0, .int .i64 0]), 10, 80) := by kernel_rfl

theorem allRoles_get (i k : Nat) (hi : i < 6) (hk : k < 4) : allRoles.take (4 * i + k + 1) = allRoles.take (4 * i + k) ++ [((i : Int), (k : Int))] := by
  have h : 4 * i + k < allRoles.length := by simp [allRoles]; omega
  rw [List.take_succ_eq_append_getElem h]
  simp [allRoles]
  omega

set_option maxHeartbeats 1000000 in
theorem specRoles_calls (w : World) (v : Value) (L : List Cr) (who : Int) (hv : RowAt crR w v L) (hL : L.length ≤ 1048576) :
    Calls Try.prog 24 #[v, .int .i64 who] w fun e w' => ∃ v', e = .returned v' ∧ w'.ownsRow w.heap.size 27 2 v' (rolesOf L who).length (cellsI (flat roR (rolesOf L who))) ∧ Below w.heap.size w w' := by
  obtain ⟨M, HM⟩ : ∃ M : Nat → List (Int × Int), Hid (M 0 = [] ∧ (∀ i k, i < 6 → k < 4 → M (4 * i + k + 1) = if (⟨(i : Int), (k : Int), who⟩ : Fa) ∈ factsOf L then M (4 * i + k) ++ [((i : Int), (k : Int))] else M (4 * i + k)) ∧ (∀ t, (M t).length ≤ 24) ∧ M 24 = rolesOf L who) := by
    refine ⟨fun t => (allRoles.take t).filter fun r => decide ((⟨r.1, r.2, who⟩ : Fa) ∈ factsOf L), rfl, fun i k hi hk => ?_, fun t => ?_, ?_⟩
    · show (allRoles.take (4 * i + k + 1)).filter _ = _
      rw [allRoles_get i k hi hk, List.filter_append]
      by_cases h : (⟨(i : Int), (k : Int), who⟩ : Fa) ∈ factsOf L
      · simp [h]
      · simp [h]
    · refine Nat.le_trans (List.length_filter_le _ _) ?_
      rw [List.length_take]
      simp [allRoles]
      omega
    · show (allRoles.take 24).filter _ = _
      rw [List.take_of_length_le (by simp [allRoles])]
      rfl
  rw [← HM.out.2.2.2]
  have HV := hide hv
  obtain ⟨i0, hi, hz0, hz1, hz2⟩ := info_parts info_role
  clear hv
  go_enter Try.func24, Try.ntmps24
  go_wp2_with fail
  refine (specFacts_calls w v L HV.out hL).mono ?_
  rintro e w2 ⟨v2, rfl, hown, hb⟩
  have hwB0 : w.heap.size ≤ w2.heap.size := hb.size
  have HB2 := hide hb
  have HF := hide (RowAt.of_own hown)
  have hfl := factsOf_le L
  obtain ⟨a2, c2, hsh⟩ := own_shape hown
  clear hown hb HV
  obtain ⟨F, EF⟩ : ∃ F, F = factsOf L := ⟨_, rfl⟩
  rw [← EF] at HF hsh hfl
  simp only [← EF] at HM
  clear EF
  subst hsh
  have HO0 := hide (World.ownsRow_lit (base := w2.heap.size) (e := 27) (size := 2) w2 #[] 0 (Nat.le_refl _) (by decide) rfl)
  have HB0 := hide ((Below.refl w2.heap.size w2).alloc (Nat.le_refl _) (.cells #[] 27))
  go_wp2_with fail
  obtain ⟨B2, eB⟩ : ∃ B, B = w2.heap.size := ⟨_, rfl⟩
  rw [← eB] at HO0 HB0 ⊢
  have HBS := hide eB
  have hwB : w.heap.size ≤ B2 := by omega
  clear eB
  generalize w2.alloc (.cells #[] 27) = w3 at *
  go_loopw [6, 7] (fun vo i wr => ∃ j : Nat, j ≤ 6 ∧ i = .int .i64 j ∧ Hid (wr.ownsRow B2 27 2 vo (M (4 * j)).length (cellsI (flat roR (M (4 * j))))) ∧ Hid (Below B2 w2 wr)) (fun _ i _ => 6 - (intOf i).toNat)
  case atStart => exact ⟨0, by decide, rfl, by show World.ownsRow _ _ _ _ _ _ _; rw [HM.out.1]; exact HO0.out, HB0.out⟩
  case round =>
    clear HO0 HB0
    obtain ⟨j, hj, rfl, HO, HB⟩ := hrel
    by_cases hjt : j < 6
    · have hjd : decide ((j : Int) < 6) = true := by simp; omega
      go_wp2
      go_loopw [6, 8] (fun vo i wr => ∃ k : Nat, k ≤ 4 ∧ i = .int .i64 k ∧ Hid (wr.ownsRow B2 27 2 vo (M (4 * j + k)).length (cellsI (flat roR (M (4 * j + k))))) ∧ Hid (Below B2 w2 wr)) (fun _ i _ => 4 - (intOf i).toNat)
      case atStart => exact ⟨0, by decide, rfl, HO.out, HB.out⟩
      case round =>
        clear HO HB
        obtain ⟨k, hk, rfl, HO, HB⟩ := hrel
        have hBr : B2 ≤ wr.heap.size := by have := HB.out.size; have := HBS.out; omega
        by_cases hlt : k < 4
        · have hbA := HB.out.alloc hBr (.cells #[.int .i64 (j : Int), .int .i64 (k : Int)] 27)
          have HB4 := hide hbA
          have HO4 := hide (HO.out.alloc (.cells #[.int .i64 (j : Int), .int .i64 (k : Int)] 27))
          have G9 := hide (Blk.new wr #[.int .i64 (j : Int), .int .i64 (k : Int)] 27)
          have HH := hide (specHas_calls (wr.alloc (.cells #[.int .i64 (j : Int), .int .i64 (k : Int)] 27)) _ F ⟨(j : Int), (k : Int), who⟩ (HF.out.below hbA (by have := HBS.out; omega)) (by omega))
          simp only [faV] at HH
          have hB4 : B2 ≤ (wr.alloc (.cells #[.int .i64 (j : Int), .int .i64 (k : Int)] 27)).heap.size := by simp [go_sem]; omega
          have hs := HM.out.2.1 j k hjt hlt
          have hle := HM.out.2.2.1 (4 * j + k)
          have HS := hide hs
          clear hs hbA HO HB hBr
          go_wp2_with fail
          obtain ⟨b9, e9⟩ : ∃ b, b = wr.heap.size := ⟨_, rfl⟩
          rw [← e9] at G9 ⊢
          clear e9
          generalize wr.alloc (.cells #[.int .i64 (j : Int), .int .i64 (k : Int)] 27) = w4 at *
          refine HH.out.mono ?_
          rintro e w5 ⟨rfl, hb⟩
          have HO5 := hide (own_below HO4.out hb)
          have HB5 := hide (HB4.out.trans (hb.mono hB4))
          have G95 := hide (G9.out.below hb G9.out.lt)
          have hB5 : B2 ≤ w5.heap.size := Nat.le_trans hB4 hb.size
          clear hb HH HO4 HB4 G9 hB4
          by_cases hm : (⟨(j : Int), (k : Int), who⟩ : Fa) ∈ F
          · rw [decide_eq_true hm]
            have HN : Hid (M (4 * j + (k + 1)) = M (4 * j + k) ++ [((j : Int), (k : Int))]) := HS.out.trans (if_pos hm)
            have d0 : w5.cell? ⟨b9, 0, none⟩ = some (.int .i64 (j : Int)) := by rw [G95.out.cell 0]; rfl
            have d1 : w5.cell? ⟨b9, 1, none⟩ = some (.int .i64 (k : Int)) := by rw [G95.out.cell 1]; rfl
            have l9 := G95.out.lt
            clear HS hm
            go_wp2_with (at_builtin; refine wpList_append_one (cs := #[.int .i64 (j : Int), .int .i64 (k : Int)]) (Below.refl B2 w5) hB5 rfl (.tmp 29) (.tmp 31) 38 rfl 27 i0 (.agg #[.int .i64 0, .int .i64 0]) 2 16 Try.underlying38 hi hz0 hz1 hz2 rfl (by decide) rfl (by simp [Value.oneCell']) _ _ _ rfl HO5.out 1 rfl (by omega) (by omega) ?_)
            intro v6 w6 hown hb
            have HO6 : Hid (w6.ownsRow B2 27 2 v6 (M (4 * j + (k + 1))).length (cellsI (flat roR (M (4 * j + (k + 1)))))) := by show World.ownsRow _ _ _ _ _ _ _; rw [HN.out]; exact own_snocR (R := roR) (x := ((j : Int), (k : Int))) rfl hown
            have HB6 := hide (HB5.out.trans hb)
            clear hown hb
            go_wp2
            go_roundw
            case rel => exact ⟨k + 1, by omega, by go_num, HO6.out, HB6.out⟩
            case measure => simp [intOf]; omega
          · rw [decide_eq_false hm]
            have HN : Hid (M (4 * j + (k + 1)) = M (4 * j + k)) := HS.out.trans (if_neg hm)
            clear HS hm
            go_wp2
            go_roundw
            case rel => exact ⟨k + 1, by omega, by go_num, by show World.ownsRow _ _ _ _ _ _ _; rw [HN.out]; exact HO5.out, HB5.out⟩
            case measure => simp [intOf]; omega
        · have hk4 : k = 4 := by omega
          subst hk4
          have HO2 : Hid (wr.ownsRow B2 27 2 u6 (M (4 * (j + 1))).length (cellsI (flat roR (M (4 * (j + 1)))))) := HO.out
          go_wp2
          go_roundw
          case rel => exact ⟨j + 1, by omega, by go_num, HO2.out, HB.out⟩
          case measure => simp [intOf]; omega
    · have hj6 : j = 6 := by omega
      subst hj6
      go_wp2
      go_ret
      exact ⟨_, rfl, own_mono HO.out hwB, HB2.out.trans (HB.out.mono hwB)⟩

theorem alive_take (L : List Cr) (now : Int) (i : Nat) (h : i < L.length) : alive (L.take (i + 1)) now = if credOk L[i] ∧ now ≤ L[i].u then alive (L.take i) now ++ [L[i]] else alive (L.take i) now := by
  unfold alive
  rw [List.take_succ_eq_append_getElem h, List.filter_append]
  by_cases hc : credOk L[i] ∧ now ≤ L[i].u
  · simp [hc]
  · rw [if_neg hc]
    simp [hc]

set_option maxHeartbeats 2000000 in
theorem specAlive_calls (w : World) (v : Value) (L : List Cr) (now : Int) (hv : RowAt crR w v L) (hL : L.length ≤ 1048576) :
    Calls Try.prog 31 #[v, .int .i64 now] w fun e w' => ∃ v', e = .returned v' ∧ w'.ownsRow w.heap.size 29 10 v' (alive L now).length (cellsI (flat crR (alive L now))) ∧ Below w.heap.size w w' := by
  obtain ⟨M, HM⟩ : ∃ M : Nat → List Cr, Hid (M 0 = [] ∧ (∀ i (hi : i < L.length), M (i + 1) = if credOk L[i] ∧ now ≤ L[i].u then M i ++ [L[i]] else M i) ∧ (∀ i, (M i).length ≤ 1048576) ∧ M L.length = alive L now) := by
    refine ⟨fun i => alive (L.take i) now, rfl, fun i hi => alive_take L now i hi, fun i => ?_, ?_⟩
    · refine Nat.le_trans (List.length_filter_le _ _) ?_
      rw [List.length_take]
      omega
    · show alive (L.take L.length) now = _
      rw [List.take_length]
  rw [← HM.out.2.2.2]
  obtain ⟨a, ca, rfl, HA⟩ := hv.open_
  replace HA := hide HA
  obtain ⟨i0, hi, hz0, hz1, hz2⟩ := info_parts info_cred
  clear hv
  have HO0 := hide (World.ownsRow_lit (base := w.heap.size) (e := 29) (size := 10) w #[] 0 (Nat.le_refl _) (by decide) rfl)
  have HB0 := hide ((Below.refl w.heap.size w).alloc (Nat.le_refl _) (.cells #[] 29))
  go_enter Try.func31, Try.ntmps31
  go_wp2_with fail
  generalize w.alloc (.cells #[] 29) = w3 at *
  go_loopw [5, 6] (fun vo i wr => ∃ j : Nat, j ≤ L.length ∧ i = .int .i64 j ∧ Hid (wr.ownsRow w.heap.size 29 10 vo (M j).length (cellsI (flat crR (M j)))) ∧ Hid (Below w.heap.size w wr)) (fun _ i _ => L.length - (intOf i).toNat)
  case atStart => exact ⟨0, Nat.zero_le _, rfl, by show World.ownsRow _ _ _ _ _ _ _; rw [HM.out.1]; exact HO0.out, HB0.out⟩
  case round =>
    clear HO0 HB0
    obtain ⟨j, hj, rfl, HO, HB⟩ := hrel
    by_cases hlt : j < L.length
    · obtain ⟨g, off, rfl, hg, hc⟩ := HA.out j hlt
      have hs := HM.out.2.1 j hlt
      have hle := HM.out.2.2.1 j
      generalize L[j] = c at *
      obtain ⟨k, ow, on, wh, aw, an, bw, bn, u, n⟩ := c
      have f0 : wr.cell? ⟨g, off + j * 10, none⟩ = some (.int .i64 k) := (HB.out.cell (p := ⟨g, off + j * 10, none⟩) hg).trans (hc 0 (by decide))
      have f1 : wr.cell? ⟨g, off + j * 10 + 1, none⟩ = some (.int .i64 ow) := (HB.out.cell (p := ⟨g, off + j * 10 + 1, none⟩) hg).trans (hc 1 (by decide))
      have f2 : wr.cell? ⟨g, off + j * 10 + 2, none⟩ = some (.int .i64 on) := (HB.out.cell (p := ⟨g, off + j * 10 + 2, none⟩) hg).trans (hc 2 (by decide))
      have f3 : wr.cell? ⟨g, off + j * 10 + 3, none⟩ = some (.int .i64 wh) := (HB.out.cell (p := ⟨g, off + j * 10 + 3, none⟩) hg).trans (hc 3 (by decide))
      have f4 : wr.cell? ⟨g, off + j * 10 + 4, none⟩ = some (.int .i64 aw) := (HB.out.cell (p := ⟨g, off + j * 10 + 4, none⟩) hg).trans (hc 4 (by decide))
      have f5 : wr.cell? ⟨g, off + j * 10 + 5, none⟩ = some (.int .i64 an) := (HB.out.cell (p := ⟨g, off + j * 10 + 5, none⟩) hg).trans (hc 5 (by decide))
      have f6 : wr.cell? ⟨g, off + j * 10 + 6, none⟩ = some (.int .i64 bw) := (HB.out.cell (p := ⟨g, off + j * 10 + 6, none⟩) hg).trans (hc 6 (by decide))
      have f7 : wr.cell? ⟨g, off + j * 10 + 7, none⟩ = some (.int .i64 bn) := (HB.out.cell (p := ⟨g, off + j * 10 + 7, none⟩) hg).trans (hc 7 (by decide))
      have f8 : wr.cell? ⟨g, off + j * 10 + 8, none⟩ = some (.int .i64 u) := (HB.out.cell (p := ⟨g, off + j * 10 + 8, none⟩) hg).trans (hc 8 (by decide))
      have f9 : wr.cell? ⟨g, off + j * 10 + 9, none⟩ = some (.int .i64 n) := (HB.out.cell (p := ⟨g, off + j * 10 + 9, none⟩) hg).trans (hc 9 (by decide))
      have hgr : g < wr.heap.size := Nat.lt_of_lt_of_le hg HB.out.size
      have HH := hide (specCredOk_calls ⟨k, ow, on, wh, aw, an, bw, bn, u, n⟩ wr)
      simp only [credV] at HH
      have HS := hide hs
      clear hs
      go_wp2_with fail
      clear f0 f1 f2 f3 f4 f5 f6 f7 f8 f9
      refine HH.out.mono ?_
      rintro e w5 ⟨rfl, hb⟩
      have HO5 := hide (own_below HO.out hb)
      have HB5 := hide (HB.out.trans (hb.mono HB.out.size))
      have hB5 : w.heap.size ≤ w5.heap.size := HB5.out.size
      clear hb HH HO HB hgr
      have f0 : w5.cell? ⟨g, off + j * 10, none⟩ = some (.int .i64 k) := (HB5.out.cell (p := ⟨g, off + j * 10, none⟩) hg).trans (hc 0 (by decide))
      have f1 : w5.cell? ⟨g, off + j * 10 + 1, none⟩ = some (.int .i64 ow) := (HB5.out.cell (p := ⟨g, off + j * 10 + 1, none⟩) hg).trans (hc 1 (by decide))
      have f2 : w5.cell? ⟨g, off + j * 10 + 2, none⟩ = some (.int .i64 on) := (HB5.out.cell (p := ⟨g, off + j * 10 + 2, none⟩) hg).trans (hc 2 (by decide))
      have f3 : w5.cell? ⟨g, off + j * 10 + 3, none⟩ = some (.int .i64 wh) := (HB5.out.cell (p := ⟨g, off + j * 10 + 3, none⟩) hg).trans (hc 3 (by decide))
      have f4 : w5.cell? ⟨g, off + j * 10 + 4, none⟩ = some (.int .i64 aw) := (HB5.out.cell (p := ⟨g, off + j * 10 + 4, none⟩) hg).trans (hc 4 (by decide))
      have f5 : w5.cell? ⟨g, off + j * 10 + 5, none⟩ = some (.int .i64 an) := (HB5.out.cell (p := ⟨g, off + j * 10 + 5, none⟩) hg).trans (hc 5 (by decide))
      have f6 : w5.cell? ⟨g, off + j * 10 + 6, none⟩ = some (.int .i64 bw) := (HB5.out.cell (p := ⟨g, off + j * 10 + 6, none⟩) hg).trans (hc 6 (by decide))
      have f7 : w5.cell? ⟨g, off + j * 10 + 7, none⟩ = some (.int .i64 bn) := (HB5.out.cell (p := ⟨g, off + j * 10 + 7, none⟩) hg).trans (hc 7 (by decide))
      have f8 : w5.cell? ⟨g, off + j * 10 + 8, none⟩ = some (.int .i64 u) := (HB5.out.cell (p := ⟨g, off + j * 10 + 8, none⟩) hg).trans (hc 8 (by decide))
      have f9 : w5.cell? ⟨g, off + j * 10 + 9, none⟩ = some (.int .i64 n) := (HB5.out.cell (p := ⟨g, off + j * 10 + 9, none⟩) hg).trans (hc 9 (by decide))
      have hgr : g < w5.heap.size := by omega
      clear hc
      by_cases hm : credOk ⟨k, ow, on, wh, aw, an, bw, bn, u, n⟩
      · rw [decide_eq_true hm]
        by_cases hn : now ≤ u
        · have HN : Hid (M (j + 1) = M j ++ [⟨k, ow, on, wh, aw, an, bw, bn, u, n⟩]) := HS.out.trans (if_pos ⟨hm, hn⟩)
          clear HS hm
          go_wp2_with (at_builtin; refine wpList_append_one (cs := #[.int .i64 k, .int .i64 ow, .int .i64 on, .int .i64 wh, .int .i64 aw, .int .i64 an, .int .i64 bw, .int .i64 bn, .int .i64 u, .int .i64 n]) (Below.refl w.heap.size w5) hB5 rfl (.tmp 28) (.tmp 33) 24 rfl 29 i0 (.agg #[.int .i64 0, .int .i64 0, .int .i64 0, .int .i64 0, .int .i64 0, .int .i64 0, .int .i64 0, .int .i64 0, .int .i64 0, .int .i64 0]) 10 80 Try.underlying24 hi hz0 hz1 hz2 rfl (by decide) rfl (by simp [Value.oneCell']) _ _ _ rfl HO5.out 1 rfl (by omega) (by omega) ?_)
          intro v6 w6 hown hb
          have HO6 : Hid (w6.ownsRow w.heap.size 29 10 v6 (M (j + 1)).length (cellsI (flat crR (M (j + 1))))) := by show World.ownsRow _ _ _ _ _ _ _; rw [HN.out]; exact own_snocR (R := crR) (x := ⟨k, ow, on, wh, aw, an, bw, bn, u, n⟩) rfl hown
          have HB6 := hide (HB5.out.trans hb)
          clear hown hb
          go_wp2
          go_roundw
          case rel => exact ⟨j + 1, by omega, by go_num, HO6.out, HB6.out⟩
          case measure => simp [intOf]; omega
        · have HN : Hid (M (j + 1) = M j) := HS.out.trans (if_neg (fun h => hn h.2))
          clear HS hm
          go_wp2
          go_roundw
          case rel => exact ⟨j + 1, by omega, by go_num, by show World.ownsRow _ _ _ _ _ _ _; rw [HN.out]; exact HO5.out, HB5.out⟩
          case measure => simp [intOf]; omega
      · rw [decide_eq_false hm]
        have HN : Hid (M (j + 1) = M j) := HS.out.trans (if_neg (fun h => hm h.1))
        clear HS hm
        go_wp2
        go_roundw
        case rel => exact ⟨j + 1, by omega, by go_num, by show World.ownsRow _ _ _ _ _ _ _; rw [HN.out]; exact HO5.out, HB5.out⟩
        case measure => simp [intOf]; omega
    · have hjl : j = L.length := by omega
      subst hjl
      go_wp2
      go_ret
      exact ⟨_, rfl, HO.out, HB.out⟩
end Go.Proofs.Ytgnldmheiknbkaa.P6
namespace Go.Proofs.Ytgnldmheiknbkaa.Mp
open Go.RowKit P1 Go.MapKept
open Go.ChangeMaps (modify_eq_set setBlock heap_setBlock_same heap_setBlock_other)

/-- Keys of a map: how they are written, and what the look for one of them finds. -/
structure KT (P : Program) (k : TypeId) (α : Type) where
  kv : α → Value
  inj : ∀ x y, kv x = kv y → x = y
  check : ∀ (em : Bool) (w : World) (x : α), (Instr.checkKey em 10000 k (kv x)).run P w = .ok () w
  find : ∀ (w : World) (x : α) (es : List MapEntry), (∀ e ∈ es, ∃ y, e.key = kv y) →
    ((Instr.findKey k (kv x) es).run P w = .ok none w ∧ ∀ e ∈ es, e.key ≠ kv x) ∨ ∃ j e, (Instr.findKey k (kv x) es).run P w = .ok (some (j, e.val)) w ∧ es[j]? = some e ∧ e.key = kv x
  stays : ∀ (w : World) (x : α), (Instr.keyThatStays (kv x) (kv x)).run P w = .ok (kv x) w

/-- One more place of a function. -/
def upd {α : Type} [DecidableEq α] (f : α → Option Value) (x : α) (v : Value) (y : α) : Option Value := if y = x then some v else f y

section
variable {P : Program} {k : TypeId} {α : Type} (T : KT P k α)

/-- The entries of a map: no key twice, no stamp twice, and what they hold. -/
structure Ens (es : Array MapEntry) (clock : Nat) (f : α → Option Value) : Prop where
  stamped : Stamped es clock
  keys : ∀ e ∈ es.toList, ∃ y, e.key = T.kv y
  val : ∀ x v, f x = some v ↔ ∃ e ∈ es.toList, e.key = T.kv x ∧ e.val = v

/-- Block b is a map of at most n entries that holds f. -/
def MapR (w : World) (b n : Nat) (f : α → Option Value) : Prop := ∃ es clock, w.heap[b]? = some (.map es clock) ∧ Ens T es clock f ∧ es.size ≤ n

/-- .. and the entry with this stamp is that of x. -/
def MapE (w : World) (b n : Nat) (x : α) (st : Nat) (f : α → Option Value) : Prop := ∃ es clock, w.heap[b]? = some (.map es clock) ∧ Ens T es clock f ∧ es.size ≤ n ∧ ∃ e ∈ es.toList, e.key = T.kv x ∧ e.born = st

variable {T}

theorem mem_set_key {l : List MapEntry} {j : Nat} {e0 e1 : MapEntry} (hj : l[j]? = some e0) (hp : l.Pairwise (fun x y => x.key ≠ y.key)) (x : MapEntry) : x ∈ l.set j e1 ↔ x = e1 ∨ (x ∈ l ∧ x.key ≠ e0.key) := by
  obtain ⟨hlt, he0⟩ := List.getElem?_eq_some_iff.1 hj
  have hpw := List.pairwise_iff_getElem.1 hp
  constructor
  · intro h
    obtain ⟨i, hi, hx⟩ := List.getElem_of_mem h
    rw [List.getElem_set] at hx
    split at hx
    · exact .inl hx.symm
    · rename_i hne
      have hi' : i < l.length := by simpa using hi
      refine .inr ⟨hx ▸ List.getElem_mem hi', ?_⟩
      rw [← hx, ← he0]
      rcases Nat.lt_or_gt_of_ne hne with h1 | h1
      · exact fun e => hpw j i hlt hi' h1 e.symm
      · exact hpw i j hi' hlt h1
  · rintro (rfl | ⟨h1, h2⟩)
    · exact List.mem_iff_getElem.2 ⟨j, by simpa using hlt, by simp⟩
    · obtain ⟨i, hi, hx⟩ := List.getElem_of_mem h1
      have hne : j ≠ i := by
        rintro rfl
        apply h2
        rw [← hx, ← he0]
      exact List.mem_iff_getElem.2 ⟨i, by simpa using hi, by rw [List.getElem_set_ne hne]; exact hx⟩

theorem Ens.push [DecidableEq α] {es : Array MapEntry} {clock : Nat} {f : α → Option Value} (E : Ens T es clock f) (x : α) (v : Value) (hn : ∀ e ∈ es.toList, e.key ≠ T.kv x) : Ens T (es.push ⟨T.kv x, v, clock⟩) (clock + 1) (upd f x v) := by
  refine ⟨stamped_push E.stamped hn, ?_, ?_⟩
  · intro e he
    simp only [Array.toList_push, List.mem_append, List.mem_singleton] at he
    rcases he with he | rfl
    · exact E.keys e he
    · exact ⟨x, rfl⟩
  · intro y u
    simp only [Array.toList_push, List.mem_append, List.mem_singleton]
    unfold upd
    by_cases hy : y = x
    · subst hy
      rw [if_pos rfl]
      constructor
      · intro h
        exact ⟨⟨T.kv y, v, clock⟩, .inr rfl, rfl, by simpa using h⟩
      · rintro ⟨e, he | rfl, h1, h2⟩
        · exact absurd h1 (hn e he)
        · simpa using h2
    · rw [if_neg hy, E.val]
      constructor
      · rintro ⟨e, he, h1, h2⟩
        exact ⟨e, .inl he, h1, h2⟩
      · rintro ⟨e, he | rfl, h1, h2⟩
        · exact ⟨e, he, h1, h2⟩
        · exact absurd (T.inj _ _ h1.symm) hy

theorem Ens.set [DecidableEq α] {es : Array MapEntry} {clock : Nat} {f : α → Option Value} (E : Ens T es clock f) (x : α) (v : Value) {j : Nat} {e0 : MapEntry} (hj : es.toList[j]? = some e0) (hk : e0.key = T.kv x) (g : MapEntry → MapEntry) (hb : ∀ e, (g e).born = e.born) (hgk : (g e0).key = T.kv x) (hgv : (g e0).val = v) :
    Ens T (es.modify j g) clock (upd f x v) ∧ (es.modify j g).size = es.size ∧ g e0 ∈ (es.modify j g).toList := by
  have hp := ((stamped_iff es clock).1 E.stamped).2.2
  have hlist : (es.modify j g).toList = es.toList.set j (g e0) := by rw [Array.toList_modify, modify_eq_set _ _ _ _ hj]
  have hjs : es[j]? = some e0 := by simpa using hj
  refine ⟨⟨stamped_modify E.stamped _ _ (fun e _ => hb e) (fun e _ he => ?_), ?_, ?_⟩, by simp, ?_⟩
  · rw [hjs] at he
    cases he
    rw [hgk, hk]
  · intro e he
    rw [hlist] at he
    rcases (mem_set_key hj hp e).1 he with rfl | ⟨h1, _⟩
    · exact ⟨x, hgk⟩
    · exact E.keys e h1
  · intro y u
    rw [hlist]
    unfold upd
    by_cases hy : y = x
    · subst hy
      rw [if_pos rfl]
      constructor
      · intro h
        exact ⟨g e0, (mem_set_key hj hp _).2 (.inl rfl), hgk, by rw [hgv]; simpa using h⟩
      · rintro ⟨e, he, h1, h2⟩
        rcases (mem_set_key hj hp e).1 he with rfl | ⟨_, h3⟩
        · rw [← h2, hgv]
        · exact absurd (h1.trans hk.symm) h3
    · rw [if_neg hy, E.val]
      constructor
      · rintro ⟨e, he, h1, h2⟩
        refine ⟨e, (mem_set_key hj hp e).2 (.inr ⟨he, ?_⟩), h1, h2⟩
        rw [h1, hk]
        exact fun h => hy (T.inj _ _ h)
      · rintro ⟨e, he, h1, h2⟩
        rcases (mem_set_key hj hp e).1 he with rfl | ⟨h3, _⟩
        · rw [hgk] at h1
          exact absurd (T.inj _ _ h1.symm) hy
        · exact ⟨e, h3, h1, h2⟩
  · rw [hlist]
    exact (mem_set_key hj hp _).2 (.inl rfl)

theorem Ens.none_of {es : Array MapEntry} {clock : Nat} {f : α → Option Value} (E : Ens T es clock f) {x : α} (hn : ∀ e ∈ es.toList, e.key ≠ T.kv x) : f x = none := by
  cases h : f x with
  | none => rfl
  | some v =>
    obtain ⟨e, he, h1, _⟩ := (E.val x v).1 h
    exact absurd h1 (hn e he)

theorem Ens.congr {es : Array MapEntry} {clock : Nat} {f g : α → Option Value} (E : Ens T es clock f) (h : ∀ x, g x = f x) : Ens T es clock g := ⟨E.stamped, E.keys, fun x v => by rw [h x]; exact E.val x v⟩

theorem MapR.congr {w : World} {b n : Nat} {f g : α → Option Value} (H : MapR T w b n f) (h : ∀ x, g x = f x) : MapR T w b n g := by
  obtain ⟨es, clock, h1, h2, h3⟩ := H
  exact ⟨es, clock, h1, h2.congr h, h3⟩

theorem MapR.mono {w : World} {b n m : Nat} {f : α → Option Value} (H : MapR T w b n f) (h : n ≤ m) : MapR T w b m f := by
  obtain ⟨es, clock, h1, h2, h3⟩ := H
  exact ⟨es, clock, h1, h2, by omega⟩

theorem MapR.lt {w : World} {b n : Nat} {f : α → Option Value} (H : MapR T w b n f) : b < w.heap.size := by
  obtain ⟨es, clock, h1, _⟩ := H
  exact (Array.getElem?_eq_some_iff.1 h1).1

theorem MapR.at_ {w w' : World} {b n : Nat} {f : α → Option Value} (H : MapR T w b n f) (h : w'.heap[b]? = w.heap[b]?) : MapR T w' b n f := by
  obtain ⟨es, clock, h1, h2⟩ := H
  exact ⟨es, clock, h.trans h1, h2⟩

theorem MapE.at_ {w w' : World} {b n st : Nat} {x : α} {f : α → Option Value} (H : MapE T w b n x st f) (h : w'.heap[b]? = w.heap[b]?) : MapE T w' b n x st f := by
  obtain ⟨es, clock, h1, h2⟩ := H
  exact ⟨es, clock, h.trans h1, h2⟩

theorem MapE.lt {w : World} {b n st : Nat} {x : α} {f : α → Option Value} (H : MapE T w b n x st f) : b < w.heap.size := by
  obtain ⟨es, clock, h1, _⟩ := H
  exact (Array.getElem?_eq_some_iff.1 h1).1

/-- A block of cells is no map. -/
theorem MapR.ne_blk {w : World} {b n c : Nat} {f : α → Option Value} (H : MapR T w b n f) {cs : Array Value} {t : TypeId} {fr : Nat × Nat} (h : w.heap[c]? = some (.cells cs t fr)) : c ≠ b := by
  rintro rfl
  obtain ⟨es, clock, h1, _⟩ := H
  rw [h1] at h
  cases h

theorem MapR.made (w : World) : MapR T (w.alloc (.map #[] 0)) w.heap.size 0 (fun _ => none) :=
  ⟨#[], 0, (MapKept.heap_alloc w _).1, ⟨stamped_empty 0, by simp, by simp⟩, Nat.le_refl _⟩

theorem MapR.look {w : World} {b n : Nat} {f : α → Option Value} {t e : TypeId} (H : MapR T w b n f) (ht : P.underlying t = some (.map k e)) {z : Value} (hz : (zeroValue e).run P w = .ok z w) (c : Bool) (x : α) :
    (Instr.lookup t (.map (some b)) (T.kv x) c).run P w = .ok (if c then .tuple #[(f x).getD z, .bool (f x).isSome] else (f x).getD z) w := by
  obtain ⟨es, clock, hb, E, _⟩ := H
  rcases T.find w x es.toList E.keys with ⟨h1, h2⟩ | ⟨j, e0, h1, h2, h3⟩
  · rw [E.none_of h2]
    simp [Instr.lookup, run_underlying ht, MapKept.run_getObj_map hb, T.check, h1, hz, Result.andThen]
  · rw [(E.val x e0.val).2 ⟨e0, List.mem_of_getElem? h2, h3, rfl⟩]
    simp [Instr.lookup, run_underlying ht, MapKept.run_getObj_map hb, T.check, h1, Result.andThen]

theorem grown_set {w : World} {b : Nat} {es : Array MapEntry} {clock : Nat} (hb : w.heap[b]? = some (.map es clock)) (o : Obj) : w.grownBy (setBlock w b o) (some b) :=
  ⟨rfl, rfl, rfl, by simp [setBlock], fun i _ hi => heap_setBlock_other hb _ (fun e => hi (by rw [e]))⟩

theorem MapR.store [DecidableEq α] {w : World} {b n : Nat} {f : α → Option Value} {t e : TypeId} (H : MapR T w b n f) (ht : P.underlying t = some (.map k e)) (x : α) (v : Value) :
    ∃ w', (Instr.mapUpdate t (.map (some b)) (T.kv x) v).run P w = .ok () w' ∧ MapR T w' b (n + 1) (upd f x v) ∧ w.grownBy w' (some b) ∧ w'.heap.size = w.heap.size := by
  obtain ⟨es, clock, hb, E, hs⟩ := H
  rcases T.find w x es.toList E.keys with ⟨h1, h2⟩ | ⟨j, e0, h1, h2, h3⟩
  · refine ⟨setBlock w b (.map (es.push ⟨T.kv x, v, clock⟩) (clock + 1)), ?_, ⟨_, _, heap_setBlock_same hb _, E.push x v h2, by simp; omega⟩, grown_set hb _, by simp [setBlock]⟩
    simp [Instr.mapUpdate, run_underlying ht, MapKept.run_getObj_map hb, T.check, h1, MapKept.run_setObj_map _ hb, Result.andThen, setBlock]
  · have hj : es[j]? = some e0 := by simpa using h2
    obtain ⟨E', h4, _⟩ := E.set x v h2 h3 (fun e' => { e' with key := T.kv x, val := v }) (fun _ => rfl) rfl rfl
    refine ⟨setBlock w b (.map (es.modify j (fun e' => { e' with key := T.kv x, val := v })) clock), ?_, ⟨_, _, heap_setBlock_same hb _, E', by omega⟩, grown_set hb _, by simp [setBlock]⟩
    simp [Instr.mapUpdate, run_underlying ht, MapKept.run_getObj_map hb, T.check, h1, hj, h3, T.stays w x, MapKept.run_setObj_map _ hb, Result.andThen, setBlock]

theorem MapR.entry [DecidableEq α] {w : World} {b n : Nat} {f : α → Option Value} {t e : TypeId} (H : MapR T w b n f) (ht : P.underlying t = some (.map k e)) {z : Value} (hz : (zeroValue e).run P w = .ok z w) (x : α) :
    ∃ st w', (Instr.mapEntry t (.map (some b)) (T.kv x)).run P w = .ok (.tuple #[(f x).getD z, goInt (st : Nat)]) w' ∧ MapE T w' b (n + 1) x st (upd f x ((f x).getD z)) ∧ w.grownBy w' (some b) ∧ w'.heap.size = w.heap.size := by
  obtain ⟨es, clock, hb, E, hs⟩ := H
  rcases T.find w x es.toList E.keys with ⟨h1, h2⟩ | ⟨j, e0, h1, h2, h3⟩
  · rw [E.none_of h2]
    refine ⟨clock, setBlock w b (.map (es.push ⟨T.kv x, z, clock⟩) (clock + 1)), ?_, ⟨_, _, heap_setBlock_same hb _, E.push x z h2, by simp; omega, ⟨T.kv x, z, clock⟩, by simp, rfl, rfl⟩, grown_set hb _, by simp [setBlock]⟩
    simp [Instr.mapEntry, run_underlying ht, MapKept.run_getObj_map hb, T.check, h1, hz, MapKept.run_setObj_map _ hb, Result.andThen, setBlock]
  · have hj : es[j]? = some e0 := by simpa using h2
    rw [(E.val x e0.val).2 ⟨e0, List.mem_of_getElem? h2, h3, rfl⟩]
    obtain ⟨E', h4, h5⟩ := E.set x e0.val h2 h3 (fun e' => { e' with key := T.kv x }) (fun _ => rfl) rfl rfl
    refine ⟨e0.born, setBlock w b (.map (es.modify j (fun e' => { e' with key := T.kv x })) clock), ?_, ⟨_, _, heap_setBlock_same hb _, E', by omega, _, h5, rfl, rfl⟩, grown_set hb _, by simp [setBlock]⟩
    simp [Instr.mapEntry, run_underlying ht, MapKept.run_getObj_map hb, T.check, h1, hj, h3, T.stays w x, MapKept.run_setObj_map _ hb, Result.andThen, setBlock]

theorem MapE.store [DecidableEq α] {w : World} {b n st : Nat} {f : α → Option Value} {x : α} (H : MapE T w b n x st f) (t : TypeId) (v : Value) :
    ∃ w', (Instr.entryStore t (.map (some b)) (goInt (st : Nat)) v).run P w = .ok () w' ∧ MapR T w' b n (upd f x v) ∧ w.grownBy w' (some b) ∧ w'.heap.size = w.heap.size := by
  obtain ⟨es, clock, hb, E, hs, e, he, hk, hst⟩ := H
  cases hf : es.findIdx? (fun e => (e.born : Int) == (st : Int)) with
  | none =>
    exfalso
    rw [Array.findIdx?_eq_none_iff] at hf
    have := hf e (by simpa using he)
    simp [hst] at this
  | some j =>
    obtain ⟨hlt, hbj, _⟩ := Array.findIdx?_eq_some_iff_getElem.1 hf
    have hbj' : es[j].born = st := by
      have h0 : (es[j].born : Int) = (st : Int) := by simpa using hbj
      omega
    have hj : es.toList[j]? = some es[j] := by simp
    have hkj : es[j].key = T.kv x := by
      have hnd := ((stamped_iff es clock).1 E.stamped).2.1
      obtain ⟨i, hi, hx⟩ := List.getElem_of_mem he
      have hi' : i < es.size := by simpa using hi
      by_cases hij : i = j
      · subst hij
        rw [← hk, ← hx]
        simp
      · exfalso
        have hpw := List.pairwise_iff_getElem.1 hnd
        have e1 : (es.toList.map (·.born))[i]'(by simpa using hi) = st := by simp only [List.getElem_map]; rw [hx, hst]
        have e2 : (es.toList.map (·.born))[j]'(by simpa using hlt) = st := by simpa using hbj'
        rcases Nat.lt_or_gt_of_ne hij with h1 | h1
        · exact hpw i j _ _ h1 (e1.trans e2.symm)
        · exact hpw j i _ _ h1 (e2.trans e1.symm)
    obtain ⟨E', h4, _⟩ := E.set x v hj hkj (fun e' => { e' with val := v }) (fun _ => rfl) hkj rfl
    refine ⟨setBlock w b (.map (es.modify j (fun e' => { e' with val := v })) clock), ?_, ⟨_, _, heap_setBlock_same hb _, E', by omega⟩, grown_set hb _, by simp [setBlock]⟩
    simp [Instr.entryStore, MapKept.run_getObj_map hb, asInt, asIntOf, goInt, hf, MapKept.run_setObj_map _ hb, Result.andThen, setBlock]

end
end Go.Proofs.Ytgnldmheiknbkaa.Mp
namespace Go.Proofs.Ytgnldmheiknbkaa.Mp
open Go.RowKit P1 P5 P6

/-- What is wanted of a key that is a struct of ints. -/
theorem find_of {P : Program} {k : TypeId} {α : Type} [DecidableEq α] (kv : α → Value) (inj : ∀ x y, kv x = kv y → x = y) {fs : Array Field} (hu : P.underlying k = some (.struct fs)) (heq : ∀ (w : World) (x y : α), (Op.equal k (kv x) (kv y)).run P w = .ok (decide (x = y)) w)
    (w : World) (x : α) (es : List MapEntry) (hk : ∀ e ∈ es, ∃ y, e.key = kv y) :
    ((Instr.findKey k (kv x) es).run P w = .ok none w ∧ ∀ e ∈ es, e.key ≠ kv x) ∨ ∃ j e, (Instr.findKey k (kv x) es).run P w = .ok (some (j, e.val)) w ∧ es[j]? = some e ∧ e.key = kv x := by
  have ask : ∀ (l : List MapEntry) (i : Nat), (∀ e ∈ l, ∃ y, e.key = kv y) → ((Instr.findAsking k (kv x) l i).run P w = .ok none w ∧ ∀ e ∈ l, e.key ≠ kv x) ∨ ∃ j e, (Instr.findAsking k (kv x) l i).run P w = .ok (some (i + j, e.val)) w ∧ l[j]? = some e ∧ e.key = kv x := by
    intro l
    induction l with
    | nil => exact fun i _ => .inl ⟨by simp [Instr.findAsking], by simp⟩
    | cons e l ih =>
      intro i hl
      obtain ⟨y, hy⟩ := hl e (by simp)
      by_cases hxy : x = y
      · subst hxy
        refine .inr ⟨0, e, ?_, rfl, hy⟩
        simp [Instr.findAsking, hy, heq, Result.andThen]
      · have hne : e.key ≠ kv x := fun h => hxy (inj _ _ (h.symm.trans hy))
        rcases ih (i + 1) (fun e' he' => hl e' (by simp [he'])) with ⟨h1, h2⟩ | ⟨j, e', h1, h2, h3⟩
        · refine .inl ⟨?_, ?_⟩
          · simp [Instr.findAsking, hy, heq, hxy, Result.andThen, h1]
          · intro e' he'
            rcases List.mem_cons.1 he' with rfl | he'
            · exact hne
            · exact h2 e' he'
        · refine .inr ⟨j + 1, e', ?_, by simpa using h2, h3⟩
          simp [Instr.findAsking, hy, heq, hxy, Result.andThen, h1]
          omega
  cases es with
  | nil => exact .inl ⟨by simp [Instr.findKey, run_underlying hu, Instr.findNow, Result.andThen], by simp⟩
  | cons e l =>
    have hn : Instr.findNow (.struct fs) (kv x) (e :: l) 0 = none := by simp [Instr.findNow, Instr.sameNow]
    rcases ask (e :: l) 0 hk with ⟨h1, h2⟩ | ⟨j, e', h1, h2, h3⟩
    · exact .inl ⟨by simpa [Instr.findKey, run_underlying hu, hn, Result.andThen] using h1, h2⟩
    · exact .inr ⟨j, e', by simpa [Instr.findKey, run_underlying hu, hn, Result.andThen] using h1, h2, h3⟩

theorem equal_fact (w : World) (x y : Fa) : (Op.equal 36 (faV x) (faV y)).run Try.prog w = .ok (decide (x = y)) w := by
  obtain ⟨a, b, c⟩ := x
  obtain ⟨a', b', c'⟩ := y
  by_cases h1 : a = a'
  · subst h1
    by_cases h2 : b = b'
    · subst h2
      by_cases h3 : c = c'
      · subst h3
        simp [Op.equal, Op.maxDepth, go_sem]
      · simp [Op.equal, Op.maxDepth, go_sem, h3]
    · simp [Op.equal, Op.maxDepth, go_sem, h2]
  · simp [Op.equal, Op.maxDepth, go_sem, h1]

theorem equal_role (w : World) (x y : Int × Int) : (Op.equal 27 (roleV x.1 x.2) (roleV y.1 y.2)).run Try.prog w = .ok (decide (x = y)) w := by
  obtain ⟨a, b⟩ := x
  obtain ⟨a', b'⟩ := y
  by_cases h1 : a = a'
  · subst h1
    by_cases h2 : b = b'
    · subst h2
      simp [Op.equal, Op.maxDepth, go_sem]
    · simp [Op.equal, Op.maxDepth, go_sem, h2]
  · simp [Op.equal, Op.maxDepth, go_sem, h1]

/-- Facts as keys. -/
def keyF : KT Try.prog 36 Fa where
  kv := faV
  inj := fun x y h => by
    obtain ⟨a, b, c⟩ := x
    obtain ⟨a', b', c'⟩ := y
    simp at h
    obtain ⟨rfl, rfl, rfl⟩ := h
    rfl
  check := fun em w x => by kernel_rfl
  find := find_of faV (fun x y h => by
    obtain ⟨a, b, c⟩ := x
    obtain ⟨a', b', c'⟩ := y
    simp at h
    obtain ⟨rfl, rfl, rfl⟩ := h
    rfl) Try.underlying36 equal_fact
  stays := fun w x => by simp [Instr.keyThatStays, Instr.sameBits]

/-- Circles as keys. -/
def keyR : KT Try.prog 27 (Int × Int) where
  kv := fun r => roleV r.1 r.2
  inj := fun x y h => by
    obtain ⟨a, b⟩ := x
    obtain ⟨a', b'⟩ := y
    simp at h
    obtain ⟨rfl, rfl⟩ := h
    rfl
  check := fun em w x => by kernel_rfl
  find := find_of (fun r : Int × Int => roleV r.1 r.2) (fun x y h => by
    obtain ⟨a, b⟩ := x
    obtain ⟨a', b'⟩ := y
    simp at h
    obtain ⟨rfl, rfl⟩ := h
    rfl) Try.underlying27 equal_role
  stays := fun w x => by simp [Instr.keyThatStays, Instr.sameBits]
end Go.Proofs.Ytgnldmheiknbkaa.Mp
