/- Roles and words that came in as arguments: what the walk is told of them; no condition.
Slices of structs of ints that came in as arguments: what the walk is told of them; no condition. -/
import Derived.Test.YtgnldmheiknbkaaZK
import Derived.Test.YtgnldmheiknbkaaZM
import Derived.ProofKit
import Derived.OpenShut
import Derived.Deep.Slices
namespace Go.Proofs.Ytgnldmheiknbkaa.Frame
set_option maxRecDepth 8000
open Go.RowKit Go.ChangeShapes Go.WideShapes P5

section
variable {H : Type} {enc : TypeId × Value → H} {P : Program} {w : World} {base : Nat} {spare : Nat → Bool} {held : Bool}

theorem struct2 {t : TypeId} {f0 f1 : Field} {fuel : Nat} {cs : List Value} {x : DataW H × List MemPlace} (ht : P.underlying t = some (.struct #[f0, f1])) (h : DataW.trod enc P w base spare held fuel t cs = some x) :
    ∃ y0 y1 n, cs.length = P.cellsOf t ∧ DataW.trod enc P w base spare held n f0.type ((cs.drop f0.offset).take (P.cellsOf f0.type)) = some y0 ∧
      DataW.trod enc P w base spare held n f1.type ((cs.drop f1.offset).take (P.cellsOf f1.type)) = some y1 := by
  obtain ⟨xs, n, _, rfl, hl, hlen, hf⟩ := DataW.trod_struct ht h
  match xs, hlen with
  | [y0, y1], _ => exact ⟨y0, y1, n, hl, by simpa using hf 0 f0 rfl, by simpa using hf 1 f1 rfl⟩

theorem struct7 {t : TypeId} {f0 f1 f2 f3 f4 f5 f6 : Field} {fuel : Nat} {cs : List Value} {x : DataW H × List MemPlace} (ht : P.underlying t = some (.struct #[f0, f1, f2, f3, f4, f5, f6])) (h : DataW.trod enc P w base spare held fuel t cs = some x) :
    ∃ y0 y1 y2 y3 y4 y5 y6 n, cs.length = P.cellsOf t ∧ DataW.trod enc P w base spare held n f0.type ((cs.drop f0.offset).take (P.cellsOf f0.type)) = some y0 ∧
      DataW.trod enc P w base spare held n f1.type ((cs.drop f1.offset).take (P.cellsOf f1.type)) = some y1 ∧ DataW.trod enc P w base spare held n f2.type ((cs.drop f2.offset).take (P.cellsOf f2.type)) = some y2 ∧
      DataW.trod enc P w base spare held n f3.type ((cs.drop f3.offset).take (P.cellsOf f3.type)) = some y3 ∧ DataW.trod enc P w base spare held n f4.type ((cs.drop f4.offset).take (P.cellsOf f4.type)) = some y4 ∧
      DataW.trod enc P w base spare held n f5.type ((cs.drop f5.offset).take (P.cellsOf f5.type)) = some y5 ∧ DataW.trod enc P w base spare held n f6.type ((cs.drop f6.offset).take (P.cellsOf f6.type)) = some y6 := by
  obtain ⟨xs, n, _, rfl, hl, hlen, hf⟩ := DataW.trod_struct ht h
  match xs, hlen with
  | [y0, y1, y2, y3, y4, y5, y6], _ => exact ⟨y0, y1, y2, y3, y4, y5, y6, n, hl, by simpa using hf 0 f0 rfl, by simpa using hf 1 f1 rfl, by simpa using hf 2 f2 rfl, by simpa using hf 3 f3 rfl, by simpa using hf 4 f4 rfl, by simpa using hf 5 f5 rfl, by simpa using hf 6 f6 rfl⟩
end

theorem trod_role {H : Type} {enc : TypeId × Value → H} {W : World} {base : Nat} {spare : Nat → Bool} {held : Bool} {fuel : Nat} {cs : List Value} {x : DataW H × List MemPlace} (h : DataW.trod enc Try.prog W base spare held fuel 52 cs = some x) :
    ∃ a b, cs = [.int .i64 a, .int .i64 b] ∧ (-9223372036854775808 ≤ a ∧ a ≤ 9223372036854775807) ∧ (-9223372036854775808 ≤ b ∧ b ≤ 9223372036854775807) := by
  have c2 : Try.prog.cellsOf 52 = 2 := by kernel_rfl
  have c1 : Try.prog.cellsOf 3 = 1 := by kernel_rfl
  obtain ⟨y0, y1, n, hl, k0, k1⟩ := struct2 Try.underlying52 h
  rw [c2] at hl
  match cs, hl with
  | [u, v], _ =>
    simp only [c1, List.drop_zero, List.drop_succ_cons, List.take_succ_cons, List.take_zero] at k0 k1
    obtain ⟨a, e0, _, w0⟩ := DataW.trod_int Try.underlying3 k0
    obtain ⟨b, e1, _, w1⟩ := DataW.trod_int Try.underlying3 k1
    simp only [List.cons.injEq, and_true] at e0 e1
    subst e0
    subst e1
    exact ⟨a, b, rfl, bounds_i64 w0, bounds_i64 w1⟩

theorem open_role {H : Type} {enc : TypeId × Value → H} {W : World} {r : Reach} {base : Nat} {spare : Nat → Bool} {held : Bool} {v : Value} {d : DataW H} {ps : List MemPlace} (hval : Value.okWide Try.prog W r base 52 v) (h : DataW.Trod enc Try.prog W 0 spare held 52 v d ps) :
    ∃ a b, v = roleV a b ∧ (-9223372036854775808 ≤ a ∧ a ≤ 9223372036854775807) ∧ (-9223372036854775808 ≤ b ∧ b ≤ 9223372036854775807) := by
  obtain ⟨fuel, hf⟩ := h
  obtain ⟨cs, rfl, hsz⟩ := okWide_struct Try.underlying52 hval
  obtain ⟨a, b, e, h1, h2⟩ := trod_role hf
  refine ⟨a, b, ?_, h1, h2⟩
  have : cs = #[.int .i64 a, .int .i64 b] := Array.toList_inj.1 (by simpa [Value.cells] using e)
  rw [this]

theorem trod_cred {H : Type} {enc : TypeId × Value → H} {W : World} {base : Nat} {spare : Nat → Bool} {held : Bool} {fuel : Nat} {cs : List Value} {x : DataW H × List MemPlace} (h : DataW.trod enc Try.prog W base spare held fuel 54 cs = some x) :
    ∃ c : Cr, cs = (credV c).cells.toList := by
  have c10 : Try.prog.cellsOf 54 = 10 := by kernel_rfl
  have c2 : Try.prog.cellsOf 52 = 2 := by kernel_rfl
  have c1 : Try.prog.cellsOf 3 = 1 := by kernel_rfl
  obtain ⟨y0, y1, y2, y3, y4, y5, y6, n, hl, k0, k1, k2, k3, k4, k5, k6⟩ := struct7 Try.underlying54 h
  rw [c10] at hl
  match cs, hl with
  | [v0, v1, v2, v3, v4, v5, v6, v7, v8, v9], _ =>
    simp only [c1, c2, List.drop_zero, List.drop_succ_cons, List.take_succ_cons, List.take_zero] at k0 k1 k2 k3 k4 k5 k6
    obtain ⟨k, e0, _, _⟩ := DataW.trod_int Try.underlying3 k0
    obtain ⟨ow, on, e1, _⟩ := trod_role k1
    obtain ⟨wh, e2, _, _⟩ := DataW.trod_int Try.underlying3 k2
    obtain ⟨aw, an, e3, _⟩ := trod_role k3
    obtain ⟨bw, bn, e4, _⟩ := trod_role k4
    obtain ⟨u, e5, _, _⟩ := DataW.trod_int Try.underlying3 k5
    obtain ⟨n', e6, _, _⟩ := DataW.trod_int Try.underlying3 k6
    simp only [List.cons.injEq, and_true] at e0 e1 e2 e3 e4 e5 e6
    refine ⟨⟨k, ow, on, wh, aw, an, bw, bn, u, n'⟩, ?_⟩
    simp [Value.cells, e0, e1.1, e1.2, e2, e3.1, e3.2, e4.1, e4.2, e5, e6]

theorem open_cred {H : Type} {enc : TypeId × Value → H} {W : World} {r : Reach} {base : Nat} {spare : Nat → Bool} {held : Bool} {v : Value} {d : DataW H} {ps : List MemPlace} (hval : Value.okWide Try.prog W r base 54 v) (h : DataW.Trod enc Try.prog W 0 spare held 54 v d ps) :
    ∃ c : Cr, v = credV c := by
  obtain ⟨fuel, hf⟩ := h
  obtain ⟨cs, rfl, hsz⟩ := okWide_struct Try.underlying54 hval
  obtain ⟨c, e⟩ := trod_cred hf
  refine ⟨c, ?_⟩
  have : cs = (credV c).cells := Array.toList_inj.1 (by simpa [Value.cells] using e)
  rw [this]
  rfl
end Go.Proofs.Ytgnldmheiknbkaa.Frame
namespace Go.Proofs.Ytgnldmheiknbkaa.Frame
set_option maxRecDepth 8000
open Go.RowKit Go.ChangeShapes Go.WideShapes Go.Deep P1 P5 P6 Rc

/-- A slice of records that came in. -/
theorem open_recs {α : Type} [Inhabited α] (R : RI α) {H : Type} {enc : TypeId × Value → H} {P : Program} {W : World} {spare : Nat → Bool} {held : Bool} {t e : TypeId} {v : Value} {a : Option Addr} {len cap : Nat} {d : DataW H} {ps : List MemPlace} (hv : v = .slice a len cap)
    (ht : P.underlying t = some (.slice e)) (hc : P.cellsOf e = R.n) (hel : ∀ (fuel : Nat) (cs : List Value) (x : DataW H × List MemPlace), DataW.trod enc P W 0 spare held fuel e cs = some x → ∃ y : α, cs = (R.ints y).map (.int .i64 ·))
    (h : DataW.Trod enc P W 0 spare held t v d ps) : ∃ l : List α, RowAt R W v l ∧ l.length = len ∧ len ≤ maxLen := by
  obtain ⟨fuel, hf⟩ := h
  subst hv
  rcases open_slice ht hf with ⟨hcs, _⟩ | ⟨a', len', cap', m, n, D, Pl, hcs, hb, hl, hm, hmm, _, hx⟩
  · simp only [Value.cells, List.cons.injEq, and_true, Value.slice.injEq] at hcs
    obtain ⟨rfl, rfl, rfl⟩ := hcs
    exact ⟨[], .inl ⟨none, 0, rfl, rfl, fun _ => rfl⟩, rfl, Nat.zero_le _⟩
  · simp only [Value.cells, List.cons.injEq, and_true, Value.slice.injEq] at hcs
    obtain ⟨rfl, rfl, rfl⟩ := hcs
    have hlm : len ≤ m := by rw [hmm]; split <;> omega
    have each : ∀ i, i < len → ∃ y : α, W.cells? 0 (a'.add (i * R.n)) R.n = some ((R.ints y).map (.int .i64 ·)) := fun i hi => by
      obtain ⟨cs', h1, h2⟩ := hx i (by omega)
      obtain ⟨y, rfl⟩ := hel _ _ _ h2
      rw [hc] at h1
      exact ⟨y, h1⟩
    obtain ⟨Y, hY⟩ := choose_lt each
    refine ⟨(List.range len).map Y, ?_, by simp, by omega⟩
    cases len with
    | zero => exact .inl ⟨some a', cap, rfl, by simp, fun h => by cases h⟩
    | succ len =>
      have hcell : ∀ i, i < len + 1 → ∀ k, k < R.n → W.cell? ((a'.add (i * R.n)).add k) = ((R.ints (Y i)).map (.int .i64 ·))[k]? := fun i hi k hk => by
        have := World.cells?_some (hY i hi)
        exact this.2.2 k hk
      have h00 := hcell 0 (by omega) 0 R.pos
      obtain ⟨g, off, f⟩ := a'
      have hsome : ∃ u, W.cell? ((Addr.add ⟨g, off, f⟩ (0 * R.n)).add 0) = some u := by
        rw [h00]
        exact ⟨_, List.getElem?_eq_getElem (by rw [List.length_map, R.len]; exact R.pos)⟩
      obtain ⟨u, hu⟩ := hsome
      have hspot : f = none := by simpa [Addr.add] using World.cell?_spot hu
      subst hspot
      have hblk : g < W.heap.size := by simpa [Addr.add] using World.block_lt_of_cell? _ _ hu
      refine .inr ⟨g, off, cap, by simp, hblk, fun k hk => ?_⟩
      simp only [List.length_map, List.length_range] at hk
      have hpos := R.pos
      have hdiv : k / R.n < len + 1 := (Nat.div_lt_iff_lt_mul hpos).2 hk
      have hmod : k % R.n < R.n := Nat.mod_lt _ hpos
      have hsplit : k / R.n * R.n + k % R.n = k := by rw [Nat.mul_comm]; exact Nat.div_add_mod k R.n
      have h1 := hcell (k / R.n) hdiv (k % R.n) hmod
      rw [add_plain, add_plain, Nat.add_assoc, hsplit] at h1
      rw [h1]
      simp only [cellsI, List.getElem?_map]
      congr 1
      conv => rhs; rw [← hsplit, flat_get R _ (k / R.n) (k % R.n) (by simpa using hdiv) hmod]
      simp

instance : Inhabited Fa := ⟨⟨0, 0, 0⟩⟩
instance : Inhabited Cr := ⟨Cr.zero⟩

theorem trod_fact {H : Type} {enc : TypeId × Value → H} {W : World} {base : Nat} {spare : Nat → Bool} {held : Bool} {fuel : Nat} {cs : List Value} {x : DataW H × List MemPlace} (h : DataW.trod enc Try.prog W base spare held fuel 97 cs = some x) :
    ∃ y : Fa, cs = (faR.ints y).map (.int .i64 ·) := by
  have c3 : Try.prog.cellsOf 97 = 3 := by kernel_rfl
  have c2 : Try.prog.cellsOf 52 = 2 := by kernel_rfl
  have c1 : Try.prog.cellsOf 3 = 1 := by kernel_rfl
  obtain ⟨y0, y1, n, hl, k0, k1⟩ := struct2 Try.underlying97 h
  rw [c3] at hl
  match cs, hl with
  | [u, v, z], _ =>
    simp only [c1, c2, List.drop_zero, List.drop_succ_cons, List.take_succ_cons, List.take_zero] at k0 k1
    obtain ⟨a, b, e0, _⟩ := trod_role k0
    obtain ⟨c, e1, _, _⟩ := DataW.trod_int Try.underlying3 k1
    simp only [List.cons.injEq, and_true] at e0 e1
    exact ⟨⟨a, b, c⟩, by simp [faR, e0.1, e0.2, e1]⟩

theorem open_facts {H : Type} {enc : TypeId × Value → H} {W : World} {r : Reach} {base : Nat} {spare : Nat → Bool} {held : Bool} {v : Value} {d : DataW H} {ps : List MemPlace} (hval : Value.okWide Try.prog W r base 51 v) (h : DataW.Trod enc Try.prog W 0 spare held 51 v d ps) :
    ∃ l : List Fa, RowAt faR W v l ∧ l.length ≤ maxLen := by
  obtain ⟨a, len, cap, hv⟩ := okWide_slice Try.underlying51 hval
  obtain ⟨l, h1, h2, h3⟩ := open_recs faR hv Try.underlying51 (by kernel_rfl) (fun _ _ _ hx => trod_fact hx) h
  exact ⟨l, h1, by omega⟩

theorem open_creds {H : Type} {enc : TypeId × Value → H} {W : World} {r : Reach} {base : Nat} {spare : Nat → Bool} {held : Bool} {v : Value} {d : DataW H} {ps : List MemPlace} (hval : Value.okWide Try.prog W r base 60 v) (h : DataW.Trod enc Try.prog W 0 spare held 60 v d ps) :
    ∃ l : List Cr, RowAt crR W v l ∧ l.length ≤ maxLen := by
  obtain ⟨a, len, cap, hv⟩ := okWide_slice Try.underlying60 hval
  obtain ⟨l, h1, h2, h3⟩ := open_recs crR hv Try.underlying60 (by kernel_rfl) (fun _ _ _ hx => by
    obtain ⟨c, hc⟩ := trod_cred hx
    exact ⟨c, hc⟩) h
  exact ⟨l, h1, by omega⟩
end Go.Proofs.Ytgnldmheiknbkaa.Frame
