/- Rings and peers that came in as arguments: what the walk is told of them; no condition.
A ring that came in as an argument: what the walk is told of it; no condition. -/
import Derived.Test.YteladljgnbfcnaaZD
import Derived.Test.YteladljgnbfcnaaZRC
import Derived.Deep.Strs
import Derived.ProofKit
import Derived.OpenShut
namespace Go.Proofs.Yteladljgnbfcnaa.Frame
set_option maxRecDepth 8000
open Go.RowKit Go.ChangeShapes Go.WideShapes Go.Deep P1 P9 Da

section
variable {H : Type} {enc : TypeId × Value → H} {W : World} {spare : Nat → Bool} {held : Bool}

/-- The cells of a record read as its data. -/
def RecReads (W : World) (cs : List Value) (ds : List Dt) : Prop := ∀ (i : Nat) (d : Dt), ds[i]? = some d → ∃ u, cs[i]? = some u ∧ Reads W u d

/-- A slice of records that came in. -/
theorem trod_rows {α : Type} (y0 : α) (f : α → List Dt) {n : Nat} (hn : 0 < n) (hf : ∀ x, (f x).length = n) {S E : TypeId} (e0 : TypeId) (hu : Try.prog.underlying S = some (.slice E)) (hc : Try.prog.cellsOf E = n) (P : α → Prop)
    (step : ∀ {fuel : Nat} {cs : List Value} {x : DataW H × List MemPlace}, DataW.trod enc Try.prog W 0 spare held fuel E cs = some x → ∃ y, P y ∧ RecReads W cs (f y))
    {fuel : Nat} {cs : List Value} {x : DataW H × List MemPlace} (h : DataW.trod enc Try.prog W 0 spare held fuel S cs = some x) :
    ∃ (v : Value) (l : List α), cs = [v] ∧ Reads W v (.row e0 n (l.flatMap f)) ∧ l.length ≤ maxLen ∧ ∀ y ∈ l, P y := by
  rcases open_slice hu h with ⟨hcs, _⟩ | ⟨a, len, cap, m, q, D, Pl, hcs, hb, hl, hm, hmm, _, hx⟩
  · refine ⟨_, [], hcs, ?_, by simp, by simp⟩
    unfold Reads
    exact ⟨none, 0, 0, rfl, by simp, by unfold ReadsAll; trivial⟩
  · have hlm : len ≤ m := by rw [hmm]; split <;> omega
    have each : ∀ i, i < len → ∃ y : α × List Value, W.cells? 0 (a.add (i * n)) n = some y.2 ∧ P y.1 ∧ RecReads W y.2 (f y.1) := fun i hi => by
      obtain ⟨cs', h1, h2⟩ := hx i (by omega)
      obtain ⟨y, h3, h4⟩ := step h2
      rw [hc] at h1
      exact ⟨(y, cs'), h1, h3, h4⟩
    haveI : Inhabited (α × List Value) := ⟨(y0, [])⟩
    obtain ⟨Y, hY⟩ := choose_lt each
    refine ⟨_, (List.range len).map fun i => (Y i).1, hcs, ?_, by simp; omega, ?_⟩
    · have hll : ((List.range len).map fun i => (Y i).1).length = len := by simp
      unfold Reads
      refine ⟨some a, len, cap, rfl, by rw [flatMap_length f n hf, hll], ReadsAll.of (fun idx d hd => ?_)⟩
      have hlt : idx < len * n := by
        have := (List.getElem?_eq_some_iff.1 hd).1
        rw [flatMap_length f n hf, hll] at this
        exact this
      have h1 : idx / n < len := (Nat.div_lt_iff_lt_mul hn).2 hlt
      have h2 : idx % n < n := Nat.mod_lt _ hn
      have h3 : idx / n * n + idx % n = idx := by rw [Nat.mul_comm]; exact Nat.div_add_mod idx n
      rw [← h3, flatMap_get f n hf _ (idx / n) (idx % n) (by rw [hll]; exact h1) h2] at hd
      simp only [List.getElem_map, List.getElem_range] at hd
      obtain ⟨k1, k2, k3⟩ := hY _ h1
      obtain ⟨u, k4, k5⟩ := k3 _ d hd
      have hcell := (World.cells?_some k1).2.2 (idx % n) h2
      rw [k4] at hcell
      obtain ⟨g, off, sp⟩ := a
      obtain ⟨j1, _, j3⟩ := hY 0 (Nat.lt_of_le_of_lt (Nat.zero_le _) h1)
      obtain ⟨u0, j4, _⟩ := j3 0 _ (List.getElem?_eq_getElem (by rw [hf]; exact hn))
      have h00 := (World.cells?_some j1).2.2 0 hn
      rw [j4] at h00
      have hspot : sp = none := by simpa [Addr.add] using World.cell?_spot h00
      subst hspot
      rw [add_plain, add_plain] at hcell
      have hblk : g < W.heap.size := World.block_lt_of_cell? _ _ hcell
      refine ⟨g, off, u, rfl, hblk, ?_, k5⟩
      rw [Nat.zero_add, ← h3, ← Nat.add_assoc]
      exact hcell
    · intro y hy
      simp only [List.mem_map, List.mem_range] at hy
      obtain ⟨i, hi, rfl⟩ := hy
      exact (hY i hi).2.1

theorem trod_intsD {fuel : Nat} {cs : List Value} {x : DataW H × List MemPlace} (h : DataW.trod enc Try.prog W 0 spare held fuel 33 cs = some x) : ∃ (v : Value) (l : List Int), cs = [v] ∧ Reads W v (intsD l) ∧ l.length ≤ maxLen := by
  obtain ⟨v, l, h1, h2, h3, -⟩ := trod_rows (0 : Int) (fun n => [intD n]) (n := 1) (by decide) (fun _ => rfl) 3 Try.underlying33 (by kernel_rfl) (fun _ => True) (fun {fuel cs x} hx => by
    obtain ⟨n, e, _⟩ := DataW.trod_int Try.underlying3 hx
    refine ⟨n, trivial, fun i d hd => ?_⟩
    match i, hd with
    | 0, hd =>
      obtain rfl : intD n = d := by simpa using hd
      exact ⟨.int .i64 n, by rw [e]; rfl, by unfold intD Reads; rfl⟩) h
  refine ⟨v, l, h1, ?_, h3⟩
  have e : l.flatMap (fun n => [intD n]) = l.map intD := by
    clear h1 h2 h3
    induction l with
    | nil => rfl
    | cons y l ih => rw [List.flatMap_cons, List.map_cons, ih]; rfl
  rw [e] at h2
  exact h2

theorem trod_itemsD {fuel : Nat} {cs : List Value} {x : DataW H × List MemPlace} (h : DataW.trod enc Try.prog W 0 spare held fuel 95 cs = some x) : ∃ (v : Value) (l : List It), cs = [v] ∧ (∀ T, Reads W v (itemsD T l)) ∧ FitsI l := by
  have each : ∀ e0 : TypeId, ∃ (v : Value) (l : List It), cs = [v] ∧ Reads W v (.row e0 2 (l.flatMap itC)) ∧ l.length ≤ maxLen ∧ ∀ y ∈ l, y.t.length ≤ 9223372036854775807 := fun e0 =>
    trod_rows (⟨[], false⟩ : It) itC (n := 2) (by decide) (fun _ => rfl) e0 Try.underlying95 (by kernel_rfl) (fun y => y.t.length ≤ 9223372036854775807) (fun {fuel cs x} hx => by
      have c2 : Try.prog.cellsOf 107 = 2 := by kernel_rfl
      have cs1 : Try.prog.cellsOf 9 = 1 := by kernel_rfl
      have cb1 : Try.prog.cellsOf 4 = 1 := by kernel_rfl
      obtain ⟨z0, z1, q, _, hl, k0, k1⟩ := trod_struct2 Try.underlying107 hx
      rw [c2] at hl
      match cs, hl with
      | [a, b], _ =>
        simp only [cs1, cb1, List.drop_zero, List.drop_succ_cons, List.take_succ_cons, List.take_zero] at k0 k1
        obtain ⟨s, e0, _, hs⟩ := DataW.trod_string Try.underlying9 k0
        obtain ⟨g, e1, _⟩ := DataW.trod_bool Try.underlying4 k1
        simp only [List.cons.injEq, and_true] at e0 e1
        subst e0 e1
        obtain ⟨t, ht⟩ : ∃ t : List UInt8, s = ⟨t.toArray⟩ := ⟨s.data.toList, by simp⟩
        subst ht
        have hsz : (⟨t.toArray⟩ : ByteArray).size = t.length := rfl
        rw [hsz] at hs
        unfold maxLen at hs
        refine ⟨⟨t, g⟩, by show t.length ≤ _; omega, fun i d hd => ?_⟩
        match i, hd with
        | 0, hd =>
          obtain rfl : textD t = d := by simpa [itC] using hd
          exact ⟨_, rfl, by unfold textD Reads; rfl⟩
        | 1, hd =>
          obtain rfl : boolD g = d := by simpa [itC] using hd
          exact ⟨_, rfl, by unfold boolD Reads; rfl⟩) h
  obtain ⟨v, l, h1, h2, h3, h4⟩ := each 0
  unfold maxLen at h3
  refine ⟨v, l, h1, fun T => ?_, by omega, h4⟩
  unfold itemsD
  unfold Reads at h2 ⊢
  exact h2
/-- The types of rows that came in. -/
def TL : Tys := ⟨107, 97, 59⟩

theorem trod_shelvesD {fuel : Nat} {cs : List Value} {x : DataW H × List MemPlace} (h : DataW.trod enc Try.prog W 0 spare held fuel 57 cs = some x) : ∃ (v : Value) (l : List Shf), cs = [v] ∧ Reads W v (shelvesD TL l) ∧ FitsS l := by
  obtain ⟨v, l, h1, h2, h3, h4⟩ := trod_rows (⟨0, []⟩ : Shf) (shC TL) (n := 2) (by decide) (fun _ => rfl) 97 Try.underlying57 (by kernel_rfl) (fun y => FitsI y.items) (fun {fuel cs x} hx => by
    have c2 : Try.prog.cellsOf 97 = 2 := by kernel_rfl
    have ci1 : Try.prog.cellsOf 3 = 1 := by kernel_rfl
    have cs1 : Try.prog.cellsOf 95 = 1 := by kernel_rfl
    obtain ⟨z0, z1, q, _, hl, k0, k1⟩ := trod_struct2 Try.underlying97 hx
    rw [c2] at hl
    match cs, hl with
    | [a, b], _ =>
      simp only [ci1, cs1, List.drop_zero, List.drop_succ_cons, List.take_succ_cons, List.take_zero] at k0 k1
      obtain ⟨n, e0, _⟩ := DataW.trod_int Try.underlying3 k0
      obtain ⟨u, its, e1, hr, hf⟩ := trod_itemsD k1
      simp only [List.cons.injEq, and_true] at e0 e1
      subst e0 e1
      refine ⟨⟨n, its⟩, hf, fun i d hd => ?_⟩
      match i, hd with
      | 0, hd =>
        obtain rfl : intD n = d := by simpa [shC] using hd
        exact ⟨_, rfl, by unfold intD Reads; rfl⟩
      | 1, hd =>
        obtain rfl : itemsD TL its = d := by simpa [shC] using hd
        exact ⟨_, rfl, hr TL⟩) h
  unfold maxLen at h3
  exact ⟨v, l, h1, h2, by omega, h4⟩

theorem trod_struct6 {P : Program} {t : TypeId} {f0 f1 f2 f3 f4 f5 : Field} {fuel : Nat} {cs : List Value} {x : DataW H × List MemPlace} (ht : P.underlying t = some (.struct #[f0, f1, f2, f3, f4, f5])) (h : DataW.trod enc P W 0 spare held fuel t cs = some x) :
    ∃ y0 y1 y2 y3 y4 y5 n, cs.length = P.cellsOf t ∧ DataW.trod enc P W 0 spare held n f0.type ((cs.drop f0.offset).take (P.cellsOf f0.type)) = some y0 ∧ DataW.trod enc P W 0 spare held n f1.type ((cs.drop f1.offset).take (P.cellsOf f1.type)) = some y1 ∧
      DataW.trod enc P W 0 spare held n f2.type ((cs.drop f2.offset).take (P.cellsOf f2.type)) = some y2 ∧ DataW.trod enc P W 0 spare held n f3.type ((cs.drop f3.offset).take (P.cellsOf f3.type)) = some y3 ∧ DataW.trod enc P W 0 spare held n f4.type ((cs.drop f4.offset).take (P.cellsOf f4.type)) = some y4 ∧
      DataW.trod enc P W 0 spare held n f5.type ((cs.drop f5.offset).take (P.cellsOf f5.type)) = some y5 := by
  obtain ⟨xs, n, _, rfl, hl, hlen, hf⟩ := DataW.trod_struct ht h
  match xs, hlen with
  | [y0, y1, y2, y3, y4, y5], _ => exact ⟨y0, y1, y2, y3, y4, y5, n, hl, by simpa using hf 0 f0 rfl, by simpa using hf 1 f1 rfl, by simpa using hf 2 f2 rfl, by simpa using hf 3 f3 rfl, by simpa using hf 4 f4 rfl, by simpa using hf 5 f5 rfl⟩

theorem trod_peerD {fuel : Nat} {cs : List Value} {x : DataW H × List MemPlace} (h : DataW.trod enc Try.prog W 0 spare held fuel 59 cs = some x) : ∃ p : Pr, FitsP p ∧ ∃ u3 u4 u5, cs = [.int .i64 p.id, .bool p.here, .int .i64 p.ahead, u3, u4, u5] ∧ Reads W u3 (intsD p.behind) ∧ Reads W u4 (intsD p.fingers) ∧ Reads W u5 (shelvesD TL p.shelves) := by
  have c6 : Try.prog.cellsOf 59 = 6 := by kernel_rfl
  have ci1 : Try.prog.cellsOf 3 = 1 := by kernel_rfl
  have cb1 : Try.prog.cellsOf 4 = 1 := by kernel_rfl
  have cl1 : Try.prog.cellsOf 33 = 1 := by kernel_rfl
  have cs1 : Try.prog.cellsOf 57 = 1 := by kernel_rfl
  obtain ⟨y0, y1, y2, y3, y4, y5, n, hl, k0, k1, k2, k3, k4, k5⟩ := trod_struct6 Try.underlying59 h
  rw [c6] at hl
  match cs, hl with
  | [a0, a1, a2, a3, a4, a5], _ =>
    simp only [ci1, cb1, cl1, cs1, List.drop_zero, List.drop_succ_cons, List.take_succ_cons, List.take_zero] at k0 k1 k2 k3 k4 k5
    obtain ⟨id, e0, _⟩ := DataW.trod_int Try.underlying3 k0
    obtain ⟨here, e1, _⟩ := DataW.trod_bool Try.underlying4 k1
    obtain ⟨ahead, e2, _⟩ := DataW.trod_int Try.underlying3 k2
    obtain ⟨u3, be, e3, r3, f3⟩ := trod_intsD k3
    obtain ⟨u4, fi, e4, r4, f4⟩ := trod_intsD k4
    obtain ⟨u5, sh, e5, r5, f5⟩ := trod_shelvesD k5
    simp only [List.cons.injEq, and_true] at e0 e1 e2 e3 e4 e5
    subst e0 e1 e2 e3 e4 e5
    unfold maxLen at f3 f4
    exact ⟨⟨id, here, ahead, be, fi, sh⟩, ⟨by show be.length ≤ _; omega, by show fi.length ≤ _; omega, f5⟩, _, _, _, rfl, r3, r4, r5⟩

theorem trod_peersD {fuel : Nat} {cs : List Value} {x : DataW H × List MemPlace} (h : DataW.trod enc Try.prog W 0 spare held fuel 22 cs = some x) : ∃ (v : Value) (l : List Pr), cs = [v] ∧ PeersAt W v l ∧ l.length ≤ 9223372036854775807 ∧ ∀ p ∈ l, FitsP p := by
  obtain ⟨v, l, h1, h2, h3, h4⟩ := trod_rows (⟨0, false, 0, [], [], []⟩ : Pr) (prC TL) (n := 6) (by decide) (fun _ => rfl) 59 Try.underlying22 (by kernel_rfl) FitsP (fun {fuel cs x} hx => by
    obtain ⟨p, hp, u3, u4, u5, rfl, r3, r4, r5⟩ := trod_peerD hx
    refine ⟨p, hp, fun i d hd => ?_⟩
    match i, hd with
    | 0, hd =>
      obtain rfl : intD p.id = d := by simpa [prC] using hd
      exact ⟨_, rfl, by unfold intD Reads; rfl⟩
    | 1, hd =>
      obtain rfl : boolD p.here = d := by simpa [prC] using hd
      exact ⟨_, rfl, by unfold boolD Reads; rfl⟩
    | 2, hd =>
      obtain rfl : intD p.ahead = d := by simpa [prC] using hd
      exact ⟨_, rfl, by unfold intD Reads; rfl⟩
    | 3, hd =>
      obtain rfl : intsD p.behind = d := by simpa [prC] using hd
      exact ⟨_, rfl, r3⟩
    | 4, hd =>
      obtain rfl : intsD p.fingers = d := by simpa [prC] using hd
      exact ⟨_, rfl, r4⟩
    | 5, hd =>
      obtain rfl : shelvesD TL p.shelves = d := by simpa [prC] using hd
      exact ⟨_, rfl, r5⟩) h
  unfold maxLen at h3
  exact ⟨v, l, h1, ⟨TL, h2⟩, by omega, h4⟩
end
end Go.Proofs.Yteladljgnbfcnaa.Frame
namespace Go.Proofs.Yteladljgnbfcnaa.Frame
set_option maxRecDepth 8000
open Go.RowKit Go.ChangeShapes Go.WideShapes Go.Deep P1 P9 Da

theorem open_ring {H : Type} {enc : TypeId × Value → H} {W : World} {r : Reach} {base : Nat} {spare : Nat → Bool} {held : Bool} {v : Value} {d : DataW H} {ps : List MemPlace} (hval : Value.okWide Try.prog W r base 24 v) (h : DataW.Trod enc Try.prog W 0 spare held 24 v d ps) :
    ∃ (u : Value) (l : List Pr), v = .agg #[u] ∧ PeersAt W u l ∧ l.length ≤ 9223372036854775807 ∧ ∀ p ∈ l, FitsP p := by
  obtain ⟨fuel, hf⟩ := h
  obtain ⟨cs, rfl, hsz⟩ := okWide_struct Try.underlying24 hval
  have c1 : Try.prog.cellsOf 24 = 1 := by kernel_rfl
  have c2 : Try.prog.cellsOf 22 = 1 := by kernel_rfl
  rw [c1] at hsz
  obtain ⟨xs, n, _, _, _, hlen, hx⟩ := DataW.trod_struct Try.underlying24 hf
  obtain ⟨l⟩ := cs
  match l, hsz, xs, hlen with
  | [u], _, [y0], _ =>
    have k0 : DataW.trod enc Try.prog W 0 spare held n 22 (([u].drop 0).take (Try.prog.cellsOf 22)) = some y0 := hx 0 _ rfl
    rw [c2] at k0
    obtain ⟨u', l, e, h1, h2, h3⟩ := trod_peersD k0
    obtain rfl : u = u' := by simpa using e
    exact ⟨u, l, rfl, h1, h2, h3⟩
end Go.Proofs.Yteladljgnbfcnaa.Frame
