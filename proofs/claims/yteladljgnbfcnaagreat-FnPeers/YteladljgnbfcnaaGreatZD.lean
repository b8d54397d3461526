/- The frame that the laws' proofs share: a call that returns true and leaves all old memory as it was meets a law's row, whatever its parameters' types; no condition.
Slices of texts: what they read as; rows of texts that a call made; no condition.
The laws' own helpers over slices of ints: toIntS, eqIntS, markIntS, heldIntS; condition: at most 2^30 of them.
The cursor of the draws: what is drawn is some number within its bounds; the cursor alone is written.
The laws' own helpers over rows of texts: markText, eqStringS, markStringS, heldStringS; conditions: rows of at most 2^20 texts that are owned. -/
import Derived.Test.YteladljgnbfcnaaGreatZA
import Derived.Test.YteladljgnbfcnaaGreatRows
import Derived.Test.YteladljgnbfcnaaGreatZP
import Derived.OpenVars
import Derived.ProofKit
import Derived.OpenShut
import Derived.WalkKit
import Derived.Laws.Bits128
namespace Go.Proofs.YteladljgnbfcnaaGreat.Frame
open Go.RowKit Go.ChangeShapes Go.WideElems

/-- One closed fact: each parameter's type can be read and is a row of the table. -/
def rowed (P : Program) (ts : List TypeId) : Bool := ts.all fun t => P.readableRec t && decide (t < P.types.size)

theorem below_trodAll {H : Type} {enc : TypeId × Value → H} {P : Program} (hl : laidOutB P = true) {W W' : World} (hb : Below W.heap.size W W') :
    ∀ {ts : List TypeId} {vs : List Value} {ds : List (DataW H)} {ps : List MemPlace}, rowed P ts = true → DataW.TrodAll enc P W 0 (fun _ => true) true ts vs ds ps → (∀ x ∈ ps, x.block < W.heap.size) →
      DataW.TrodAll enc P W' 0 (fun b => decide (b < W.heap.size)) true ts vs ds ps
  | [], [], [], _, _, h, _ => h
  | [], [], _ :: _, _, _, h, _ => h.elim
  | [], _ :: _, [], _, _, h, _ => h.elim
  | [], _ :: _, _ :: _, _, _, h, _ => h.elim
  | _ :: _, [], [], _, _, h, _ => h.elim
  | _ :: _, [], _ :: _, _, _, h, _ => h.elim
  | _ :: _, _ :: _, [], _, _, h, _ => h.elim
  | t :: ts, v :: vs, d :: ds, ps, hr, h, hlt => by
    obtain ⟨p, q, h1, h2, rfl⟩ := h
    simp only [rowed, List.all_cons, Bool.and_eq_true, decide_eq_true_eq] at hr
    exact ⟨p, q, Below.trod hl hr.1.1 hr.1.2 h1 hb (fun x hx => hlt x (by simp [hx])), below_trodAll hl hb hr.2 h2 (fun x hx => hlt x (by simp [hx])), rfl⟩

/-- A law's row is met by a call that answers true and turns nothing that was there. -/
theorem post_law {H : Type} {enc : TypeId × Value → H} {P : Program} {fn : Func} {s : ChangeSpec} {W W' : World} {args : Array Value} {ds gs : List (DataW H)} {before : List MemPlace} {tb : TypeId}
    (hl : laidOutB P = true) (hp : rowed P fn.params.toList = true) (hv : varsRowed P s.vars = true) (hres : fn.resultTypes = #[tb]) (htb : P.underlying tb = some .bool)
    (hW : DataW.Whole enc P fn.params.toList s.vars false W args.toList ds gs before)
    (hfn : s.fn H (ds ++ gs) = { results := [.lit (.bool true)], args := ds, vars := gs }) (hb : Below W.heap.size W W') :
    s.post enc P fn false true false false W args (.bool true) W' := by
  have hW0 := hW
  have hlt := hW.lt
  obtain ⟨p, q, hA, hV, rfl, hfz, hnd⟩ := hW
  refine ⟨ds, gs, p ++ q, [], p, q, hW0, ?_, ?_, ?_, hb.frame _, fun h => by cases h⟩
  · rw [hres, hfn]
    exact trodAll_mk1 (shut_bool htb true)
  · rw [hfn]
    exact below_trodAll hl hb hp hA (fun x hx => hlt x (by simp [hx]))
  · rw [hfn]
    exact Below.trodVars hl hb hv hV

/-- What the walk is told of a slice of integers that came in: it is nil; or it leads to a row of 'cap' cells that hold the numbers zs, each fitting its kind. -/
def IsRow (k : IntKind) (w : World) (a : Option Addr) (len cap : Nat) (zs : List Int) : Prop :=
  (a = none ∧ len = 0 ∧ cap = 0 ∧ zs = []) ∨
  ∃ x, a = some x ∧ len ≤ cap ∧ cap ≤ maxLen ∧ zs.length = cap ∧ (∀ i, i < zs.length → w.cell? (x.add i) = some (.int k (zs.getD i 0))) ∧ ∀ n ∈ zs, (Lit.int k n).wf = true

theorem open_row {H : Type} {enc : TypeId × Value → H} {P : Program} {W : World} {base : Nat} {held : Bool} {t e : TypeId} {k : IntKind} {a : Option Addr} {len cap : Nat} {d : DataW H} {ps : List MemPlace}
    (ht : P.underlying t = some (.slice e)) (he : P.underlying e = some (.int k)) (hc : P.cellsOf e = 1) (h : DataW.Trod enc P W base (fun _ => true) held t (.slice a len cap) d ps) : ∃ zs, IsRow k W a len cap zs := by
  obtain ⟨fuel, hf⟩ := h
  rcases open_ints ht he hc hf with ⟨hcs, _⟩ | ⟨x, l, c, zs, hcs, _, hl, hm, hz, _, hcell, hwz⟩
  · simp [Value.cells] at hcs
    obtain ⟨rfl, rfl, rfl⟩ := hcs
    exact ⟨[], .inl ⟨rfl, rfl, rfl, rfl⟩⟩
  · simp [Value.cells] at hcs
    obtain ⟨rfl, rfl, rfl⟩ := hcs
    exact ⟨zs, .inr ⟨_, rfl, hl, hm, by simpa using hz, hcell, hwz⟩⟩

end Go.Proofs.YteladljgnbfcnaaGreat.Frame
namespace Go.Proofs.YteladljgnbfcnaaGreat.P1
open Go.RowKit

/-- v is a slice that reads as the texts l. -/
def TextsAt (w : World) (v : Value) (l : List (List UInt8)) : Prop :=
  ∃ a cap, v = .slice a l.length cap ∧ ∀ j (hj : j < l.length), ∃ g off, a = some ⟨g, off, none⟩ ∧ g < w.heap.size ∧ w.cell? ⟨g, off + j, none⟩ = some (.string ⟨(l[j]).toArray⟩)

theorem TextsAt.below {B : Nat} {w w' : World} {v : Value} {l : List (List UInt8)} (h : TextsAt w v l) (hb : Below B w w') (hB : w.heap.size ≤ B) : TextsAt w' v l := by
  obtain ⟨a, cap, h1, h2⟩ := h
  refine ⟨a, cap, h1, fun j hj => ?_⟩
  obtain ⟨g, off, e1, e2, e3⟩ := h2 j hj
  exact ⟨g, off, e1, Nat.lt_of_lt_of_le e2 hb.size, by rw [hb.cell (p := ⟨g, off + j, none⟩) (by show g < B; omega)]; exact e3⟩

/-- The cells of a list of texts. -/
def cellsS (l : List (List UInt8)) : List Value := l.map fun b => Value.string ⟨b.toArray⟩

theorem TextsAt.of_own {B : Nat} {w : World} {e : TypeId} {v : Value} {l : List (List UInt8)} (h : w.ownsRow B e 1 v l.length (cellsS l)) : TextsAt w v l := by
  have h0 := h
  rcases h.2 with ⟨rfl, hn⟩ | ⟨g, cap, cur, rfl, h1, h2, -, -, -, -⟩
  · exact ⟨none, 0, by rw [hn], fun j hj => by omega⟩
  · exact ⟨_, cap, rfl, fun j hj => ⟨g, 0, rfl, (Array.getElem?_eq_some_iff.1 h2).1, by rw [Nat.zero_add, h0.cellAt j (by omega)]; simp [cellsS, hj]⟩⟩

theorem TextsAt.drewN {w : World} {v : Value} {l : List (List UInt8)} (h : TextsAt w v l) (n : Nat) : TextsAt (w.drewN n) v l := h

end Go.Proofs.YteladljgnbfcnaaGreat.P1
namespace Go.Proofs.YteladljgnbfcnaaGreat.P1
set_option maxRecDepth 8000
open Go.RowKit

/-- v is a slice that reads as the ints l. -/
def IntsAt (w : World) (v : Value) (l : List Int) : Prop :=
  ∃ a cap, v = .slice a l.length cap ∧ ∀ j (hj : j < l.length), ∃ g off, a = some ⟨g, off, none⟩ ∧ g < w.heap.size ∧ w.cell? ⟨g, off + j, none⟩ = some (.int .i64 l[j])

theorem cell_lt' {w : World} {a : Addr} {v : Value} (h : w.cell? a = some v) : a.block < w.heap.size := by
  unfold World.cell? at h
  rcases Nat.lt_or_ge a.block w.heap.size with h' | h'
  · exact h'
  · rw [Array.getElem?_eq_none h'] at h; simp at h

theorem IntsAt.below {B : Nat} {w w' : World} {v : Value} {l : List Int} (h : IntsAt w v l) (hb : Below B w w') (hB : w.heap.size ≤ B) : IntsAt w' v l := by
  obtain ⟨a, cap, h1, h2⟩ := h
  refine ⟨a, cap, h1, fun j hj => ?_⟩
  obtain ⟨g, off, e1, e2, e3⟩ := h2 j hj
  exact ⟨g, off, e1, Nat.lt_of_lt_of_le e2 hb.size, by rw [hb.cell (p := ⟨g, off + j, none⟩) (by show g < B; omega)]; exact e3⟩

theorem IntsAt.of_own {B : Nat} {w : World} {e : TypeId} {v : Value} {l : List Int} (h : w.ownsRow B e 1 v l.length (cellsI l)) : IntsAt w v l := by
  have h0 := h
  rcases h.2 with ⟨rfl, hn⟩ | ⟨g, cap, cur, rfl, h1, h2, -, -, -, -⟩
  · exact ⟨none, 0, by rw [hn], fun j hj => by omega⟩
  · exact ⟨_, cap, rfl, fun j hj => ⟨g, 0, rfl, (Array.getElem?_eq_some_iff.1 h2).1, by rw [Nat.zero_add, h0.cellAt j (by omega)]; simp [cellsI, hj]⟩⟩

theorem IntsAt.drewN {w : World} {v : Value} {l : List Int} (h : IntsAt w v l) (n : Nat) : IntsAt (w.drewN n) v l := h

theorem drewN2 (w : World) (a b : Nat) : (w.drewN a).drewN b = w.drewN (a + b) := by simp [World.drewN, Nat.add_assoc]

set_option maxHeartbeats 400000 in
theorem sameInts_calls (w : World) (v u : Value) (l m : List Int) (hv : IntsAt w v l) (hu : IntsAt w u m) (hl : l.length ≤ 1073741824) (hm : m.length ≤ 1073741824) :
    Calls Tryz.prog 16 #[v, u] w fun e w' => e = .returned (.bool (decide (l = m))) ∧ ∃ n, w' = w.drewN n := by
  obtain ⟨a, ca, rfl, HA⟩ := hv
  obtain ⟨b, cb, rfl, HB⟩ := hu
  replace HA := hide HA
  replace HB := hide HB
  by_cases hlen : l.length = m.length
  · have hd : (((l.length : Int)) != ((m.length : Int))) = false := by simp; omega
    go_enter Tryz.func16, Tryz.ntmps16
    go_wp2
    clear hd
    go_loopw [5] (fun i wr => ∃ k : Nat, k ≤ l.length ∧ i = .int .i64 k ∧ l.take k = m.take k ∧ ∃ n, wr = w.drewN n) (fun i _ => l.length - (intOf i).toNat)
    case atStart => exact ⟨0, Nat.zero_le _, rfl, rfl, 0, rfl⟩
    case round =>
      obtain ⟨k, hk, rfl, htk, n, rfl⟩ := hrel
      have HT := hide htk
      clear htk
      by_cases hlt : k < l.length
      · obtain ⟨ga, oa, rfl, ha2, ha3⟩ := HA.out k hlt
        obtain ⟨gb, ob, rfl, hb2, hb3⟩ := HB.out k (by omega)
        have hltm : k < m.length := by omega
        by_cases heq : l[k] = m[k]
        · have hne : (l[k] != m[k]) = false := by simpa using heq
          have HN : Hid (l.take (k + 1) = m.take (k + 1)) := by
            show l.take (k + 1) = m.take (k + 1)
            rw [List.take_succ_eq_append_getElem hlt, List.take_succ_eq_append_getElem hltm, HT.out, heq]
          clear heq HT
          generalize l[k] = x at *
          generalize m[k] = y at *
          go_wp2
          go_quiet (fail)
          go_wp2
          go_roundw
          case rel => exact ⟨k + 1, by omega, by go_num, HN.out, _, rfl⟩
          case measure => simp [intOf]; omega
        · have hne : (l[k] != m[k]) = true := by simpa using heq
          have HN : Hid (decide (l = m) = false) := by
            show decide (l = m) = false
            rw [decide_eq_false_iff_not]
            intro h
            apply heq
            subst h
            rfl
          clear heq HT
          generalize l[k] = x at *
          generalize m[k] = y at *
          go_wp2
          go_quiet (fail)
          go_wp2
          go_ret
          exact ⟨by rw [HN.out]; rfl, _, drewN2 _ _ _⟩
      · have HE : Hid (decide (l = m) = true) := by
          show decide (l = m) = true
          rw [decide_eq_true_iff]
          have := HT.out
          rw [List.take_of_length_le (by omega), List.take_of_length_le (by omega)] at this
          exact this
        go_wp2
        go_ret
        exact ⟨by rw [HE.out]; rfl, _, rfl⟩
  · have hd : (((l.length : Int)) != ((m.length : Int))) = true := by simp; omega
    have HE : Hid (decide (l = m) = false) := by
      show decide (l = m) = false
      rw [decide_eq_false_iff_not]
      intro h
      exact hlen (by rw [h])
    go_enter Tryz.func16, Tryz.ntmps16
    go_wp2
    go_ret
    exact ⟨by rw [HE.out]; rfl, 0, rfl⟩

theorem info_i64 : (Tryz.prog.info? 3).map (fun i => (i.zero, i.size, i.bytes)) = some (some (.int .i64 0), 1, 8) := by kernel_rfl

theorem cellsI_zeros (n : Nat) : (madeCells #[Value.int .i64 0] n).toList = cellsI (List.replicate n 0) := by
  rw [toList_madeCells_one]
  simp [cellsI]

theorem cellsI_set (l : List Int) (k : Nat) (x : Int) : (cellsI l).set k (.int .i64 x) = cellsI (l.set k x) := by
  simp [cellsI]

/-- The first k of l, noughts behind. -/
def half (l : List Int) (k : Nat) : List Int := l.take k ++ List.replicate (l.length - k) 0

theorem half_length (l : List Int) (k : Nat) (hk : k ≤ l.length) : (half l k).length = l.length := by simp [half]; omega

theorem half_set (l : List Int) (k : Nat) (hk : k < l.length) : (half l k).set k l[k] = half l (k + 1) := by
  unfold half
  have h1 : (l.take k).length = k := by rw [List.length_take]; omega
  rw [List.set_append_right _ _ (by omega), h1, Nat.sub_self, List.take_succ_eq_append_getElem hk]
  rw [show l.length - k = (l.length - (k + 1)) + 1 by omega, List.replicate_succ, List.set_cons_zero, List.append_assoc, List.singleton_append]

theorem half_all (l : List Int) (k : Nat) (hk : l.length ≤ k) : half l k = l := by
  unfold half
  rw [List.take_of_length_le hk, show l.length - k = 0 by omega]
  simp

/-- The marks from k on. -/
def marks (k : Int) (n : Nat) : List Int := (List.range n).map fun (i : Nat) => k + (i : Int)

theorem own_below {w w' : World} {B : Nat} {e : TypeId} {size : Nat} {v : Value} {n : Nat} {xs : List Value} (h : w.ownsRow B e size v n xs) (hb : Below w.heap.size w w') : w'.ownsRow B e size v n xs :=
  h.kept (row := none) ⟨hb.os, hb.tape, hb.output, hb.size, fun k hk _ => hb.block k hk⟩ (by cases v.ownBlock <;> simp)

theorem below_drewN {B : Nat} {a w : World} (h : Below B a w) (n : Nat) : Below B a (w.drewN n) := ⟨h.os, h.tape, h.output, h.size, h.block⟩
end Go.Proofs.YteladljgnbfcnaaGreat.P1
namespace Go.Proofs.YteladljgnbfcnaaGreat.Cu
set_option maxRecDepth 8000
open Go.RowKit P1

theorem and255 (n : Int) : bits .and .i64 n 255 = n % 256 := by
  have h255 : (BitVec.ofInt 64 255).toNat = 2 ^ 8 - 1 := by decide
  have key : (BitVec.ofInt 64 n &&& BitVec.ofInt 64 255).toNat = (n % ((2 ^ 64 : Nat) : Int)).toNat % 2 ^ 8 := by
    rw [BitVec.toNat_and, BitVec.toNat_ofInt, h255, Nat.and_two_pow_sub_one_eq_mod]
  show IntKind.i64.wrap ((BitVec.ofInt 64 n &&& BitVec.ofInt 64 255).toNat : Nat) = n % 256
  rw [key, IntKind.wrap_i64]
  omega

/-- The bytes that a cursor goes over: below B. -/
def Code (B : Nat) (w : World) (v : Value) (n : Nat) : Prop :=
  ∃ a cap, v = .slice a n cap ∧ n ≤ 1048576 ∧ ∀ j, j < n → ∃ b off, ∃ x : Int, a = some ⟨b, off, none⟩ ∧ b < B ∧ 0 ≤ x ∧ x < 256 ∧ w.cell? ⟨b, off + j, none⟩ = some (.int .u8 x)

theorem Code.below {B : Nat} {w w' : World} {v : Value} {n : Nat} (h : Code B w v n) (hb : ∀ k, k < B → w'.heap[k]? = w.heap[k]?) : Code B w' v n := by
  obtain ⟨a, cap, h1, h2, h3⟩ := h
  refine ⟨a, cap, h1, h2, fun j hj => ?_⟩
  obtain ⟨b, off, x, e1, e2, e3, e4, e5⟩ := h3 j hj
  exact ⟨b, off, x, e1, e2, e3, e4, by rw [World.cell?_of_block (w := w) (hb b e2)]; exact e5⟩

theorem Code.more {B B' : Nat} {w : World} {v : Value} {n : Nat} (h : Code B w v n) (hB : B ≤ B') : Code B' w v n := by
  obtain ⟨a, cap, h1, h2, h3⟩ := h
  refine ⟨a, cap, h1, h2, fun j hj => ?_⟩
  obtain ⟨b, off, x, e1, e2, e3⟩ := h3 j hj
  exact ⟨b, off, x, e1, by omega, e3⟩

/-- A cursor in block g, made when there were B blocks. -/
def Cur (B : Nat) (w : World) (g : Nat) : Prop :=
  B ≤ g ∧ g < w.heap.size ∧ ∃ v n, ∃ i : Nat, ∃ h : Int, Code B w v n ∧ i ≤ n ∧ w.cell? ⟨g, 0, none⟩ = some v ∧ w.cell? ⟨g, 1, none⟩ = some (.int .i64 i) ∧ w.cell? ⟨g, 2, none⟩ = some (.int .i64 h) ∧ ∀ o, w.frozen? ⟨g, o, none⟩ = false

/-- What a drawn number leaves: it is below m; the cursor is there; only its block was written. -/
def DrawnR (B g m : Nat) (w : World) (e : Ending) (w' : World) : Prop := ∃ x : Nat, x < m ∧ e = .returned (.int .i64 x) ∧ Cur B w' g ∧ w.grownBy w' (some g)

theorem grown_refl (w : World) (r : Option Nat) : w.grownBy w r := ⟨rfl, rfl, rfl, Nat.le_refl _, fun _ _ _ => rfl⟩

theorem grown_trans {a b c : World} {r : Option Nat} (h : a.grownBy b r) (k : b.grownBy c r) : a.grownBy c r :=
  ⟨k.os.trans h.os, k.tape.trans h.tape, k.output.trans h.output, Nat.le_trans h.size k.size, fun i hi hne => (k.block i (Nat.lt_of_lt_of_le hi h.size) hne).trans (h.block i hi hne)⟩

theorem grown_set (w : World) (g o : Nat) (v : Value) : w.grownBy (w.setCell ⟨g, o, none⟩ v) (some g) :=
  ⟨rfl, rfl, rfl, by simp [World.setCell], fun k _ hne => Below.heap_setCell _ _ _ _ (fun e => hne (by rw [e]))⟩

theorem grown_drew (w : World) (r : Option Nat) (k : Nat) : w.grownBy (w.drewN k) r := ⟨rfl, rfl, rfl, Nat.le_refl _, fun _ _ _ => rfl⟩

theorem below_of_grown {B g : Nat} {w w' : World} (h : w.grownBy w' (some g)) (hB : B ≤ g) (hw : B ≤ w.heap.size) : Below B w w' :=
  ⟨h.os, h.tape, h.output, h.size, fun k hk => h.block k (by omega) (fun e => by cases e; omega)⟩

theorem drawn_and {B g : Nat} {w w' : World} (m : Int) (h1 : Cur B w' g) (h2 : w.grownBy w' (some g)) : DrawnR B g 256 w (.returned (.int .i64 (bits .and .i64 m 255))) w' :=
  ⟨(m % 256).toNat, by omega, by rw [and255]; congr 2; omega, h1, h2⟩

theorem cur_move {B g : Nat} {w w1 : World} {v : Value} {n i : Nat} {z : Int} (hB : B ≤ g) (hg : g < w.heap.size) (hc : Code B w v n) (hG : w.grownBy w1 (some g)) (hi : i ≤ n)
    (d0 : w1.cell? ⟨g, 0, none⟩ = some v) (d1 : w1.cell? ⟨g, 1, none⟩ = some (.int .i64 i)) (d2 : w1.cell? ⟨g, 2, none⟩ = some (.int .i64 z)) (df : ∀ o, w1.frozen? ⟨g, o, none⟩ = false) : Cur B w1 g :=
  ⟨hB, Nat.lt_of_lt_of_le hg hG.size, v, n, i, z, hc.below (fun k hk => hG.block k (by omega) (fun e => by cases e; omega)), hi, d0, d1, d2, df⟩

set_option maxHeartbeats 400000 in
theorem byte_calls (B g : Nat) (w : World) (hc : Cur B w g) :
    Calls Tryz.prog 61 #[.pointer (some ⟨g, 0, none⟩)] w fun e w' => DrawnR B g 256 w e w' := by
  obtain ⟨hB, hg, v, n, i, h, HC, hi, c0, c1, c2, hfz⟩ := hc
  have HCo := hide HC
  obtain ⟨a, cap, rfl, hn, Hj⟩ := HC
  have Hj := hide Hj
  by_cases hlt : i < n
  · obtain ⟨b, off, x, rfl, hb, hx0, hx1, hcell⟩ := Hj.out i hlt
    have hbg : b ≠ g := by omega
    go_enter Tryz.func61, Tryz.ntmps61
    go_wp2
    obtain ⟨z, hz⟩ : ∃ z : Int, z = wrap64 (wrap64 (h * 6364136223846793005) + 1442695040888963407) := ⟨_, rfl⟩
    rw [← hz]
    clear hz
    obtain ⟨w1, hw1⟩ : ∃ w1 : World, w1 = w.setCell ⟨g, 2, none⟩ (.int .i64 z) := ⟨_, rfl⟩
    have d0 : w1.cell? ⟨g, 0, none⟩ = some (.slice (some ⟨b, off, none⟩) n cap) := by rw [hw1]; simp [go_sem, c0]
    have d1 : w1.cell? ⟨g, 1, none⟩ = some (.int .i64 i) := by rw [hw1]; simp [go_sem, c1]
    have d2 : w1.cell? ⟨g, 2, none⟩ = some (.int .i64 z) := by rw [hw1]; simp [go_sem, c2]
    have dx : w1.cell? ⟨b, off + i, none⟩ = some (.int .u8 x) := by rw [hw1]; simp [go_sem, hcell]
    have df : ∀ o, w1.frozen? ⟨g, o, none⟩ = false := by intro o; rw [hw1]; simp [go_sem, hfz]
    have HG := hide (grown_set w g 2 (.int .i64 z))
    rw [← hw1] at HG ⊢
    clear hw1 c0 c1 c2 hcell hfz
    go_quiet (fail)
    go_wp2
    go_quiet (fail)
    go_wp2
    go_quiet (fail)
    go_wp2
    go_ret
    have hG := fun k => grown_trans HG.out (grown_trans (grown_drew w1 (some g) k) (grown_set (w1.drewN k) g 1 (.int .i64 ((i : Int) + 1))))
    refine drawn_and _ (cur_move (i := i + 1) (z := z) hB hg HCo.out (hG _) (by omega) ?_ ?_ ?_ ?_) (hG _)
    · simp [go_sem, d0]
    · simp [go_sem, d1]
    · simp [go_sem, d2]
    · intro o; simp [go_sem, df]
  · go_enter Tryz.func61, Tryz.ntmps61
    go_wp2
    obtain ⟨z, hz⟩ : ∃ z : Int, z = wrap64 (wrap64 (h * 6364136223846793005) + 1442695040888963407) := ⟨_, rfl⟩
    rw [← hz]
    clear hz
    obtain ⟨w1, hw1⟩ : ∃ w1 : World, w1 = w.setCell ⟨g, 2, none⟩ (.int .i64 z) := ⟨_, rfl⟩
    have d0 : w1.cell? ⟨g, 0, none⟩ = some (.slice a n cap) := by rw [hw1]; simp [go_sem, c0]
    have d1 : w1.cell? ⟨g, 1, none⟩ = some (.int .i64 i) := by rw [hw1]; simp [go_sem, c1]
    have d2 : w1.cell? ⟨g, 2, none⟩ = some (.int .i64 z) := by rw [hw1]; simp [go_sem, c2]
    have df : ∀ o, w1.frozen? ⟨g, o, none⟩ = false := by intro o; rw [hw1]; simp [go_sem, hfz]
    have HG := hide (grown_set w g 2 (.int .i64 z))
    rw [← hw1] at HG ⊢
    clear hw1 c0 c1 c2 hfz
    go_quiet (fail)
    go_wp2
    go_quiet (fail)
    go_wp2
    go_ret
    have hG := fun k l => grown_trans HG.out (grown_trans (grown_drew w1 (some g) k) (grown_drew (w1.drewN k) (some g) l))
    refine drawn_and _ (cur_move (i := i) (z := z) hB hg HCo.out (hG _ _) (by omega) ?_ ?_ ?_ ?_) (hG _ _)
    · simp [go_sem, d0]
    · simp [go_sem, d1]
    · simp [go_sem, d2]
    · intro o; simp [go_sem, df]

set_option maxHeartbeats 400000 in
theorem below_calls (B g : Nat) (w : World) (hc : Cur B w g) (n : Nat) (hn : 0 < n) (hm : n ≤ 4294967296) :
    Calls Tryz.prog 35 #[.pointer (some ⟨g, 0, none⟩), .int .i64 n] w fun e w' => DrawnR B g n w e w' := by
  have Hc := hide hc
  clear hc
  by_cases h256 : n ≤ 256
  · go_enter Tryz.func35, Tryz.ntmps35
    go_wp2_with fail
    refine (byte_calls B g _ Hc.out).mono ?_
    rintro e w1 ⟨x, hx, rfl, hc1, hg1⟩
    have Hc1 := hide hc1
    have Hg1 := hide hg1
    clear hc1 hg1
    go_wp2
    go_ret
    exact ⟨x % n, Nat.mod_lt _ hn, by simp, Hc1.out, Hg1.out⟩
  · go_enter Tryz.func35, Tryz.ntmps35
    go_wp2_with fail
    refine (byte_calls B g _ Hc.out).mono ?_
    rintro e w1 ⟨x1, hx1, rfl, hc1, hg1⟩
    have Hc1 := hide hc1
    have Hg1 := hide hg1
    clear hc1 hg1
    go_wp2_with fail
    refine (byte_calls B g _ Hc1.out).mono ?_
    rintro e w2 ⟨x2, hx2, rfl, hc1, hg1⟩
    have Hc2 := hide hc1
    have Hg2 := hide hg1
    clear hc1 hg1
    go_wp2_with fail
    refine (byte_calls B g _ Hc2.out).mono ?_
    rintro e w3 ⟨x3, hx3, rfl, hc1, hg1⟩
    have Hc3 := hide hc1
    have Hg3 := hide hg1
    clear hc1 hg1
    go_wp2_with fail
    refine (byte_calls B g _ Hc3.out).mono ?_
    rintro e w4 ⟨x4, hx4, rfl, hc1, hg1⟩
    have Hc4 := hide hc1
    have Hg4 := hide hg1
    clear hc1 hg1
    go_wp2
    go_ret
    refine ⟨(x1 * 16777216 + x2 * 65536 + x3 * 256 + x4) % n, Nat.mod_lt _ hn, ?_, Hc4.out, grown_trans Hg1.out (grown_trans Hg2.out (grown_trans Hg3.out Hg4.out))⟩
    go_num

theorem cell_lt {w : World} {a : Addr} {v : Value} (h : w.cell? a = some v) : a.block < w.heap.size := by
  unfold World.cell? at h
  rcases Nat.lt_or_ge a.block w.heap.size with h' | h'
  · exact h'
  · rw [Array.getElem?_eq_none h'] at h; simp at h

/-- The code that comes in is one that a cursor can go over. -/
theorem code_of_row {w : World} {a : Option Addr} {len cap : Nat} {zs : List Int} (h : Frame.IsRow .u8 w a len cap zs) (hl : len ≤ 1048576) : Code w.heap.size w (.slice a len cap) len := by
  refine ⟨a, cap, rfl, hl, fun j hj => ?_⟩
  rcases h with ⟨_, h0, _⟩ | ⟨x, rfl, h1, _, h3, h4, h5⟩
  · omega
  · have hj' : j < zs.length := by omega
    obtain ⟨b, off, rfl, hc⟩ := ints_at h4 (by omega)
    have hb := bounds_u8 (h5 (zs.getD j 0) (by rw [List.getD_eq_getElem?_getD, List.getElem?_eq_getElem hj']; simp))
    exact ⟨b, off, _, rfl, cell_lt (hc j hj'), hb.1, by omega, hc j hj'⟩

theorem cur_new {w : World} {v : Value} {n : Nat} {t : TypeId} (h : Code w.heap.size w v n) (z : Int) : Cur w.heap.size (w.alloc (.cells #[v, .int .i64 0, .int .i64 z] t)) w.heap.size :=
  ⟨Nat.le_refl _, by simp, v, n, 0, z, h.below (fun k hk => Below.heap_alloc w _ k hk), Nat.zero_le _, by simp [go_sem], by simp [go_sem], by simp [go_sem], fun o => by simp [go_sem]⟩

set_option maxHeartbeats 400000 in
theorem new_calls (w : World) (a : Option Addr) (len cap : Nat) (hc : Code w.heap.size w (.slice a len cap) len) :
    Calls Tryz.prog 25 #[.slice a len cap] w fun e w' => e = .returned (.pointer (some ⟨w.heap.size, 0, none⟩)) ∧ Cur w.heap.size w' w.heap.size ∧ Below w.heap.size w w' := by
  have Hc := hide hc
  obtain ⟨a', cap', ha, hl, Hj⟩ := hc
  cases ha
  replace Hj := hide Hj
  go_enter Tryz.func25, Tryz.ntmps25
  go_wp2
  generalize (95501 + (len : Int)) = z0
  go_loop [3, 4] (fun h i => ∃ k : Nat, ∃ z : Int, k ≤ len ∧ i = .int .i64 k ∧ h = .int .i64 z) (fun _ i => len - (intOf i).toNat)
  case atStart => exact ⟨0, _, Nat.zero_le _, rfl, rfl⟩
  case round =>
    obtain ⟨k, z, hk, rfl, rfl⟩ := hrel
    by_cases hlt : k < len
    · have hk1 : decide ((k : Int) < (len : Int)) = true := by simp; omega
      by_cases h4 : k < 4000
      · have hk2 : decide ((k : Int) < 4000) = true := by simp; omega
        clear h4
        obtain ⟨b, off, x, rfl, hb, hx0, hx1, hcell⟩ := Hj.out k hlt
        go_wp2
        go_round
        case rel => exact ⟨k + 1, _, by omega, by go_num, rfl⟩
        case measure => simp [intOf]; omega
      · have hk2 : decide ((k : Int) < 4000) = false := by simp; omega
        clear h4
        go_wp2
        go_ret
        exact ⟨rfl, cur_new Hc.out z, (Below.refl _ _).alloc (Nat.le_refl _) _⟩
    · have hk1 : decide ((k : Int) < (len : Int)) = false := by simp; omega
      go_wp2
      go_ret
      exact ⟨rfl, cur_new Hc.out z, (Below.refl _ _).alloc (Nat.le_refl _) _⟩
end Go.Proofs.YteladljgnbfcnaaGreat.Cu
namespace Go.Proofs.YteladljgnbfcnaaGreat.Sr
open Go.RowKit P1

theorem one_text (W : World) (z : Int) (h0 : 0 ≤ z) (h1 : z < 256) :
    (convert 22 9 (.slice (some ⟨W.heap.size, 0, none⟩) 1 1)).run Tryz.prog (W.alloc (.cells #[.int .u8 z] 5)) = .ok (.string ⟨[UInt8.ofNat z.toNat].toArray⟩) (W.alloc (.cells #[.int .u8 z] 5)) := by
  refine run_convert_bytes_back _ 22 9 5 ⟨W.heap.size, 0, none⟩ 1 [UInt8.ofNat z.toNat] Tryz.underlying22 Tryz.underlying5 Tryz.underlying9 ?_
  intro j hj
  obtain rfl : j = 0 := by simp at hj; exact hj
  have hb := byte_of z.toNat (by omega)
  simp only [List.getElem_cons_zero, hb]
  rw [show ((z.toNat : Nat) : Int) = z by omega]
  simp [Addr.add]

/-- The k-th mark. -/
def mtext (k : Nat) : List UInt8 := 109 :: Lib.decDigits k

/-- So many marks from k on. -/
def marks (k n : Nat) : List (List UInt8) := (List.range n).map fun j => mtext (k + j)

end Go.Proofs.YteladljgnbfcnaaGreat.Sr
