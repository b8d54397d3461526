/- errors.Is over errors that errors.New made: nil, the same one, another one; no condition.
What two listed errors of errors.New give a walk: each variable holds a pointer of its own; no condition.
What one listed error of errors.New gives a walk: its variable holds a pointer; no condition. -/
import Derived.Test.YteladljgnbfcnaaGreatDoorChecked
import Derived.Test.YteladljgnbfcnaaGreatDoorRows
import Derived.WalkKit
import Derived.LaidEql
import Derived.Stop.Asserts
import Derived.RowKitTokens
import Derived.Stop.LaidTwo
import Derived.MakeChecks
import Derived.Below
import Derived.Stop.LaidErr
namespace Go.Proofs.YteladljgnbfcnaaGreatDoor.Er
set_option maxRecDepth 8000
open Go.RowKit Go.Extern.Stop Go.Stop Go.Extern

/-- What the model has for rtype's Comparable. -/
def compF : Array Value → Sem Value := Extern.ReflectliteType.method fun t => do Extern.Rtype.noPackHeld "Comparable" t; pure (.bool (← typeInfo t).comparable)

theorem isTypeOf (v : Value) (w : World) : (Extern.ReflectliteType.typeOf #[.iface 186 v]).run Tryz.prog w = .ok (.iface 132 (.agg #[.pointer (some ⟨1, 186, none⟩)])) w := by kernel_rfl
theorem isComparable (w : World) : (compF #[.agg #[.pointer (some ⟨1, 186, none⟩)]]).run Tryz.prog w = .ok (.bool true) w := by kernel_rfl
theorem isMethodComparable (v : Value) (w : World) : (Go.method 323 132 v "Comparable").run Tryz.prog w = .ok (170, v) w := by kernel_rfl
theorem isComp : (Tryz.prog.info? 186).map (·.comparable) = some true := by kernel_rfl
theorem isSize : (Tryz.prog.info? 211).map (·.size) = some 1 := by kernel_rfl

/-- errors.Is of an error and itself. -/
theorem is_same (a : Addr) (w : World) :
    Calls Tryz.prog 64 #[.iface 186 (.pointer (some a)), .iface 186 (.pointer (some a))] w fun e w' => e = .returned (.bool true) ∧ w' = w := by
  obtain ⟨i, hi, hcmp⟩ := Option.map_eq_some_iff.1 isComp
  obtain ⟨j, hj, hjs⟩ := Option.map_eq_some_iff.1 isSize
  have h8 := @run_callFunc_extern Tryz.prog 94 _ Extern.ReflectliteType.typeOf Tryz.func94 (by kernel_rfl) (by kernel_rfl) (by kernel_rfl) (by kernel_rfl)
  have h32 := @run_callFunc_extern Tryz.prog 170 _ compF Tryz.func170 (by kernel_rfl) (by kernel_rfl) (by kernel_rfl) (by kernel_rfl)
  have tT := isTypeOf
  have cT := isComparable
  have mR := isMethodComparable
  have heq := run_eql_iface_ptr_same (P := Tryz.prog) w a Tryz.underlying51 Tryz.underlying186 hi hcmp hj
  go_enter Tryz.func64, Tryz.ntmps64
  go_wp2
  refine wp_loop_rounds 1 ?_
  rw [rounds_succ]
  go_wp2
  go_ret
  exact ⟨rfl, rfl⟩

/-- errors.Is of no error. -/
theorem is_nil (b : Addr) (w : World) :
    Calls Tryz.prog 64 #[.nilIface, .iface 186 (.pointer (some b))] w fun e w' => e = .returned (.bool false) ∧ w' = w := by
  have hn := run_eql_iface_nil_left (P := Tryz.prog) w 186 (.pointer (some b)) Tryz.underlying51
  go_enter Tryz.func64, Tryz.ntmps64
  go_wp2
  go_ret
  exact ⟨rfl, rfl⟩

end Go.Proofs.YteladljgnbfcnaaGreatDoor.Er
namespace Go.Proofs.YteladljgnbfcnaaGreatDoor.Er
open Go.RowKit

/-- A shorter list of listed variables. -/
theorem laid_sub {P : Program} {W : World} {l l' : List (String × DataW Unit)} (h : l'.Sublist l) : ∀ {ps : List MemPlace}, DataW.LaidVars P W l ps → ∃ qs, DataW.LaidVars P W l' qs ∧ qs.Sublist ps := by
  induction h with
  | slnil => intro ps h; exact ⟨ps, h, List.Sublist.refl _⟩
  | cons a h ih =>
    intro ps hv
    obtain ⟨n, d⟩ := a
    obtain ⟨g, t, cs, fuel, p, q, _, _, _, _, hq, rfl⟩ := hv
    obtain ⟨qs, h1, h2⟩ := ih hq
    exact ⟨qs, h1, h2.trans (List.sublist_append_right _ _)⟩
  | cons_cons a h ih =>
    intro ps hv
    obtain ⟨n, d⟩ := a
    obtain ⟨g, t, cs, fuel, p, q, h1, h2, h3, h4, hq, rfl⟩ := hv
    obtain ⟨qs, h5, h6⟩ := ih hq
    exact ⟨_, ⟨g, t, cs, fuel, p, qs, h1, h2, h3, h4, h5, rfl⟩, (List.Sublist.refl _).append h6⟩

theorem laidMet_sub {P : Program} {W : World} {l l' : List (String × DataW Unit)} (h : l'.Sublist l) (hm : laidMet P l W) : laidMet P l' W := by
  obtain ⟨ps, hv, hn, hr⟩ := hm
  obtain ⟨qs, h1, h2⟩ := laid_sub h hv
  exact ⟨qs, h1, hn.sublist h2, fun b off hq => hr b off (h2.subset hq)⟩

theorem star : "*" ++ "errors.errorString" = "*errors.errorString" := by decide
theorem rowE (u : TypeId) (h : Tryz.prog.typeName? 3 u = some "*errors.errorString") : u = 186 :=
  typeName_ptr_named (nm := "errors.errorString") (by rw [star]; kernel_rfl) (by kernel_rfl) (by decide) u (by rw [star]; exact h)
theorem cellsE : Tryz.prog.cellsOf 211 = 1 := by kernel_rfl
theorem cellsStr : Tryz.prog.cellsOf 9 = 1 := by kernel_rfl

/-- An error's variable: what it points at, and that it stays. -/
structure Sen (w : World) (g : Nat) (a : Addr) : Prop where
  cell : w.cell? ⟨g, 0, none⟩ = some (.iface 186 (.pointer (some a)))
  row : ∃ c t, w.heap[a.block]? = some (.cells c t (0, 0))
  lt : g < w.heap.size
  alt : a.block < w.heap.size

theorem Sen.below {w w' : World} {g : Nat} {a : Addr} (h : Sen w g a) (hb : Below w.heap.size w w') : Sen w' g a := by
  obtain ⟨c, t, hr⟩ := h.row
  exact ⟨(hb.cell (p := ⟨g, 0, none⟩) h.lt).trans h.cell, ⟨c, t, (hb.block _ h.alt).trans hr⟩, Nat.lt_of_lt_of_le h.lt hb.size, Nat.lt_of_lt_of_le h.alt hb.size⟩

end Go.Proofs.YteladljgnbfcnaaGreatDoor.Er
namespace Go.Proofs.YteladljgnbfcnaaGreatDoor.Er
open Go.RowKit

/-- An error's variable: that it holds a pointer that is not nil. -/
structure Sen1 (w : World) (g : Nat) (a : Addr) : Prop where
  cell : w.cell? ⟨g, 0, none⟩ = some (.iface 186 (.pointer (some a)))
  lt : g < w.heap.size

theorem Sen1.below {B : Nat} {w w' : World} {g : Nat} {a : Addr} (h : Sen1 w g a) (hb : Below B w w') (hB : w.heap.size ≤ B) : Sen1 w' g a :=
  ⟨(hb.cell (p := ⟨g, 0, none⟩) (Nat.lt_of_lt_of_le h.lt hB)).trans h.cell, Nat.lt_of_lt_of_le h.lt hb.size⟩

theorem Sen1.other {w w' : World} {g : Nat} {a : Addr} (h : Sen1 w g a) (hk : w'.heap[g]? = w.heap[g]?) (hs : w.heap.size ≤ w'.heap.size) : Sen1 w' g a :=
  ⟨by rw [← h.cell]; simp only [World.cell?, hk], Nat.lt_of_lt_of_le h.lt hs⟩

theorem sen_one {W : World} {l : List (String × DataW Unit)} {n : String} {t : List UInt8} {g : Nat} (hl : (l.all fun x => x.2.handleName?.isNone) = true)
    (hs : [(n, (.iface "*errors.errorString" (.ptr (.agg [.lit (.string t)])) : DataW Unit))].Sublist l)
    (hg : Tryz.prog.globalNamed n = some g) (ht : (Tryz.prog.globals[g]?).map (·.type) = some 51)
    (h : laidMetH Tryz.prog l W) : ∃ a, Sen1 W g a := by
  rw [MakeChecks.laidMetH_plain _ _ _ hl] at h
  obtain ⟨a, s, hv, hc, -, -⟩ := laid_sentinel (laidMet_sub hs h) hg ht Tryz.underlying51 rowE Tryz.underlying186 Tryz.underlying211 rfl rfl Tryz.underlying9 cellsE cellsStr
  have hcell : W.cell? ⟨g, 0, none⟩ = some (.iface 186 (.pointer (some a))) := by simpa using World.var?_cell hg hv 0
  refine ⟨a, hcell, ?_⟩
  rcases Nat.lt_or_ge g W.heap.size with h' | h'
  · exact h'
  · unfold World.cell? at hcell
    rw [Array.getElem?_eq_none h'] at hcell
    simp at hcell
end Go.Proofs.YteladljgnbfcnaaGreatDoor.Er
