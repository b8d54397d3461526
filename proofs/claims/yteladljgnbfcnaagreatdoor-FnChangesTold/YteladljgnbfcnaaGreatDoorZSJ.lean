/- The laws of chapter 11 where the error that says no is as it was laid; no other condition. -/
import Derived.Test.YteladljgnbfcnaaGreatDoorZRU
import Derived.Test.YteladljgnbfcnaaGreatDoorZRV
import Derived.Test.YteladljgnbfcnaaGreatDoorZSH
import Derived.Test.YteladljgnbfcnaaGreatDoorZSI
namespace Go.Proofs.YteladljgnbfcnaaGreatDoor.P9
open Go.RowKit P1 P8 Da

/-- The error that says no is as it was laid. -/
def Stays (w : World) : Prop := ∃ a, Er.Sen1 w 0 a

theorem stays_of_laid {W : World} {l : List (String × DataW Unit)} (hl : (l.all fun x => x.2.handleName?.isNone) = true) (hs : [("loop.example/g00474/impl.errStays", (Rows.laid_loop_example_g00474_impl_errStays : DataW Unit))].Sublist l) (h : laidMetH Tryz.prog l W) : Stays W :=
  Er.sen_one hl hs (by kernel_rfl) (by kernel_rfl) h

theorem changes_true (w : World) (a : Option Addr) (len cap : Nat) (z : List Int) (hr : Frame.IsRow .u8 w a len cap z) (hG : Stays w) :
    Calls Tryz.prog 3 #[.slice a len cap] w fun e w' => e = .returned (.bool true) ∧ Below w.heap.size w w' := by
  obtain ⟨aE, hS⟩ := hG
  exact changesWalk w (joinedC w aE hS) (goneC w aE hS) (settleC w aE hS) (fingeredC w aE hS) idealC a len cap z hr

theorem chgTold_true (w : World) (a : Option Addr) (len cap : Nat) (z : List Int) (hr : Frame.IsRow .u8 w a len cap z) (hG : Stays w) :
    Calls Tryz.prog 4 #[.slice a len cap] w fun e w' => e = .returned (.bool true) ∧ Below w.heap.size w w' := by
  obtain ⟨aE, hS⟩ := hG
  exact chgToldWalk w (joinedC w aE hS) (goneC w aE hS) (settleC w aE hS) (fingeredC w aE hS) idealC a len cap z hr
end Go.Proofs.YteladljgnbfcnaaGreatDoor.P9
