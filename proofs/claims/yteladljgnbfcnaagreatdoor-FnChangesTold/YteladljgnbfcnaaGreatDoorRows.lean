/-
  NARROWER THAN 'FOR EVERY INPUT', by the rows' own cells (each row's printed sentence says how): FnChanges: ifaces, laid · FnChangesTold: ifaces, laid.
  DERIVED. THE GIVEN ROWS OF THIS SEAT. 2 by the template 'for every input the law returns true; each argument reads behind the call as it read before'; 0 by the template 'total and deterministic' (their statements: YteladljgnbfcnaaGreatDoorTotals.lean).
  GIVEN WITH THE SEED: the statements are not yours to turn. If you find one false, say at which input.
  Laid BY PROGRAM, IN A SANDBOX (cutbox-rows.mjs): the forced cells as the released guide's own fill.sh prints them over the translation 0a9c58baba59dca9… (all of the seat's roots in one cut). By AI agents, Wed Nov 11 2026. No macro, syntax, notation, axiom, sorry.
-/
import Derived.Test.YteladljgnbfcnaaGreatDoorChecked
import GoSem.Claim
import GoSem.ClaimJoined
import GoSem.ClaimMapViews
import Derived.JoinedTies
import Derived.KernelRfl
namespace Go.Proofs.YteladljgnbfcnaaGreatDoor
/- THE CELL 'sum', in the pinned program and in every row, IS THE sha256 OF THE DUMP (.gsa) THAT YteladljgnbfcnaaGreatDoorProg.lean LOADS. Nothing in Lean hashes anything: it is a label: what it is worth is what the hold of that sum in a sandbox is worth. -/
noncomputable def Tryz.pinned : Pinned := { name := "yteladljgnbfcnaagreatdoor", sum := "0a9c58baba59dca953fb438302e53784f8e2d889389650f406640f7343069bf2", checked := Tryz.checked }
namespace Rows
def none {H : Type} : Left H := { results := [], args := [] }

/- WHAT THE LISTED PACKAGE-LEVEL VARIABLES READ AS WHEN THE CALL BEGINS. Each datum BY PROGRAM (the guide's laid-datum.mjs) off the statement by which the dump's own 'gosem.cut.vars' lays the variable. In a bare row this is a premise. The card (YteladljgnbfcnaaGreatDoorCards.lean) ties it to the program's text. -/
def laid_loop_example_g00474_impl_errStays {H : Type} : DataW H := .iface "*errors.errorString" (.ptr (.agg [.lit (.string [116, 104, 101, 32, 114, 105, 110, 103, 32, 115, 116, 97, 121, 115, 32, 97, 115, 32, 105, 116, 32, 105, 115])]))

/-- 'laws.FnChanges': WHATEVER THE INPUT: true; the input reads as it did. -/
def fnChangesSpec : ChangeSpec := { name := "fnChanges", vars := ["loop.example/g00474/impl.errStays"], fn := fun _ => fun
  | [d, g1] => { results := [.lit (.bool true)], args := [d], vars := [g1] }
  | _ => none }
def fnChangesRow : OpenClaim := { program := "yteladljgnbfcnaagreatdoor", sum := "0a9c58baba59dca953fb438302e53784f8e2d889389650f406640f7343069bf2", func := "loop.example/g00474/laws.FnChanges", spec := "fnChanges", inPlace := ["internal/reflectlite.TypeOf"], unfollowed := true, recurses := true, named := ["loop.example/g00474/impl.errStays"], ifaces := true, apart := false, laid := [("loop.example/g00474/impl.errStays", laid_loop_example_g00474_impl_errStays)] }
def FnChangesSaid : Prop := fnChangesRow.holds Tryz.pinned (OpenSpec.ofChange fnChangesSpec)

/-- ITS FALSE NEIGHBOUR: 'it returns false'. Refute it at one input. -/
def fnChangesWrong : ChangeSpec := { name := "fnChanges", vars := ["loop.example/g00474/impl.errStays"], fn := fun _ => fun
  | [d, g1] => { results := [.lit (.bool false)], args := [d], vars := [g1] }
  | _ => none }
def FnChangesWrongFalsely : Prop := fnChangesRow.holds Tryz.pinned (OpenSpec.ofChange fnChangesWrong)

/-- 'laws.FnChangesTold': WHATEVER THE INPUT: true; the input reads as it did. -/
def fnChangesToldSpec : ChangeSpec := { name := "fnChangesTold", vars := ["loop.example/g00474/impl.errStays"], fn := fun _ => fun
  | [d, g1] => { results := [.lit (.bool true)], args := [d], vars := [g1] }
  | _ => none }
def fnChangesToldRow : OpenClaim := { program := "yteladljgnbfcnaagreatdoor", sum := "0a9c58baba59dca953fb438302e53784f8e2d889389650f406640f7343069bf2", func := "loop.example/g00474/laws.FnChangesTold", spec := "fnChangesTold", inPlace := ["internal/reflectlite.TypeOf"], unfollowed := true, recurses := true, named := ["loop.example/g00474/impl.errStays"], ifaces := true, apart := false, laid := [("loop.example/g00474/impl.errStays", laid_loop_example_g00474_impl_errStays)] }
def FnChangesToldSaid : Prop := fnChangesToldRow.holds Tryz.pinned (OpenSpec.ofChange fnChangesToldSpec)

/-- ITS FALSE NEIGHBOUR: 'it returns false'. Refute it at one input. -/
def fnChangesToldWrong : ChangeSpec := { name := "fnChangesTold", vars := ["loop.example/g00474/impl.errStays"], fn := fun _ => fun
  | [d, g1] => { results := [.lit (.bool false)], args := [d], vars := [g1] }
  | _ => none }
def FnChangesToldWrongFalsely : Prop := fnChangesToldRow.holds Tryz.pinned (OpenSpec.ofChange fnChangesToldWrong)

/- THE SECOND FORM. 'bulk': how many values and letters a reading holds, each counted each time it is reached (what is shared counts as often as it is met; a slice's spare places count too). A statement '..UptoSaid' is the law's where the arguments, and the package variables that the reading takes, are together of bulk at most 1048576: NARROWER than '..Said'. Prove '..Said' where nothing that the law and all that it calls make is longer than what came in: it says more and counts as full. Else prove '..UptoSaid'. A law counts once. -/
mutual
def uptoBulk {H : Type} : DataW H → Nat
  | .lit (.string bytes) => bytes.length + 1
  | .lit _ => 1
  | .nil => 1
  | .ptr d => uptoBulk d + 1
  | .slice elems spare => uptoBulkAll elems + uptoBulkAll spare + 1
  | .agg parts => uptoBulkAll parts + 1
  | .iface _ d => uptoBulk d + 1
  | .map entries => uptoBulkEntries entries + 1
  | .held _ => 1
def uptoBulkAll {H : Type} : List (DataW H) → Nat
  | [] => 0
  | d :: r => uptoBulk d + uptoBulkAll r
def uptoBulkEntries {H : Type} : List (Lit × DataW H) → Nat
  | [] => 0
  | x :: r => uptoBulkEntry x + uptoBulkEntries r
def uptoBulkEntry {H : Type} : Lit × DataW H → Nat
  | (.string bytes, d) => bytes.length + uptoBulk d + 1
  | (_, d) => uptoBulk d + 1
 end
def uptoSmall : (H : Type) → List (DataW H) → Bool := fun _ ds => decide (uptoBulkAll ds ≤ 1048576)
def OpenSpec.upto (s : _root_.Go.ChangeSpec) : _root_.Go.OpenSpec := { _root_.Go.OpenSpec.ofChange s with cond := some uptoSmall }

/-- 'laws.FnChanges', WHERE WHAT IT READS IS OF BULK AT MOST 1048576: true; the input reads as it did. -/
def fnChangesUptoRow : OpenClaim := { program := "yteladljgnbfcnaagreatdoor", sum := "0a9c58baba59dca953fb438302e53784f8e2d889389650f406640f7343069bf2", func := "loop.example/g00474/laws.FnChanges", spec := "fnChanges", inPlace := ["internal/reflectlite.TypeOf"], unfollowed := true, recurses := true, named := ["loop.example/g00474/impl.errStays"], ifaces := true, apart := false, laid := [("loop.example/g00474/impl.errStays", laid_loop_example_g00474_impl_errStays)], narrowed := true }
def FnChangesUptoSaid : Prop := fnChangesUptoRow.holds Tryz.pinned (OpenSpec.upto fnChangesSpec)

/-- 'laws.FnChangesTold', WHERE WHAT IT READS IS OF BULK AT MOST 1048576: true; the input reads as it did. -/
def fnChangesToldUptoRow : OpenClaim := { program := "yteladljgnbfcnaagreatdoor", sum := "0a9c58baba59dca953fb438302e53784f8e2d889389650f406640f7343069bf2", func := "loop.example/g00474/laws.FnChangesTold", spec := "fnChangesTold", inPlace := ["internal/reflectlite.TypeOf"], unfollowed := true, recurses := true, named := ["loop.example/g00474/impl.errStays"], ifaces := true, apart := false, laid := [("loop.example/g00474/impl.errStays", laid_loop_example_g00474_impl_errStays)], narrowed := true }
def FnChangesToldUptoSaid : Prop := fnChangesToldUptoRow.holds Tryz.pinned (OpenSpec.upto fnChangesToldSpec)

end Rows
end Go.Proofs.YteladljgnbfcnaaGreatDoor
