/-
  DERIVED. GIVEN WITH THE SEED: THE CARDS: each row of YteladljgnbfcnaaGreatDoorRows.lean that lists a variable, with what it lists TIED to the program's text (the seventh form; the later family's looks); each row that meets fmt, with fmt's text TOLD by the authors' own Lean function (tested against real Go, not proved from fmt's source: count such statements apart). THE CARD IS WHAT COUNTS. Prove the row's statement (the work); the ties are given (YteladljgnbfcnaaGreatDoorTie.lean); close each card by the builder's one call (the guide's Derived/Test/ToyasCard.lean, 'card_holds'). Laid BY PROGRAM, IN A SANDBOX (cutbox-door.mjs). By AI agents, Wed Nov 11 2026. No macro, syntax, notation, axiom, sorry.
-/
import Derived.Test.YteladljgnbfcnaaGreatDoorRows
import GoSem.ClaimSeven
namespace Go.Proofs.YteladljgnbfcnaaGreatDoor
namespace Rows

/-- THE TIED CARD OF 'laws.FnChanges'. -/
def fnChangesCard : Claim7 := { stood := { row := fnChangesRow, standIns := [], harness := (true, "3e12a786eff296c8df3f30f55970bbb0c8f3c572d37723eeea5f2f540648d3b2"), looks := true }, kinds := [], alts := [], laidByText := true, laidKinds := [.sentinel], laidTests := true, laidLooks := .later }
def FnChangesCardSaid : Prop := Claim7.holds Tryz.pinned (.plain (OpenSpec.ofChange fnChangesSpec)) fnChangesCard

/-- THE TIED CARD OF 'laws.FnChangesTold'. -/
def fnChangesToldCard : Claim7 := { stood := { row := fnChangesToldRow, standIns := [], harness := (true, "3e12a786eff296c8df3f30f55970bbb0c8f3c572d37723eeea5f2f540648d3b2"), looks := true }, kinds := [], alts := [], laidByText := true, laidKinds := [.sentinel], laidTests := true, laidLooks := .later }
def FnChangesToldCardSaid : Prop := Claim7.holds Tryz.pinned (.plain (OpenSpec.ofChange fnChangesToldSpec)) fnChangesToldCard

/-- THE SECOND FORM's CARD OF 'laws.FnChanges'. -/
def fnChangesUptoCard : Claim7 := { stood := { row := fnChangesUptoRow, standIns := [], harness := (true, "3e12a786eff296c8df3f30f55970bbb0c8f3c572d37723eeea5f2f540648d3b2"), looks := true }, kinds := [], alts := [], laidByText := true, laidKinds := [.sentinel], laidTests := true, laidLooks := .later }
def FnChangesUptoCardSaid : Prop := Claim7.holds Tryz.pinned (.plain (OpenSpec.upto fnChangesSpec)) fnChangesUptoCard

/-- THE SECOND FORM's CARD OF 'laws.FnChangesTold'. -/
def fnChangesToldUptoCard : Claim7 := { stood := { row := fnChangesToldUptoRow, standIns := [], harness := (true, "3e12a786eff296c8df3f30f55970bbb0c8f3c572d37723eeea5f2f540648d3b2"), looks := true }, kinds := [], alts := [], laidByText := true, laidKinds := [.sentinel], laidTests := true, laidLooks := .later }
def FnChangesToldUptoCardSaid : Prop := Claim7.holds Tryz.pinned (.plain (OpenSpec.upto fnChangesToldSpec)) fnChangesToldUptoCard
end Rows
end Go.Proofs.YteladljgnbfcnaaGreatDoor
