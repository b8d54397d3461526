/-
  No cell of these rows narrows 'for every input' (looked for: loops, veiled, ifaces, maps, wideKeys, modest, calm, conditions, laid).
  DERIVED. THE GIVEN ROWS OF THIS SEAT. 8 by the template 'for every input the law returns true; each argument reads behind the call as it read before'; 0 by the template 'total and deterministic' (their statements: YthkdgnohkdedpaaTotals.lean).
  GIVEN WITH THE SEED: the statements are not yours to turn. If you find one false, say at which input.
  Laid BY PROGRAM, IN A SANDBOX (cutbox-rows.mjs): the forced cells as the released guide's own fill.sh prints them over the translation 6d42dbf57961237f… (all of the seat's roots in one cut). By AI agents, Wed Nov 11 2026. No macro, syntax, notation, axiom, sorry.
-/
import Derived.Test.YthkdgnohkdedpaaChecked
import GoSem.Claim
import GoSem.ClaimJoined
import GoSem.ClaimMapViews
import Derived.JoinedTies
import Derived.KernelRfl
namespace Go.Proofs.Ythkdgnohkdedpaa
/- THE CELL 'sum', in the pinned program and in every row, IS THE sha256 OF THE DUMP (.gsa) THAT YthkdgnohkdedpaaProg.lean LOADS. Nothing in Lean hashes anything: it is a label: what it is worth is what the hold of that sum in a sandbox is worth. -/
noncomputable def Try.pinned : Pinned := { name := "ythkdgnohkdedpaa", sum := "6d42dbf57961237f48f95f11b61199a9ec8251183ec56e69ce981d0faef3e1ac", checked := Try.checked }
namespace Rows
def none {H : Type} : Left H := { results := [], args := [] }

/-- 'laws.FnNumbersRound': WHATEVER THE INPUT: true; the input reads as it did. -/
def fnNumbersRoundSpec : ChangeSpec := { name := "fnNumbersRound", fn := fun _ => fun
  | [d] => { results := [.lit (.bool true)], args := [d] }
  | _ => none }
def fnNumbersRoundRow : OpenClaim := { program := "ythkdgnohkdedpaa", sum := "6d42dbf57961237f48f95f11b61199a9ec8251183ec56e69ce981d0faef3e1ac", func := "loop.example/g00474/laws.FnNumbersRound", spec := "fnNumbersRound", unfollowed := true, recurses := true, apart := false }
def FnNumbersRoundSaid : Prop := fnNumbersRoundRow.holds Try.pinned (OpenSpec.ofChange fnNumbersRoundSpec)

/-- ITS FALSE NEIGHBOUR: 'it returns false'. Refute it at one input. -/
def fnNumbersRoundWrong : ChangeSpec := { name := "fnNumbersRound", fn := fun _ => fun
  | [d] => { results := [.lit (.bool false)], args := [d] }
  | _ => none }
def FnNumbersRoundWrongFalsely : Prop := fnNumbersRoundRow.holds Try.pinned (OpenSpec.ofChange fnNumbersRoundWrong)

/-- 'laws.FnExactOwnerOf': WHATEVER THE INPUT: true; the input reads as it did. -/
def fnExactOwnerOfSpec : ChangeSpec := { name := "fnExactOwnerOf", fn := fun _ => fun
  | [d1, d2] => { results := [.lit (.bool true)], args := [d1, d2] }
  | _ => none }
def fnExactOwnerOfRow : OpenClaim := { program := "ythkdgnohkdedpaa", sum := "6d42dbf57961237f48f95f11b61199a9ec8251183ec56e69ce981d0faef3e1ac", func := "loop.example/g00474/laws.FnExactOwnerOf", spec := "fnExactOwnerOf", unfollowed := true, recurses := true, apart := false }
def FnExactOwnerOfSaid : Prop := fnExactOwnerOfRow.holds Try.pinned (OpenSpec.ofChange fnExactOwnerOfSpec)

/-- ITS FALSE NEIGHBOUR: 'it returns false'. Refute it at one input. -/
def fnExactOwnerOfWrong : ChangeSpec := { name := "fnExactOwnerOf", fn := fun _ => fun
  | [d1, d2] => { results := [.lit (.bool false)], args := [d1, d2] }
  | _ => none }
def FnExactOwnerOfWrongFalsely : Prop := fnExactOwnerOfRow.holds Try.pinned (OpenSpec.ofChange fnExactOwnerOfWrong)

/-- 'laws.FnExactOrderedFrom': WHATEVER THE INPUT: true; the input reads as it did. -/
def fnExactOrderedFromSpec : ChangeSpec := { name := "fnExactOrderedFrom", fn := fun _ => fun
  | [d1, d2] => { results := [.lit (.bool true)], args := [d1, d2] }
  | _ => none }
def fnExactOrderedFromRow : OpenClaim := { program := "ythkdgnohkdedpaa", sum := "6d42dbf57961237f48f95f11b61199a9ec8251183ec56e69ce981d0faef3e1ac", func := "loop.example/g00474/laws.FnExactOrderedFrom", spec := "fnExactOrderedFrom", unfollowed := true, recurses := true, apart := false }
def FnExactOrderedFromSaid : Prop := fnExactOrderedFromRow.holds Try.pinned (OpenSpec.ofChange fnExactOrderedFromSpec)

/-- ITS FALSE NEIGHBOUR: 'it returns false'. Refute it at one input. -/
def fnExactOrderedFromWrong : ChangeSpec := { name := "fnExactOrderedFrom", fn := fun _ => fun
  | [d1, d2] => { results := [.lit (.bool false)], args := [d1, d2] }
  | _ => none }
def FnExactOrderedFromWrongFalsely : Prop := fnExactOrderedFromRow.holds Try.pinned (OpenSpec.ofChange fnExactOrderedFromWrong)

/-- 'laws.FnExactPeerAt': WHATEVER THE INPUT: true; the input reads as it did. -/
def fnExactPeerAtSpec : ChangeSpec := { name := "fnExactPeerAt", fn := fun _ => fun
  | [d1, d2] => { results := [.lit (.bool true)], args := [d1, d2] }
  | _ => none }
def fnExactPeerAtRow : OpenClaim := { program := "ythkdgnohkdedpaa", sum := "6d42dbf57961237f48f95f11b61199a9ec8251183ec56e69ce981d0faef3e1ac", func := "loop.example/g00474/laws.FnExactPeerAt", spec := "fnExactPeerAt", apart := false }
def FnExactPeerAtSaid : Prop := fnExactPeerAtRow.holds Try.pinned (OpenSpec.ofChange fnExactPeerAtSpec)

/-- ITS FALSE NEIGHBOUR: 'it returns false'. Refute it at one input. -/
def fnExactPeerAtWrong : ChangeSpec := { name := "fnExactPeerAt", fn := fun _ => fun
  | [d1, d2] => { results := [.lit (.bool false)], args := [d1, d2] }
  | _ => none }
def FnExactPeerAtWrongFalsely : Prop := fnExactPeerAtRow.holds Try.pinned (OpenSpec.ofChange fnExactPeerAtWrong)

/-- 'laws.FnExactPeerOk': WHATEVER THE INPUT: true; the input reads as it did. -/
def fnExactPeerOkSpec : ChangeSpec := { name := "fnExactPeerOk", fn := fun _ => fun
  | [d] => { results := [.lit (.bool true)], args := [d] }
  | _ => none }
def fnExactPeerOkRow : OpenClaim := { program := "ythkdgnohkdedpaa", sum := "6d42dbf57961237f48f95f11b61199a9ec8251183ec56e69ce981d0faef3e1ac", func := "loop.example/g00474/laws.FnExactPeerOk", spec := "fnExactPeerOk", apart := false }
def FnExactPeerOkSaid : Prop := fnExactPeerOkRow.holds Try.pinned (OpenSpec.ofChange fnExactPeerOkSpec)

/-- ITS FALSE NEIGHBOUR: 'it returns false'. Refute it at one input. -/
def fnExactPeerOkWrong : ChangeSpec := { name := "fnExactPeerOk", fn := fun _ => fun
  | [d] => { results := [.lit (.bool false)], args := [d] }
  | _ => none }
def FnExactPeerOkWrongFalsely : Prop := fnExactPeerOkRow.holds Try.pinned (OpenSpec.ofChange fnExactPeerOkWrong)

/-- 'laws.FnExactRingOk': WHATEVER THE INPUT: true; the input reads as it did. -/
def fnExactRingOkSpec : ChangeSpec := { name := "fnExactRingOk", fn := fun _ => fun
  | [d] => { results := [.lit (.bool true)], args := [d] }
  | _ => none }
def fnExactRingOkRow : OpenClaim := { program := "ythkdgnohkdedpaa", sum := "6d42dbf57961237f48f95f11b61199a9ec8251183ec56e69ce981d0faef3e1ac", func := "loop.example/g00474/laws.FnExactRingOk", spec := "fnExactRingOk", apart := false }
def FnExactRingOkSaid : Prop := fnExactRingOkRow.holds Try.pinned (OpenSpec.ofChange fnExactRingOkSpec)

/-- ITS FALSE NEIGHBOUR: 'it returns false'. Refute it at one input. -/
def fnExactRingOkWrong : ChangeSpec := { name := "fnExactRingOk", fn := fun _ => fun
  | [d] => { results := [.lit (.bool false)], args := [d] }
  | _ => none }
def FnExactRingOkWrongFalsely : Prop := fnExactRingOkRow.holds Try.pinned (OpenSpec.ofChange fnExactRingOkWrong)

/-- 'laws.FnExactRingNew': WHATEVER THE INPUT: true; the input reads as it did. -/
def fnExactRingNewSpec : ChangeSpec := { name := "fnExactRingNew", fn := fun _ => fun
  | [d] => { results := [.lit (.bool true)], args := [d] }
  | _ => none }
def fnExactRingNewRow : OpenClaim := { program := "ythkdgnohkdedpaa", sum := "6d42dbf57961237f48f95f11b61199a9ec8251183ec56e69ce981d0faef3e1ac", func := "loop.example/g00474/laws.FnExactRingNew", spec := "fnExactRingNew", unfollowed := true, recurses := true, apart := false }
def FnExactRingNewSaid : Prop := fnExactRingNewRow.holds Try.pinned (OpenSpec.ofChange fnExactRingNewSpec)

/-- ITS FALSE NEIGHBOUR: 'it returns false'. Refute it at one input. -/
def fnExactRingNewWrong : ChangeSpec := { name := "fnExactRingNew", fn := fun _ => fun
  | [d] => { results := [.lit (.bool false)], args := [d] }
  | _ => none }
def FnExactRingNewWrongFalsely : Prop := fnExactRingNewRow.holds Try.pinned (OpenSpec.ofChange fnExactRingNewWrong)

/-- 'laws.FnExactNextOf': WHATEVER THE INPUT: true; the input reads as it did. -/
def fnExactNextOfSpec : ChangeSpec := { name := "fnExactNextOf", fn := fun _ => fun
  | [d1, d2] => { results := [.lit (.bool true)], args := [d1, d2] }
  | _ => none }
def fnExactNextOfRow : OpenClaim := { program := "ythkdgnohkdedpaa", sum := "6d42dbf57961237f48f95f11b61199a9ec8251183ec56e69ce981d0faef3e1ac", func := "loop.example/g00474/laws.FnExactNextOf", spec := "fnExactNextOf", apart := false }
def FnExactNextOfSaid : Prop := fnExactNextOfRow.holds Try.pinned (OpenSpec.ofChange fnExactNextOfSpec)

/-- ITS FALSE NEIGHBOUR: 'it returns false'. Refute it at one input. -/
def fnExactNextOfWrong : ChangeSpec := { name := "fnExactNextOf", fn := fun _ => fun
  | [d1, d2] => { results := [.lit (.bool false)], args := [d1, d2] }
  | _ => none }
def FnExactNextOfWrongFalsely : Prop := fnExactNextOfRow.holds Try.pinned (OpenSpec.ofChange fnExactNextOfWrong)

/- THE SECOND FORM. 'bulk': how many values and letters a reading holds, each counted each time it is reached (what is shared counts as often as it is met; a slice's spare places count too). A statement '..UptoSaid' is the law's where the arguments, and the package variables that the reading takes, are together of bulk at most 1048576: NARROWER than '..Said'. Prove '..Said' where nothing that the law and all that it calls make is longer than what came in: it says more and counts as full. Else prove '..UptoSaid'. A law counts once. -/
mutual
def uptoBulk {H : Type} : DataW H → Nat
  | .lit (.string bytes) => bytes.length + 1
  | .lit _ => 1
  | .nil => 1
  | .ptr d => uptoBulk d + 1
  | .slice elems spare => uptoBulkAll elems + uptoBulkAll spare + 1
  | .agg parts => uptoBulkAll parts + 1
  | .iface _ d => uptoBulk d + 1
  | .map entries => uptoBulkEntries entries + 1
  | .held _ => 1
def uptoBulkAll {H : Type} : List (DataW H) → Nat
  | [] => 0
  | d :: r => uptoBulk d + uptoBulkAll r
def uptoBulkEntries {H : Type} : List (Lit × DataW H) → Nat
  | [] => 0
  | x :: r => uptoBulkEntry x + uptoBulkEntries r
def uptoBulkEntry {H : Type} : Lit × DataW H → Nat
  | (.string bytes, d) => bytes.length + uptoBulk d + 1
  | (_, d) => uptoBulk d + 1
 end
def uptoSmall : (H : Type) → List (DataW H) → Bool := fun _ ds => decide (uptoBulkAll ds ≤ 1048576)
def OpenSpec.upto (s : _root_.Go.ChangeSpec) : _root_.Go.OpenSpec := { _root_.Go.OpenSpec.ofChange s with cond := some uptoSmall }

/-- 'laws.FnNumbersRound', WHERE WHAT IT READS IS OF BULK AT MOST 1048576: true; the input reads as it did. -/
def fnNumbersRoundUptoRow : OpenClaim := { program := "ythkdgnohkdedpaa", sum := "6d42dbf57961237f48f95f11b61199a9ec8251183ec56e69ce981d0faef3e1ac", func := "loop.example/g00474/laws.FnNumbersRound", spec := "fnNumbersRound", unfollowed := true, recurses := true, apart := false, narrowed := true }
def FnNumbersRoundUptoSaid : Prop := fnNumbersRoundUptoRow.holds Try.pinned (OpenSpec.upto fnNumbersRoundSpec)

/-- 'laws.FnExactOwnerOf', WHERE WHAT IT READS IS OF BULK AT MOST 1048576: true; the input reads as it did. -/
def fnExactOwnerOfUptoRow : OpenClaim := { program := "ythkdgnohkdedpaa", sum := "6d42dbf57961237f48f95f11b61199a9ec8251183ec56e69ce981d0faef3e1ac", func := "loop.example/g00474/laws.FnExactOwnerOf", spec := "fnExactOwnerOf", unfollowed := true, recurses := true, apart := false, narrowed := true }
def FnExactOwnerOfUptoSaid : Prop := fnExactOwnerOfUptoRow.holds Try.pinned (OpenSpec.upto fnExactOwnerOfSpec)

/-- 'laws.FnExactOrderedFrom', WHERE WHAT IT READS IS OF BULK AT MOST 1048576: true; the input reads as it did. -/
def fnExactOrderedFromUptoRow : OpenClaim := { program := "ythkdgnohkdedpaa", sum := "6d42dbf57961237f48f95f11b61199a9ec8251183ec56e69ce981d0faef3e1ac", func := "loop.example/g00474/laws.FnExactOrderedFrom", spec := "fnExactOrderedFrom", unfollowed := true, recurses := true, apart := false, narrowed := true }
def FnExactOrderedFromUptoSaid : Prop := fnExactOrderedFromUptoRow.holds Try.pinned (OpenSpec.upto fnExactOrderedFromSpec)

/-- 'laws.FnExactPeerAt', WHERE WHAT IT READS IS OF BULK AT MOST 1048576: true; the input reads as it did. -/
def fnExactPeerAtUptoRow : OpenClaim := { program := "ythkdgnohkdedpaa", sum := "6d42dbf57961237f48f95f11b61199a9ec8251183ec56e69ce981d0faef3e1ac", func := "loop.example/g00474/laws.FnExactPeerAt", spec := "fnExactPeerAt", apart := false, narrowed := true }
def FnExactPeerAtUptoSaid : Prop := fnExactPeerAtUptoRow.holds Try.pinned (OpenSpec.upto fnExactPeerAtSpec)

/-- 'laws.FnExactPeerOk', WHERE WHAT IT READS IS OF BULK AT MOST 1048576: true; the input reads as it did. -/
def fnExactPeerOkUptoRow : OpenClaim := { program := "ythkdgnohkdedpaa", sum := "6d42dbf57961237f48f95f11b61199a9ec8251183ec56e69ce981d0faef3e1ac", func := "loop.example/g00474/laws.FnExactPeerOk", spec := "fnExactPeerOk", apart := false, narrowed := true }
def FnExactPeerOkUptoSaid : Prop := fnExactPeerOkUptoRow.holds Try.pinned (OpenSpec.upto fnExactPeerOkSpec)

/-- 'laws.FnExactRingOk', WHERE WHAT IT READS IS OF BULK AT MOST 1048576: true; the input reads as it did. -/
def fnExactRingOkUptoRow : OpenClaim := { program := "ythkdgnohkdedpaa", sum := "6d42dbf57961237f48f95f11b61199a9ec8251183ec56e69ce981d0faef3e1ac", func := "loop.example/g00474/laws.FnExactRingOk", spec := "fnExactRingOk", apart := false, narrowed := true }
def FnExactRingOkUptoSaid : Prop := fnExactRingOkUptoRow.holds Try.pinned (OpenSpec.upto fnExactRingOkSpec)

/-- 'laws.FnExactRingNew', WHERE WHAT IT READS IS OF BULK AT MOST 1048576: true; the input reads as it did. -/
def fnExactRingNewUptoRow : OpenClaim := { program := "ythkdgnohkdedpaa", sum := "6d42dbf57961237f48f95f11b61199a9ec8251183ec56e69ce981d0faef3e1ac", func := "loop.example/g00474/laws.FnExactRingNew", spec := "fnExactRingNew", unfollowed := true, recurses := true, apart := false, narrowed := true }
def FnExactRingNewUptoSaid : Prop := fnExactRingNewUptoRow.holds Try.pinned (OpenSpec.upto fnExactRingNewSpec)

/-- 'laws.FnExactNextOf', WHERE WHAT IT READS IS OF BULK AT MOST 1048576: true; the input reads as it did. -/
def fnExactNextOfUptoRow : OpenClaim := { program := "ythkdgnohkdedpaa", sum := "6d42dbf57961237f48f95f11b61199a9ec8251183ec56e69ce981d0faef3e1ac", func := "loop.example/g00474/laws.FnExactNextOf", spec := "fnExactNextOf", apart := false, narrowed := true }
def FnExactNextOfUptoSaid : Prop := fnExactNextOfUptoRow.holds Try.pinned (OpenSpec.upto fnExactNextOfSpec)

end Rows
end Go.Proofs.Ythkdgnohkdedpaa
