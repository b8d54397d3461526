/- What the walks of chapter 11's laws lean on: how the program's five functions answer, where the error that says no is as it was laid; statements alone, each proved elsewhere. -/
import Derived.Test.YteladljgnbfcnaaGreatDoorZRK
import Derived.Test.YteladljgnbfcnaaGreatDoorZRI
namespace Go.Proofs.YteladljgnbfcnaaGreatDoor.P9
open Go.RowKit P1 P8 Da Ap Rr Rc

def JoinedC (W : World) : Prop := ∀ (w : World) (v : Value) (l : List Pr) (id by_ : Int), Below W.heap.size W w → PeersAt w v l → RingX l →
  Calls Tryz.prog 8 #[.agg #[v], .int .i64 id, .int .i64 by_] w fun e w' => ∃ v' fp, e = .returned (.tuple #[.agg #[v'], .bool (joined l id by_).2]) ∧ Owns w' v' (peersD T0 (joined l id by_).1) fp ∧ (∀ q ∈ fp, w.heap.size ≤ q) ∧ Below w.heap.size w w'

def GoneC (W : World) : Prop := ∀ (w : World) (v : Value) (l : List Pr) (id : Int), Below W.heap.size W w → PeersAt w v l → RingX l →
  Calls Tryz.prog 9 #[.agg #[v], .int .i64 id] w fun e w' => ∃ v' fp, e = .returned (.tuple #[.agg #[v'], .bool (gone l id).2]) ∧ Owns w' v' (peersD T0 (gone l id).1) fp ∧ (∀ q ∈ fp, w.heap.size ≤ q) ∧ Below w.heap.size w w'

def SettleC (W : World) : Prop := ∀ (w : World) (v : Value) (l : List Pr) (id : Int), Below W.heap.size W w → PeersAt w v l → RingX l →
  Calls Tryz.prog 10 #[.agg #[v], .int .i64 id] w fun e w' => ∃ v' fp, e = .returned (.tuple #[.agg #[v'], .bool (settle l id).2]) ∧ Owns w' v' (peersD T0 (settle l id).1) fp ∧ (∀ q ∈ fp, w.heap.size ≤ q) ∧ Below w.heap.size w w'

def FingeredC (W : World) : Prop := ∀ (w : World) (v : Value) (l : List Pr) (id : Int), Below W.heap.size W w → PeersAt w v l → RingX l →
  Calls Tryz.prog 11 #[.agg #[v], .int .i64 id] w fun e w' => ∃ v' fp, e = .returned (.tuple #[.agg #[v'], .bool (fingered l id).2]) ∧ Owns w' v' (peersD T0 (fingered l id).1) fp ∧ (∀ q ∈ fp, w.heap.size ≤ q) ∧ Below w.heap.size w w'

def IdealC : Prop := ∀ (w : World) (v : Value) (l : List Pr), PeersAt w v l → RingX l →
  Calls Tryz.prog 14 #[.agg #[v]] w fun e w' => e = .returned (.bool (ideal l)) ∧ Below w.heap.size w w'
end Go.Proofs.YteladljgnbfcnaaGreatDoor.P9
