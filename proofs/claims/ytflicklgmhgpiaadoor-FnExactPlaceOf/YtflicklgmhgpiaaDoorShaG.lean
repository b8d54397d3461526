/- Both listed tables of chapter 3, in one. -/
import Derived.Test.YtflicklgmhgpiaaDoorShaI5
import Derived.Test.YtflicklgmhgpiaaDoorShaSI
namespace Go.Proofs.YtflicklgmhgpiaaDoor.P3
open Go.RowKit P1

/-- Both tables, as the program lays them. -/
structure Glo (w : World) : Prop where
  s : StT w
  k : KeyT w

theorem Glo.below {w w' : World} (h : Glo w) (hb : Below w.heap.size w w') : Glo w' := ⟨h.s.below hb h.s.lt, h.k.below hb h.k.lt⟩

theorem Glo.drewN {w : World} (h : Glo w) (n : Nat) : Glo (w.drewN n) := ⟨⟨h.s.lt, h.s.cell⟩, ⟨h.k.lt, h.k.cell⟩⟩
end Go.Proofs.YtflicklgmhgpiaaDoor.P3
