/- A peer that came in as an argument: what the walk is told of it; no condition. -/
import Derived.Test.YtfckfgabeeeccaaFrameD
import Derived.ProofKit
import Derived.OpenShut
namespace Go.Proofs.Ytfckfgabeeeccaa.Frame
set_option maxRecDepth 8000
open Go.RowKit Go.ChangeShapes Go.WideShapes Go.Deep P1 P9 Da

theorem open_peer {H : Type} {enc : TypeId × Value → H} {W : World} {r : Reach} {base : Nat} {spare : Nat → Bool} {held : Bool} {v : Value} {d : DataW H} {ps : List MemPlace} (hval : Value.okWide Try.prog W r base 25 v) (h : DataW.Trod enc Try.prog W 0 spare held 25 v d ps) :
    ∃ (p : Pr) (u3 u4 u5 : Value), v = prV p u3 u4 u5 ∧ FitsP p ∧ IntsAt W u3 p.behind ∧ IntsAt W u4 p.fingers ∧ ShelvesAt W u5 p.shelves := by
  obtain ⟨fuel, hf⟩ := h
  obtain ⟨cs, rfl, hsz⟩ := okWide_struct Try.underlying25 hval
  obtain ⟨p, hp, u3, u4, u5, e, r3, r4, r5⟩ := trod_peerD hf
  obtain ⟨l⟩ := cs
  simp only [Value.cells] at e
  subst e
  exact ⟨p, u3, u4, u5, rfl, hp, ints_of r3, ints_of r4, ⟨_, r5⟩⟩
end Go.Proofs.Ytfckfgabeeeccaa.Frame
