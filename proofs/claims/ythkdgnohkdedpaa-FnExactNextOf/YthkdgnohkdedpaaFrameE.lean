/- A ring that came in as an argument: what the walk is told of it; no condition. -/
import Derived.Test.YthkdgnohkdedpaaFrameD
import Derived.ProofKit
import Derived.OpenShut
namespace Go.Proofs.Ythkdgnohkdedpaa.Frame
set_option maxRecDepth 8000
open Go.RowKit Go.ChangeShapes Go.WideShapes Go.Deep P1 P9 Da

theorem open_ring {H : Type} {enc : TypeId × Value → H} {W : World} {r : Reach} {base : Nat} {spare : Nat → Bool} {held : Bool} {v : Value} {d : DataW H} {ps : List MemPlace} (hval : Value.okWide Try.prog W r base 39 v) (h : DataW.Trod enc Try.prog W 0 spare held 39 v d ps) :
    ∃ (u : Value) (l : List Pr), v = .agg #[u] ∧ PeersAt W u l ∧ l.length ≤ 9223372036854775807 ∧ ∀ p ∈ l, FitsP p := by
  obtain ⟨fuel, hf⟩ := h
  obtain ⟨cs, rfl, hsz⟩ := okWide_struct Try.underlying39 hval
  have c1 : Try.prog.cellsOf 39 = 1 := by kernel_rfl
  have c2 : Try.prog.cellsOf 37 = 1 := by kernel_rfl
  rw [c1] at hsz
  obtain ⟨xs, n, _, _, _, hlen, hx⟩ := DataW.trod_struct Try.underlying39 hf
  obtain ⟨l⟩ := cs
  match l, hsz, xs, hlen with
  | [u], _, [y0], _ =>
    have k0 : DataW.trod enc Try.prog W 0 spare held n 37 (([u].drop 0).take (Try.prog.cellsOf 37)) = some y0 := hx 0 _ rfl
    rw [c2] at k0
    obtain ⟨u', l, e, h1, h2, h3⟩ := trod_peersD k0
    obtain rfl : u = u' := by simpa using e
    exact ⟨u, l, rfl, h1, h2, h3⟩
end Go.Proofs.Ythkdgnohkdedpaa.Frame
