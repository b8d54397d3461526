/- Two listed variables, three: what is read of them. -/
import Derived.Test.YtflicklgmhgpiaaDoorFrame
namespace Go.Proofs.YtflicklgmhgpiaaDoor.Frame
open Go.RowKit

theorem vars_2 {H : Type} {enc : TypeId × Value → H} {P : Program} {W : World} {sp : Nat → Bool} {n m : String} {ns : List String} {gs : List (DataW H)} {q : List MemPlace} (hn : ns = [n, m]) (h : DataW.TrodVars enc P W sp ns gs q) : ∃ g g', gs = [g, g'] := by
  subst hn
  match gs, h with
  | [], h => exact h.elim
  | g :: _, ⟨_, _, _, _, _, _, _, _, _, _, h, _⟩ =>
    obtain ⟨g', rfl⟩ := vars_1 rfl h
    exact ⟨g, g', rfl⟩

theorem vars_3 {H : Type} {enc : TypeId × Value → H} {P : Program} {W : World} {sp : Nat → Bool} {n m k : String} {ns : List String} {gs : List (DataW H)} {q : List MemPlace} (hn : ns = [n, m, k]) (h : DataW.TrodVars enc P W sp ns gs q) : ∃ g g' g'', gs = [g, g', g''] := by
  subst hn
  match gs, h with
  | [], h => exact h.elim
  | g :: _, ⟨_, _, _, _, _, _, _, _, _, _, h, _⟩ =>
    obtain ⟨g', g'', rfl⟩ := vars_2 rfl h
    exact ⟨g, g', g'', rfl⟩
end Go.Proofs.YtflicklgmhgpiaaDoor.Frame
