/- The specification's OwnerOf, l08Has, OrderedFrom; condition: at most 2^20 ids. -/
import Derived.Test.YtfckfgabeeeccaaRng1
import Derived.Test.YtfckfgabeeeccaaIntS
import Derived.BigQuiet
namespace Go.Proofs.Ytfckfgabeeeccaa.P8
open Go.RowKit P1

theorem drewN_more {w wr : World} (h : ∃ n, wr = w.drewN n) (m : Nat) : ∃ n, wr.drewN m = w.drewN n := by
  obtain ⟨n, rfl⟩ := h
  exact ⟨_, drewN2 _ _ _⟩

/-- The best one of the first k stands at place b. -/
def BestAt (key : Int) (l : List Int) (k : Nat) (b : Int) : Prop := (k = 0 ∧ b = -1) ∨ ∃ j : Nat, ∃ h : j < l.length, b = j ∧ j < k ∧ best key (l.take k) = some l[j]

theorem BestAt.step {key : Int} {l : List Int} {k : Nat} {b : Int} (h : BestAt key l k b) (hk : k < l.length) :
    (b < 0 → BestAt key l (k + 1) k) ∧ ∀ (j : Nat) (hj : j < l.length), b = j → (ahd key l[k] < ahd key l[j] → BestAt key l (k + 1) k) ∧ (¬ ahd key l[k] < ahd key l[j] → BestAt key l (k + 1) b) := by
  have e1 : best key (l.take (k + 1)) = ownStep key (best key (l.take k)) l[k] := by
    rw [List.take_succ_eq_append_getElem hk, best_snoc]
  constructor
  · intro hb
    rcases h with ⟨rfl, _⟩ | ⟨j, hj, rfl, _⟩
    · refine .inr ⟨0, hk, rfl, by omega, ?_⟩
      rw [e1]
      rfl
    · omega
  · intro j hj hb
    rcases h with ⟨rfl, rfl⟩ | ⟨i, hi, hbi, hik, hbest⟩
    · omega
    · obtain rfl : i = j := by omega
      rw [hbest] at e1
      unfold ownStep at e1
      dsimp only at e1
      constructor
      · intro hlt
        rw [if_pos hlt] at e1
        exact .inr ⟨k, hk, rfl, by omega, e1⟩
      · intro hlt
        rw [if_neg hlt] at e1
        exact .inr ⟨i, hi, hb, by omega, e1⟩
end Go.Proofs.Ytfckfgabeeeccaa.P8
