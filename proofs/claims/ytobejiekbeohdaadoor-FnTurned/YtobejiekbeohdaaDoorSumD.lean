/- The draw of chapter 2's texts: some text of fewer than 40 bytes. -/
import Derived.Test.YtobejiekbeohdaaDoorDraw
namespace Go.Proofs.YtobejiekbeohdaaDoor.P2
open Go.RowKit P1 Cu

/-- A drawn text. -/
def SomeText (m : Nat) (w : World) (e : Ending) (w' : World) : Prop := ∃ l : List UInt8, l.length < m ∧ e = .returned (.string ⟨l.toArray⟩) ∧ Below w.heap.size w w'

set_option maxHeartbeats 400000 in
theorem drawSumOf_calls (w : World) (a : Option Addr) (len cap : Nat) (hc : Cu.Code w.heap.size w (.slice a len cap) len) :
    Calls Tryd.prog 9 #[.slice a len cap] w fun e w' => SomeText 40 w e w' := by
  have Hc := hide hc
  clear hc
  go_enter Tryd.func9, Tryd.ntmps9
  go_wp2_with fail
  refine (new_calls _ a len cap Hc.out).mono ?_
  rintro e w1 ⟨rfl, hc1, hb1⟩
  have Hc1 := hide hc1
  have Hb1 := hide hb1
  clear hc1 hb1
  go_wp2_with fail
  refine (below_calls _ _ _ Hc1.out 40 (by decide) (by decide)).mono ?_
  rintro e w2 ⟨x, hx, rfl, hc2, hg2⟩
  have Hc2 := hide hc2
  have Hb2 := hide (Hb1.out.trans (below_of_grown hg2 (Nat.le_refl _) Hb1.out.size))
  clear hc2 hg2
  go_wp2_with fail
  refine (text_calls _ _ _ Hc2.out x (by omega)).mono ?_
  rintro e w3 ⟨l, hl, rfl, hc3, hg3⟩
  have Hb3 := hide (Hb2.out.trans (below_of_grown hg3 (Nat.le_refl _) Hb2.out.size))
  clear hc3 hg3
  go_wp2
  go_ret
  exact ⟨l, by omega, rfl, Hb3.out⟩

theorem big_calls (w : World) (a : Option Addr) (len cap : Nat) :
    Calls Tryd.prog 8 #[.slice a len cap] w fun e w' => e = .returned (.bool (decide (1048576 < (len : Int)))) ∧ w' = w := by
  go_enter Tryd.func8, Tryd.ntmps8
  go_wp2
  go_ret
  exact ⟨rfl, rfl⟩
end Go.Proofs.YtobejiekbeohdaaDoor.P2
