/- The contract of spec.KeyOf; condition: numbers are ints. -/
import Derived.Test.YtmjpdccfdaajmaaDoorSgn3
namespace Go.Proofs.YtmjpdccfdaajmaaDoor.P4
set_option maxRecDepth 8000
open Go.RowKit P1 P3

set_option maxHeartbeats 400000 in
theorem specKey_calls (seed : Int) (w : World) :
    Calls Tryd.prog 21 #[.int .i64 seed] w fun e w' => e = .returned (.string ⟨(key seed).toArray⟩) ∧ Below w.heap.size w w' := by
  obtain ⟨ks, Ek⟩ : ∃ ks, Hid (ks = key seed) := ⟨_, rfl⟩
  rw [← Ek.out]
  go_enter Tryd.func21, Tryd.ntmps21
  go_wp2_with fail
  refine (rows_calls seed _).mono ?_
  rintro e w1 ⟨v, rfl, ⟨v0, v1, v2, g, cap, rfl, c0, c1, c2, t0, t1, t2⟩, hb⟩
  obtain ⟨a2, p2, rfl, h2⟩ := t2
  obtain ⟨g2, o2, rfl, hl2, k2⟩ := h2 0 (by show 0 < 1; omega)
  have hk : (lev seed 2)[0]'(by show 0 < 1; omega) = ks := by rw [Ek.out]; rfl
  rw [hk, Nat.add_zero] at k2
  have hl1 : (lev seed 2).length = 1 := rfl
  rw [hl1] at c2
  clear Ek hk hl1 t0 t1 h2 c0 c1
  go_wp2_with fail
  go_ret
  exact ⟨rfl, hb⟩
end Go.Proofs.YtmjpdccfdaajmaaDoor.P4
