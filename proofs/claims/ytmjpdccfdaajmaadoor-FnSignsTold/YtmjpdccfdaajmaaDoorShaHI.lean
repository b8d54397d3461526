/- The contracts of impl.DigestHex and impl.CutDigest; conditions: the text is at most 2^20 bytes long (and one), the listed tables hold what their text lays. -/
import Derived.Test.YtmjpdccfdaajmaaDoorShaDI
import Derived.Test.YtmjpdccfdaajmaaDoorShaG
import Derived.Test.YtmjpdccfdaajmaaDoorShaH
namespace Go.Proofs.YtmjpdccfdaajmaaDoor.P3
set_option maxRecDepth 8000
open Go.RowKit P1

set_option maxHeartbeats 400000 in
theorem implCut_calls (t : List UInt8) (ht : t.length ≤ 1048577) (n : Int) (w : World) (hG : Glo w) :
    Calls Tryd.prog 57 #[.string ⟨t.toArray⟩, .int .i64 n] w fun e w' => e = .returned (.string ⟨(cutV t n).toArray⟩) ∧ Below w.heap.size w w' := by
  have HC := hide (implDigest_calls t ht w hG.s hG.k)
  clear hG
  by_cases h : 1 ≤ n ∧ n ≤ 32
  · have hd1 : decide (n < 1) = false := by simp; omega
    have hd2 : decide (32 < n) = false := by simp; omega
    have HV : Hid (cutV t n = (digest t).take n.toNat) := by show cutV t n = _; unfold cutV; rw [if_pos h]
    have hl := digest_length t
    obtain ⟨d, Ed⟩ : ∃ d, Hid (d = digest t) := ⟨_, rfl⟩
    rw [← Ed.out] at HV hl
    rw [← Ed.out] at HC
    have hs := fun wx => slice_to d n (by omega) (by rw [hl]; omega) wx
    obtain ⟨c, Ec⟩ : ∃ c, Hid (c = cutV t n) := ⟨_, rfl⟩
    rw [← Ec.out] at HV ⊢
    simp only [← HV.out] at hs
    clear Ed Ec HV h hl
    go_enter Tryd.func57, Tryd.ntmps57
    go_wp2_with fail
    refine HC.out.mono ?_
    rintro e w2 ⟨rfl, hb⟩
    go_wp2_with fail
    go_ret
    exact ⟨rfl, hb⟩
  · have HV : Hid (cutV t n = []) := by show cutV t n = _; unfold cutV; rw [if_neg h]
    clear HC
    by_cases h1 : n < 1
    · have hd1 : decide (n < 1) = true := by simpa using h1
      clear h
      go_enter Tryd.func57, Tryd.ntmps57
      go_wp2_with fail
      go_ret
      exact ⟨by rw [HV.out]; rfl, Below.refl _ _⟩
    · have hd1 : decide (n < 1) = false := by simpa using h1
      have hd2 : decide (32 < n) = true := by simp; omega
      clear h
      go_enter Tryd.func57, Tryd.ntmps57
      go_wp2_with fail
      go_ret
      exact ⟨by rw [HV.out]; rfl, Below.refl _ _⟩
end Go.Proofs.YtmjpdccfdaajmaaDoor.P3
