/- The contracts of spec.DigestHex and spec.CutDigest; condition: the text is at most 2^20 bytes long. -/
import Derived.Test.YtmjpdccfdaajmaaDoorShaD
import Derived.Test.YtmjpdccfdaajmaaDoorHex
namespace Go.Proofs.YtmjpdccfdaajmaaDoor.P3
set_option maxRecDepth 8000
open Go.RowKit P1

theorem digest_length (t : List UInt8) : (digest t).length = 32 := rfl

theorem inD_calls (x a b : Int) (w : World) :
    Calls Tryd.prog 67 #[.int .i64 x, .int .i64 a, .int .i64 b] w fun e w' => e = .returned (.bool (decide (a ≤ x ∧ x ≤ b))) ∧ w' = w := by
  by_cases h1 : a ≤ x <;> by_cases h2 : x ≤ b <;>
  · go_enter Tryd.func67, Tryd.ntmps67
    go_wp2
    go_ret
    exact ⟨by simp [h1, h2], rfl⟩

/-- What CutDigest answers. -/
def cutV (t : List UInt8) (n : Int) : List UInt8 := if 1 ≤ n ∧ n ≤ 32 then (digest t).take n.toNat else []

theorem slice_to (p : List UInt8) (n : Int) (h0 : 0 ≤ n) (hn : n ≤ p.length) (wx : World) :
    (Instr.slice 9 (.string ⟨p.toArray⟩) none (some (.int .i64 n)) none).run Tryd.prog wx = .ok (.string ⟨(p.take n.toNat).toArray⟩) wx := by
  rw [run_slice_string_to_if _ _ _ _ _ Tryd.underlying9, if_pos ⟨h0, hn⟩, ByteArray.extract_mk]
  simp

set_option maxHeartbeats 400000 in
theorem specCut_calls (t : List UInt8) (ht : t.length ≤ 1048577) (n : Int) (w : World) :
    Calls Tryd.prog 86 #[.string ⟨t.toArray⟩, .int .i64 n] w fun e w' => e = .returned (.string ⟨(cutV t n).toArray⟩) ∧ Below w.heap.size w w' := by
  by_cases h : 1 ≤ n ∧ n ≤ 32
  · have hd : decide (1 ≤ n ∧ n ≤ 32) = true := by simpa using h
    have HV : Hid (cutV t n = (digest t).take n.toNat) := by show cutV t n = _; unfold cutV; rw [if_pos h]
    have hl := digest_length t
    have HC := hide (fun wx => specDigest_calls t ht wx)
    obtain ⟨d, Ed⟩ : ∃ d, Hid (d = digest t) := ⟨_, rfl⟩
    rw [← Ed.out] at HV hl
    simp only [← Ed.out] at HC
    have hs := fun wx => slice_to d n (by omega) (by rw [hl]; omega) wx
    obtain ⟨c, Ec⟩ : ∃ c, Hid (c = cutV t n) := ⟨_, rfl⟩
    rw [← Ec.out] at HV ⊢
    simp only [← HV.out] at hs
    clear Ed Ec HV h hl
    go_enter Tryd.func86, Tryd.ntmps86
    go_wp2_with fail
    refine (inD_calls _ _ _ _).mono ?_
    rintro e w1 ⟨rfl, rfl⟩
    rw [hd]
    clear hd
    go_wp2_with fail
    refine (HC.out _).mono ?_
    rintro e w2 ⟨rfl, hb⟩
    go_wp2
    go_ret
    exact ⟨rfl, hb⟩
  · have hd : decide (1 ≤ n ∧ n ≤ 32) = false := by simpa using h
    have HV : Hid (cutV t n = []) := by show cutV t n = _; unfold cutV; rw [if_neg h]
    clear h
    go_enter Tryd.func86, Tryd.ntmps86
    go_wp2_with fail
    refine (inD_calls _ _ _ _).mono ?_
    rintro e w1 ⟨rfl, rfl⟩
    rw [hd]
    clear hd
    go_wp2
    go_ret
    exact ⟨by rw [HV.out]; rfl, Below.refl _ _⟩
end Go.Proofs.YtmjpdccfdaajmaaDoor.P3
