/- The contracts of spec.ShortText and impl.ShortText: each returns the bytes that chapter 1 names; condition: the text is at most 2^47 bytes long. -/
import Derived.Test.YtknlhejpcjpeeaaDoorVar
import Derived.WalkKit
namespace Go.Proofs.YtknlhejpcjpeeaaDoor.P1
set_option maxRecDepth 8000
open Go.RowKit

/-- What ShortText answers. -/
def shortText (s : ByteArray) : ByteArray × Bool := if s.size ≤ 20000 then (⟨(varB 4 s.size).toArray⟩ ++ s, true) else (⟨#[]⟩, false)

set_option maxHeartbeats 400000 in
theorem implShortText_calls (s : ByteArray) (hs : s.size ≤ 140737488355328) (w : World) :
    Calls Tryd.prog 11 #[.string s] w fun e w' => e = .returned (.tuple #[.string (shortText s).1, .bool (shortText s).2]) ∧ Below w.heap.size w w' := by
  by_cases h : s.size ≤ 20000
  · have hv : shortText s = (⟨(varB 4 s.size).toArray⟩ ++ s, true) := by simp only [shortText, if_pos h]
    rw [hv]
    clear hv
    have hvt : varText (s.size : Int) = (varB 4 s.size, true) := by
      have hc : (0 : Int) ≤ (s.size : Int) ∧ (s.size : Int) ≤ 1000000000 := by omega
      simp only [varText, if_pos hc, Int.toNat_natCast]
    have hvl := (varB_length 4 s.size).2
    go_enter Tryd.func11, Tryd.ntmps11
    go_wp2_with fail
    refine (implVarText_calls (s.size : Int) _).mono ?_
    rintro e w1 ⟨rfl, hb⟩
    rw [hvt]
    clear hvt
    go_wp2
    go_ret2
    exact ⟨rfl, hb⟩
  · have hv : shortText s = (⟨#[]⟩, false) := by simp only [shortText, if_neg h]
    rw [hv]
    clear hv
    go_enter Tryd.func11, Tryd.ntmps11
    go_wp2
    go_ret2
    exact ⟨rfl, Below.refl _ _⟩
end Go.Proofs.YtknlhejpcjpeeaaDoor.P1
