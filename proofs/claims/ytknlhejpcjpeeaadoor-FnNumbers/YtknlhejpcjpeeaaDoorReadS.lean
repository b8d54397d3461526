/- The contracts of spec.ReadShort and impl.ReadShort: each returns what readShort tells; condition: the text is at most 2^20 bytes long. -/
import Derived.Test.YtknlhejpcjpeeaaDoorRead
import Derived.Test.YtknlhejpcjpeeaaDoorClone
import Derived.WalkKit
namespace Go.Proofs.YtknlhejpcjpeeaaDoor.P1
set_option maxRecDepth 8000
open Go.RowKit

theorem scan_len (f : Nat) : ∀ (l bs : List UInt8), scan f l = some bs → bs.length ≤ l.length := by
  induction f with
  | zero => intro l bs h; simp [scan] at h
  | succ f ih =>
    intro l bs h
    cases l with
    | nil => simp [scan] at h
    | cons b r =>
      simp only [scan] at h
      split at h
      · rw [Option.map_eq_some_iff] at h
        obtain ⟨x, h1, rfl⟩ := h
        have := ih r x h1
        simp; omega
      · simp at h; subst h; simp

theorem readVar_le (l : List UInt8) (at_ : Int) : (readVar l at_).1 ≤ 1000000000 ∧ (readVar l at_).2.1 ≤ l.length := by
  unfold readVar
  split
  · rename_i hc
    split
    · simp
    · rename_i bs hb
      have h1 := scan_len 5 _ _ hb
      rw [List.length_drop] at h1
      split
      · rename_i h2
        refine ⟨h2.1, ?_⟩
        show at_.toNat + bs.length ≤ l.length
        have : 1 ≤ bs.length ∨ bs.length = 0 := by omega
        omega
      · simp
  · simp

/-- What ReadShort answers. -/
def readShort (s : ByteArray) (at_ : Int) : ByteArray × Nat × Bool :=
  if (readVar s.data.toList at_).2.2 = true ∧ (readVar s.data.toList at_).1 ≤ 20000 ∧ (readVar s.data.toList at_).1 + (readVar s.data.toList at_).2.1 ≤ s.size then
    (s.extract (readVar s.data.toList at_).2.1 ((readVar s.data.toList at_).2.1 + (readVar s.data.toList at_).1), (readVar s.data.toList at_).2.1 + (readVar s.data.toList at_).1, true)
  else (⟨#[]⟩, 0, false)

/-- The three results of ReadShort as the program hands them back. -/
def rsV (r : ByteArray × Nat × Bool) : Value := .tuple #[.string r.1, .int .i64 (r.2.1 : Int), .bool r.2.2]

theorem readShort_of {s : ByteArray} {at_ : Int} {x y : Nat} {z : Bool} (h : (x, y, z) = readVar s.data.toList at_) :
    readShort s at_ = if z = true ∧ x ≤ 20000 ∧ x + y ≤ s.size then (s.extract y (y + x), y + x, true) else (⟨#[]⟩, 0, false) := by
  unfold readShort
  rw [← h]

set_option maxHeartbeats 400000 in
theorem implReadShort_calls (s : ByteArray) (at_ : Int) (hs : s.size ≤ 1048576) (w : World) :
    Calls Tryd.prog 12 #[.string s, .int .i64 at_] w fun e w' => e = .returned (rsV (readShort s at_)) ∧ Below w.heap.size w w' := by
  obtain ⟨r, Hr⟩ : ∃ r, Hid (r = readVar s.data.toList at_) := ⟨_, hide rfl⟩
  have hle := readVar_le s.data.toList at_
  rw [← Hr.out, show s.data.toList.length = s.size from Array.length_toList] at hle
  obtain ⟨x, y, z⟩ := r
  obtain ⟨hx, hy⟩ := hle
  simp only at hx hy
  have Ha := hide (readShort_of Hr.out)
  go_enter Tryd.func12, Tryd.ntmps12
  go_wp2_with fail
  refine (implReadVar_calls s at_ hs _).mono ?_
  rintro e w1 ⟨rfl, rfl⟩
  rw [← Hr.out]
  simp only [rvV]
  cases z with
  | false =>
    go_wp2
    go_ret3
    exact ⟨by rw [Ha.out, if_neg (by simp)]; rfl, Below.refl _ _⟩
  | true =>
    by_cases h1 : x ≤ 20000
    · by_cases h2 : x + y ≤ s.size
      · have hsl := fun (wx : World) => slice_cut wx s y (y + x) (by omega) (by omega)
        rw [show ((y + x : Nat) : Int) = (y : Int) + (x : Int) by omega] at hsl
        go_wp2_with fail
        refine (clone_calls (s.extract y (y + x)) _ (by rw [ByteArray.size_extract]; omega)).mono ?_
        rintro e w2 ⟨rfl, hb⟩
        go_wp2
        go_ret3
        exact ⟨by rw [Ha.out, if_pos ⟨trivial, h1, h2⟩]; rfl, hb⟩
      · go_wp2
        go_ret3
        exact ⟨by rw [Ha.out, if_neg (by omega)]; rfl, Below.refl _ _⟩
    · go_wp2
      go_ret3
      exact ⟨by rw [Ha.out, if_neg (by omega)]; rfl, Below.refl _ _⟩
end Go.Proofs.YtknlhejpcjpeeaaDoor.P1
