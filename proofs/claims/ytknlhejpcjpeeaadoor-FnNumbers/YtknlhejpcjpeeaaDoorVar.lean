/- The contracts of spec.l01Var, spec.l01In, spec.VarText and impl.VarText: each returns the bytes that chapter 1 names. -/
import Derived.Test.YtknlhejpcjpeeaaDoorRows
import Derived.Test.YtknlhejpcjpeeaaDoorPlain
import Derived.Test.YtknlhejpcjpeeaaDoorKit
import Derived.WalkKit
namespace Go.Proofs.YtknlhejpcjpeeaaDoor.P1
set_option maxRecDepth 8000
open Go.RowKit

theorem info5 : (Tryd.prog.info? 5).map (fun i => (i.zero, i.size, i.bytes)) = some (some (.int .u8 0), 1, 1) := by kernel_rfl

/-- What VarText answers. -/
def varText (n : Int) : List UInt8 × Bool := if 0 ≤ n ∧ n ≤ 1000000000 then (varB 4 n.toNat, true) else ([], false)

set_option maxHeartbeats 400000 in
theorem implVarText_calls (n : Int) (w : World) :
    Calls Tryd.prog 6 #[.int .i64 n] w fun e w' => e = .returned (.tuple #[.string ⟨(varText n).1.toArray⟩, .bool (varText n).2]) ∧ Below w.heap.size w w' := by
  by_cases h : 0 ≤ n ∧ n ≤ 1000000000
  · have hv : varText n = (varB 4 n.toNat, true) := by simp [varText, h]
    rw [hv]
    obtain ⟨n, rfl⟩ := Int.eq_ofNat_of_zero_le h.1
    clear hv
    have h1 : n ≤ 1000000000 := by omega
    clear h
    obtain ⟨i0, hi, hz0, hz1, hz2⟩ := info_parts info5
    go_enter Tryd.func6, Tryd.ntmps6
    go_wp2
    go_loopw [0, 4] (fun i v wr => ∃ m : Nat, ∃ pre : List UInt8, Wrote n pre m ∧ i = .int .i64 m ∧ wr.ownsRow w.heap.size 5 1 v pre.length (cellsB pre) ∧ Below w.heap.size w wr) (fun i _ _ => (intOf i).toNat)
    case atStart =>
      exact ⟨n, [], Wrote.start n (by omega), rfl, World.ownsRow_nil _ _ _ _, Below.refl _ _⟩
    case round =>
      obtain ⟨m, pre, hwr, rfl, hown, hbel⟩ := hrel
      have hm := hwr.lt
      have hl := hwr.len
      by_cases h127 : 127 < m
      · have Hn := hide (hwr.next h127)
        clear hwr
        go_wp2_with (at_builtin; refine wpList_append_byte hbel (Nat.le_refl _) rfl (.tmp 13) (.tmp 18) 22 rfl 5 i0 Tryd.underlying22 hi hz0 hz1 hz2 _ _ _ rfl hown 1 rfl (by omega) ?_)
        intro v' w1 hown' hbel'
        go_wp2
        go_roundw
        case rel => exact ⟨m / 128, _, Hn.out, by go_num, own_snoc hown' _ (by rw [byte_of _ (by omega)]; omega), hbel'⟩
        case measure => simp [intOf]; omega
      · have Hl := hide (hwr.last (by omega))
        clear hwr
        go_wp2_with (at_builtin; refine wpList_append_byte hbel (Nat.le_refl _) rfl (.tmp 22) (.tmp 25) 22 rfl 5 i0 Tryd.underlying22 hi hz0 hz1 hz2 _ _ _ rfl hown 1 rfl (by omega) ?_)
        intro v' w1 hown' hbel'
        have hown2 := own_snoc hown' (UInt8.ofNat m) (by rw [byte_of _ (by omega)])
        rw [← Hl.out] at hown2
        have hpos := (varB_length 4 n).1
        clear Hl hown' hown
        obtain ⟨l, HL⟩ : ∃ l, Hid (l = varB 4 n) := ⟨_, rfl⟩
        rw [← HL.out] at hown2 hpos
        obtain ⟨g, cap, hv, hcv⟩ := own_text hown2 hpos 22 9 Tryd.underlying22 Tryd.underlying5 Tryd.underlying9
        clear hown2
        rw [hv]
        clear hv
        go_wp2
        go_ret2
        refine ⟨?_, hbel'⟩
        have e1 : (n : Int).toNat = n := by omega
        rw [e1, ← HL.out]
        rfl
  · have hv : varText n = ([], false) := by simp only [varText, if_neg h]
    rw [hv]
    clear hv
    by_cases h0 : n < 0
    · go_enter Tryd.func6, Tryd.ntmps6
      go_wp2
      go_ret2
      exact ⟨rfl, Below.refl _ _⟩
    · have h2 : 1000000000 < n := by omega
      go_enter Tryd.func6, Tryd.ntmps6
      go_wp2
      go_ret2
      exact ⟨rfl, Below.refl _ _⟩
end Go.Proofs.YtknlhejpcjpeeaaDoor.P1
