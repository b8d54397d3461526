/- The contracts of spec.l01Value and spec.Unhex: what chapter 1 tells of figures; no condition on the text but its length in memory. -/
import Derived.Test.YtnincclbpgfilaaVar
import Derived.Test.YtnincclbpgfilaaFigP
import Derived.WalkKit
namespace Go.Proofs.Ytnincclbpgfilaa.P1
open Go.RowKit

/-- What a figure is worth, or -1. -/
def figI (c : Nat) : Int := match figV 16 c with
  | some v => v
  | none => -1

theorem figI_some {c v : Nat} (h : figV 16 c = some v) : figI c = v := by simp [figI, h]
theorem figI_none {c : Nat} (h : figV 16 c = none) : figI c = -1 := by simp [figI, h]

theorem value_calls (c : Nat) (hc : c < 256) (w : World) : Calls Try.prog 25 #[.int .u8 (c : Int)] w fun e w' => e = .returned (.int .i64 (figI c)) ∧ w' = w := by
  by_cases h1 : 48 ≤ c ∧ c ≤ 57
  · have hv : figI c = (c : Int) - 48 := by simp [figI, figV, h1]; omega
    rw [hv]
    obtain ⟨h2, h3⟩ := h1
    clear hv
    go_enter Try.func25, Try.ntmps25
    go_wp2
    go_ret
    exact ⟨rfl, rfl⟩
  · by_cases h4 : 97 ≤ c ∧ c ≤ 102
    · have hv : figI c = (c : Int) - 97 + 10 := by simp [figI, figV, h4, show ¬ (48 ≤ c ∧ c ≤ 57) by omega]; omega
      rw [hv]
      obtain ⟨h2, h3⟩ := h4
      have h5 : ¬ c ≤ 57 := by omega
      clear hv h1
      go_enter Try.func25, Try.ntmps25
      go_wp2
      go_ret
      exact ⟨rfl, rfl⟩
    · have hv : figI c = -1 := by simp [figI, figV, h1, h4]
      rw [hv]
      clear hv
      by_cases h5 : c < 48
      · go_enter Try.func25, Try.ntmps25
        go_wp2
        go_ret
        exact ⟨rfl, rfl⟩
      · by_cases h6 : c < 97
        · have h7 : 57 < c := by omega
          clear h1 h4
          go_enter Try.func25, Try.ntmps25
          go_wp2
          go_ret
          exact ⟨rfl, rfl⟩
        · have h7 : 102 < c := by omega
          clear h1 h4
          go_enter Try.func25, Try.ntmps25
          go_wp2
          go_ret
          exact ⟨rfl, rfl⟩

set_option maxHeartbeats 400000 in
theorem specUnhex_calls (s : ByteArray) (hs : s.size ≤ 140737488355328) (w : World) :
    Calls Try.prog 19 #[.string s] w fun e w' => e = .returned (.tuple #[.string ⟨(unhexL s.data.toList).1.toArray⟩, .bool (unhexL s.data.toList).2]) ∧ Below w.heap.size w w' := by
  have hlen : s.data.toList.length = s.size := Array.length_toList
  by_cases h : s.data.toList.length ≤ 40000 ∧ s.data.toList.length % 2 = 0
  · obtain ⟨i0, hi, hz0, hz1, hz2⟩ := info_parts info5
    have Hh := hide h
    rw [hlen] at h
    obtain ⟨h1, h2⟩ := h
    have hmod : (((s.size : Int) % 2) != 0) = false := by simp; omega
    have Hl := hide hlen
    clear hlen h2
    go_enter Try.func19, Try.ntmps19
    go_wp2
    go_loopw [4, 5] (fun v i wr => ∃ k : Nat, ∃ pre : List UInt8, 2 * k ≤ s.size ∧ Pairs s.data.toList k pre ∧ i = .int .i64 ((2 * k : Nat) : Int) ∧ wr.ownsRow w.heap.size 5 1 v pre.length (cellsB pre) ∧ Below w.heap.size w wr) (fun _ i _ => s.size - (intOf i).toNat)
    case atStart => exact ⟨0, [], by omega, Pairs.start _, rfl, World.ownsRow_lit _ _ 0 (Nat.le_refl _) (by decide) rfl, (Below.refl _ _).alloc (Nat.le_refl _) _⟩
    case round =>
      obtain ⟨k, pre, hk, hp, rfl, hown, hbel⟩ := hrel
      have hpl := hp.len
      have hpl' : pre.length ≤ 40000 := by omega
      have Hp := hide hp
      clear hp hpl
      by_cases hlt : 2 * k < s.size
      · have hlt2 : 2 * k + 1 < s.size := by have := Hh.out.2; rw [Hl.out] at this; omega
        have hb1 : (s[2 * k]'hlt).toNat < 256 := UInt8.toNat_lt _
        have hb2 : (s[2 * k + 1]'hlt2).toNat < 256 := UInt8.toNat_lt _
        go_wp2_with fail
        refine (value_calls (s[2 * k]'hlt).toNat hb1 _).mono ?_
        rintro e wx ⟨rfl, rfl⟩
        go_wp2_with fail
        refine (value_calls (s[2 * k + 1]'hlt2).toNat hb2 _).mono ?_
        rintro e wx ⟨rfl, rfl⟩
        clear hb1 hb2
        cases hx : figV 16 (s[2 * k]'hlt).toNat with
        | none =>
          have Ha := hide (unhexL_bad Hh.out (Hp.out.bad (by rw [Hl.out]; exact hlt2) (.inl hx)))
          rw [figI_none hx]
          clear hx
          go_wp2
          go_ret2
          exact ⟨by rw [Ha.out]; rfl, hbel⟩
        | some x =>
          have hx16 := figV_lt hx
          cases hy : figV 16 (s[2 * k + 1]'hlt2).toNat with
          | none =>
            have Ha := hide (unhexL_bad Hh.out (Hp.out.bad (by rw [Hl.out]; exact hlt2) (.inr hy)))
            rw [figI_some hx, figI_none hy]
            clear hx hy
            go_wp2
            go_ret2
            exact ⟨by rw [Ha.out]; rfl, hbel⟩
          | some y =>
            have hy16 := figV_lt hy
            have Hn := hide (Hp.out.next (by rw [Hl.out]; exact hlt2) hx hy)
            rw [figI_some hx, figI_some hy]
            clear hx hy
            go_wp2_with (at_builtin; refine wpList_append_byte hbel (Nat.le_refl _) rfl (.tmp 39) (.tmp 45) 34 rfl 5 i0 Try.underlying34 hi hz0 hz1 hz2 _ _ _ rfl hown 1 rfl (by omega) ?_)
            intro v' w1 hown' hbel'
            go_wp2
            go_roundw
            case rel => exact ⟨k + 1, _, by omega, Hn.out, by go_num, own_snoc hown' _ (by rw [byte_of _ (by omega)]; omega), hbel'⟩
            case measure => simp [intOf]; omega
      · have Ha := hide (unhexL_in Hh.out (Hp.out.done (by rw [Hl.out]; omega)))
        have hcv := own_text_any (P := Try.prog) hown 34 9 Try.underlying34 Try.underlying5 Try.underlying9
        clear hown
        go_wp2
        go_ret2
        exact ⟨by rw [Ha.out]; rfl, hbel⟩
  · rw [unhexL_out h]
    rw [hlen] at h
    by_cases h1 : s.size ≤ 40000
    · have hmod : (((s.size : Int) % 2) != 0) = true := by simp; omega
      clear hlen h
      go_enter Try.func19, Try.ntmps19
      go_wp2
      go_ret2
      exact ⟨rfl, Below.refl _ _⟩
    · clear hlen h
      go_enter Try.func19, Try.ntmps19
      go_wp2
      go_ret2
      exact ⟨rfl, Below.refl _ _⟩
end Go.Proofs.Ytnincclbpgfilaa.P1
