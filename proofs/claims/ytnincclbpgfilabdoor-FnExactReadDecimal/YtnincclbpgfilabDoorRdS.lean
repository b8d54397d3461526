/- The contract of spec.ReadDecimal: what chapter 1 tells of decimal figures; condition: the text is at most 2^20 bytes long. -/
import Derived.Test.YtnincclbpgfilabDoorDec
import Derived.Test.YtnincclbpgfilabDoorNumP
import Derived.WalkKit
namespace Go.Proofs.YtnincclbpgfilabDoor.P1
open Go.RowKit

/-- The two results of ReadDecimal as the program hands them back. -/
def rdV (r : Nat × Bool) : Value := .tuple #[.int .i64 (r.1 : Int), .bool r.2]

theorem pow_bound (k : Nat) (h : k ≤ 10) : 10 ^ k ≤ 10000000000 := by
  match k, h with
  | 0, _ => decide
  | 1, _ => decide
  | 2, _ => decide
  | 3, _ => decide
  | 4, _ => decide
  | 5, _ => decide
  | 6, _ => decide
  | 7, _ => decide
  | 8, _ => decide
  | 9, _ => decide
  | 10, _ => decide
  | n + 11, h => exact absurd h (by omega)

theorem itoa_nat (n : Nat) : Lib.itoa (n : Int) = Lib.decDigits n := by
  unfold Lib.itoa
  rw [if_neg (by omega), Int.toNat_natCast]

set_option maxHeartbeats 400000 in
theorem specReadDecimal_calls (s : ByteArray) (hs : s.size ≤ 1048576) (w : World) :
    Calls Tryd.prog 8 #[.string s] w fun e w' => e = .returned (rdV (readDec s.data.toList)) ∧ Below w.heap.size w w' := by
  have hlen : s.data.toList.length = s.size := Array.length_toList
  by_cases h : s.size ≤ 10
  · have Hl := hide hlen
    clear hlen
    go_enter Tryd.func8, Tryd.ntmps8
    go_wp2
    go_loop [4, 5] (fun n i => ∃ k : Nat, ∃ pre : List UInt8, k ≤ s.size ∧ Figs 10 s.data.toList k pre ∧ (∀ v ∈ pre, v.toNat < 10) ∧ n = .int .i64 (numF pre : Int) ∧ i = .int .i64 (k : Int)) (fun _ i => s.size - (intOf i).toNat)
    case atStart => exact ⟨0, [], Nat.zero_le _, Figs.start _ _, by simp, rfl, rfl⟩
    case round =>
      obtain ⟨k, pre, hk, hf, hsm, rfl, rfl⟩ := hrel
      have hpl := hf.len
      have hb := numF_lt pre hsm
      rw [hpl] at hb
      have hb2 := pow_bound k (by omega)
      have hnb : numF pre < 10000000000 := by omega
      have Hf := hide hf
      have Hsm := hide hsm
      clear hf hsm hpl hb hb2
      by_cases hlt : k < s.size
      · have hby : (s[k]'hlt).toNat < 256 := UInt8.toNat_lt _
        have hlt' : k < s.data.toList.length := by rw [Hl.out]; exact hlt
        by_cases h1 : 48 ≤ (s[k]'hlt).toNat ∧ (s[k]'hlt).toNat ≤ 57
        · have hv : figV 10 (s[k]'hlt).toNat = some ((s[k]'hlt).toNat - 48) := by simp [figV, h1]
          have Hn := hide (Hf.out.next hlt' hv)
          have Hb := hide (UInt8.toNat_ofNat' (n := (s[k]'hlt).toNat - 48))
          obtain ⟨h2, h3⟩ := h1
          clear hv hlt'
          go_wp2
          go_round
          case rel =>
            have e1 : (UInt8.ofNat ((s[k]'hlt).toNat - 48)).toNat = (s[k]'hlt).toNat - 48 := by rw [Hb.out]; omega
            refine ⟨k + 1, _, by omega, Hn.out, ?_, ?_, by go_num⟩
            · intro v hv
              rcases List.mem_append.1 hv with h | h
              · exact Hsm.out v h
              · simp only [List.mem_singleton] at h
                rw [h]
                show (UInt8.ofNat ((s[k]'hlt).toNat - 48)).toNat < 10
                rw [e1]; omega
            · rw [numF_snoc, e1]
              go_num
          case measure => simp [intOf]; omega
        · have hv : figV 10 (s[k]'hlt).toNat = none := by simp [figV, h1]
          have hst := Hf.out.stop hlt' hv
          have Ha := hide (readDec_no (l := s.data.toList) (by
            rintro ⟨_, h2, _⟩
            rw [hst, Hf.out.len, Hl.out] at h2
            omega))
          have hc2 : (s[k]'hlt).toNat < 48 ∨ 57 < (s[k]'hlt).toNat := by omega
          clear hv hst hlt' h1
          rcases hc2 with hc | hc
          all_goals
            go_wp2
            go_ret2
            exact ⟨by rw [Ha.out]; rfl, Below.refl _ _⟩
      · have hfe := Hf.out.end_ (by rw [Hl.out]; omega)
        have Hnum : Hid (num s.data.toList = numF pre) := by show numF (figs 10 s.data.toList) = numF pre; rw [hfe]
        have Hfull : Hid ((figs 10 s.data.toList).length = s.data.toList.length) := by
          show (figs 10 s.data.toList).length = s.data.toList.length
          rw [hfe, Hf.out.len, Hl.out]; omega
        clear hfe
        obtain ⟨n, Hn⟩ : ∃ n, Hid (n = numF pre) := ⟨_, hide rfl⟩
        rw [← Hn.out]
        rw [← Hn.out] at hnb
        by_cases hbig : 1000000000 < n
        · have Ha := hide (readDec_no (l := s.data.toList) (by rintro ⟨_, _, h3, _⟩; rw [Hnum.out, ← Hn.out] at h3; omega))
          go_wp2
          go_ret2
          exact ⟨by rw [Ha.out]; rfl, Below.refl _ _⟩
        · go_wp2_with fail
          refine (specDecimal_calls (n : Int) (by omega) (by omega) _).mono ?_
          rintro e w1 ⟨rfl, hb1⟩
          rw [itoa_nat]
          by_cases heq : Lib.decDigits n = s.data.toList
          · have Ha := hide (readDec_yes (l := s.data.toList) ⟨by rw [Hl.out]; exact h, Hfull.out, by rw [Hnum.out, ← Hn.out]; omega, by rw [Hnum.out, ← Hn.out]; exact heq⟩)
            have hcmp : (!Lib.decDigits n == s.toList) = false := by rw [ByteArray.toList_eq, heq]; simp
            clear heq
            go_wp2
            go_ret2
            exact ⟨by rw [Ha.out, Hnum.out, ← Hn.out]; rfl, hb1⟩
          · have Ha := hide (readDec_no (l := s.data.toList) (by rintro ⟨_, _, _, h4⟩; rw [Hnum.out, ← Hn.out] at h4; exact heq h4))
            have hcmp : (!Lib.decDigits n == s.toList) = true := by rw [ByteArray.toList_eq]; simpa using heq
            clear heq
            go_wp2
            go_ret2
            exact ⟨by rw [Ha.out]; rfl, hb1⟩
  · have Ha := hide (readDec_no (l := s.data.toList) (by rintro ⟨h1, _⟩; rw [hlen] at h1; omega))
    clear hlen
    go_enter Tryd.func8, Tryd.ntmps8
    go_wp2
    go_ret2
    exact ⟨by rw [Ha.out]; rfl, Below.refl _ _⟩
end Go.Proofs.YtnincclbpgfilabDoor.P1
