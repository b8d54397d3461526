/- Numbers and texts come back from what is written of them; as plain mathematics; no condition. -/
import Derived.Test.YtknlhejpcjpeeaaDoorNumP
import Derived.Test.YtknlhejpcjpeeaaDoorHexP
import Derived.Test.YtknlhejpcjpeeaaDoorCrdQ
namespace Go.Proofs.YtknlhejpcjpeeaaDoor.P1
open P5

theorem dec_back (n : Nat) : num (Lib.decDigits n) = n ∧ allD (Lib.decDigits n) := by
  induction n using Nat.strongRecOn with
  | _ n ih =>
    rw [Lib.decDigits]
    split
    · rename_i h
      have e : (UInt8.ofNat (48 + n)).toNat = 48 + n := by rw [UInt8.toNat_ofNat']; omega
      have hall : allD ([] ++ [UInt8.ofNat (48 + n)]) := by
        intro c hc
        have hc : c = UInt8.ofNat (48 + n) := by simpa using hc
        subst hc
        omega
      refine ⟨?_, hall⟩
      have h1 := num_snoc [] (UInt8.ofNat (48 + n)) hall
      rw [List.nil_append] at h1
      rw [h1, e]
      have : num [] = 0 := rfl
      omega
    · rename_i h
      obtain ⟨h1, h2⟩ := ih (n / 10) (by omega)
      have e : (UInt8.ofNat (48 + n % 10)).toNat = 48 + n % 10 := by rw [UInt8.toNat_ofNat']; omega
      have hall : allD (Lib.decDigits (n / 10) ++ [UInt8.ofNat (48 + n % 10)]) := by
        intro c hc
        rcases List.mem_append.1 hc with hc | hc
        · exact h2 c hc
        · have hc : c = UInt8.ofNat (48 + n % 10) := by simpa using hc
          subst hc
          omega
      exact ⟨by rw [num_snoc _ _ hall, h1, e]; omega, hall⟩

theorem dec_len (k : Nat) : ∀ n, n < 10 ^ (k + 1) → (Lib.decDigits n).length ≤ k + 1 := by
  induction k with
  | zero =>
    intro n h
    rw [Lib.decDigits, dif_pos (by simpa using h)]
    exact Nat.le_refl _
  | succ k ih =>
    intro n h
    rw [Lib.decDigits]
    split
    · simp
    · have h1 := ih (n / 10) (by rw [Nat.pow_succ] at h; omega)
      rw [List.length_append, List.length_singleton]
      omega

theorem readDec_back (n : Nat) (h : n ≤ 1000000000) : readDec (Lib.itoa (n : Int)) = (n, true) := by
  have e : Lib.itoa (n : Int) = Lib.decDigits n := by
    unfold Lib.itoa
    rw [if_neg (by omega), Int.toNat_natCast]
  obtain ⟨h1, h2⟩ := dec_back n
  rw [e, readDec_yes ⟨dec_len 9 n (by omega), by rw [figs_full _ h2, List.length_map], by rw [h1]; exact h, by rw [h1]⟩, h1]

theorem figV_fig (x : Nat) (h : x < 16) : figV 16 (fig x) = some x := by
  unfold fig
  split
  · rename_i h1
    unfold figV
    rw [if_pos (by omega)]
    congr 1
    omega
  · unfold figV
    rw [if_neg (by omega), if_pos (by omega)]
    congr 1
    omega

theorem unhexB_back (l : List UInt8) : unhexB (hexB l) = some l := by
  induction l with
  | nil => rfl
  | cons b r ih =>
    have hb := b.toNat_lt
    have e1 : (UInt8.ofNat (fig (b.toNat / 16))).toNat = fig (b.toNat / 16) := by rw [UInt8.toNat_ofNat']; exact Nat.mod_eq_of_lt (fig_lt _ (by omega))
    have e2 : (UInt8.ofNat (fig (b.toNat % 16))).toNat = fig (b.toNat % 16) := by rw [UInt8.toNat_ofNat']; exact Nat.mod_eq_of_lt (fig_lt _ (by omega))
    show unhexB (UInt8.ofNat (fig (b.toNat / 16)) :: UInt8.ofNat (fig (b.toNat % 16)) :: hexB r) = _
    unfold unhexB
    rw [e1, e2, figV_fig _ (by omega), figV_fig _ (by omega), ih]
    have e3 : UInt8.ofNat (16 * (b.toNat / 16) + b.toNat % 16) = b := by
      rw [show 16 * (b.toNat / 16) + b.toNat % 16 = b.toNat by omega]
      exact byte_same b
    simp only [Option.map_some, e3]

theorem unhexL_back (l : List UInt8) (h : l.length ≤ 20000) : unhexL (hexB l) = (l, true) :=
  unhexL_in ⟨by rw [hexB_length]; omega, by rw [hexB_length]; omega⟩ (unhexB_back l)

theorem readVar_back (n : Nat) (h : n ≤ 1000000000) : readVar ([120] ++ (varB 4 n ++ [121])) 1 = (n, 1 + (varB 4 n).length, true) := readVar_varB [120] [121] n h

theorem readVar_head (l : List UInt8) (h : l.length ≤ 1000000000) : readVar (varB 4 l.length ++ l) 0 = (l.length, (varB 4 l.length).length, true) := by
  have := readVar_varB [] l l.length h
  simpa using this
end Go.Proofs.YtknlhejpcjpeeaaDoor.P1
