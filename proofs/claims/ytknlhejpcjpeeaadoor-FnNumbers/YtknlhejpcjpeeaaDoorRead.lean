/- The contracts of spec.ReadVar and impl.ReadVar: each returns what readVar tells; condition: the text is at most 2^20 bytes long. -/
import Derived.Test.YtknlhejpcjpeeaaDoorRows
import Derived.Test.YtknlhejpcjpeeaaDoorScan
import Derived.Test.YtknlhejpcjpeeaaDoorVar
import Derived.WalkKit
namespace Go.Proofs.YtknlhejpcjpeeaaDoor.P1
set_option maxRecDepth 8000
open Go.RowKit

/-- The three results of ReadVar as the program hands them back. -/
def rvV (r : Nat × Nat × Bool) : Value := .tuple #[.int .i64 (r.1 : Int), .int .i64 (r.2.1 : Int), .bool r.2.2]

theorem unit_bound (k : Nat) (h : k ≤ 4) : 1 ≤ 128 ^ k ∧ 128 ^ k ≤ 268435456 := by
  match k, h with
  | 0, _ => decide
  | 1, _ => decide
  | 2, _ => decide
  | 3, _ => decide
  | 4, _ => decide

theorem cast_mod (b U : Nat) : ((b % 128 : Nat) : Int) * (U : Int) = (b : Int) % 128 * (U : Int) := by
  rw [Int.natCast_emod]; rfl

theorem byte_at (s : ByteArray) (i : Nat) (h : i < s.size) (h' : i < s.data.toList.length) : (s[i]'h) = s.data.toList[i]'h' := rfl

theorem next_step {s : ByteArray} {p k U V f : Nat} {pre : List UInt8} (hk : k = pre.length) (hU : U = 128 ^ k) (hV : V = val pre) (hs : Seen s.data.toList p pre (f + 1)) (hlt : p + k < s.size) (hb : 127 < (s[p + k]'hlt).toNat) :
    ∃ pre', Seen s.data.toList p pre' f ∧ pre'.length = k + 1 ∧ val pre' = V + (s[p + k]'hlt).toNat % 128 * U ∧ 128 ^ pre'.length = U * 128 := by
  subst hk; subst hU; subst hV
  have h' : p + pre.length < s.data.toList.length := by rw [Array.length_toList]; exact hlt
  rw [byte_at s _ hlt h'] at hb ⊢
  exact ⟨_, hs.next h' hb, by simp, val_snoc _ _, by simp [Nat.pow_succ]⟩

theorem done_step {s : ByteArray} {p k U V f : Nat} {pre : List UInt8} (hk : k = pre.length) (hU : U = 128 ^ k) (hV : V = val pre) (hs : Seen s.data.toList p pre (f + 1)) (hlt : p + k < s.size) (hb : (s[p + k]'hlt).toNat ≤ 127) :
    readVar s.data.toList p = if V + (s[p + k]'hlt).toNat % 128 * U ≤ 1000000000 ∧ ¬ ((s[p + k]'hlt).toNat = 0 ∧ 0 < k) then (V + (s[p + k]'hlt).toNat % 128 * U, p + k + 1, true) else (0, 0, false) := by
  subst hk; subst hU; subst hV
  have h' : p + pre.length < s.data.toList.length := by rw [Array.length_toList]; exact hlt
  rw [byte_at s _ hlt h'] at hb ⊢
  rw [hs.answer h' hb, val_snoc]
  simp only [ne_eq, List.length_pos_iff]

theorem done_told {s : ByteArray} {p k U V f : Nat} {pre : List UInt8} (hk : k = pre.length) (hU : U = 128 ^ k) (hV : V = val pre) (hs : Seen s.data.toList p pre (f + 1)) (hlt : p + k < s.size) (hb : (s[p + k]'hlt).toNat ≤ 127) :
    readVar s.data.toList p = if V + (s[p + k]'hlt).toNat % 128 * U ≤ 1000000000 ∧ varB 4 (V + (s[p + k]'hlt).toNat % 128 * U) = (s.data.toList.drop p).take (k + 1) then (V + (s[p + k]'hlt).toNat % 128 * U, p + k + 1, true) else (0, 0, false) := by
  subst hk; subst hU; subst hV
  have h' : p + pre.length < s.data.toList.length := by rw [Array.length_toList]; exact hlt
  rw [byte_at s _ hlt h'] at hb ⊢
  rw [hs.answer_told h' hb, val_snoc, (hs.last h' hb).2]

set_option maxHeartbeats 400000 in
theorem implReadVar_calls (s : ByteArray) (at_ : Int) (hs : s.size ≤ 1048576) (w : World) :
    Calls Tryd.prog 7 #[.string s, .int .i64 at_] w fun e w' => e = .returned (rvV (readVar s.data.toList at_)) ∧ w' = w := by
  have hlen : s.data.toList.length = s.size := Array.length_toList
  by_cases h : 0 ≤ at_ ∧ at_ ≤ s.data.toList.length
  · obtain ⟨p, rfl⟩ := Int.eq_ofNat_of_zero_le h.1
    have hp : p ≤ s.size := by rw [hlen] at h; omega
    have Hl := hide hlen
    clear h hlen
    have hn1 : decide (s.size < p) = false := by simp; omega
    have hn2 : decide ((p : Int) < 0) = false := by simp
    go_enter Tryd.func7, Tryd.ntmps7
    go_wp2
    go_loop [7, 8, 9] (fun n u i => ∃ pre : List UInt8, ∃ f : Nat, Seen s.data.toList p pre f ∧ p + pre.length ≤ s.size ∧ n = .int .i64 (val pre) ∧ u = .int .i64 ((128 ^ pre.length : Nat) : Int) ∧ i = .int .i64 ((p + pre.length : Nat) : Int)) (fun _ _ i => s.size - (intOf i).toNat)
    case atStart => exact ⟨[], 5, Seen.start _ _, hp, rfl, rfl, rfl⟩
    case round =>
      obtain ⟨pre, f, hseen, hpk, rfl, rfl, rfl⟩ := hrel
      obtain ⟨k, Hk⟩ : ∃ k, Hid (k = pre.length) := ⟨_, hide rfl⟩
      obtain ⟨U, HU⟩ : ∃ U, Hid (U = 128 ^ k) := ⟨_, hide rfl⟩
      obtain ⟨V, HV⟩ : ∃ V, Hid (V = val pre) := ⟨_, hide rfl⟩
      rw [← Hk.out, ← HU.out, ← HV.out]
      rw [← Hk.out] at hpk
      have Hs := hide hseen
      clear hseen
      cases f with
      | zero =>
        have hU : 1000000000 < U := by
          have h5 : k = 5 := by rw [Hk.out]; have := Hs.out.len; omega
          rw [HU.out, h5]; decide
        have Hans : Hid (readVar s.data.toList p = (0, 0, false)) := readVar_none (by rw [Hl.out]; exact hp) Hs.out.spent
        by_cases hlt : p + k < s.size
        · go_wp2
          go_ret3
          exact ⟨by rw [Hans.out]; rfl, rfl⟩
        · go_wp2
          go_ret3
          exact ⟨by rw [Hans.out]; rfl, rfl⟩
      | succ f =>
        have hk4 : k ≤ 4 := by rw [Hk.out]; have := Hs.out.len; omega
        have hU : 1 ≤ U ∧ U ≤ 268435456 := by rw [HU.out]; exact unit_bound k hk4
        obtain ⟨hU1, hU2⟩ := hU
        have hV : V < 268435456 := by
          have h1 := val_lt pre
          rw [← HV.out, ← Hk.out, ← HU.out] at h1
          omega
        by_cases hlt : p + k < s.size
        · have hb : (s[p + k]'hlt).toNat < 256 := UInt8.toNat_lt _
          have hm1 : (0 : Int) ≤ ((s[p + k]'hlt).toNat : Int) % 128 * (U : Int) := Int.mul_nonneg (by omega) (by omega)
          have hm2 : ((s[p + k]'hlt).toNat : Int) % 128 * (U : Int) ≤ 127 * 268435456 := Int.mul_le_mul (by omega) (by omega) (by omega) (by omega)
          by_cases h127 : 127 < (s[p + k]'hlt).toNat
          · have Hn := hide (next_step Hk.out HU.out HV.out Hs.out hlt h127)
            go_wp2
            go_round
            case rel =>
              obtain ⟨pre', h1, h2, h3, h4⟩ := Hn.out
              exact ⟨pre', f, h1, by omega, by rw [h3]; go_num, by rw [h4]; go_num, by rw [h2]; go_num⟩
            case measure => simp [intOf]; omega
          · have Hd := hide (done_step Hk.out HU.out HV.out Hs.out hlt (by omega))
            by_cases hz : (s[p + k]'hlt).toNat = 0
            · by_cases hk0 : 0 < k
              · have Ha : Hid (readVar s.data.toList p = (0, 0, false)) := by rw [Hd.out, if_neg (by omega)]; exact hide rfl
                clear Hd
                go_wp2
                go_ret3
                exact ⟨by rw [Ha.out]; rfl, rfl⟩
              · have Ha : Hid (readVar s.data.toList p = (V, p + k + 1, true)) := by
                  rw [Hd.out, hz, if_pos (by omega)]; exact hide (by simp)
                clear Hd
                go_wp2
                go_ret3
                exact ⟨by rw [Ha.out]; rfl, rfl⟩
            · have hmc := cast_mod (s[p + k]'hlt).toNat U
              by_cases hbig : 1000000000 < (V : Int) + ((s[p + k]'hlt).toNat : Int) % 128 * (U : Int)
              · have Ha : Hid (readVar s.data.toList p = (0, 0, false)) := by rw [Hd.out, if_neg (by omega)]; exact hide rfl
                clear Hd hmc
                go_wp2
                go_ret3
                exact ⟨by rw [Ha.out]; rfl, rfl⟩
              · have Ha : Hid (readVar s.data.toList p = (V + (s[p + k]'hlt).toNat % 128 * U, p + k + 1, true)) := by
                  rw [Hd.out, if_pos (by omega)]; exact hide rfl
                clear Hd hmc
                go_wp2
                go_ret3
                exact ⟨by rw [Ha.out]; rfl, rfl⟩
        · have Hans : Hid (readVar s.data.toList p = (0, 0, false)) := readVar_none (by rw [Hl.out]; exact hp) (Hs.out.ended (by rw [Hl.out, ← Hk.out]; omega))
          go_wp2
          go_ret3
          exact ⟨by rw [Hans.out]; rfl, rfl⟩
  · have hans := readVar_out _ _ h
    rw [hans]
    rw [hlen] at h
    clear hans
    by_cases h0 : at_ < 0
    · go_enter Tryd.func7, Tryd.ntmps7
      go_wp2
      go_ret3
      exact ⟨rfl, rfl⟩
    · have h2 : (s.size : Int) < at_ := by omega
      go_enter Tryd.func7, Tryd.ntmps7
      go_wp2
      go_ret3
      exact ⟨rfl, rfl⟩

theorem slice_cut (wx : World) (s : ByteArray) (a b : Nat) (h1 : a ≤ b) (h2 : b ≤ s.size) :
    (Instr.slice 9 (.string s) (some (.int .i64 (a : Int))) (some (.int .i64 (b : Int))) none).run Tryd.prog wx = .ok (.string (s.extract a b)) wx := by
  have := run_slice_string (P := Tryd.prog) wx 9 s .i64 .i64 (a : Int) (b : Int) Tryd.underlying9 (by omega) (by omega) (by omega)
  simpa using this

theorem extract_toList (s : ByteArray) (a b : Nat) : (s.extract a b).toList = (s.data.toList.drop a).take (b - a) := by
  rw [ByteArray.toList_eq]
  obtain ⟨⟨l⟩⟩ := s
  rw [ByteArray.extract_mk]

theorem below_drewR (w : World) (n : Nat) : Below w.heap.size w (w.drewN n) := ⟨rfl, rfl, rfl, Nat.le_refl _, fun _ _ => rfl⟩
end Go.Proofs.YtknlhejpcjpeeaaDoor.P1
