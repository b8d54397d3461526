/- The contracts of spec.ReadVar and impl.ReadVar: each returns what readVar tells; condition: the text is at most 2^20 bytes long.
The contract of the specification's RoleOk; roles and words as values; condition: numbers are ints.
The contract of the specification's CredOk; condition: numbers are ints.
The contract of the specification's CredText; condition: numbers are ints.
The contracts of the specification's CredLess and of the laws' eqRole and toRole; no condition.
The contracts of the program's personOk, RoleOk, partsOk and CredOk; no condition.
The contracts of the program's numbers, cred, varsText, CredText and CredLess; no condition.
The contract of the program's ReadCred; condition: the text is at most 2^20 bytes long.
The contract of the specification's ReadCred; condition: the text is at most 2^20 bytes long. -/
import Derived.Test.YtflicklgmhgpiaaDoorRows
import Derived.Test.YtflicklgmhgpiaaDoorZP
import Derived.Test.YtflicklgmhgpiaaDoorZC
import Derived.Test.YtflicklgmhgpiaaDoorZA
import Derived.Test.YtflicklgmhgpiaaDoorZD
import Derived.WalkKit
namespace Go.Proofs.YtflicklgmhgpiaaDoor.P1
set_option maxRecDepth 8000
open Go.RowKit

/-- The three results of ReadVar as the program hands them back. -/
def rvV (r : Nat × Nat × Bool) : Value := .tuple #[.int .i64 (r.1 : Int), .int .i64 (r.2.1 : Int), .bool r.2.2]

theorem unit_bound (k : Nat) (h : k ≤ 4) : 1 ≤ 128 ^ k ∧ 128 ^ k ≤ 268435456 := by
  match k, h with
  | 0, _ => decide
  | 1, _ => decide
  | 2, _ => decide
  | 3, _ => decide
  | 4, _ => decide

theorem cast_mod (b U : Nat) : ((b % 128 : Nat) : Int) * (U : Int) = (b : Int) % 128 * (U : Int) := by
  rw [Int.natCast_emod]; rfl

theorem byte_at (s : ByteArray) (i : Nat) (h : i < s.size) (h' : i < s.data.toList.length) : (s[i]'h) = s.data.toList[i]'h' := rfl

theorem next_step {s : ByteArray} {p k U V f : Nat} {pre : List UInt8} (hk : k = pre.length) (hU : U = 128 ^ k) (hV : V = val pre) (hs : Seen s.data.toList p pre (f + 1)) (hlt : p + k < s.size) (hb : 127 < (s[p + k]'hlt).toNat) :
    ∃ pre', Seen s.data.toList p pre' f ∧ pre'.length = k + 1 ∧ val pre' = V + (s[p + k]'hlt).toNat % 128 * U ∧ 128 ^ pre'.length = U * 128 := by
  subst hk; subst hU; subst hV
  have h' : p + pre.length < s.data.toList.length := by rw [Array.length_toList]; exact hlt
  rw [byte_at s _ hlt h'] at hb ⊢
  exact ⟨_, hs.next h' hb, by simp, val_snoc _ _, by simp [Nat.pow_succ]⟩

theorem done_step {s : ByteArray} {p k U V f : Nat} {pre : List UInt8} (hk : k = pre.length) (hU : U = 128 ^ k) (hV : V = val pre) (hs : Seen s.data.toList p pre (f + 1)) (hlt : p + k < s.size) (hb : (s[p + k]'hlt).toNat ≤ 127) :
    readVar s.data.toList p = if V + (s[p + k]'hlt).toNat % 128 * U ≤ 1000000000 ∧ ¬ ((s[p + k]'hlt).toNat = 0 ∧ 0 < k) then (V + (s[p + k]'hlt).toNat % 128 * U, p + k + 1, true) else (0, 0, false) := by
  subst hk; subst hU; subst hV
  have h' : p + pre.length < s.data.toList.length := by rw [Array.length_toList]; exact hlt
  rw [byte_at s _ hlt h'] at hb ⊢
  rw [hs.answer h' hb, val_snoc]
  simp only [ne_eq, List.length_pos_iff]

theorem done_told {s : ByteArray} {p k U V f : Nat} {pre : List UInt8} (hk : k = pre.length) (hU : U = 128 ^ k) (hV : V = val pre) (hs : Seen s.data.toList p pre (f + 1)) (hlt : p + k < s.size) (hb : (s[p + k]'hlt).toNat ≤ 127) :
    readVar s.data.toList p = if V + (s[p + k]'hlt).toNat % 128 * U ≤ 1000000000 ∧ varB 4 (V + (s[p + k]'hlt).toNat % 128 * U) = (s.data.toList.drop p).take (k + 1) then (V + (s[p + k]'hlt).toNat % 128 * U, p + k + 1, true) else (0, 0, false) := by
  subst hk; subst hU; subst hV
  have h' : p + pre.length < s.data.toList.length := by rw [Array.length_toList]; exact hlt
  rw [byte_at s _ hlt h'] at hb ⊢
  rw [hs.answer_told h' hb, val_snoc, (hs.last h' hb).2]

set_option maxHeartbeats 400000 in
theorem implReadVar_calls (s : ByteArray) (at_ : Int) (hs : s.size ≤ 1048576) (w : World) :
    Calls Tryd.prog 28 #[.string s, .int .i64 at_] w fun e w' => e = .returned (rvV (readVar s.data.toList at_)) ∧ w' = w := by
  have hlen : s.data.toList.length = s.size := Array.length_toList
  by_cases h : 0 ≤ at_ ∧ at_ ≤ s.data.toList.length
  · obtain ⟨p, rfl⟩ := Int.eq_ofNat_of_zero_le h.1
    have hp : p ≤ s.size := by rw [hlen] at h; omega
    have Hl := hide hlen
    clear h hlen
    have hn1 : decide (s.size < p) = false := by simp; omega
    have hn2 : decide ((p : Int) < 0) = false := by simp
    go_enter Tryd.func28, Tryd.ntmps28
    go_wp2
    go_loop [7, 8, 9] (fun n u i => ∃ pre : List UInt8, ∃ f : Nat, Seen s.data.toList p pre f ∧ p + pre.length ≤ s.size ∧ n = .int .i64 (val pre) ∧ u = .int .i64 ((128 ^ pre.length : Nat) : Int) ∧ i = .int .i64 ((p + pre.length : Nat) : Int)) (fun _ _ i => s.size - (intOf i).toNat)
    case atStart => exact ⟨[], 5, Seen.start _ _, hp, rfl, rfl, rfl⟩
    case round =>
      obtain ⟨pre, f, hseen, hpk, rfl, rfl, rfl⟩ := hrel
      obtain ⟨k, Hk⟩ : ∃ k, Hid (k = pre.length) := ⟨_, hide rfl⟩
      obtain ⟨U, HU⟩ : ∃ U, Hid (U = 128 ^ k) := ⟨_, hide rfl⟩
      obtain ⟨V, HV⟩ : ∃ V, Hid (V = val pre) := ⟨_, hide rfl⟩
      rw [← Hk.out, ← HU.out, ← HV.out]
      rw [← Hk.out] at hpk
      have Hs := hide hseen
      clear hseen
      cases f with
      | zero =>
        have hU : 1000000000 < U := by
          have h5 : k = 5 := by rw [Hk.out]; have := Hs.out.len; omega
          rw [HU.out, h5]; decide
        have Hans : Hid (readVar s.data.toList p = (0, 0, false)) := readVar_none (by rw [Hl.out]; exact hp) Hs.out.spent
        by_cases hlt : p + k < s.size
        · go_wp2
          go_ret3
          exact ⟨by rw [Hans.out]; rfl, rfl⟩
        · go_wp2
          go_ret3
          exact ⟨by rw [Hans.out]; rfl, rfl⟩
      | succ f =>
        have hk4 : k ≤ 4 := by rw [Hk.out]; have := Hs.out.len; omega
        have hU : 1 ≤ U ∧ U ≤ 268435456 := by rw [HU.out]; exact unit_bound k hk4
        obtain ⟨hU1, hU2⟩ := hU
        have hV : V < 268435456 := by
          have h1 := val_lt pre
          rw [← HV.out, ← Hk.out, ← HU.out] at h1
          omega
        by_cases hlt : p + k < s.size
        · have hb : (s[p + k]'hlt).toNat < 256 := UInt8.toNat_lt _
          have hm1 : (0 : Int) ≤ ((s[p + k]'hlt).toNat : Int) % 128 * (U : Int) := Int.mul_nonneg (by omega) (by omega)
          have hm2 : ((s[p + k]'hlt).toNat : Int) % 128 * (U : Int) ≤ 127 * 268435456 := Int.mul_le_mul (by omega) (by omega) (by omega) (by omega)
          by_cases h127 : 127 < (s[p + k]'hlt).toNat
          · have Hn := hide (next_step Hk.out HU.out HV.out Hs.out hlt h127)
            go_wp2
            go_round
            case rel =>
              obtain ⟨pre', h1, h2, h3, h4⟩ := Hn.out
              exact ⟨pre', f, h1, by omega, by rw [h3]; go_num, by rw [h4]; go_num, by rw [h2]; go_num⟩
            case measure => simp [intOf]; omega
          · have Hd := hide (done_step Hk.out HU.out HV.out Hs.out hlt (by omega))
            by_cases hz : (s[p + k]'hlt).toNat = 0
            · by_cases hk0 : 0 < k
              · have Ha : Hid (readVar s.data.toList p = (0, 0, false)) := by rw [Hd.out, if_neg (by omega)]; exact hide rfl
                clear Hd
                go_wp2
                go_ret3
                exact ⟨by rw [Ha.out]; rfl, rfl⟩
              · have Ha : Hid (readVar s.data.toList p = (V, p + k + 1, true)) := by
                  rw [Hd.out, hz, if_pos (by omega)]; exact hide (by simp)
                clear Hd
                go_wp2
                go_ret3
                exact ⟨by rw [Ha.out]; rfl, rfl⟩
            · have hmc := cast_mod (s[p + k]'hlt).toNat U
              by_cases hbig : 1000000000 < (V : Int) + ((s[p + k]'hlt).toNat : Int) % 128 * (U : Int)
              · have Ha : Hid (readVar s.data.toList p = (0, 0, false)) := by rw [Hd.out, if_neg (by omega)]; exact hide rfl
                clear Hd hmc
                go_wp2
                go_ret3
                exact ⟨by rw [Ha.out]; rfl, rfl⟩
              · have Ha : Hid (readVar s.data.toList p = (V + (s[p + k]'hlt).toNat % 128 * U, p + k + 1, true)) := by
                  rw [Hd.out, if_pos (by omega)]; exact hide rfl
                clear Hd hmc
                go_wp2
                go_ret3
                exact ⟨by rw [Ha.out]; rfl, rfl⟩
        · have Hans : Hid (readVar s.data.toList p = (0, 0, false)) := readVar_none (by rw [Hl.out]; exact hp) (Hs.out.ended (by rw [Hl.out, ← Hk.out]; omega))
          go_wp2
          go_ret3
          exact ⟨by rw [Hans.out]; rfl, rfl⟩
  · have hans := readVar_out _ _ h
    rw [hans]
    rw [hlen] at h
    clear hans
    by_cases h0 : at_ < 0
    · go_enter Tryd.func28, Tryd.ntmps28
      go_wp2
      go_ret3
      exact ⟨rfl, rfl⟩
    · have h2 : (s.size : Int) < at_ := by omega
      go_enter Tryd.func28, Tryd.ntmps28
      go_wp2
      go_ret3
      exact ⟨rfl, rfl⟩

theorem slice_cut (wx : World) (s : ByteArray) (a b : Nat) (h1 : a ≤ b) (h2 : b ≤ s.size) :
    (Instr.slice 9 (.string s) (some (.int .i64 (a : Int))) (some (.int .i64 (b : Int))) none).run Tryd.prog wx = .ok (.string (s.extract a b)) wx := by
  have := run_slice_string (P := Tryd.prog) wx 9 s .i64 .i64 (a : Int) (b : Int) Tryd.underlying9 (by omega) (by omega) (by omega)
  simpa using this

theorem extract_toList (s : ByteArray) (a b : Nat) : (s.extract a b).toList = (s.data.toList.drop a).take (b - a) := by
  rw [ByteArray.toList_eq]
  obtain ⟨⟨l⟩⟩ := s
  rw [ByteArray.extract_mk]

theorem below_drewR (w : World) (n : Nat) : Below w.heap.size w (w.drewN n) := ⟨rfl, rfl, rfl, Nat.le_refl _, fun _ _ => rfl⟩

theorem l01Var_int (n : Int) (h0 : 0 ≤ n) (h1 : n < 34359738368) (w : World) :
    Calls Tryd.prog 38 #[.int .i64 n] w fun e w' => e = .returned (.string ⟨(varB 4 n.toNat).toArray⟩) ∧ Below w.heap.size w w' := by
  obtain ⟨m, rfl⟩ := Int.eq_ofNat_of_zero_le h0
  exact l01Var_calls m (by omega) w

set_option maxHeartbeats 600000 in
set_option maxRecDepth 10000 in
theorem specReadVar_calls (s : ByteArray) (at_ : Int) (hs : s.size ≤ 1048576) (w : World) :
    Calls Tryd.prog 33 #[.string s, .int .i64 at_] w fun e w' => e = .returned (rvV (readVar s.data.toList at_)) ∧ Below w.heap.size w w' := by
  have hlen : s.data.toList.length = s.size := Array.length_toList
  by_cases h : 0 ≤ at_ ∧ at_ ≤ s.data.toList.length
  · obtain ⟨p, rfl⟩ := Int.eq_ofNat_of_zero_le h.1
    have hp : p ≤ s.size := by rw [hlen] at h; omega
    have Hl := hide hlen
    clear h hlen
    have hd : decide ((0 : Int) ≤ (p : Int) ∧ (p : Int) ≤ (s.size : Int)) = true := by simp; omega
    go_enter Tryd.func33, Tryd.ntmps33
    go_wp2_with fail
    refine (l01In_calls _ _ _ _).mono ?_
    rintro e w1 ⟨rfl, rfl⟩
    rw [hd]
    clear hd
    go_wp2
    go_loop [7, 8, 9] (fun n u i => ∃ pre : List UInt8, ∃ f : Nat, Seen s.data.toList p pre f ∧ p + pre.length ≤ s.size ∧ n = .int .i64 (val pre) ∧ u = .int .i64 ((128 ^ pre.length : Nat) : Int) ∧ i = .int .i64 ((p + pre.length : Nat) : Int)) (fun _ _ i => s.size - (intOf i).toNat)
    case atStart => exact ⟨[], 5, Seen.start _ _, hp, rfl, rfl, rfl⟩
    case round =>
      obtain ⟨pre, f, hseen, hpk, rfl, rfl, rfl⟩ := hrel
      obtain ⟨k, Hk⟩ : ∃ k, Hid (k = pre.length) := ⟨_, hide rfl⟩
      obtain ⟨U, HU⟩ : ∃ U, Hid (U = 128 ^ k) := ⟨_, hide rfl⟩
      obtain ⟨V, HV⟩ : ∃ V, Hid (V = val pre) := ⟨_, hide rfl⟩
      rw [← Hk.out, ← HU.out, ← HV.out]
      rw [← Hk.out] at hpk
      have Hs := hide hseen
      clear hseen
      cases f with
      | zero =>
        have hk5 : 5 ≤ k := by rw [Hk.out]; have := Hs.out.len; omega
        have Hans : Hid (readVar s.data.toList p = (0, 0, false)) := readVar_none (by rw [Hl.out]; exact hp) Hs.out.spent
        by_cases hlt : p + k < s.size
        · go_wp2
          go_ret3
          exact ⟨by rw [Hans.out]; rfl, Below.refl _ _⟩
        · go_wp2
          go_ret3
          exact ⟨by rw [Hans.out]; rfl, Below.refl _ _⟩
      | succ f =>
        have hk4 : k ≤ 4 := by rw [Hk.out]; have := Hs.out.len; omega
        have hU : 1 ≤ U ∧ U ≤ 268435456 := by rw [HU.out]; exact unit_bound k hk4
        obtain ⟨hU1, hU2⟩ := hU
        have hV : V < 268435456 := by
          have h1 := val_lt pre
          rw [← HV.out, ← Hk.out, ← HU.out] at h1
          omega
        by_cases hlt : p + k < s.size
        · have hb : (s[p + k]'hlt).toNat < 256 := UInt8.toNat_lt _
          have hm1 : (0 : Int) ≤ ((s[p + k]'hlt).toNat : Int) % 128 * (U : Int) := Int.mul_nonneg (by omega) (by omega)
          have hm2 : ((s[p + k]'hlt).toNat : Int) % 128 * (U : Int) ≤ 127 * 268435456 := Int.mul_le_mul (by omega) (by omega) (by omega) (by omega)
          by_cases h127 : 127 < (s[p + k]'hlt).toNat
          · have Hn := hide (next_step Hk.out HU.out HV.out Hs.out hlt h127)
            go_wp2
            go_round
            case rel =>
              obtain ⟨pre', h1, h2, h3, h4⟩ := Hn.out
              exact ⟨pre', f, h1, by omega, by rw [h3]; go_num, by rw [h4]; go_num, by rw [h2]; go_num⟩
            case measure => simp [intOf]; omega
          · have Hd := hide (done_told Hk.out HU.out HV.out Hs.out hlt (by omega))
            have hmc := cast_mod (s[p + k]'hlt).toNat U
            by_cases hbig : 1000000000 < (V : Int) + ((s[p + k]'hlt).toNat : Int) % 128 * (U : Int)
            · have Ha : Hid (readVar s.data.toList p = (0, 0, false)) := by rw [Hd.out, if_neg (by omega)]; exact hide rfl
              clear Hd hmc
              have hbd : decide (1000000000 < (V : Int) + ((s[p + k]'hlt).toNat : Int) % 128 * (U : Int)) = true := by simpa using hbig
              go_wp2
              go_quiet (fail)
              go_wp2
              go_ret3
              exact ⟨by rw [Ha.out]; rfl, below_drewR _ _⟩
            · clear hmc
              go_wp2
              have hN0 : 0 ≤ (V : Int) + ((s[p + k]'hlt).toNat : Int) % 128 * (U : Int) := by omega
              generalize hN : (V : Int) + ((s[p + k]'hlt).toNat : Int) % 128 * (U : Int) = N at *
              have HN := hide hN
              clear hN hm1 hm2 hb
              have hN1 : N ≤ 1000000000 := by omega
              clear hbig
              have hbd : decide (1000000000 < N) = false := by simp; omega
              have hsl := fun (wx : World) => slice_cut wx s p (p + k + 1) (by omega) (by omega)
              rw [show ((p + k + 1 : Nat) : Int) = (p : Int) + (k : Int) + 1 by omega] at hsl
              have hne := Near.some w1.heap.size w1
              refine wp_region_near w1.heap.size w1 (Below.refl _ _) (by kernel_rfl) (by kernel_rfl) ?_
              repeat (go_big_quiet_step (exact calls_near (Nat.le_refl _) (l01Var_int N hN0 (by omega) _)))
              refine wpQuiet_nil ?_
              rintro w2 ⟨q, rfl⟩
              have hqb := q.h
              obtain ⟨w2, hq⟩ := q
              simp only at hqb ⊢
              clear hq
              by_cases heq : varB 4 N.toNat = (s.data.toList.drop p).take (k + 1)
              · have hcmp : (!varB 4 N.toNat == (s.extract p (p + k + 1)).toList) = false := by rw [extract_toList, heq]; simp [Nat.add_assoc]
                have Hq := hide heq
                clear heq
                rw [hcmp]
                go_wp2
                go_ret3
                refine ⟨?_, hqb⟩
                have hNn : V + (s[p + k]'hlt).toNat % 128 * U = N.toNat := by
                  have h1 := HN.out
                  have h2 := cast_mod (s[p + k]'hlt).toNat U
                  omega
                have hd := Hd.out
                rw [hNn, if_pos ⟨by omega, Hq.out⟩] at hd
                rw [hd]
                have e1 : ((N.toNat : Nat) : Int) = N := by omega
                simp only [rvV, e1]
                rfl
              · have hcmp : (!varB 4 N.toNat == (s.extract p (p + k + 1)).toList) = true := by rw [extract_toList]; simpa [Nat.add_assoc] using heq
                have Hq := hide heq
                clear heq
                rw [hcmp]
                go_wp2
                go_ret3
                refine ⟨?_, hqb⟩
                have hNn : V + (s[p + k]'hlt).toNat % 128 * U = N.toNat := by
                  have h1 := HN.out
                  have h2 := cast_mod (s[p + k]'hlt).toNat U
                  omega
                have hd := Hd.out
                rw [hNn, if_neg (fun h => Hq.out h.2)] at hd
                rw [hd]
                rfl
        · have Hans : Hid (readVar s.data.toList p = (0, 0, false)) := readVar_none (by rw [Hl.out]; exact hp) (Hs.out.ended (by rw [Hl.out, ← Hk.out]; omega))
          go_wp2
          go_ret3
          exact ⟨by rw [Hans.out]; rfl, Below.refl _ _⟩
  · have hans := readVar_out _ _ h
    rw [hans]
    rw [hlen] at h
    have hd : decide ((0 : Int) ≤ at_ ∧ at_ ≤ (s.size : Int)) = false := by simpa using h
    clear hans
    go_enter Tryd.func33, Tryd.ntmps33
    go_wp2_with fail
    refine (l01In_calls _ _ _ _).mono ?_
    rintro e w1 ⟨rfl, rfl⟩
    rw [hd]
    go_wp2
    go_ret3
    exact ⟨rfl, Below.refl _ _⟩
end Go.Proofs.YtflicklgmhgpiaaDoor.P1
namespace Go.Proofs.YtflicklgmhgpiaaDoor.P5
set_option maxRecDepth 8000
open Go.RowKit P1

/-- A role as a value. -/
abbrev roleV (a b : Int) : Value := .agg #[.int .i64 a, .int .i64 b]

/-- A word as a value. -/
abbrev credV (c : Cr) : Value := .agg #[.int .i64 c.k, .int .i64 c.ow, .int .i64 c.on, .int .i64 c.wh, .int .i64 c.aw, .int .i64 c.an, .int .i64 c.bw, .int .i64 c.bn, .int .i64 c.u, .int .i64 c.n]

set_option maxHeartbeats 400000 in
theorem specRole_calls (a b : Int) (w : World) :
    Calls Tryd.prog 21 #[roleV a b] w fun e w' => e = .returned (.bool (decide (roleOk a b))) ∧ Below w.heap.size w w' := by
  have HB : Hid (Below w.heap.size w (w.alloc (.cells #[.int .i64 a, .int .i64 b] 25))) := (Below.refl _ _).alloc (Nat.le_refl _) _
  by_cases h1 : 0 ≤ a ∧ a ≤ 5
  · have d1 := decide_eq_true h1
    have HR : Hid (decide (roleOk a b) = decide (0 ≤ b ∧ b ≤ 3)) := by
      show _ = _
      by_cases h2 : 0 ≤ b ∧ b ≤ 3
      · rw [decide_eq_true h2, decide_eq_true (show roleOk a b from ⟨h1, h2⟩)]
      · rw [decide_eq_false h2, decide_eq_false (fun h : roleOk a b => h2 h.2)]
    clear h1
    go_enter Tryd.func21, Tryd.ntmps21
    go_wp2_with fail
    refine (l01In_calls _ _ _ _).mono ?_
    rintro e w1 ⟨rfl, rfl⟩
    rw [d1]
    clear d1
    go_wp2_with fail
    refine (l01In_calls _ _ _ _).mono ?_
    rintro e w1 ⟨rfl, rfl⟩
    generalize decide (0 ≤ b ∧ b ≤ 3) = r at *
    go_wp2_with fail
    go_ret
    exact ⟨by rw [HR.out]; rfl, HB.out⟩
  · have d1 := decide_eq_false h1
    have HR : Hid (decide (roleOk a b) = false) := decide_eq_false (fun h => h1 h.1)
    clear h1
    go_enter Tryd.func21, Tryd.ntmps21
    go_wp2_with fail
    refine (l01In_calls _ _ _ _).mono ?_
    rintro e w1 ⟨rfl, rfl⟩
    rw [d1]
    clear d1
    go_wp2_with fail
    go_ret
    exact ⟨by rw [HR.out]; rfl, HB.out⟩

end Go.Proofs.YtflicklgmhgpiaaDoor.P5
namespace Go.Proofs.YtflicklgmhgpiaaDoor.P5
set_option maxRecDepth 8000
open Go.RowKit P1

set_option maxHeartbeats 1000000 in
theorem specCredOk_calls (c : Cr) (w : World) :
    Calls Tryd.prog 16 #[credV c] w fun e w' => e = .returned (.bool (decide (credOk c))) ∧ Below w.heap.size w w' := by
  obtain ⟨k, ow, on, wh, aw, an, bw, bn, u, n⟩ := c
  simp only [credV]
  have HB : Hid (Below w.heap.size w (w.alloc (.cells #[.int .i64 k, .int .i64 ow, .int .i64 on, .int .i64 wh, .int .i64 aw, .int .i64 an, .int .i64 bw, .int .i64 bn, .int .i64 u, .int .i64 n] 27))) := (Below.refl _ _).alloc (Nat.le_refl _) _
  have HA := hide (Blk.new w #[.int .i64 k, .int .i64 ow, .int .i64 on, .int .i64 wh, .int .i64 aw, .int .i64 an, .int .i64 bw, .int .i64 bn, .int .i64 u, .int .i64 n] 27)
  obtain ⟨r, Er⟩ : ∃ r, Hid (r = decide (credOk ⟨k, ow, on, wh, aw, an, bw, bn, u, n⟩)) := ⟨_, rfl⟩
  rw [← Er.out]
  have HRO := hide (fun wx => specRole_calls ow on wx)
  by_cases h1 : roleOk ow on
  · simp only [decide_eq_true h1] at HRO
    by_cases h2 : 1 ≤ u ∧ u ≤ 9999
    · have d2 := decide_eq_true h2
      by_cases h3 : 0 ≤ n ∧ n ≤ 99
      · have d3 := decide_eq_true h3
        have hr : r = decide (kindOk ⟨k, ow, on, wh, aw, an, bw, bn, u, n⟩) := by
          rw [Er.out]
          by_cases hk : kindOk ⟨k, ow, on, wh, aw, an, bw, bn, u, n⟩
          · rw [decide_eq_true hk, decide_eq_true (show credOk _ from ⟨⟨h1, h2, h3⟩, hk⟩)]
          · rw [decide_eq_false hk, decide_eq_false (fun h => hk h.2)]
        have HR := hide hr
        clear hr Er h1 h2 h3
        go_enter Tryd.func16, Tryd.ntmps16
        go_wp2_with fail
        obtain ⟨b1, hb1⟩ : ∃ b, b = w.heap.size := ⟨_, rfl⟩
        rw [← hb1] at HA ⊢
        clear hb1
        generalize w.alloc (.cells #[.int .i64 k, .int .i64 ow, .int .i64 on, .int .i64 wh, .int .i64 aw, .int .i64 an, .int .i64 bw, .int .i64 bn, .int .i64 u, .int .i64 n] 27) = w1 at *
        refine (HRO.out _).mono ?_
        rintro e w2 ⟨rfl, hb2⟩
        have hA2 := HA.out.below hb2 HA.out.lt
        have HB2 := hide (HB.out.trans (hb2.mono HB.out.size))
        have HA2 := hide hA2
        have c0 : w2.cell? ⟨b1, 0, none⟩ = some (.int .i64 k) := by rw [hA2.cell 0]; rfl
        have c3 : w2.cell? ⟨b1, 3, none⟩ = some (.int .i64 wh) := by rw [hA2.cell 3]; rfl
        have c4 : w2.cell? ⟨b1, 4, none⟩ = some (.int .i64 aw) := by rw [hA2.cell 4]; rfl
        have c5 : w2.cell? ⟨b1, 5, none⟩ = some (.int .i64 an) := by rw [hA2.cell 5]; rfl
        have c6 : w2.cell? ⟨b1, 6, none⟩ = some (.int .i64 bw) := by rw [hA2.cell 6]; rfl
        have c7 : w2.cell? ⟨b1, 7, none⟩ = some (.int .i64 bn) := by rw [hA2.cell 7]; rfl
        have c8 : w2.cell? ⟨b1, 8, none⟩ = some (.int .i64 u) := by rw [hA2.cell 8]; rfl
        have c9 : w2.cell? ⟨b1, 9, none⟩ = some (.int .i64 n) := by rw [hA2.cell 9]; rfl
        have hl1 := hA2.lt
        clear hb2 hA2 HA HB HRO
        go_wp2_with fail
        refine (l01In_calls _ _ _ _).mono ?_
        rintro e w3 ⟨rfl, rfl⟩
        rw [d2]
        go_wp2_with fail
        refine (l01In_calls _ _ _ _).mono ?_
        rintro e w3 ⟨rfl, rfl⟩
        rw [d3]
        clear d2 d3
        have HB4 := hide (HB2.out.alloc HB2.out.size (.cells #[.int .i64 0, .int .i64 0] 25))
        have HA4 := hide (HA2.out.below ((Below.refl w3.heap.size w3).alloc (Nat.le_refl _) (.cells #[.int .i64 0, .int .i64 0] 25)) HA2.out.lt)
        have HN4 := hide (Blk.new w3 #[.int .i64 0, .int .i64 0] 25)
        by_cases k1 : k = 1
        · subst k1
          go_wp2_with fail
          refine (l01In_calls _ _ _ _).mono ?_
          rintro e w4 ⟨rfl, rfl⟩
          by_cases h4 : 0 ≤ wh ∧ wh ≤ 5
          · rw [decide_eq_true h4]
            go_wp2_with fail
            all_goals go_ret
            all_goals first
              | exact ⟨by rw [show r = false from by rw [HR.out]; exact decide_eq_false (by unfold kindOk roleOk; dsimp only; omega)]; rfl, HB4.out⟩
              | exact ⟨by rw [show r = true from by rw [HR.out]; exact decide_eq_true (by unfold kindOk roleOk; dsimp only; omega)]; rfl, HB4.out⟩
          · rw [decide_eq_false h4]
            go_wp2_with fail
            all_goals go_ret
            all_goals first
              | exact ⟨by rw [show r = false from by rw [HR.out]; exact decide_eq_false (by unfold kindOk roleOk; dsimp only; omega)]; rfl, HB4.out⟩
              | exact ⟨by rw [show r = true from by rw [HR.out]; exact decide_eq_true (by unfold kindOk roleOk; dsimp only; omega)]; rfl, HB4.out⟩
        · by_cases k2 : k = 2
          · subst k2
            by_cases h4 : wh = 0
            · subst h4
              go_wp2_with fail
              obtain ⟨b2, hb2⟩ : ∃ b, b = w3.heap.size := ⟨_, rfl⟩
              rw [← hb2] at HN4 ⊢
              clear hb2
              generalize w3.alloc (.cells #[.int .i64 0, .int .i64 0] 25) = w4 at *
              clear c0 c3 c4 c5 c6 c7 c8 c9 hl1
              refine (specRole_calls aw an _).mono ?_
              rintro e w5 ⟨rfl, hb5⟩
              have HB5 := hide (HB4.out.trans (hb5.mono HB4.out.size))
              have HA5 := hide (HA4.out.below hb5 HA4.out.lt)
              have HN5 := hide (HN4.out.below hb5 HN4.out.lt)
              have c6 : w5.cell? ⟨b1, 6, none⟩ = some (.int .i64 bw) := by rw [HA5.out.cell 6]; rfl
              have c7 : w5.cell? ⟨b1, 7, none⟩ = some (.int .i64 bn) := by rw [HA5.out.cell 7]; rfl
              have e0 : w5.cell? ⟨b2, 0, none⟩ = some (.int .i64 0) := by rw [HN5.out.cell 0]; rfl
              have e1 : w5.cell? ⟨b2, 1, none⟩ = some (.int .i64 0) := by rw [HN5.out.cell 1]; rfl
              have hl5 := HA5.out.lt
              have hm5 := HN5.out.lt
              clear hb5
              by_cases h5 : roleOk aw an
              · rw [decide_eq_true h5]
                unfold roleOk at h5
                go_wp2_with fail
                all_goals go_ret
                all_goals first
                  | exact ⟨by rw [show r = false from by rw [HR.out]; exact decide_eq_false (by unfold kindOk roleOk; dsimp only; omega)]; rfl, HB5.out⟩
                  | exact ⟨by rw [show r = true from by rw [HR.out]; exact decide_eq_true (by unfold kindOk roleOk; dsimp only; omega)]; rfl, HB5.out⟩
              · rw [decide_eq_false h5]
                unfold roleOk at h5
                go_wp2_with fail
                all_goals go_ret
                all_goals first
                  | exact ⟨by rw [show r = false from by rw [HR.out]; exact decide_eq_false (by unfold kindOk roleOk; dsimp only; omega)]; rfl, HB5.out⟩
                  | exact ⟨by rw [show r = true from by rw [HR.out]; exact decide_eq_true (by unfold kindOk roleOk; dsimp only; omega)]; rfl, HB5.out⟩
            · go_wp2_with fail
              all_goals go_ret
              all_goals first
                | exact ⟨by rw [show r = false from by rw [HR.out]; exact decide_eq_false (by unfold kindOk roleOk; dsimp only; omega)]; rfl, HB4.out⟩
                | exact ⟨by rw [show r = true from by rw [HR.out]; exact decide_eq_true (by unfold kindOk roleOk; dsimp only; omega)]; rfl, HB4.out⟩
          · by_cases k3 : k = 3
            · subst k3
              by_cases h4 : wh = 0
              · subst h4
                go_wp2_with fail
                obtain ⟨b2, hb2⟩ : ∃ b, b = w3.heap.size := ⟨_, rfl⟩
                rw [← hb2] at HN4 ⊢
                clear hb2
                generalize w3.alloc (.cells #[.int .i64 0, .int .i64 0] 25) = w4 at *
                clear c0 c3 c4 c5 c6 c7 c8 c9 hl1
                refine (specRole_calls aw an _).mono ?_
                rintro e w5 ⟨rfl, hb5⟩
                have HB5 := hide (HB4.out.trans (hb5.mono HB4.out.size))
                have HA5 := hide (HA4.out.below hb5 HA4.out.lt)
                have HN5 := hide (HN4.out.below hb5 HN4.out.lt)
                have c6 : w5.cell? ⟨b1, 6, none⟩ = some (.int .i64 bw) := by rw [HA5.out.cell 6]; rfl
                have c7 : w5.cell? ⟨b1, 7, none⟩ = some (.int .i64 bn) := by rw [HA5.out.cell 7]; rfl
                have e0 : w5.cell? ⟨b2, 0, none⟩ = some (.int .i64 0) := by rw [HN5.out.cell 0]; rfl
                have e1 : w5.cell? ⟨b2, 1, none⟩ = some (.int .i64 0) := by rw [HN5.out.cell 1]; rfl
                have hl5 := HA5.out.lt
                have hm5 := HN5.out.lt
                clear hb5
                by_cases h5 : roleOk aw an
                · rw [decide_eq_true h5]
                  unfold roleOk at h5
                  go_wp2_with fail
                  clear c6 c7 e0 e1 hl5 hm5
                  refine (specRole_calls bw bn _).mono ?_
                  rintro e w6 ⟨rfl, hb6⟩
                  have HB6 := hide (HB5.out.trans (hb6.mono HB5.out.size))
                  have HA6 := hide (HA5.out.below hb6 HA5.out.lt)
                  have HN6 := hide (HN5.out.below hb6 HN5.out.lt)
                  have c6 : w6.cell? ⟨b1, 6, none⟩ = some (.int .i64 bw) := by rw [HA6.out.cell 6]; rfl
                  have c7 : w6.cell? ⟨b1, 7, none⟩ = some (.int .i64 bn) := by rw [HA6.out.cell 7]; rfl
                  have e0 : w6.cell? ⟨b2, 0, none⟩ = some (.int .i64 0) := by rw [HN6.out.cell 0]; rfl
                  have e1 : w6.cell? ⟨b2, 1, none⟩ = some (.int .i64 0) := by rw [HN6.out.cell 1]; rfl
                  have hl6 := HA6.out.lt
                  have hm6 := HN6.out.lt
                  clear hb6
                  by_cases h6 : roleOk bw bn
                  · rw [decide_eq_true h6]
                    unfold roleOk at h6
                    go_wp2_with fail
                    all_goals go_ret
                    all_goals first
                      | exact ⟨by rw [show r = false from by rw [HR.out]; exact decide_eq_false (by unfold kindOk roleOk; dsimp only; omega)]; rfl, HB6.out⟩
                      | exact ⟨by rw [show r = true from by rw [HR.out]; exact decide_eq_true (by unfold kindOk roleOk; dsimp only; omega)]; rfl, HB6.out⟩
                      | exact ⟨by rw [show r = (bw == 0) from by
                rw [HR.out]
                by_cases h7 : bw = 0
                · rw [decide_eq_true (by unfold kindOk roleOk; dsimp only; omega), h7]; rfl
                · rw [decide_eq_false (by unfold kindOk roleOk; dsimp only; omega), beq_false_of_ne h7]]; rfl, HB6.out⟩
                  · rw [decide_eq_false h6]
                    unfold roleOk at h6
                    go_wp2_with fail
                    all_goals go_ret
                    all_goals first
                      | exact ⟨by rw [show r = false from by rw [HR.out]; exact decide_eq_false (by unfold kindOk roleOk; dsimp only; omega)]; rfl, HB6.out⟩
                      | exact ⟨by rw [show r = true from by rw [HR.out]; exact decide_eq_true (by unfold kindOk roleOk; dsimp only; omega)]; rfl, HB6.out⟩
                · rw [decide_eq_false h5]
                  unfold roleOk at h5
                  go_wp2_with fail
                  all_goals go_ret
                  all_goals first
                    | exact ⟨by rw [show r = false from by rw [HR.out]; exact decide_eq_false (by unfold kindOk roleOk; dsimp only; omega)]; rfl, HB5.out⟩
                    | exact ⟨by rw [show r = true from by rw [HR.out]; exact decide_eq_true (by unfold kindOk roleOk; dsimp only; omega)]; rfl, HB5.out⟩
              · go_wp2_with fail
                all_goals go_ret
                all_goals first
                  | exact ⟨by rw [show r = false from by rw [HR.out]; exact decide_eq_false (by unfold kindOk roleOk; dsimp only; omega)]; rfl, HB4.out⟩
                  | exact ⟨by rw [show r = true from by rw [HR.out]; exact decide_eq_true (by unfold kindOk roleOk; dsimp only; omega)]; rfl, HB4.out⟩
            · by_cases k4 : k = 4
              · subst k4
                by_cases h4 : wh = 0
                · subst h4
                  go_wp2_with fail
                  obtain ⟨b2, hb2⟩ : ∃ b, b = w3.heap.size := ⟨_, rfl⟩
                  rw [← hb2] at HN4 ⊢
                  clear hb2
                  generalize w3.alloc (.cells #[.int .i64 0, .int .i64 0] 25) = w4 at *
                  clear c0 c3 c4 c5 c6 c7 c8 c9 hl1
                  refine (specRole_calls aw an _).mono ?_
                  rintro e w5 ⟨rfl, hb5⟩
                  have HB5 := hide (HB4.out.trans (hb5.mono HB4.out.size))
                  have HA5 := hide (HA4.out.below hb5 HA4.out.lt)
                  have HN5 := hide (HN4.out.below hb5 HN4.out.lt)
                  have c6 : w5.cell? ⟨b1, 6, none⟩ = some (.int .i64 bw) := by rw [HA5.out.cell 6]; rfl
                  have c7 : w5.cell? ⟨b1, 7, none⟩ = some (.int .i64 bn) := by rw [HA5.out.cell 7]; rfl
                  have e0 : w5.cell? ⟨b2, 0, none⟩ = some (.int .i64 0) := by rw [HN5.out.cell 0]; rfl
                  have e1 : w5.cell? ⟨b2, 1, none⟩ = some (.int .i64 0) := by rw [HN5.out.cell 1]; rfl
                  have hl5 := HA5.out.lt
                  have hm5 := HN5.out.lt
                  clear hb5
                  by_cases h5 : roleOk aw an
                  · rw [decide_eq_true h5]
                    unfold roleOk at h5
                    go_wp2_with fail
                    clear c6 c7 e0 e1 hl5 hm5
                    refine (specRole_calls bw bn _).mono ?_
                    rintro e w6 ⟨rfl, hb6⟩
                    have HB6 := hide (HB5.out.trans (hb6.mono HB5.out.size))
                    have HA6 := hide (HA5.out.below hb6 HA5.out.lt)
                    have HN6 := hide (HN5.out.below hb6 HN5.out.lt)
                    have c6 : w6.cell? ⟨b1, 6, none⟩ = some (.int .i64 bw) := by rw [HA6.out.cell 6]; rfl
                    have c7 : w6.cell? ⟨b1, 7, none⟩ = some (.int .i64 bn) := by rw [HA6.out.cell 7]; rfl
                    have e0 : w6.cell? ⟨b2, 0, none⟩ = some (.int .i64 0) := by rw [HN6.out.cell 0]; rfl
                    have e1 : w6.cell? ⟨b2, 1, none⟩ = some (.int .i64 0) := by rw [HN6.out.cell 1]; rfl
                    have hl6 := HA6.out.lt
                    have hm6 := HN6.out.lt
                    clear hb6
                    by_cases h6 : roleOk bw bn
                    · rw [decide_eq_true h6]
                      unfold roleOk at h6
                      go_wp2_with fail
                      all_goals go_ret
                      all_goals first
                        | exact ⟨by rw [show r = false from by rw [HR.out]; exact decide_eq_false (by unfold kindOk roleOk; dsimp only; omega)]; rfl, HB6.out⟩
                        | exact ⟨by rw [show r = true from by rw [HR.out]; exact decide_eq_true (by unfold kindOk roleOk; dsimp only; omega)]; rfl, HB6.out⟩
                    · rw [decide_eq_false h6]
                      unfold roleOk at h6
                      go_wp2_with fail
                      all_goals go_ret
                      all_goals first
                        | exact ⟨by rw [show r = false from by rw [HR.out]; exact decide_eq_false (by unfold kindOk roleOk; dsimp only; omega)]; rfl, HB6.out⟩
                        | exact ⟨by rw [show r = true from by rw [HR.out]; exact decide_eq_true (by unfold kindOk roleOk; dsimp only; omega)]; rfl, HB6.out⟩
                  · rw [decide_eq_false h5]
                    unfold roleOk at h5
                    go_wp2_with fail
                    all_goals go_ret
                    all_goals first
                      | exact ⟨by rw [show r = false from by rw [HR.out]; exact decide_eq_false (by unfold kindOk roleOk; dsimp only; omega)]; rfl, HB5.out⟩
                      | exact ⟨by rw [show r = true from by rw [HR.out]; exact decide_eq_true (by unfold kindOk roleOk; dsimp only; omega)]; rfl, HB5.out⟩
                · go_wp2_with fail
                  all_goals go_ret
                  all_goals first
                    | exact ⟨by rw [show r = false from by rw [HR.out]; exact decide_eq_false (by unfold kindOk roleOk; dsimp only; omega)]; rfl, HB4.out⟩
                    | exact ⟨by rw [show r = true from by rw [HR.out]; exact decide_eq_true (by unfold kindOk roleOk; dsimp only; omega)]; rfl, HB4.out⟩
              · go_wp2_with fail
                all_goals go_ret
                all_goals first
                  | exact ⟨by rw [show r = false from by rw [HR.out]; exact decide_eq_false (by unfold kindOk roleOk; dsimp only; omega)]; rfl, HB4.out⟩
                  | exact ⟨by rw [show r = true from by rw [HR.out]; exact decide_eq_true (by unfold kindOk roleOk; dsimp only; omega)]; rfl, HB4.out⟩
      · have d3 := decide_eq_false h3
        have HR : Hid (r = false) := by
          show r = false
          rw [Er.out]
          exact decide_eq_false (fun h => h3 h.1.2.2)
        clear Er h1 h2 h3
        go_enter Tryd.func16, Tryd.ntmps16
        go_wp2_with fail
        obtain ⟨b1, hb1⟩ : ∃ b, b = w.heap.size := ⟨_, rfl⟩
        rw [← hb1] at HA ⊢
        clear hb1
        generalize w.alloc (.cells #[.int .i64 k, .int .i64 ow, .int .i64 on, .int .i64 wh, .int .i64 aw, .int .i64 an, .int .i64 bw, .int .i64 bn, .int .i64 u, .int .i64 n] 27) = w1 at *
        refine (HRO.out _).mono ?_
        rintro e w2 ⟨rfl, hb2⟩
        have hA2 := HA.out.below hb2 HA.out.lt
        have HB2 := hide (HB.out.trans (hb2.mono HB.out.size))
        have HA2 := hide hA2
        have c0 : w2.cell? ⟨b1, 0, none⟩ = some (.int .i64 k) := by rw [hA2.cell 0]; rfl
        have c3 : w2.cell? ⟨b1, 3, none⟩ = some (.int .i64 wh) := by rw [hA2.cell 3]; rfl
        have c4 : w2.cell? ⟨b1, 4, none⟩ = some (.int .i64 aw) := by rw [hA2.cell 4]; rfl
        have c5 : w2.cell? ⟨b1, 5, none⟩ = some (.int .i64 an) := by rw [hA2.cell 5]; rfl
        have c6 : w2.cell? ⟨b1, 6, none⟩ = some (.int .i64 bw) := by rw [hA2.cell 6]; rfl
        have c7 : w2.cell? ⟨b1, 7, none⟩ = some (.int .i64 bn) := by rw [hA2.cell 7]; rfl
        have c8 : w2.cell? ⟨b1, 8, none⟩ = some (.int .i64 u) := by rw [hA2.cell 8]; rfl
        have c9 : w2.cell? ⟨b1, 9, none⟩ = some (.int .i64 n) := by rw [hA2.cell 9]; rfl
        have hl1 := hA2.lt
        clear hb2 hA2 HA HB HRO
        go_wp2_with fail
        refine (l01In_calls _ _ _ _).mono ?_
        rintro e w3 ⟨rfl, rfl⟩
        rw [d2]
        go_wp2_with fail
        refine (l01In_calls _ _ _ _).mono ?_
        rintro e w3 ⟨rfl, rfl⟩
        rw [d3]
        clear d2 d3
        go_wp2_with fail
        go_ret
        exact ⟨by rw [HR.out]; rfl, HB2.out⟩
    · have d2 := decide_eq_false h2
      have HR : Hid (r = false) := by
        show r = false
        rw [Er.out]
        exact decide_eq_false (fun h => h2 h.1.2.1)
      clear Er h1 h2
      go_enter Tryd.func16, Tryd.ntmps16
      go_wp2_with fail
      obtain ⟨b1, hb1⟩ : ∃ b, b = w.heap.size := ⟨_, rfl⟩
      rw [← hb1] at HA ⊢
      clear hb1
      generalize w.alloc (.cells #[.int .i64 k, .int .i64 ow, .int .i64 on, .int .i64 wh, .int .i64 aw, .int .i64 an, .int .i64 bw, .int .i64 bn, .int .i64 u, .int .i64 n] 27) = w1 at *
      refine (HRO.out _).mono ?_
      rintro e w2 ⟨rfl, hb2⟩
      have hA2 := HA.out.below hb2 HA.out.lt
      have HB2 := hide (HB.out.trans (hb2.mono HB.out.size))
      have HA2 := hide hA2
      have c0 : w2.cell? ⟨b1, 0, none⟩ = some (.int .i64 k) := by rw [hA2.cell 0]; rfl
      have c3 : w2.cell? ⟨b1, 3, none⟩ = some (.int .i64 wh) := by rw [hA2.cell 3]; rfl
      have c4 : w2.cell? ⟨b1, 4, none⟩ = some (.int .i64 aw) := by rw [hA2.cell 4]; rfl
      have c5 : w2.cell? ⟨b1, 5, none⟩ = some (.int .i64 an) := by rw [hA2.cell 5]; rfl
      have c6 : w2.cell? ⟨b1, 6, none⟩ = some (.int .i64 bw) := by rw [hA2.cell 6]; rfl
      have c7 : w2.cell? ⟨b1, 7, none⟩ = some (.int .i64 bn) := by rw [hA2.cell 7]; rfl
      have c8 : w2.cell? ⟨b1, 8, none⟩ = some (.int .i64 u) := by rw [hA2.cell 8]; rfl
      have c9 : w2.cell? ⟨b1, 9, none⟩ = some (.int .i64 n) := by rw [hA2.cell 9]; rfl
      have hl1 := hA2.lt
      clear hb2 hA2 HA HB HRO
      go_wp2_with fail
      refine (l01In_calls _ _ _ _).mono ?_
      rintro e w3 ⟨rfl, rfl⟩
      rw [d2]
      clear d2
      go_wp2_with fail
      go_ret
      exact ⟨by rw [HR.out]; rfl, HB2.out⟩
  · simp only [decide_eq_false h1] at HRO
    have HR : Hid (r = false) := by
      show r = false
      rw [Er.out]
      exact decide_eq_false (fun h => h1 h.1.1)
    clear Er h1
    go_enter Tryd.func16, Tryd.ntmps16
    go_wp2_with fail
    obtain ⟨b1, hb1⟩ : ∃ b, b = w.heap.size := ⟨_, rfl⟩
    rw [← hb1] at HA ⊢
    clear hb1
    generalize w.alloc (.cells #[.int .i64 k, .int .i64 ow, .int .i64 on, .int .i64 wh, .int .i64 aw, .int .i64 an, .int .i64 bw, .int .i64 bn, .int .i64 u, .int .i64 n] 27) = w1 at *
    refine (HRO.out _).mono ?_
    rintro e w2 ⟨rfl, hb2⟩
    have hA2 := HA.out.below hb2 HA.out.lt
    have HB2 := hide (HB.out.trans (hb2.mono HB.out.size))
    have HA2 := hide hA2
    have c0 : w2.cell? ⟨b1, 0, none⟩ = some (.int .i64 k) := by rw [hA2.cell 0]; rfl
    have c3 : w2.cell? ⟨b1, 3, none⟩ = some (.int .i64 wh) := by rw [hA2.cell 3]; rfl
    have c4 : w2.cell? ⟨b1, 4, none⟩ = some (.int .i64 aw) := by rw [hA2.cell 4]; rfl
    have c5 : w2.cell? ⟨b1, 5, none⟩ = some (.int .i64 an) := by rw [hA2.cell 5]; rfl
    have c6 : w2.cell? ⟨b1, 6, none⟩ = some (.int .i64 bw) := by rw [hA2.cell 6]; rfl
    have c7 : w2.cell? ⟨b1, 7, none⟩ = some (.int .i64 bn) := by rw [hA2.cell 7]; rfl
    have c8 : w2.cell? ⟨b1, 8, none⟩ = some (.int .i64 u) := by rw [hA2.cell 8]; rfl
    have c9 : w2.cell? ⟨b1, 9, none⟩ = some (.int .i64 n) := by rw [hA2.cell 9]; rfl
    have hl1 := hA2.lt
    clear hb2 hA2 HA HB HRO
    go_wp2_with fail
    go_ret
    exact ⟨by rw [HR.out]; rfl, HB2.out⟩
end Go.Proofs.YtflicklgmhgpiaaDoor.P5
namespace Go.Proofs.YtflicklgmhgpiaaDoor.P5
set_option maxRecDepth 8000
open Go.RowKit P1

/-- Ten texts one after the other. -/
theorem cat10 (a b c d e f g h i j : List UInt8) : ((((((((((⟨a.toArray⟩ : ByteArray) ++ ⟨b.toArray⟩) ++ ⟨c.toArray⟩) ++ ⟨d.toArray⟩) ++ ⟨e.toArray⟩) ++ ⟨f.toArray⟩) ++ ⟨g.toArray⟩) ++ ⟨h.toArray⟩) ++ ⟨i.toArray⟩) ++ ⟨j.toArray⟩) = ⟨(a ++ b ++ c ++ d ++ e ++ f ++ g ++ h ++ i ++ j).toArray⟩ := by
  simp only [ByteArray.mk_append_mk]

theorem l01Var_near (x : Int) (h0 : 0 ≤ x ∧ x ≤ 9999) {B : Nat} {W : World} (hB : B ≤ W.heap.size) (p : Near B W) :
    Calls Tryd.prog 38 #[.int .i64 x] p.w fun e w' => e = .returned (.string ⟨(varB 4 x.toNat).toArray⟩) ∧ ∃ q : Near B W, w' = q.w := by
  obtain ⟨m, rfl⟩ := Int.eq_ofNat_of_zero_le h0.1
  exact calls_near hB (l01Var_calls m (by omega) p.w)

set_option maxHeartbeats 1000000 in
theorem specCredText_calls (c : Cr) (w : World) :
    Calls Tryd.prog 17 #[credV c] w fun e w' => e = .returned (.string ⟨(credT c).toArray⟩) ∧ Below w.heap.size w w' := by
  have HRO := hide (fun wx => specCredOk_calls c wx)
  have Hs := hide (fun h : credOk c => h.small)
  obtain ⟨T, ET⟩ : ∃ T, Hid (T = credT c) := ⟨_, rfl⟩
  rw [← ET.out]
  obtain ⟨k, ow, on, wh, aw, an, bw, bn, u, n⟩ := c
  simp only [credV] at HRO ⊢
  have HB : Hid (Below w.heap.size w (w.alloc (.cells #[.int .i64 k, .int .i64 ow, .int .i64 on, .int .i64 wh, .int .i64 aw, .int .i64 an, .int .i64 bw, .int .i64 bn, .int .i64 u, .int .i64 n] 27))) := (Below.refl _ _).alloc (Nat.le_refl _) _
  have HA := hide (Blk.new w #[.int .i64 k, .int .i64 ow, .int .i64 on, .int .i64 wh, .int .i64 aw, .int .i64 an, .int .i64 bw, .int .i64 bn, .int .i64 u, .int .i64 n] 27)
  by_cases h1 : credOk ⟨k, ow, on, wh, aw, an, bw, bn, u, n⟩
  · simp only [decide_eq_true h1] at HRO
    have hs := Hs.out h1
    have hT : T = credB ⟨k, ow, on, wh, aw, an, bw, bn, u, n⟩ := by rw [ET.out, credT, if_pos h1]
    simp only [credB] at hT
    unfold Cr.small at hs
    dsimp only at hs
    obtain ⟨s0, s1, s2, s3, s4, s5, s6, s7, s8, s9⟩ := hs
    clear ET Hs h1
    go_enter Tryd.func17, Tryd.ntmps17
    go_wp2_with fail
    obtain ⟨b1, hb1⟩ : ∃ b, b = w.heap.size := ⟨_, rfl⟩
    rw [← hb1] at HA ⊢
    clear hb1
    generalize w.alloc (.cells #[.int .i64 k, .int .i64 ow, .int .i64 on, .int .i64 wh, .int .i64 aw, .int .i64 an, .int .i64 bw, .int .i64 bn, .int .i64 u, .int .i64 n] 27) = w1 at *
    refine (HRO.out _).mono ?_
    rintro e w2 ⟨rfl, hb2⟩
    have hA2 := HA.out.below hb2 HA.out.lt
    have HB2 := hide (HB.out.trans (hb2.mono HB.out.size))
    clear hb2 HA HB HRO
    have n0 : ∀ p : Near w2.heap.size w2, p.w.cell? ⟨b1, 0, none⟩ = some (.int .i64 k) := fun p => by rw [(hA2.below p.h hA2.lt).cell 0]; rfl
    have n1 : ∀ p : Near w2.heap.size w2, p.w.cell? ⟨b1, 1, none⟩ = some (.int .i64 ow) := fun p => by rw [(hA2.below p.h hA2.lt).cell 1]; rfl
    have n2 : ∀ p : Near w2.heap.size w2, p.w.cell? ⟨b1, 2, none⟩ = some (.int .i64 on) := fun p => by rw [(hA2.below p.h hA2.lt).cell 2]; rfl
    have n3 : ∀ p : Near w2.heap.size w2, p.w.cell? ⟨b1, 3, none⟩ = some (.int .i64 wh) := fun p => by rw [(hA2.below p.h hA2.lt).cell 3]; rfl
    have n4 : ∀ p : Near w2.heap.size w2, p.w.cell? ⟨b1, 4, none⟩ = some (.int .i64 aw) := fun p => by rw [(hA2.below p.h hA2.lt).cell 4]; rfl
    have n5 : ∀ p : Near w2.heap.size w2, p.w.cell? ⟨b1, 5, none⟩ = some (.int .i64 an) := fun p => by rw [(hA2.below p.h hA2.lt).cell 5]; rfl
    have n6 : ∀ p : Near w2.heap.size w2, p.w.cell? ⟨b1, 6, none⟩ = some (.int .i64 bw) := fun p => by rw [(hA2.below p.h hA2.lt).cell 6]; rfl
    have n7 : ∀ p : Near w2.heap.size w2, p.w.cell? ⟨b1, 7, none⟩ = some (.int .i64 bn) := fun p => by rw [(hA2.below p.h hA2.lt).cell 7]; rfl
    have n8 : ∀ p : Near w2.heap.size w2, p.w.cell? ⟨b1, 8, none⟩ = some (.int .i64 u) := fun p => by rw [(hA2.below p.h hA2.lt).cell 8]; rfl
    have n9 : ∀ p : Near w2.heap.size w2, p.w.cell? ⟨b1, 9, none⟩ = some (.int .i64 n) := fun p => by rw [(hA2.below p.h hA2.lt).cell 9]; rfl
    have C0 := hide (fun p : Near w2.heap.size w2 => l01Var_near k s0 (Nat.le_refl _) p)
    have C1 := hide (fun p : Near w2.heap.size w2 => l01Var_near ow s1 (Nat.le_refl _) p)
    have C2 := hide (fun p : Near w2.heap.size w2 => l01Var_near on s2 (Nat.le_refl _) p)
    have C3 := hide (fun p : Near w2.heap.size w2 => l01Var_near wh s3 (Nat.le_refl _) p)
    have C4 := hide (fun p : Near w2.heap.size w2 => l01Var_near aw s4 (Nat.le_refl _) p)
    have C5 := hide (fun p : Near w2.heap.size w2 => l01Var_near an s5 (Nat.le_refl _) p)
    have C6 := hide (fun p : Near w2.heap.size w2 => l01Var_near bw s6 (Nat.le_refl _) p)
    have C7 := hide (fun p : Near w2.heap.size w2 => l01Var_near bn s7 (Nat.le_refl _) p)
    have C8 := hide (fun p : Near w2.heap.size w2 => l01Var_near u s8 (Nat.le_refl _) p)
    have C9 := hide (fun p : Near w2.heap.size w2 => l01Var_near n s9 (Nat.le_refl _) p)
    have l0 := (varB_length 4 k.toNat).2
    have l1 := (varB_length 4 ow.toNat).2
    have l2 := (varB_length 4 on.toNat).2
    have l3 := (varB_length 4 wh.toNat).2
    have l4 := (varB_length 4 aw.toNat).2
    have l5 := (varB_length 4 an.toNat).2
    have l6 := (varB_length 4 bw.toNat).2
    have l7 := (varB_length 4 bn.toNat).2
    have l8 := (varB_length 4 u.toNat).2
    have l9 := (varB_length 4 n.toNat).2
    generalize varB 4 k.toNat = t0 at *
    generalize varB 4 ow.toNat = t1 at *
    generalize varB 4 on.toNat = t2 at *
    generalize varB 4 wh.toNat = t3 at *
    generalize varB 4 aw.toNat = t4 at *
    generalize varB 4 an.toNat = t5 at *
    generalize varB 4 bw.toNat = t6 at *
    generalize varB 4 bn.toNat = t7 at *
    generalize varB 4 u.toNat = t8 at *
    generalize varB 4 n.toNat = t9 at *
    clear s0 s1 s2 s3 s4 s5 s6 s7 s8 s9 hA2
    have HT := hide hT
    clear hT
    have hnn := Near.some w2.heap.size w2
    go_wp2_with fail
    refine wp_region_near w2.heap.size w2 (Below.refl _ _) (by kernel_rfl) (by kernel_rfl) ?_
    repeat (go_big_quiet_step (fail))
    go_big_quiet_step (exact C0.out _)
    repeat (go_big_quiet_step (fail))
    go_big_quiet_step (exact C1.out _)
    repeat (go_big_quiet_step (fail))
    go_big_quiet_step (exact C2.out _)
    repeat (go_big_quiet_step (fail))
    go_big_quiet_step (exact C3.out _)
    repeat (go_big_quiet_step (fail))
    go_big_quiet_step (exact C4.out _)
    repeat (go_big_quiet_step (fail))
    go_big_quiet_step (exact C5.out _)
    repeat (go_big_quiet_step (fail))
    go_big_quiet_step (exact C6.out _)
    repeat (go_big_quiet_step (fail))
    go_big_quiet_step (exact C7.out _)
    repeat (go_big_quiet_step (fail))
    go_big_quiet_step (exact C8.out _)
    repeat (go_big_quiet_step (fail))
    go_big_quiet_step (exact C9.out _)
    repeat (go_big_quiet_step (fail))
    refine wpQuiet_nil ?_
    rintro w3 ⟨pq, rfl⟩
    have hqb := pq.h
    obtain ⟨w3, hq⟩ := pq
    simp only at hqb ⊢
    clear hq hnn n0 C0 n1 C1 n2 C2 n3 C3 n4 C4 n5 C5 n6 C6 n7 C7 n8 C8 n9 C9
    go_wp2_with fail
    go_ret
    refine ⟨?_, HB2.out.trans (hqb.mono HB2.out.size)⟩
    rw [HT.out, ← cat10]
    rfl
  · simp only [decide_eq_false h1] at HRO
    have HT : Hid (T = []) := by
      show T = []
      rw [ET.out, credT, if_neg h1]
    clear ET Hs h1
    go_enter Tryd.func17, Tryd.ntmps17
    go_wp2_with fail
    generalize w.alloc (.cells #[.int .i64 k, .int .i64 ow, .int .i64 on, .int .i64 wh, .int .i64 aw, .int .i64 an, .int .i64 bw, .int .i64 bn, .int .i64 u, .int .i64 n] 27) = w1 at *
    refine (HRO.out _).mono ?_
    rintro e w2 ⟨rfl, hb2⟩
    have HB2 := hide (HB.out.trans (hb2.mono HB.out.size))
    clear hb2 HA HB HRO
    go_wp2_with fail
    go_ret
    exact ⟨by rw [HT.out]; rfl, HB2.out⟩
end Go.Proofs.YtflicklgmhgpiaaDoor.P5
namespace Go.Proofs.YtflicklgmhgpiaaDoor.P5
set_option maxRecDepth 8000
open Go.RowKit P1

/-- Three new blocks. -/
theorem Below.three (w : World) (x y z : Obj) : Below w.heap.size w (((w.alloc x).alloc y).alloc z) := by
  have h1 := (Below.refl w.heap.size w).alloc (Nat.le_refl _) x
  have h2 := h1.alloc h1.size y
  exact h2.alloc h2.size z

set_option maxHeartbeats 400000 in
theorem toRole_calls (a b : Int) (w : World) :
    Calls Tryd.prog 23 #[roleV a b] w fun e w' => e = .returned (roleV a b) ∧ Below w.heap.size w w' := by
  go_enter Tryd.func23, Tryd.ntmps23
  go_wp2_with fail
  refine bodyPost_ret (v := roleV a b) (by simp [results, Tryd.results23, go_sem]) rfl ⟨rfl, Below.three _ _ _ _⟩

set_option maxHeartbeats 400000 in
theorem specCredLess_calls (c d : Cr) (w : World) :
    Calls Tryd.prog 19 #[credV c, credV d] w fun e w' => e = .returned (.bool (Op.bytesLess (credT c) (credT d))) ∧ Below w.heap.size w w' := by
  have H1 := hide (fun wx => specCredText_calls c wx)
  have H2 := hide (fun wx => specCredText_calls d wx)
  have l1 := credT_le c
  have l2 := credT_le d
  generalize credT c = s at *
  generalize credT d = t at *
  obtain ⟨k, ow, on, wh, aw, an, bw, bn, u, n⟩ := c
  obtain ⟨k', ow', on', wh', aw', an', bw', bn', u', n'⟩ := d
  simp only [credV] at H1 H2 ⊢
  have hb1 := (Below.refl w.heap.size w).alloc (Nat.le_refl _) (.cells #[.int .i64 k, .int .i64 ow, .int .i64 on, .int .i64 wh, .int .i64 aw, .int .i64 an, .int .i64 bw, .int .i64 bn, .int .i64 u, .int .i64 n] 27)
  have HA := Blk.new w #[.int .i64 k, .int .i64 ow, .int .i64 on, .int .i64 wh, .int .i64 aw, .int .i64 an, .int .i64 bw, .int .i64 bn, .int .i64 u, .int .i64 n] 27
  have hb2 := hb1.alloc hb1.size (.cells #[.int .i64 k', .int .i64 ow', .int .i64 on', .int .i64 wh', .int .i64 aw', .int .i64 an', .int .i64 bw', .int .i64 bn', .int .i64 u', .int .i64 n'] 27)
  have HD := Blk.new (w.alloc (.cells #[.int .i64 k, .int .i64 ow, .int .i64 on, .int .i64 wh, .int .i64 aw, .int .i64 an, .int .i64 bw, .int .i64 bn, .int .i64 u, .int .i64 n] 27)) #[.int .i64 k', .int .i64 ow', .int .i64 on', .int .i64 wh', .int .i64 aw', .int .i64 an', .int .i64 bw', .int .i64 bn', .int .i64 u', .int .i64 n'] 27
  have HA := HA.below ((Below.refl _ (w.alloc (.cells #[.int .i64 k, .int .i64 ow, .int .i64 on, .int .i64 wh, .int .i64 aw, .int .i64 an, .int .i64 bw, .int .i64 bn, .int .i64 u, .int .i64 n] 27))).alloc (Nat.le_refl _) (.cells #[.int .i64 k', .int .i64 ow', .int .i64 on', .int .i64 wh', .int .i64 aw', .int .i64 an', .int .i64 bw', .int .i64 bn', .int .i64 u', .int .i64 n'] 27)) HA.lt
  have HB2 := hide hb2
  clear hb1 hb2
  go_enter Tryd.func19, Tryd.ntmps19
  go_wp2_with fail
  rw [show (w.alloc (.cells #[.int .i64 k, .int .i64 ow, .int .i64 on, .int .i64 wh, .int .i64 aw, .int .i64 an, .int .i64 bw, .int .i64 bn, .int .i64 u, .int .i64 n] 27)).heap.size = w.heap.size + 1 from by simp [go_sem]] at HD
  obtain ⟨b1, e1⟩ : ∃ b, b = w.heap.size + 1 := ⟨_, rfl⟩
  rw [← e1] at HD ⊢
  clear e1
  obtain ⟨b0, e0⟩ : ∃ b, b = w.heap.size := ⟨_, rfl⟩
  rw [← e0] at HA ⊢
  clear e0
  generalize (w.alloc (.cells #[.int .i64 k, .int .i64 ow, .int .i64 on, .int .i64 wh, .int .i64 aw, .int .i64 an, .int .i64 bw, .int .i64 bn, .int .i64 u, .int .i64 n] 27)).alloc (.cells #[.int .i64 k', .int .i64 ow', .int .i64 on', .int .i64 wh', .int .i64 aw', .int .i64 an', .int .i64 bw', .int .i64 bn', .int .i64 u', .int .i64 n'] 27) = w1 at *
  have n0 : ∀ p : Near w1.heap.size w1, p.w.cell? ⟨b0, 0, none⟩ = some (.int .i64 k) := fun p => by rw [(HA.below p.h HA.lt).cell 0]; rfl
  have n1 : ∀ p : Near w1.heap.size w1, p.w.cell? ⟨b0, 1, none⟩ = some (.int .i64 ow) := fun p => by rw [(HA.below p.h HA.lt).cell 1]; rfl
  have n2 : ∀ p : Near w1.heap.size w1, p.w.cell? ⟨b0, 2, none⟩ = some (.int .i64 on) := fun p => by rw [(HA.below p.h HA.lt).cell 2]; rfl
  have n3 : ∀ p : Near w1.heap.size w1, p.w.cell? ⟨b0, 3, none⟩ = some (.int .i64 wh) := fun p => by rw [(HA.below p.h HA.lt).cell 3]; rfl
  have n4 : ∀ p : Near w1.heap.size w1, p.w.cell? ⟨b0, 4, none⟩ = some (.int .i64 aw) := fun p => by rw [(HA.below p.h HA.lt).cell 4]; rfl
  have n5 : ∀ p : Near w1.heap.size w1, p.w.cell? ⟨b0, 5, none⟩ = some (.int .i64 an) := fun p => by rw [(HA.below p.h HA.lt).cell 5]; rfl
  have n6 : ∀ p : Near w1.heap.size w1, p.w.cell? ⟨b0, 6, none⟩ = some (.int .i64 bw) := fun p => by rw [(HA.below p.h HA.lt).cell 6]; rfl
  have n7 : ∀ p : Near w1.heap.size w1, p.w.cell? ⟨b0, 7, none⟩ = some (.int .i64 bn) := fun p => by rw [(HA.below p.h HA.lt).cell 7]; rfl
  have n8 : ∀ p : Near w1.heap.size w1, p.w.cell? ⟨b0, 8, none⟩ = some (.int .i64 u) := fun p => by rw [(HA.below p.h HA.lt).cell 8]; rfl
  have n9 : ∀ p : Near w1.heap.size w1, p.w.cell? ⟨b0, 9, none⟩ = some (.int .i64 n) := fun p => by rw [(HA.below p.h HA.lt).cell 9]; rfl
  have m0 : ∀ p : Near w1.heap.size w1, p.w.cell? ⟨b1, 0, none⟩ = some (.int .i64 k') := fun p => by rw [(HD.below p.h HD.lt).cell 0]; rfl
  have m1 : ∀ p : Near w1.heap.size w1, p.w.cell? ⟨b1, 1, none⟩ = some (.int .i64 ow') := fun p => by rw [(HD.below p.h HD.lt).cell 1]; rfl
  have m2 : ∀ p : Near w1.heap.size w1, p.w.cell? ⟨b1, 2, none⟩ = some (.int .i64 on') := fun p => by rw [(HD.below p.h HD.lt).cell 2]; rfl
  have m3 : ∀ p : Near w1.heap.size w1, p.w.cell? ⟨b1, 3, none⟩ = some (.int .i64 wh') := fun p => by rw [(HD.below p.h HD.lt).cell 3]; rfl
  have m4 : ∀ p : Near w1.heap.size w1, p.w.cell? ⟨b1, 4, none⟩ = some (.int .i64 aw') := fun p => by rw [(HD.below p.h HD.lt).cell 4]; rfl
  have m5 : ∀ p : Near w1.heap.size w1, p.w.cell? ⟨b1, 5, none⟩ = some (.int .i64 an') := fun p => by rw [(HD.below p.h HD.lt).cell 5]; rfl
  have m6 : ∀ p : Near w1.heap.size w1, p.w.cell? ⟨b1, 6, none⟩ = some (.int .i64 bw') := fun p => by rw [(HD.below p.h HD.lt).cell 6]; rfl
  have m7 : ∀ p : Near w1.heap.size w1, p.w.cell? ⟨b1, 7, none⟩ = some (.int .i64 bn') := fun p => by rw [(HD.below p.h HD.lt).cell 7]; rfl
  have m8 : ∀ p : Near w1.heap.size w1, p.w.cell? ⟨b1, 8, none⟩ = some (.int .i64 u') := fun p => by rw [(HD.below p.h HD.lt).cell 8]; rfl
  have m9 : ∀ p : Near w1.heap.size w1, p.w.cell? ⟨b1, 9, none⟩ = some (.int .i64 n') := fun p => by rw [(HD.below p.h HD.lt).cell 9]; rfl
  clear HA HD
  have hnn := Near.some w1.heap.size w1
  refine wp_region_near w1.heap.size w1 (Below.refl _ _) (by kernel_rfl) (by kernel_rfl) ?_
  repeat (go_big_quiet_step (fail))
  go_big_quiet_step (exact calls_near (Nat.le_refl _) (H1.out _))
  repeat (go_big_quiet_step (fail))
  go_big_quiet_step (exact calls_near (Nat.le_refl _) (H2.out _))
  repeat (go_big_quiet_step (fail))
  refine wpQuiet_nil ?_
  rintro w3 ⟨pq, rfl⟩
  have hqb := pq.h
  obtain ⟨w3, hq⟩ := pq
  simp only at hqb ⊢
  clear hq hnn n0 n1 n2 n3 n4 n5 n6 n7 n8 n9 m0 m1 m2 m3 m4 m5 m6 m7 m8 m9 H1 H2
  go_wp2_with fail
  go_ret
  exact ⟨rfl, HB2.out.trans (hqb.mono HB2.out.size)⟩
end Go.Proofs.YtflicklgmhgpiaaDoor.P5
namespace Go.Proofs.YtflicklgmhgpiaaDoor.P5
set_option maxRecDepth 8000
open Go.RowKit P1

theorem person_calls (a : Int) (w : World) : Calls Tryd.prog 39 #[.int .i64 a] w fun e w' => e = .returned (.bool (decide (0 ≤ a ∧ a ≤ 5))) ∧ w' = w := by
  by_cases h1 : 0 ≤ a
  · by_cases h2 : a ≤ 5
    · have h3 : a < 6 := by omega
      rw [decide_eq_true ⟨h1, h2⟩]
      go_enter Tryd.func39, Tryd.ntmps39
      go_wp2_with fail
      go_ret
      exact ⟨rfl, rfl⟩
    · have h3 : ¬ a < 6 := by omega
      rw [decide_eq_false (fun h => h2 h.2)]
      go_enter Tryd.func39, Tryd.ntmps39
      go_wp2_with fail
      go_ret
      exact ⟨rfl, rfl⟩
  · rw [decide_eq_false (fun h => h1 h.1)]
    go_enter Tryd.func39, Tryd.ntmps39
    go_wp2_with fail
    go_ret
    exact ⟨rfl, rfl⟩

set_option maxHeartbeats 400000 in
theorem implRole_calls (a b : Int) (w : World) :
    Calls Tryd.prog 20 #[roleV a b] w fun e w' => e = .returned (.bool (decide (roleOk a b))) ∧ Below w.heap.size w w' := by
  have HB : Hid (Below w.heap.size w (w.alloc (.cells #[.int .i64 a, .int .i64 b] 25))) := (Below.refl _ _).alloc (Nat.le_refl _) _
  obtain ⟨r, Er⟩ : ∃ r, Hid (r = decide (roleOk a b)) := ⟨_, rfl⟩
  rw [← Er.out]
  by_cases h1 : 0 ≤ a ∧ a ≤ 5
  · have d1 := decide_eq_true h1
    by_cases h2 : 0 ≤ b
    · by_cases h3 : b < 4
      · have HR : Hid (r = true) := Er.out.trans (decide_eq_true (by unfold roleOk; omega))
        clear h1 Er
        go_enter Tryd.func20, Tryd.ntmps20
        go_wp2_with fail
        refine (person_calls _ _).mono ?_
        rintro e w1 ⟨rfl, rfl⟩
        rw [d1]
        clear d1
        go_wp2_with fail
        go_ret
        exact ⟨by rw [HR.out]; rfl, HB.out⟩
      · have HR : Hid (r = decide (b < 4)) := Er.out.trans ((decide_eq_false (by unfold roleOk; omega)).trans (decide_eq_false h3).symm)
        clear h1 Er
        go_enter Tryd.func20, Tryd.ntmps20
        go_wp2_with fail
        refine (person_calls _ _).mono ?_
        rintro e w1 ⟨rfl, rfl⟩
        rw [d1]
        clear d1
        go_wp2_with fail
        go_ret
        exact ⟨by rw [HR.out]; rfl, HB.out⟩
    · have HR : Hid (r = false) := Er.out.trans (decide_eq_false (by unfold roleOk; omega))
      clear h1 Er
      go_enter Tryd.func20, Tryd.ntmps20
      go_wp2_with fail
      refine (person_calls _ _).mono ?_
      rintro e w1 ⟨rfl, rfl⟩
      rw [d1]
      clear d1
      go_wp2_with fail
      go_ret
      exact ⟨by rw [HR.out]; rfl, HB.out⟩
  · have d1 := decide_eq_false h1
    have HR : Hid (r = false) := Er.out.trans (decide_eq_false (by unfold roleOk; omega))
    clear h1 Er
    go_enter Tryd.func20, Tryd.ntmps20
    go_wp2_with fail
    refine (person_calls _ _).mono ?_
    rintro e w1 ⟨rfl, rfl⟩
    rw [d1]
    clear d1
    go_wp2_with fail
    go_ret
    exact ⟨by rw [HR.out]; rfl, HB.out⟩

/-- What a word of its kind has, of these numbers. -/
def partsOk (k wh aw an bw bn : Int) : Prop := kindOk ⟨k, 0, 0, wh, aw, an, bw, bn, 0, 0⟩

instance (k wh aw an bw bn : Int) : Decidable (partsOk k wh aw an bw bn) := by unfold partsOk; infer_instance

set_option maxHeartbeats 1000000 in
theorem parts_calls (k wh aw an bw bn : Int) (w : World) :
    Calls Tryd.prog 36 #[.int .i64 k, .int .i64 wh, roleV aw an, roleV bw bn] w fun e w' => e = .returned (.bool (decide (partsOk k wh aw an bw bn))) ∧ Below w.heap.size w w' := by
  obtain ⟨r, HR⟩ : ∃ r, Hid (r = decide (partsOk k wh aw an bw bn)) := ⟨_, rfl⟩
  rw [← HR.out]
  have hb0 := (Below.refl w.heap.size w).alloc (Nat.le_refl _) (.cells #[.int .i64 aw, .int .i64 an] 25)
  have hb1 := hb0.alloc hb0.size (.cells #[.int .i64 bw, .int .i64 bn] 25)
  have HB := hide (hb1.alloc hb1.size (.cells #[.int .i64 0, .int .i64 0] 25))
  have g0 := Blk.new w #[.int .i64 aw, .int .i64 an] 25
  have g0 := g0.below ((Below.refl _ _).alloc (Nat.le_refl _) (.cells #[.int .i64 bw, .int .i64 bn] 25)) g0.lt
  have g0 := g0.below ((Below.refl _ _).alloc (Nat.le_refl _) (.cells #[.int .i64 0, .int .i64 0] 25)) g0.lt
  have g1 := Blk.new (w.alloc (.cells #[.int .i64 aw, .int .i64 an] 25)) #[.int .i64 bw, .int .i64 bn] 25
  have g1 := g1.below ((Below.refl _ _).alloc (Nat.le_refl _) (.cells #[.int .i64 0, .int .i64 0] 25)) g1.lt
  have g2 := Blk.new ((w.alloc (.cells #[.int .i64 aw, .int .i64 an] 25)).alloc (.cells #[.int .i64 bw, .int .i64 bn] 25)) #[.int .i64 0, .int .i64 0] 25
  rw [show (w.alloc (.cells #[.int .i64 aw, .int .i64 an] 25)).heap.size = w.heap.size + 1 from by simp [go_sem]] at g1
  rw [show ((w.alloc (.cells #[.int .i64 aw, .int .i64 an] 25)).alloc (.cells #[.int .i64 bw, .int .i64 bn] 25)).heap.size = w.heap.size + 1 + 1 from by simp [go_sem]] at g2
  clear hb0 hb1
  have G0 := hide g0
  have G1 := hide g1
  have G2 := hide g2
  clear g0 g1 g2
  by_cases k1 : k = 1
  · subst k1
    go_enter Tryd.func36, Tryd.ntmps36
    go_wp2_with fail
    obtain ⟨b2, e2⟩ : ∃ b, b = w.heap.size + 1 + 1 := ⟨_, rfl⟩
    obtain ⟨b1, e1⟩ : ∃ b, b = w.heap.size + 1 := ⟨_, rfl⟩
    obtain ⟨b0, e0⟩ : ∃ b, b = w.heap.size := ⟨_, rfl⟩
    rw [← e2] at G2 ⊢
    rw [← e1] at G1 ⊢
    rw [← e0] at G0 ⊢
    clear e0 e1 e2
    generalize ((w.alloc (.cells #[.int .i64 aw, .int .i64 an] 25)).alloc (.cells #[.int .i64 bw, .int .i64 bn] 25)).alloc (.cells #[.int .i64 0, .int .i64 0] 25) = w1 at *
    refine (person_calls _ _).mono ?_
    rintro e w4 ⟨rfl, rfl⟩
    have c00 : w4.cell? ⟨b0, 0, none⟩ = some (.int .i64 aw) := by rw [G0.out.cell 0]; rfl
    have c01 : w4.cell? ⟨b0, 1, none⟩ = some (.int .i64 an) := by rw [G0.out.cell 1]; rfl
    have c10 : w4.cell? ⟨b1, 0, none⟩ = some (.int .i64 bw) := by rw [G1.out.cell 0]; rfl
    have c11 : w4.cell? ⟨b1, 1, none⟩ = some (.int .i64 bn) := by rw [G1.out.cell 1]; rfl
    have c20 : w4.cell? ⟨b2, 0, none⟩ = some (.int .i64 0) := by rw [G2.out.cell 0]; rfl
    have c21 : w4.cell? ⟨b2, 1, none⟩ = some (.int .i64 0) := by rw [G2.out.cell 1]; rfl
    have l0 := G0.out.lt
    have l1 := G1.out.lt
    have l2 := G2.out.lt
    by_cases h4 : 0 ≤ wh ∧ wh ≤ 5
    · rw [decide_eq_true h4]
      go_wp2_with fail
      all_goals go_ret
      all_goals first
        | exact ⟨by rw [show r = false from by rw [HR.out]; exact decide_eq_false (by unfold partsOk kindOk roleOk; dsimp only; omega)]; rfl, HB.out⟩
        | exact ⟨by rw [show r = true from by rw [HR.out]; exact decide_eq_true (by unfold partsOk kindOk roleOk; dsimp only; omega)]; rfl, HB.out⟩
        | exact ⟨by rw [show r = (bw == 0) from by
            rw [HR.out]
            by_cases h7 : bw = 0
            · rw [decide_eq_true (by unfold partsOk kindOk roleOk; dsimp only; omega), h7]; rfl
            · rw [decide_eq_false (by unfold partsOk kindOk roleOk; dsimp only; omega), beq_false_of_ne h7]]; rfl, HB.out⟩
        | exact ⟨by rw [show r = (bn == 0) from by
            rw [HR.out]
            by_cases h7 : bn = 0
            · rw [decide_eq_true (by unfold partsOk kindOk roleOk; dsimp only; omega), h7]; rfl
            · rw [decide_eq_false (by unfold partsOk kindOk roleOk; dsimp only; omega), beq_false_of_ne h7]]; rfl, HB.out⟩
    · rw [decide_eq_false h4]
      go_wp2_with fail
      all_goals go_ret
      all_goals first
        | exact ⟨by rw [show r = false from by rw [HR.out]; exact decide_eq_false (by unfold partsOk kindOk roleOk; dsimp only; omega)]; rfl, HB.out⟩
        | exact ⟨by rw [show r = true from by rw [HR.out]; exact decide_eq_true (by unfold partsOk kindOk roleOk; dsimp only; omega)]; rfl, HB.out⟩
        | exact ⟨by rw [show r = (bw == 0) from by
            rw [HR.out]
            by_cases h7 : bw = 0
            · rw [decide_eq_true (by unfold partsOk kindOk roleOk; dsimp only; omega), h7]; rfl
            · rw [decide_eq_false (by unfold partsOk kindOk roleOk; dsimp only; omega), beq_false_of_ne h7]]; rfl, HB.out⟩
        | exact ⟨by rw [show r = (bn == 0) from by
            rw [HR.out]
            by_cases h7 : bn = 0
            · rw [decide_eq_true (by unfold partsOk kindOk roleOk; dsimp only; omega), h7]; rfl
            · rw [decide_eq_false (by unfold partsOk kindOk roleOk; dsimp only; omega), beq_false_of_ne h7]]; rfl, HB.out⟩
  by_cases k2 : k = 2
  · subst k2
    by_cases h4 : wh = 0
    · subst h4
      go_enter Tryd.func36, Tryd.ntmps36
      go_wp2_with fail
      obtain ⟨b2, e2⟩ : ∃ b, b = w.heap.size + 1 + 1 := ⟨_, rfl⟩
      obtain ⟨b1, e1⟩ : ∃ b, b = w.heap.size + 1 := ⟨_, rfl⟩
      obtain ⟨b0, e0⟩ : ∃ b, b = w.heap.size := ⟨_, rfl⟩
      rw [← e2] at G2 ⊢
      rw [← e1] at G1 ⊢
      rw [← e0] at G0 ⊢
      clear e0 e1 e2
      generalize ((w.alloc (.cells #[.int .i64 aw, .int .i64 an] 25)).alloc (.cells #[.int .i64 bw, .int .i64 bn] 25)).alloc (.cells #[.int .i64 0, .int .i64 0] 25) = w1 at *
      refine (implRole_calls aw an _).mono ?_
      rintro e w5 ⟨rfl, hb⟩
      have HB := hide (HB.out.trans (hb.mono HB.out.size))
      have G0 := hide (G0.out.below hb G0.out.lt)
      have G1 := hide (G1.out.below hb G1.out.lt)
      have G2 := hide (G2.out.below hb G2.out.lt)
      clear hb
      have c10 : w5.cell? ⟨b1, 0, none⟩ = some (.int .i64 bw) := by rw [G1.out.cell 0]; rfl
      have c11 : w5.cell? ⟨b1, 1, none⟩ = some (.int .i64 bn) := by rw [G1.out.cell 1]; rfl
      have c20 : w5.cell? ⟨b2, 0, none⟩ = some (.int .i64 0) := by rw [G2.out.cell 0]; rfl
      have c21 : w5.cell? ⟨b2, 1, none⟩ = some (.int .i64 0) := by rw [G2.out.cell 1]; rfl
      have l1 := G1.out.lt
      have l2 := G2.out.lt
      by_cases h5 : roleOk aw an
      · rw [decide_eq_true h5]
        unfold roleOk at h5
        go_wp2_with fail
        all_goals go_ret
        all_goals first
          | exact ⟨by rw [show r = false from by rw [HR.out]; exact decide_eq_false (by unfold partsOk kindOk roleOk; dsimp only; omega)]; rfl, HB.out⟩
          | exact ⟨by rw [show r = true from by rw [HR.out]; exact decide_eq_true (by unfold partsOk kindOk roleOk; dsimp only; omega)]; rfl, HB.out⟩
          | exact ⟨by rw [show r = (bw == 0) from by
              rw [HR.out]
              by_cases h7 : bw = 0
              · rw [decide_eq_true (by unfold partsOk kindOk roleOk; dsimp only; omega), h7]; rfl
              · rw [decide_eq_false (by unfold partsOk kindOk roleOk; dsimp only; omega), beq_false_of_ne h7]]; rfl, HB.out⟩
          | exact ⟨by rw [show r = (bn == 0) from by
              rw [HR.out]
              by_cases h7 : bn = 0
              · rw [decide_eq_true (by unfold partsOk kindOk roleOk; dsimp only; omega), h7]; rfl
              · rw [decide_eq_false (by unfold partsOk kindOk roleOk; dsimp only; omega), beq_false_of_ne h7]]; rfl, HB.out⟩
      · rw [decide_eq_false h5]
        unfold roleOk at h5
        go_wp2_with fail
        all_goals go_ret
        all_goals first
          | exact ⟨by rw [show r = false from by rw [HR.out]; exact decide_eq_false (by unfold partsOk kindOk roleOk; dsimp only; omega)]; rfl, HB.out⟩
          | exact ⟨by rw [show r = true from by rw [HR.out]; exact decide_eq_true (by unfold partsOk kindOk roleOk; dsimp only; omega)]; rfl, HB.out⟩
          | exact ⟨by rw [show r = (bw == 0) from by
              rw [HR.out]
              by_cases h7 : bw = 0
              · rw [decide_eq_true (by unfold partsOk kindOk roleOk; dsimp only; omega), h7]; rfl
              · rw [decide_eq_false (by unfold partsOk kindOk roleOk; dsimp only; omega), beq_false_of_ne h7]]; rfl, HB.out⟩
          | exact ⟨by rw [show r = (bn == 0) from by
              rw [HR.out]
              by_cases h7 : bn = 0
              · rw [decide_eq_true (by unfold partsOk kindOk roleOk; dsimp only; omega), h7]; rfl
              · rw [decide_eq_false (by unfold partsOk kindOk roleOk; dsimp only; omega), beq_false_of_ne h7]]; rfl, HB.out⟩
    · skip
      go_enter Tryd.func36, Tryd.ntmps36
      go_wp2_with fail
      all_goals go_ret
      all_goals first
        | exact ⟨by rw [show r = false from by rw [HR.out]; exact decide_eq_false (by unfold partsOk kindOk roleOk; dsimp only; omega)]; rfl, HB.out⟩
        | exact ⟨by rw [show r = true from by rw [HR.out]; exact decide_eq_true (by unfold partsOk kindOk roleOk; dsimp only; omega)]; rfl, HB.out⟩
        | exact ⟨by rw [show r = (bw == 0) from by
            rw [HR.out]
            by_cases h7 : bw = 0
            · rw [decide_eq_true (by unfold partsOk kindOk roleOk; dsimp only; omega), h7]; rfl
            · rw [decide_eq_false (by unfold partsOk kindOk roleOk; dsimp only; omega), beq_false_of_ne h7]]; rfl, HB.out⟩
        | exact ⟨by rw [show r = (bn == 0) from by
            rw [HR.out]
            by_cases h7 : bn = 0
            · rw [decide_eq_true (by unfold partsOk kindOk roleOk; dsimp only; omega), h7]; rfl
            · rw [decide_eq_false (by unfold partsOk kindOk roleOk; dsimp only; omega), beq_false_of_ne h7]]; rfl, HB.out⟩
  by_cases k3 : k = 3
  · subst k3
    by_cases h4 : wh = 0
    · subst h4
      go_enter Tryd.func36, Tryd.ntmps36
      go_wp2_with fail
      obtain ⟨b2, e2⟩ : ∃ b, b = w.heap.size + 1 + 1 := ⟨_, rfl⟩
      obtain ⟨b1, e1⟩ : ∃ b, b = w.heap.size + 1 := ⟨_, rfl⟩
      obtain ⟨b0, e0⟩ : ∃ b, b = w.heap.size := ⟨_, rfl⟩
      rw [← e2] at G2 ⊢
      rw [← e1] at G1 ⊢
      rw [← e0] at G0 ⊢
      clear e0 e1 e2
      generalize ((w.alloc (.cells #[.int .i64 aw, .int .i64 an] 25)).alloc (.cells #[.int .i64 bw, .int .i64 bn] 25)).alloc (.cells #[.int .i64 0, .int .i64 0] 25) = w1 at *
      refine (implRole_calls aw an _).mono ?_
      rintro e w5 ⟨rfl, hb⟩
      have HB := hide (HB.out.trans (hb.mono HB.out.size))
      have G0 := hide (G0.out.below hb G0.out.lt)
      have G1 := hide (G1.out.below hb G1.out.lt)
      have G2 := hide (G2.out.below hb G2.out.lt)
      clear hb
      have c10 : w5.cell? ⟨b1, 0, none⟩ = some (.int .i64 bw) := by rw [G1.out.cell 0]; rfl
      have c11 : w5.cell? ⟨b1, 1, none⟩ = some (.int .i64 bn) := by rw [G1.out.cell 1]; rfl
      have l1 := G1.out.lt
      by_cases h5 : roleOk aw an
      · rw [decide_eq_true h5]
        unfold roleOk at h5
        go_wp2_with fail
        clear c10 c11 l1
        refine (implRole_calls bw bn _).mono ?_
        rintro e w6 ⟨rfl, hb⟩
        have HB := hide (HB.out.trans (hb.mono HB.out.size))
        have G0 := hide (G0.out.below hb G0.out.lt)
        have G1 := hide (G1.out.below hb G1.out.lt)
        have G2 := hide (G2.out.below hb G2.out.lt)
        clear hb
        have c10 : w6.cell? ⟨b1, 0, none⟩ = some (.int .i64 bw) := by rw [G1.out.cell 0]; rfl
        have c11 : w6.cell? ⟨b1, 1, none⟩ = some (.int .i64 bn) := by rw [G1.out.cell 1]; rfl
        have l1 := G1.out.lt
        by_cases h6 : roleOk bw bn
        · rw [decide_eq_true h6]
          unfold roleOk at h6
          go_wp2_with fail
          all_goals go_ret
          all_goals first
            | exact ⟨by rw [show r = false from by rw [HR.out]; exact decide_eq_false (by unfold partsOk kindOk roleOk; dsimp only; omega)]; rfl, HB.out⟩
            | exact ⟨by rw [show r = true from by rw [HR.out]; exact decide_eq_true (by unfold partsOk kindOk roleOk; dsimp only; omega)]; rfl, HB.out⟩
            | exact ⟨by rw [show r = (bw == 0) from by
                rw [HR.out]
                by_cases h7 : bw = 0
                · rw [decide_eq_true (by unfold partsOk kindOk roleOk; dsimp only; omega), h7]; rfl
                · rw [decide_eq_false (by unfold partsOk kindOk roleOk; dsimp only; omega), beq_false_of_ne h7]]; rfl, HB.out⟩
            | exact ⟨by rw [show r = (bn == 0) from by
                rw [HR.out]
                by_cases h7 : bn = 0
                · rw [decide_eq_true (by unfold partsOk kindOk roleOk; dsimp only; omega), h7]; rfl
                · rw [decide_eq_false (by unfold partsOk kindOk roleOk; dsimp only; omega), beq_false_of_ne h7]]; rfl, HB.out⟩
        · rw [decide_eq_false h6]
          unfold roleOk at h6
          go_wp2_with fail
          all_goals go_ret
          all_goals first
            | exact ⟨by rw [show r = false from by rw [HR.out]; exact decide_eq_false (by unfold partsOk kindOk roleOk; dsimp only; omega)]; rfl, HB.out⟩
            | exact ⟨by rw [show r = true from by rw [HR.out]; exact decide_eq_true (by unfold partsOk kindOk roleOk; dsimp only; omega)]; rfl, HB.out⟩
            | exact ⟨by rw [show r = (bw == 0) from by
                rw [HR.out]
                by_cases h7 : bw = 0
                · rw [decide_eq_true (by unfold partsOk kindOk roleOk; dsimp only; omega), h7]; rfl
                · rw [decide_eq_false (by unfold partsOk kindOk roleOk; dsimp only; omega), beq_false_of_ne h7]]; rfl, HB.out⟩
            | exact ⟨by rw [show r = (bn == 0) from by
                rw [HR.out]
                by_cases h7 : bn = 0
                · rw [decide_eq_true (by unfold partsOk kindOk roleOk; dsimp only; omega), h7]; rfl
                · rw [decide_eq_false (by unfold partsOk kindOk roleOk; dsimp only; omega), beq_false_of_ne h7]]; rfl, HB.out⟩
      · rw [decide_eq_false h5]
        unfold roleOk at h5
        go_wp2_with fail
        all_goals go_ret
        all_goals first
          | exact ⟨by rw [show r = false from by rw [HR.out]; exact decide_eq_false (by unfold partsOk kindOk roleOk; dsimp only; omega)]; rfl, HB.out⟩
          | exact ⟨by rw [show r = true from by rw [HR.out]; exact decide_eq_true (by unfold partsOk kindOk roleOk; dsimp only; omega)]; rfl, HB.out⟩
          | exact ⟨by rw [show r = (bw == 0) from by
              rw [HR.out]
              by_cases h7 : bw = 0
              · rw [decide_eq_true (by unfold partsOk kindOk roleOk; dsimp only; omega), h7]; rfl
              · rw [decide_eq_false (by unfold partsOk kindOk roleOk; dsimp only; omega), beq_false_of_ne h7]]; rfl, HB.out⟩
          | exact ⟨by rw [show r = (bn == 0) from by
              rw [HR.out]
              by_cases h7 : bn = 0
              · rw [decide_eq_true (by unfold partsOk kindOk roleOk; dsimp only; omega), h7]; rfl
              · rw [decide_eq_false (by unfold partsOk kindOk roleOk; dsimp only; omega), beq_false_of_ne h7]]; rfl, HB.out⟩
    · skip
      go_enter Tryd.func36, Tryd.ntmps36
      go_wp2_with fail
      all_goals go_ret
      all_goals first
        | exact ⟨by rw [show r = false from by rw [HR.out]; exact decide_eq_false (by unfold partsOk kindOk roleOk; dsimp only; omega)]; rfl, HB.out⟩
        | exact ⟨by rw [show r = true from by rw [HR.out]; exact decide_eq_true (by unfold partsOk kindOk roleOk; dsimp only; omega)]; rfl, HB.out⟩
        | exact ⟨by rw [show r = (bw == 0) from by
            rw [HR.out]
            by_cases h7 : bw = 0
            · rw [decide_eq_true (by unfold partsOk kindOk roleOk; dsimp only; omega), h7]; rfl
            · rw [decide_eq_false (by unfold partsOk kindOk roleOk; dsimp only; omega), beq_false_of_ne h7]]; rfl, HB.out⟩
        | exact ⟨by rw [show r = (bn == 0) from by
            rw [HR.out]
            by_cases h7 : bn = 0
            · rw [decide_eq_true (by unfold partsOk kindOk roleOk; dsimp only; omega), h7]; rfl
            · rw [decide_eq_false (by unfold partsOk kindOk roleOk; dsimp only; omega), beq_false_of_ne h7]]; rfl, HB.out⟩
  by_cases k4 : k = 4
  · subst k4
    by_cases h4 : wh = 0
    · subst h4
      go_enter Tryd.func36, Tryd.ntmps36
      go_wp2_with fail
      obtain ⟨b2, e2⟩ : ∃ b, b = w.heap.size + 1 + 1 := ⟨_, rfl⟩
      obtain ⟨b1, e1⟩ : ∃ b, b = w.heap.size + 1 := ⟨_, rfl⟩
      obtain ⟨b0, e0⟩ : ∃ b, b = w.heap.size := ⟨_, rfl⟩
      rw [← e2] at G2 ⊢
      rw [← e1] at G1 ⊢
      rw [← e0] at G0 ⊢
      clear e0 e1 e2
      generalize ((w.alloc (.cells #[.int .i64 aw, .int .i64 an] 25)).alloc (.cells #[.int .i64 bw, .int .i64 bn] 25)).alloc (.cells #[.int .i64 0, .int .i64 0] 25) = w1 at *
      refine (implRole_calls aw an _).mono ?_
      rintro e w5 ⟨rfl, hb⟩
      have HB := hide (HB.out.trans (hb.mono HB.out.size))
      have G0 := hide (G0.out.below hb G0.out.lt)
      have G1 := hide (G1.out.below hb G1.out.lt)
      have G2 := hide (G2.out.below hb G2.out.lt)
      clear hb
      have c10 : w5.cell? ⟨b1, 0, none⟩ = some (.int .i64 bw) := by rw [G1.out.cell 0]; rfl
      have c11 : w5.cell? ⟨b1, 1, none⟩ = some (.int .i64 bn) := by rw [G1.out.cell 1]; rfl
      have l1 := G1.out.lt
      by_cases h5 : roleOk aw an
      · rw [decide_eq_true h5]
        unfold roleOk at h5
        go_wp2_with fail
        clear c10 c11 l1
        refine (implRole_calls bw bn _).mono ?_
        rintro e w6 ⟨rfl, hb⟩
        have HB := hide (HB.out.trans (hb.mono HB.out.size))
        have G0 := hide (G0.out.below hb G0.out.lt)
        have G1 := hide (G1.out.below hb G1.out.lt)
        have G2 := hide (G2.out.below hb G2.out.lt)
        clear hb
        have c10 : w6.cell? ⟨b1, 0, none⟩ = some (.int .i64 bw) := by rw [G1.out.cell 0]; rfl
        have c11 : w6.cell? ⟨b1, 1, none⟩ = some (.int .i64 bn) := by rw [G1.out.cell 1]; rfl
        have l1 := G1.out.lt
        by_cases h6 : roleOk bw bn
        · rw [decide_eq_true h6]
          unfold roleOk at h6
          go_wp2_with fail
          all_goals go_ret
          all_goals first
            | exact ⟨by rw [show r = false from by rw [HR.out]; exact decide_eq_false (by unfold partsOk kindOk roleOk; dsimp only; omega)]; rfl, HB.out⟩
            | exact ⟨by rw [show r = true from by rw [HR.out]; exact decide_eq_true (by unfold partsOk kindOk roleOk; dsimp only; omega)]; rfl, HB.out⟩
            | exact ⟨by rw [show r = (bw == 0) from by
                rw [HR.out]
                by_cases h7 : bw = 0
                · rw [decide_eq_true (by unfold partsOk kindOk roleOk; dsimp only; omega), h7]; rfl
                · rw [decide_eq_false (by unfold partsOk kindOk roleOk; dsimp only; omega), beq_false_of_ne h7]]; rfl, HB.out⟩
            | exact ⟨by rw [show r = (bn == 0) from by
                rw [HR.out]
                by_cases h7 : bn = 0
                · rw [decide_eq_true (by unfold partsOk kindOk roleOk; dsimp only; omega), h7]; rfl
                · rw [decide_eq_false (by unfold partsOk kindOk roleOk; dsimp only; omega), beq_false_of_ne h7]]; rfl, HB.out⟩
        · rw [decide_eq_false h6]
          unfold roleOk at h6
          go_wp2_with fail
          all_goals go_ret
          all_goals first
            | exact ⟨by rw [show r = false from by rw [HR.out]; exact decide_eq_false (by unfold partsOk kindOk roleOk; dsimp only; omega)]; rfl, HB.out⟩
            | exact ⟨by rw [show r = true from by rw [HR.out]; exact decide_eq_true (by unfold partsOk kindOk roleOk; dsimp only; omega)]; rfl, HB.out⟩
            | exact ⟨by rw [show r = (bw == 0) from by
                rw [HR.out]
                by_cases h7 : bw = 0
                · rw [decide_eq_true (by unfold partsOk kindOk roleOk; dsimp only; omega), h7]; rfl
                · rw [decide_eq_false (by unfold partsOk kindOk roleOk; dsimp only; omega), beq_false_of_ne h7]]; rfl, HB.out⟩
            | exact ⟨by rw [show r = (bn == 0) from by
                rw [HR.out]
                by_cases h7 : bn = 0
                · rw [decide_eq_true (by unfold partsOk kindOk roleOk; dsimp only; omega), h7]; rfl
                · rw [decide_eq_false (by unfold partsOk kindOk roleOk; dsimp only; omega), beq_false_of_ne h7]]; rfl, HB.out⟩
      · rw [decide_eq_false h5]
        unfold roleOk at h5
        go_wp2_with fail
        all_goals go_ret
        all_goals first
          | exact ⟨by rw [show r = false from by rw [HR.out]; exact decide_eq_false (by unfold partsOk kindOk roleOk; dsimp only; omega)]; rfl, HB.out⟩
          | exact ⟨by rw [show r = true from by rw [HR.out]; exact decide_eq_true (by unfold partsOk kindOk roleOk; dsimp only; omega)]; rfl, HB.out⟩
          | exact ⟨by rw [show r = (bw == 0) from by
              rw [HR.out]
              by_cases h7 : bw = 0
              · rw [decide_eq_true (by unfold partsOk kindOk roleOk; dsimp only; omega), h7]; rfl
              · rw [decide_eq_false (by unfold partsOk kindOk roleOk; dsimp only; omega), beq_false_of_ne h7]]; rfl, HB.out⟩
          | exact ⟨by rw [show r = (bn == 0) from by
              rw [HR.out]
              by_cases h7 : bn = 0
              · rw [decide_eq_true (by unfold partsOk kindOk roleOk; dsimp only; omega), h7]; rfl
              · rw [decide_eq_false (by unfold partsOk kindOk roleOk; dsimp only; omega), beq_false_of_ne h7]]; rfl, HB.out⟩
    · skip
      go_enter Tryd.func36, Tryd.ntmps36
      go_wp2_with fail
      all_goals go_ret
      all_goals first
        | exact ⟨by rw [show r = false from by rw [HR.out]; exact decide_eq_false (by unfold partsOk kindOk roleOk; dsimp only; omega)]; rfl, HB.out⟩
        | exact ⟨by rw [show r = true from by rw [HR.out]; exact decide_eq_true (by unfold partsOk kindOk roleOk; dsimp only; omega)]; rfl, HB.out⟩
        | exact ⟨by rw [show r = (bw == 0) from by
            rw [HR.out]
            by_cases h7 : bw = 0
            · rw [decide_eq_true (by unfold partsOk kindOk roleOk; dsimp only; omega), h7]; rfl
            · rw [decide_eq_false (by unfold partsOk kindOk roleOk; dsimp only; omega), beq_false_of_ne h7]]; rfl, HB.out⟩
        | exact ⟨by rw [show r = (bn == 0) from by
            rw [HR.out]
            by_cases h7 : bn = 0
            · rw [decide_eq_true (by unfold partsOk kindOk roleOk; dsimp only; omega), h7]; rfl
            · rw [decide_eq_false (by unfold partsOk kindOk roleOk; dsimp only; omega), beq_false_of_ne h7]]; rfl, HB.out⟩
  go_enter Tryd.func36, Tryd.ntmps36
  go_wp2_with fail
  all_goals go_ret
  all_goals first
    | exact ⟨by rw [show r = false from by rw [HR.out]; exact decide_eq_false (by unfold partsOk kindOk roleOk; dsimp only; omega)]; rfl, HB.out⟩
    | exact ⟨by rw [show r = true from by rw [HR.out]; exact decide_eq_true (by unfold partsOk kindOk roleOk; dsimp only; omega)]; rfl, HB.out⟩
    | exact ⟨by rw [show r = (bw == 0) from by
        rw [HR.out]
        by_cases h7 : bw = 0
        · rw [decide_eq_true (by unfold partsOk kindOk roleOk; dsimp only; omega), h7]; rfl
        · rw [decide_eq_false (by unfold partsOk kindOk roleOk; dsimp only; omega), beq_false_of_ne h7]]; rfl, HB.out⟩
    | exact ⟨by rw [show r = (bn == 0) from by
        rw [HR.out]
        by_cases h7 : bn = 0
        · rw [decide_eq_true (by unfold partsOk kindOk roleOk; dsimp only; omega), h7]; rfl
        · rw [decide_eq_false (by unfold partsOk kindOk roleOk; dsimp only; omega), beq_false_of_ne h7]]; rfl, HB.out⟩

set_option maxHeartbeats 1000000 in
theorem implCredOk_calls (c : Cr) (w : World) :
    Calls Tryd.prog 15 #[credV c] w fun e w' => e = .returned (.bool (decide (credOk c))) ∧ Below w.heap.size w w' := by
  obtain ⟨k, ow, on, wh, aw, an, bw, bn, u, n⟩ := c
  simp only [credV]
  have HB : Hid (Below w.heap.size w (w.alloc (.cells #[.int .i64 k, .int .i64 ow, .int .i64 on, .int .i64 wh, .int .i64 aw, .int .i64 an, .int .i64 bw, .int .i64 bn, .int .i64 u, .int .i64 n] 27))) := (Below.refl _ _).alloc (Nat.le_refl _) _
  have HA := hide (Blk.new w #[.int .i64 k, .int .i64 ow, .int .i64 on, .int .i64 wh, .int .i64 aw, .int .i64 an, .int .i64 bw, .int .i64 bn, .int .i64 u, .int .i64 n] 27)
  obtain ⟨r, Er⟩ : ∃ r, Hid (r = decide (credOk ⟨k, ow, on, wh, aw, an, bw, bn, u, n⟩)) := ⟨_, rfl⟩
  rw [← Er.out]
  have hb2 : ∀ h : u < 1 ∨ 9999 < u ∨ n < 0 ∨ 99 < n, r = false := fun h => Er.out.trans (decide_eq_false (by unfold credOk roleOk; dsimp only; omega))
  have HF := hide hb2
  clear hb2
  by_cases h1 : u < 1
  · have HR := hide (HF.out (by omega))
    clear Er HF
    go_enter Tryd.func15, Tryd.ntmps15
    go_wp2_with fail
    go_ret
    exact ⟨by rw [HR.out]; rfl, HB.out⟩
  by_cases h2 : 9999 < u
  · have HR := hide (HF.out (by omega))
    clear Er HF
    go_enter Tryd.func15, Tryd.ntmps15
    go_wp2_with fail
    go_ret
    exact ⟨by rw [HR.out]; rfl, HB.out⟩
  by_cases h3 : n < 0
  · have HR := hide (HF.out (by omega))
    clear Er HF
    go_enter Tryd.func15, Tryd.ntmps15
    go_wp2_with fail
    go_ret
    exact ⟨by rw [HR.out]; rfl, HB.out⟩
  by_cases h4 : 99 < n
  · have HR := hide (HF.out (by omega))
    clear Er HF
    go_enter Tryd.func15, Tryd.ntmps15
    go_wp2_with fail
    go_ret
    exact ⟨by rw [HR.out]; rfl, HB.out⟩
  clear HF
  go_enter Tryd.func15, Tryd.ntmps15
  go_wp2_with fail
  obtain ⟨b1, hb1⟩ : ∃ b, b = w.heap.size := ⟨_, rfl⟩
  rw [← hb1] at HA ⊢
  clear hb1
  generalize w.alloc (.cells #[.int .i64 k, .int .i64 ow, .int .i64 on, .int .i64 wh, .int .i64 aw, .int .i64 an, .int .i64 bw, .int .i64 bn, .int .i64 u, .int .i64 n] 27) = w1 at *
  refine (implRole_calls ow on _).mono ?_
  rintro e w2 ⟨rfl, hb⟩
  have HB := hide (HB.out.trans (hb.mono HB.out.size))
  have HA := hide (HA.out.below hb HA.out.lt)
  clear hb
  have c0 : w2.cell? ⟨b1, 0, none⟩ = some (.int .i64 k) := by rw [HA.out.cell 0]; rfl
  have c3 : w2.cell? ⟨b1, 3, none⟩ = some (.int .i64 wh) := by rw [HA.out.cell 3]; rfl
  have c4 : w2.cell? ⟨b1, 4, none⟩ = some (.int .i64 aw) := by rw [HA.out.cell 4]; rfl
  have c5 : w2.cell? ⟨b1, 5, none⟩ = some (.int .i64 an) := by rw [HA.out.cell 5]; rfl
  have c6 : w2.cell? ⟨b1, 6, none⟩ = some (.int .i64 bw) := by rw [HA.out.cell 6]; rfl
  have c7 : w2.cell? ⟨b1, 7, none⟩ = some (.int .i64 bn) := by rw [HA.out.cell 7]; rfl
  have l1 := HA.out.lt
  by_cases h5 : roleOk ow on
  · rw [decide_eq_true h5]
    have HR : Hid (r = decide (partsOk k wh aw an bw bn)) := by
      show r = _
      rw [Er.out]
      unfold roleOk at h5
      have hk : partsOk k wh aw an bw bn ↔ kindOk ⟨k, ow, on, wh, aw, an, bw, bn, u, n⟩ := Iff.rfl
      by_cases h6 : partsOk k wh aw an bw bn
      · rw [decide_eq_true h6]
        refine decide_eq_true ⟨⟨?_, ?_⟩, hk.1 h6⟩
        · show roleOk ow on
          unfold roleOk; omega
        · dsimp only; omega
      · rw [decide_eq_false h6]
        exact decide_eq_false fun h => h6 (hk.2 h.2)
    clear Er h5
    go_wp2_with fail
    clear c0 c3 c4 c5 c6 c7 l1
    refine (parts_calls k wh aw an bw bn _).mono ?_
    rintro e w3 ⟨rfl, hb⟩
    have HB := hide (HB.out.trans (hb.mono HB.out.size))
    rw [← HR.out]
    clear hb
    go_wp2_with fail
    go_ret
    exact ⟨rfl, HB.out⟩
  · rw [decide_eq_false h5]
    have HR : Hid (r = false) := Er.out.trans (decide_eq_false fun h => h5 h.1.1)
    clear Er h5
    go_wp2_with fail
    go_ret
    exact ⟨by rw [HR.out]; rfl, HB.out⟩
end Go.Proofs.YtflicklgmhgpiaaDoor.P5
namespace Go.Proofs.YtflicklgmhgpiaaDoor.P5
set_option maxRecDepth 8000
open Go.RowKit P1

theorem Below.two (w : World) (x y : Obj) : Below w.heap.size w ((w.alloc x).alloc y) := by
  have h1 := (Below.refl w.heap.size w).alloc (Nat.le_refl _) x
  exact h1.alloc h1.size y

set_option maxHeartbeats 400000 in
theorem numbers_calls (c : Cr) (w : World) :
    Calls Tryd.prog 26 #[credV c] w fun e w' => e = .returned (credV c) ∧ Below w.heap.size w w' := by
  obtain ⟨k, ow, on, wh, aw, an, bw, bn, u, n⟩ := c
  simp only [credV]
  go_enter Tryd.func26, Tryd.ntmps26
  go_wp2_with fail
  refine bodyPost_ret (v := .agg #[.int .i64 k, .int .i64 ow, .int .i64 on, .int .i64 wh, .int .i64 aw, .int .i64 an, .int .i64 bw, .int .i64 bn, .int .i64 u, .int .i64 n]) (by simp [results, Tryd.results26, go_sem]) rfl ⟨rfl, Below.two _ _ _⟩

set_option maxHeartbeats 400000 in
theorem cred_calls (c : Cr) (w : World) :
    Calls Tryd.prog 29 #[credV c] w fun e w' => e = .returned (credV c) ∧ Below w.heap.size w w' := by
  obtain ⟨k, ow, on, wh, aw, an, bw, bn, u, n⟩ := c
  simp only [credV]
  go_enter Tryd.func29, Tryd.ntmps29
  go_wp2_with fail
  refine bodyPost_ret (v := .agg #[.int .i64 k, .int .i64 ow, .int .i64 on, .int .i64 wh, .int .i64 aw, .int .i64 an, .int .i64 bw, .int .i64 bn, .int .i64 u, .int .i64 n]) (by simp [results, Tryd.results29, go_sem]) rfl ⟨rfl, Below.two _ _ _⟩

theorem rowB_le (l : List Nat) : (rowB l).length ≤ 5 * l.length := by
  induction l with
  | nil => simp [rowB]
  | cons n r ih =>
    have := (varB_length 4 n).2
    simp only [rowB, List.length_append, List.length_cons]
    omega

/-- Numbers as ints. -/
def intsOf (l : List Nat) : List Int := l.map fun (n : Nat) => (n : Int)

theorem intsOf_length (l : List Nat) : (intsOf l).length = l.length := by simp [intsOf]

theorem rowB_take (l : List Nat) (k : Nat) (h : k < l.length) : rowB (l.take (k + 1)) = rowB (l.take k) ++ varB 4 l[k] := by
  rw [List.take_succ_eq_append_getElem h, rowB_append]
  simp [rowB]

set_option maxHeartbeats 400000 in
theorem varsText_calls (w : World) (v : Value) (l : List Nat) (hv : IntsAt w v (intsOf l)) (hl : l.length ≤ 1000) (hx : ∀ x ∈ l, x ≤ 1000000000) :
    Calls Tryd.prog 27 #[v] w fun e w' => e = .returned (.string ⟨(rowB l).toArray⟩) ∧ Below w.heap.size w w' := by
  obtain ⟨a, ca, rfl, HA⟩ := hv
  replace HA := hide HA
  have HX := hide hx
  clear hx
  rw [intsOf_length]
  go_enter Tryd.func27, Tryd.ntmps27
  go_wp2
  go_loopw [3, 10] (fun s i wr => ∃ k : Nat, k ≤ l.length ∧ i = .int .i64 k ∧ s = .string ⟨(rowB (l.take k)).toArray⟩ ∧ Below w.heap.size w wr) (fun _ i _ => l.length - (intOf i).toNat)
  case atStart => exact ⟨0, Nat.zero_le _, rfl, rfl, Below.refl _ _⟩
  case round =>
    obtain ⟨k, hk, rfl, rfl, hb⟩ := hrel
    have HB := hide hb
    by_cases hlt : k < l.length
    · obtain ⟨g, off, rfl, hg, hc⟩ := HA.out k (by rw [intsOf_length]; exact hlt)
      have hc2 : wr.cell? ⟨g, off + k, none⟩ = some (.int .i64 (l[k] : Nat)) := by
        rw [hb.cell (p := ⟨g, off + k, none⟩) hg, hc]
        simp [intsOf]
      have hg2 : g < wr.heap.size := Nat.lt_of_lt_of_le hg hb.size
      have hxk := HX.out l[k] (List.getElem_mem _)
      have HN := hide (rowB_take l k hlt)
      have l1 := rowB_le (l.take k)
      have l2 := (varB_length 4 l[k]).2
      have l3 : (l.take k).length ≤ l.length := by rw [List.length_take]; omega
      have HV := hide (fun wx => implVarText_calls (l[k] : Nat) wx)
      have hvt : varText (l[k] : Nat) = (varB 4 l[k], true) := by
        unfold varText
        rw [if_pos ⟨by omega, by omega⟩]
        simp
      rw [hvt] at HV
      clear hvt hb hc
      obtain ⟨N, EN⟩ : ∃ N, N = rowB (l.take (k + 1)) := ⟨_, rfl⟩
      rw [← EN] at HN
      have HEN := hide EN
      clear EN
      have l4 : (rowB (l.take k)).length ≤ 5000 := by omega
      clear l1 l3
      generalize rowB (l.take k) = T at *
      generalize varB 4 l[k] = U at *
      generalize l[k] = x at *
      go_wp2_with fail
      refine (HV.out _).mono ?_
      rintro e w1 ⟨rfl, hb1⟩
      have HB1 := hide (HB.out.trans (hb1.mono HB.out.size))
      clear hb1 hc2 HV
      go_wp2
      go_roundw
      case rel =>
        refine ⟨k + 1, by omega, by go_num, ?_, HB1.out⟩
        rw [← HEN.out, HN.out, ← ByteArray.mk_append_mk]
      case measure => simp [intOf]; omega
    · have hkl : k = l.length := by omega
      have HN : Hid (rowB (l.take k) = rowB l) := by show rowB (l.take k) = rowB l; rw [hkl, List.take_length]
      clear hb
      go_wp2
      go_ret
      exact ⟨by rw [← HN.out]; rfl, HB.out⟩

theorem credB_rowB (c : Cr) : credB c = rowB [c.k.toNat, c.ow.toNat, c.on.toNat, c.wh.toNat, c.aw.toNat, c.an.toNat, c.bw.toNat, c.bn.toNat, c.u.toNat, c.n.toNat] := by
  simp [credB, rowB, List.append_assoc]

set_option maxHeartbeats 1000000 in
theorem implCredText_calls (c : Cr) (w : World) :
    Calls Tryd.prog 7 #[credV c] w fun e w' => e = .returned (.string ⟨(credT c).toArray⟩) ∧ Below w.heap.size w w' := by
  have HRO := hide (fun wx => implCredOk_calls c wx)
  have HNU := hide (fun wx => numbers_calls c wx)
  have Hs := hide (fun h : credOk c => h.small)
  obtain ⟨T, ET⟩ : ∃ T, Hid (T = credT c) := ⟨_, rfl⟩
  rw [← ET.out]
  obtain ⟨k, ow, on, wh, aw, an, bw, bn, u, n⟩ := c
  simp only [credV] at HRO HNU ⊢
  have HB : Hid (Below w.heap.size w (w.alloc (.cells #[.int .i64 k, .int .i64 ow, .int .i64 on, .int .i64 wh, .int .i64 aw, .int .i64 an, .int .i64 bw, .int .i64 bn, .int .i64 u, .int .i64 n] 27))) := (Below.refl _ _).alloc (Nat.le_refl _) _
  have HA := hide (Blk.new w #[.int .i64 k, .int .i64 ow, .int .i64 on, .int .i64 wh, .int .i64 aw, .int .i64 an, .int .i64 bw, .int .i64 bn, .int .i64 u, .int .i64 n] 27)
  by_cases h1 : credOk ⟨k, ow, on, wh, aw, an, bw, bn, u, n⟩
  · simp only [decide_eq_true h1] at HRO
    have hs := Hs.out h1
    have hT : T = credB ⟨k, ow, on, wh, aw, an, bw, bn, u, n⟩ := by rw [ET.out, credT, if_pos h1]
    rw [credB_rowB] at hT
    have HT := hide hT
    unfold Cr.small at hs
    have HS := hide hs
    clear ET Hs h1 hT hs
    go_enter Tryd.func7, Tryd.ntmps7
    go_wp2_with fail
    obtain ⟨b1, hb1⟩ : ∃ b, b = w.heap.size := ⟨_, rfl⟩
    rw [← hb1] at HA ⊢
    clear hb1
    generalize w.alloc (.cells #[.int .i64 k, .int .i64 ow, .int .i64 on, .int .i64 wh, .int .i64 aw, .int .i64 an, .int .i64 bw, .int .i64 bn, .int .i64 u, .int .i64 n] 27) = w1 at *
    refine (HRO.out _).mono ?_
    rintro e w2 ⟨rfl, hb2⟩
    have HA2 := hide (HA.out.below hb2 HA.out.lt)
    have HB2 := hide (HB.out.trans (hb2.mono HB.out.size))
    clear hb2 HA HB HRO
    have c0 : w2.cell? ⟨b1, 0, none⟩ = some (.int .i64 k) := by rw [HA2.out.cell 0]; rfl
    have c1 : w2.cell? ⟨b1, 1, none⟩ = some (.int .i64 ow) := by rw [HA2.out.cell 1]; rfl
    have c2 : w2.cell? ⟨b1, 2, none⟩ = some (.int .i64 on) := by rw [HA2.out.cell 2]; rfl
    have c3 : w2.cell? ⟨b1, 3, none⟩ = some (.int .i64 wh) := by rw [HA2.out.cell 3]; rfl
    have c4 : w2.cell? ⟨b1, 4, none⟩ = some (.int .i64 aw) := by rw [HA2.out.cell 4]; rfl
    have c5 : w2.cell? ⟨b1, 5, none⟩ = some (.int .i64 an) := by rw [HA2.out.cell 5]; rfl
    have c6 : w2.cell? ⟨b1, 6, none⟩ = some (.int .i64 bw) := by rw [HA2.out.cell 6]; rfl
    have c7 : w2.cell? ⟨b1, 7, none⟩ = some (.int .i64 bn) := by rw [HA2.out.cell 7]; rfl
    have c8 : w2.cell? ⟨b1, 8, none⟩ = some (.int .i64 u) := by rw [HA2.out.cell 8]; rfl
    have c9 : w2.cell? ⟨b1, 9, none⟩ = some (.int .i64 n) := by rw [HA2.out.cell 9]; rfl
    have l1 := HA2.out.lt
    go_wp2_with fail
    clear c0 c1 c2 c3 c4 c5 c6 c7 c8 c9 l1
    refine (HNU.out _).mono ?_
    rintro e w3 ⟨rfl, hb3⟩
    have HB3 := hide (HB2.out.trans (hb3.mono HB2.out.size))
    clear hb3 HNU HA2
    have HB4 := hide (HB3.out.alloc HB3.out.size (.cells #[.int .i64 k, .int .i64 ow, .int .i64 on, .int .i64 wh, .int .i64 aw, .int .i64 an, .int .i64 bw, .int .i64 bn, .int .i64 u, .int .i64 n] 47))
    have HA4 := hide (Blk.new w3 #[.int .i64 k, .int .i64 ow, .int .i64 on, .int .i64 wh, .int .i64 aw, .int .i64 an, .int .i64 bw, .int .i64 bn, .int .i64 u, .int .i64 n] 47)
    go_wp2_with fail
    obtain ⟨b3, hb3⟩ : ∃ b, b = w3.heap.size := ⟨_, rfl⟩
    rw [← hb3] at HA4 ⊢
    clear hb3
    generalize w3.alloc (.cells #[.int .i64 k, .int .i64 ow, .int .i64 on, .int .i64 wh, .int .i64 aw, .int .i64 an, .int .i64 bw, .int .i64 bn, .int .i64 u, .int .i64 n] 47) = w4 at *
    have hI : IntsAt w4 (.slice (some ⟨b3, 0, none⟩) 10 10) (intsOf [k.toNat, ow.toNat, on.toNat, wh.toNat, aw.toNat, an.toNat, bw.toNat, bn.toNat, u.toNat, n.toNat]) := by
      have hs := HS.out
      refine ⟨_, _, rfl, fun j hj => ⟨b3, 0, rfl, HA4.out.lt, ?_⟩⟩
      rw [Nat.zero_add, HA4.out.cell j]
      have hj' : j < 10 := hj
      match j, hj' with
      | 0, _ => show some (Value.int .i64 k) = some (.int .i64 (k.toNat : Nat)); congr 2; omega
      | 1, _ => show some (Value.int .i64 ow) = some (.int .i64 (ow.toNat : Nat)); congr 2; omega
      | 2, _ => show some (Value.int .i64 on) = some (.int .i64 (on.toNat : Nat)); congr 2; omega
      | 3, _ => show some (Value.int .i64 wh) = some (.int .i64 (wh.toNat : Nat)); congr 2; omega
      | 4, _ => show some (Value.int .i64 aw) = some (.int .i64 (aw.toNat : Nat)); congr 2; omega
      | 5, _ => show some (Value.int .i64 an) = some (.int .i64 (an.toNat : Nat)); congr 2; omega
      | 6, _ => show some (Value.int .i64 bw) = some (.int .i64 (bw.toNat : Nat)); congr 2; omega
      | 7, _ => show some (Value.int .i64 bn) = some (.int .i64 (bn.toNat : Nat)); congr 2; omega
      | 8, _ => show some (Value.int .i64 u) = some (.int .i64 (u.toNat : Nat)); congr 2; omega
      | 9, _ => show some (Value.int .i64 n) = some (.int .i64 (n.toNat : Nat)); congr 2; omega
    refine (varsText_calls _ _ _ hI (by simp) (by
      have hs := HS.out
      simp
      omega)).mono ?_
    rintro e w5 ⟨rfl, hb5⟩
    have HB5 := hide (HB4.out.trans (hb5.mono HB4.out.size))
    rw [← HT.out]
    clear hb5 hI HT
    go_wp2_with fail
    go_ret
    exact ⟨rfl, HB5.out⟩
  · simp only [decide_eq_false h1] at HRO
    have HT : Hid (T = []) := by
      show T = []
      rw [ET.out, credT, if_neg h1]
    clear ET Hs h1
    go_enter Tryd.func7, Tryd.ntmps7
    go_wp2_with fail
    generalize w.alloc (.cells #[.int .i64 k, .int .i64 ow, .int .i64 on, .int .i64 wh, .int .i64 aw, .int .i64 an, .int .i64 bw, .int .i64 bn, .int .i64 u, .int .i64 n] 27) = w1 at *
    refine (HRO.out _).mono ?_
    rintro e w2 ⟨rfl, hb2⟩
    have HB2 := hide (HB.out.trans (hb2.mono HB.out.size))
    clear hb2 HA HB HRO
    go_wp2_with fail
    go_ret
    exact ⟨by rw [HT.out]; rfl, HB2.out⟩

set_option maxHeartbeats 400000 in
theorem implCredLess_calls (c d : Cr) (w : World) :
    Calls Tryd.prog 18 #[credV c, credV d] w fun e w' => e = .returned (.bool (Op.bytesLess (credT c) (credT d))) ∧ Below w.heap.size w w' := by
  have H1 := hide (fun wx => implCredText_calls c wx)
  have H2 := hide (fun wx => implCredText_calls d wx)
  have l1 := credT_le c
  have l2 := credT_le d
  generalize credT c = s at *
  generalize credT d = t at *
  obtain ⟨k, ow, on, wh, aw, an, bw, bn, u, n⟩ := c
  obtain ⟨k', ow', on', wh', aw', an', bw', bn', u', n'⟩ := d
  simp only [credV] at H1 H2 ⊢
  have hb1 := (Below.refl w.heap.size w).alloc (Nat.le_refl _) (.cells #[.int .i64 k, .int .i64 ow, .int .i64 on, .int .i64 wh, .int .i64 aw, .int .i64 an, .int .i64 bw, .int .i64 bn, .int .i64 u, .int .i64 n] 27)
  have HA := Blk.new w #[.int .i64 k, .int .i64 ow, .int .i64 on, .int .i64 wh, .int .i64 aw, .int .i64 an, .int .i64 bw, .int .i64 bn, .int .i64 u, .int .i64 n] 27
  have hb2 := hb1.alloc hb1.size (.cells #[.int .i64 k', .int .i64 ow', .int .i64 on', .int .i64 wh', .int .i64 aw', .int .i64 an', .int .i64 bw', .int .i64 bn', .int .i64 u', .int .i64 n'] 27)
  have HD := Blk.new (w.alloc (.cells #[.int .i64 k, .int .i64 ow, .int .i64 on, .int .i64 wh, .int .i64 aw, .int .i64 an, .int .i64 bw, .int .i64 bn, .int .i64 u, .int .i64 n] 27)) #[.int .i64 k', .int .i64 ow', .int .i64 on', .int .i64 wh', .int .i64 aw', .int .i64 an', .int .i64 bw', .int .i64 bn', .int .i64 u', .int .i64 n'] 27
  have HA := HA.below ((Below.refl _ (w.alloc (.cells #[.int .i64 k, .int .i64 ow, .int .i64 on, .int .i64 wh, .int .i64 aw, .int .i64 an, .int .i64 bw, .int .i64 bn, .int .i64 u, .int .i64 n] 27))).alloc (Nat.le_refl _) (.cells #[.int .i64 k', .int .i64 ow', .int .i64 on', .int .i64 wh', .int .i64 aw', .int .i64 an', .int .i64 bw', .int .i64 bn', .int .i64 u', .int .i64 n'] 27)) HA.lt
  have HB2 := hide hb2
  clear hb1 hb2
  go_enter Tryd.func18, Tryd.ntmps18
  go_wp2_with fail
  rw [show (w.alloc (.cells #[.int .i64 k, .int .i64 ow, .int .i64 on, .int .i64 wh, .int .i64 aw, .int .i64 an, .int .i64 bw, .int .i64 bn, .int .i64 u, .int .i64 n] 27)).heap.size = w.heap.size + 1 from by simp [go_sem]] at HD
  obtain ⟨b1, e1⟩ : ∃ b, b = w.heap.size + 1 := ⟨_, rfl⟩
  rw [← e1] at HD ⊢
  clear e1
  obtain ⟨b0, e0⟩ : ∃ b, b = w.heap.size := ⟨_, rfl⟩
  rw [← e0] at HA ⊢
  clear e0
  generalize (w.alloc (.cells #[.int .i64 k, .int .i64 ow, .int .i64 on, .int .i64 wh, .int .i64 aw, .int .i64 an, .int .i64 bw, .int .i64 bn, .int .i64 u, .int .i64 n] 27)).alloc (.cells #[.int .i64 k', .int .i64 ow', .int .i64 on', .int .i64 wh', .int .i64 aw', .int .i64 an', .int .i64 bw', .int .i64 bn', .int .i64 u', .int .i64 n'] 27) = w1 at *
  have n0 : ∀ p : Near w1.heap.size w1, p.w.cell? ⟨b0, 0, none⟩ = some (.int .i64 k) := fun p => by rw [(HA.below p.h HA.lt).cell 0]; rfl
  have n1 : ∀ p : Near w1.heap.size w1, p.w.cell? ⟨b0, 1, none⟩ = some (.int .i64 ow) := fun p => by rw [(HA.below p.h HA.lt).cell 1]; rfl
  have n2 : ∀ p : Near w1.heap.size w1, p.w.cell? ⟨b0, 2, none⟩ = some (.int .i64 on) := fun p => by rw [(HA.below p.h HA.lt).cell 2]; rfl
  have n3 : ∀ p : Near w1.heap.size w1, p.w.cell? ⟨b0, 3, none⟩ = some (.int .i64 wh) := fun p => by rw [(HA.below p.h HA.lt).cell 3]; rfl
  have n4 : ∀ p : Near w1.heap.size w1, p.w.cell? ⟨b0, 4, none⟩ = some (.int .i64 aw) := fun p => by rw [(HA.below p.h HA.lt).cell 4]; rfl
  have n5 : ∀ p : Near w1.heap.size w1, p.w.cell? ⟨b0, 5, none⟩ = some (.int .i64 an) := fun p => by rw [(HA.below p.h HA.lt).cell 5]; rfl
  have n6 : ∀ p : Near w1.heap.size w1, p.w.cell? ⟨b0, 6, none⟩ = some (.int .i64 bw) := fun p => by rw [(HA.below p.h HA.lt).cell 6]; rfl
  have n7 : ∀ p : Near w1.heap.size w1, p.w.cell? ⟨b0, 7, none⟩ = some (.int .i64 bn) := fun p => by rw [(HA.below p.h HA.lt).cell 7]; rfl
  have n8 : ∀ p : Near w1.heap.size w1, p.w.cell? ⟨b0, 8, none⟩ = some (.int .i64 u) := fun p => by rw [(HA.below p.h HA.lt).cell 8]; rfl
  have n9 : ∀ p : Near w1.heap.size w1, p.w.cell? ⟨b0, 9, none⟩ = some (.int .i64 n) := fun p => by rw [(HA.below p.h HA.lt).cell 9]; rfl
  have m0 : ∀ p : Near w1.heap.size w1, p.w.cell? ⟨b1, 0, none⟩ = some (.int .i64 k') := fun p => by rw [(HD.below p.h HD.lt).cell 0]; rfl
  have m1 : ∀ p : Near w1.heap.size w1, p.w.cell? ⟨b1, 1, none⟩ = some (.int .i64 ow') := fun p => by rw [(HD.below p.h HD.lt).cell 1]; rfl
  have m2 : ∀ p : Near w1.heap.size w1, p.w.cell? ⟨b1, 2, none⟩ = some (.int .i64 on') := fun p => by rw [(HD.below p.h HD.lt).cell 2]; rfl
  have m3 : ∀ p : Near w1.heap.size w1, p.w.cell? ⟨b1, 3, none⟩ = some (.int .i64 wh') := fun p => by rw [(HD.below p.h HD.lt).cell 3]; rfl
  have m4 : ∀ p : Near w1.heap.size w1, p.w.cell? ⟨b1, 4, none⟩ = some (.int .i64 aw') := fun p => by rw [(HD.below p.h HD.lt).cell 4]; rfl
  have m5 : ∀ p : Near w1.heap.size w1, p.w.cell? ⟨b1, 5, none⟩ = some (.int .i64 an') := fun p => by rw [(HD.below p.h HD.lt).cell 5]; rfl
  have m6 : ∀ p : Near w1.heap.size w1, p.w.cell? ⟨b1, 6, none⟩ = some (.int .i64 bw') := fun p => by rw [(HD.below p.h HD.lt).cell 6]; rfl
  have m7 : ∀ p : Near w1.heap.size w1, p.w.cell? ⟨b1, 7, none⟩ = some (.int .i64 bn') := fun p => by rw [(HD.below p.h HD.lt).cell 7]; rfl
  have m8 : ∀ p : Near w1.heap.size w1, p.w.cell? ⟨b1, 8, none⟩ = some (.int .i64 u') := fun p => by rw [(HD.below p.h HD.lt).cell 8]; rfl
  have m9 : ∀ p : Near w1.heap.size w1, p.w.cell? ⟨b1, 9, none⟩ = some (.int .i64 n') := fun p => by rw [(HD.below p.h HD.lt).cell 9]; rfl
  clear HA HD
  have hnn := Near.some w1.heap.size w1
  refine wp_region_near w1.heap.size w1 (Below.refl _ _) (by kernel_rfl) (by kernel_rfl) ?_
  repeat (go_big_quiet_step (fail))
  go_big_quiet_step (exact calls_near (Nat.le_refl _) (H1.out _))
  repeat (go_big_quiet_step (fail))
  go_big_quiet_step (exact calls_near (Nat.le_refl _) (H2.out _))
  repeat (go_big_quiet_step (fail))
  refine wpQuiet_nil ?_
  rintro w3 ⟨pq, rfl⟩
  have hqb := pq.h
  obtain ⟨w3, hq⟩ := pq
  simp only at hqb ⊢
  clear hq hnn n0 n1 n2 n3 n4 n5 n6 n7 n8 n9 m0 m1 m2 m3 m4 m5 m6 m7 m8 m9 H1 H2
  go_wp2_with fail
  go_ret
  exact ⟨rfl, HB2.out.trans (hqb.mono HB2.out.size)⟩
end Go.Proofs.YtflicklgmhgpiaaDoor.P5
namespace Go.Proofs.YtflicklgmhgpiaaDoor.P5
set_option maxRecDepth 8000
open Go.RowKit P1

/-- What ReadCred answers, as a value. -/
abbrev rcV (r : Cr × Bool) : Value := .tuple #[credV r.1, .bool r.2]

/-- Numbers read so far, noughts behind them. -/
def numsC (L : List Nat) : List Value := (L.map fun (n : Nat) => Value.int .i64 (n : Int)) ++ List.replicate (10 - L.length) (Value.int .i64 0)

theorem numsC_length (L : List Nat) (h : L.length ≤ 10) : (numsC L).length = 10 := by simp [numsC]; omega

theorem numsC_next (L : List Nat) (x : Nat) (h : L.length < 10) : (numsC L).set L.length (.int .i64 (x : Int)) = numsC (L ++ [x]) := by
  unfold numsC
  rw [List.set_append_right _ _ (by simp)]
  obtain ⟨m, hm⟩ : ∃ m, 10 - L.length = m + 1 := ⟨10 - L.length - 1, by omega⟩
  have hm2 : 10 - (L ++ [x]).length = m := by simp; omega
  rw [hm, hm2]
  simp [List.replicate_succ]

theorem numsC_get (L : List Nat) (h : L.length < 10) : (numsC L)[L.length]? = some (.int .i64 0) := by
  unfold numsC
  rw [List.getElem?_append_right (by simp)]
  obtain ⟨m, hm⟩ : ∃ m, 10 - L.length = m + 1 := ⟨10 - L.length - 1, by omega⟩
  rw [hm]
  simp [List.replicate_succ]

theorem ten {L : List Nat} (h : L.length = 10) : ∃ x0 x1 x2 x3 x4 x5 x6 x7 x8 x9, L = [x0, x1, x2, x3, x4, x5, x6, x7, x8, x9] := by
  match L, h with
  | [x0, x1, x2, x3, x4, x5, x6, x7, x8, x9], _ => exact ⟨x0, x1, x2, x3, x4, x5, x6, x7, x8, x9, rfl⟩

set_option maxHeartbeats 1000000 in
theorem implReadCred_calls (s : ByteArray) (hs : s.size ≤ 1048576) (w : World) :
    Calls Tryd.prog 8 #[.string s] w fun e w' => e = .returned (rcV (readCred s.data.toList)) ∧ Below w.heap.size w w' := by
  have HRV := hide (fun (p : Nat) wx => implReadVar_calls s (p : Int) hs wx)
  have HSL : Hid (s.data.toList.length = s.size) := Array.length_toList
  obtain ⟨T, ET⟩ : ∃ T, T = s.data.toList := ⟨_, rfl⟩
  simp only [← ET] at HRV HSL ⊢
  clear ET
  obtain ⟨R, ER⟩ : ∃ R, Hid (R = readCred T) := ⟨_, rfl⟩
  rw [← ER.out]
  go_enter Tryd.func8, Tryd.ntmps8
  go_wp2_with fail
  have HB0 : Hid (Below w.heap.size w ((w.alloc (.cells #[.int .i64 0, .int .i64 0, .int .i64 0, .int .i64 0, .int .i64 0, .int .i64 0, .int .i64 0, .int .i64 0, .int .i64 0, .int .i64 0] 27)).alloc (.cells #[.int .i64 0, .int .i64 0, .int .i64 0, .int .i64 0, .int .i64 0, .int .i64 0, .int .i64 0, .int .i64 0, .int .i64 0, .int .i64 0] 47))) := Below.two _ _ _
  have g0 := Blk.new w #[.int .i64 0, .int .i64 0, .int .i64 0, .int .i64 0, .int .i64 0, .int .i64 0, .int .i64 0, .int .i64 0, .int .i64 0, .int .i64 0] 27
  have g0 := hide (g0.below ((Below.refl _ _).alloc (Nat.le_refl _) (.cells #[.int .i64 0, .int .i64 0, .int .i64 0, .int .i64 0, .int .i64 0, .int .i64 0, .int .i64 0, .int .i64 0, .int .i64 0, .int .i64 0] 47)) g0.lt)
  have g1 := Blk.new (w.alloc (.cells #[.int .i64 0, .int .i64 0, .int .i64 0, .int .i64 0, .int .i64 0, .int .i64 0, .int .i64 0, .int .i64 0, .int .i64 0, .int .i64 0] 27)) #[.int .i64 0, .int .i64 0, .int .i64 0, .int .i64 0, .int .i64 0, .int .i64 0, .int .i64 0, .int .i64 0, .int .i64 0, .int .i64 0] 47
  rw [show (w.alloc (.cells #[.int .i64 0, .int .i64 0, .int .i64 0, .int .i64 0, .int .i64 0, .int .i64 0, .int .i64 0, .int .i64 0, .int .i64 0, .int .i64 0] 27)).heap.size = w.heap.size + 1 from by simp [go_sem]] at g1
  replace g1 := hide g1
  obtain ⟨b1, e1⟩ : ∃ b, b = w.heap.size + 1 := ⟨_, rfl⟩
  obtain ⟨b0, e0⟩ : ∃ b, b = w.heap.size := ⟨_, rfl⟩
  rw [← e1] at g1 ⊢
  rw [← e0] at g0 ⊢
  have h01 : b0 ≠ b1 := by omega
  have hw0 : w.heap.size ≤ b0 := by omega
  have hw1 : w.heap.size ≤ b1 := by omega
  clear e0 e1
  generalize (w.alloc (.cells #[.int .i64 0, .int .i64 0, .int .i64 0, .int .i64 0, .int .i64 0, .int .i64 0, .int .i64 0, .int .i64 0, .int .i64 0, .int .i64 0] 27)).alloc (.cells #[.int .i64 0, .int .i64 0, .int .i64 0, .int .i64 0, .int .i64 0, .int .i64 0, .int .i64 0, .int .i64 0, .int .i64 0, .int .i64 0] 47) = w1 at *
  go_loopw [5, 11] (fun at_ i wr => ∃ k p : Nat, ∃ L : List Nat, k ≤ 10 ∧ p ≤ 1048576 ∧ L.length = k ∧ i = .int .i64 k ∧ at_ = .int .i64 p ∧ Hid (readRow T k = some (L, p)) ∧ Hid (Blk wr b1 (numsC L) 47) ∧ Hid (Blk wr b0 [.int .i64 0, .int .i64 0, .int .i64 0, .int .i64 0, .int .i64 0, .int .i64 0, .int .i64 0, .int .i64 0, .int .i64 0, .int .i64 0] 27) ∧ Hid (Below w.heap.size w wr)) (fun _ i _ => 10 - (intOf i).toNat)
  case atStart => exact ⟨0, 0, [], by decide, by decide, rfl, rfl, rfl, rfl, g1.out, g0.out, HB0.out⟩
  case round =>
    obtain ⟨k, p, L, hk, hp, hL, rfl, rfl, HR, G1, G0, HB⟩ := hrel
    by_cases hlt : k < 10
    · go_wp2_with fail
      refine (HRV.out p _).mono ?_
      rintro e w2 ⟨rfl, rfl⟩
      have l0 := G0.out.lt
      have l1 := G1.out.lt
      have a0 := G0.out.free
      have a1 := G1.out.free
      by_cases hr : (readVar T p).2.2 = true
      · have h2 := readVar_true hr
        have HN := hide (readRow_next HR.out hr)
        have h3 := h2.2.1
        have h4 : (readVar T p).2.1 ≤ 1048576 := by have := HSL.out; omega
        have hget := numsC_get L (by omega)
        have hset := numsC_next L (readVar T p).1 (by omega)
        clear h2 h3
        generalize readVar T (p : Int) = rv at hr h4 HN hset ⊢
        obtain ⟨n, q, ok⟩ := rv
        dsimp only at hr h4 HN hset
        subst hr
        simp only [rvV]
        rw [hL] at hget hset
        have c1 : w2.cell? ⟨b1, k, none⟩ = some (.int .i64 0) := by rw [G1.out.cell k]; exact hget
        have G1' : Hid (Blk (w2.setCell ⟨b1, k, none⟩ (.int .i64 (n : Int))) b1 (numsC (L ++ [n])) 47) := by
          show Blk _ _ _ _
          rw [← hset]
          exact G1.out.set k _
        have G0' := hide (G0.out.other (p := ⟨b1, k, none⟩) h01 (.int .i64 (n : Int)))
        have HB' := hide (HB.out.setCell (p := ⟨b1, k, none⟩) hw1 (.int .i64 (n : Int)))
        have HL' : Hid ((L ++ [n]).length = k + 1) := by show _ = _; simp [hL]
        have a1k := a1 k
        clear hget hset G1 G0 HB a0 a1 HR
        go_wp2
        go_roundw
        case rel => exact ⟨k + 1, q, L ++ [n], by omega, h4, HL'.out, by go_num, rfl, HN.out, G1'.out, G0'.out, HB'.out⟩
        case measure => simp [intOf]; omega
      · have hr' : (readVar T p).2.2 = false := by simpa using hr
        have HN := readRow_stop HR.out hr'
        have hR : R = (Cr.zero, false) := by
          rw [ER.out]
          refine readCred_none ?_
          have := readRow_none HN (9 - k)
          rw [show k + 1 + (9 - k) = 10 by omega] at this
          exact this
        have HRR := hide hR
        clear hR HN hr
        generalize readVar T (p : Int) = rv at hr' ⊢
        obtain ⟨n, q, ok⟩ := rv
        dsimp only at hr'
        subst hr'
        simp only [rvV]
        have c0 : w2.cell? ⟨b0, 0, none⟩ = some (.int .i64 0) := by rw [G0.out.cell 0]; rfl
        have c1 : w2.cell? ⟨b0, 1, none⟩ = some (.int .i64 0) := by rw [G0.out.cell 1]; rfl
        have c2 : w2.cell? ⟨b0, 2, none⟩ = some (.int .i64 0) := by rw [G0.out.cell 2]; rfl
        have c3 : w2.cell? ⟨b0, 3, none⟩ = some (.int .i64 0) := by rw [G0.out.cell 3]; rfl
        have c4 : w2.cell? ⟨b0, 4, none⟩ = some (.int .i64 0) := by rw [G0.out.cell 4]; rfl
        have c5 : w2.cell? ⟨b0, 5, none⟩ = some (.int .i64 0) := by rw [G0.out.cell 5]; rfl
        have c6 : w2.cell? ⟨b0, 6, none⟩ = some (.int .i64 0) := by rw [G0.out.cell 6]; rfl
        have c7 : w2.cell? ⟨b0, 7, none⟩ = some (.int .i64 0) := by rw [G0.out.cell 7]; rfl
        have c8 : w2.cell? ⟨b0, 8, none⟩ = some (.int .i64 0) := by rw [G0.out.cell 8]; rfl
        have c9 : w2.cell? ⟨b0, 9, none⟩ = some (.int .i64 0) := by rw [G0.out.cell 9]; rfl
        go_wp2_with fail
        have HF := hide (((((((((((HB.out.setCell (p := ⟨b0, 0, none⟩) hw0 (.int .i64 0)).setCell (p := ⟨b0, 1, none⟩) hw0 (.int .i64 0)).setCell (p := ⟨b0, 2, none⟩) hw0 (.int .i64 0)).setCell (p := ⟨b0, 3, none⟩) hw0 (.int .i64 0)).setCell (p := ⟨b0, 4, none⟩) hw0 (.int .i64 0)).setCell (p := ⟨b0, 5, none⟩) hw0 (.int .i64 0)).setCell (p := ⟨b0, 6, none⟩) hw0 (.int .i64 0)).setCell (p := ⟨b0, 7, none⟩) hw0 (.int .i64 0)).setCell (p := ⟨b0, 8, none⟩) hw0 (.int .i64 0)).setCell (p := ⟨b0, 9, none⟩) hw0 (.int .i64 0)))
        have GF := hide (((((((((((G0.out.set 0 (.int .i64 0)).set 1 (.int .i64 0)).set 2 (.int .i64 0)).set 3 (.int .i64 0)).set 4 (.int .i64 0)).set 5 (.int .i64 0)).set 6 (.int .i64 0)).set 7 (.int .i64 0)).set 8 (.int .i64 0)).set 9 (.int .i64 0)))
        clear c0 c1 c2 c3 c4 c5 c6 c7 c8 c9 a0 a1 l0 l1 G0 G1 HB
        generalize ((((((((((w2.setCell ⟨b0, 0, none⟩ (.int .i64 0)).setCell ⟨b0, 1, none⟩ (.int .i64 0)).setCell ⟨b0, 2, none⟩ (.int .i64 0)).setCell ⟨b0, 3, none⟩ (.int .i64 0)).setCell ⟨b0, 4, none⟩ (.int .i64 0)).setCell ⟨b0, 5, none⟩ (.int .i64 0)).setCell ⟨b0, 6, none⟩ (.int .i64 0)).setCell ⟨b0, 7, none⟩ (.int .i64 0)).setCell ⟨b0, 8, none⟩ (.int .i64 0)).setCell ⟨b0, 9, none⟩ (.int .i64 0)) = wF at *
        have y0 : wF.cell? ⟨b0, 0, none⟩ = some (.int .i64 0) := by rw [GF.out.cell 0]; rfl
        have y1 : wF.cell? ⟨b0, 1, none⟩ = some (.int .i64 0) := by rw [GF.out.cell 1]; rfl
        have y2 : wF.cell? ⟨b0, 2, none⟩ = some (.int .i64 0) := by rw [GF.out.cell 2]; rfl
        have y3 : wF.cell? ⟨b0, 3, none⟩ = some (.int .i64 0) := by rw [GF.out.cell 3]; rfl
        have y4 : wF.cell? ⟨b0, 4, none⟩ = some (.int .i64 0) := by rw [GF.out.cell 4]; rfl
        have y5 : wF.cell? ⟨b0, 5, none⟩ = some (.int .i64 0) := by rw [GF.out.cell 5]; rfl
        have y6 : wF.cell? ⟨b0, 6, none⟩ = some (.int .i64 0) := by rw [GF.out.cell 6]; rfl
        have y7 : wF.cell? ⟨b0, 7, none⟩ = some (.int .i64 0) := by rw [GF.out.cell 7]; rfl
        have y8 : wF.cell? ⟨b0, 8, none⟩ = some (.int .i64 0) := by rw [GF.out.cell 8]; rfl
        have y9 : wF.cell? ⟨b0, 9, none⟩ = some (.int .i64 0) := by rw [GF.out.cell 9]; rfl
        refine bodyPost_ret (v := .tuple #[.agg #[.int .i64 0, .int .i64 0, .int .i64 0, .int .i64 0, .int .i64 0, .int .i64 0, .int .i64 0, .int .i64 0, .int .i64 0, .int .i64 0], .bool false]) (by simp [results, Tryd.results8, go_sem, y0, y1, y2, y3, y4, y5, y6, y7, y8, y9]) rfl ⟨?_, HF.out⟩
        rw [HRR.out]
        rfl
    · have hk10 : k = 10 := by omega
      subst hk10
      have hRC := readCred_of HR.out
      have hlen := HSL.out
      rw [← ER.out, hlen] at hRC
      clear hlen HR
      obtain ⟨x0, x1, x2, x3, x4, x5, x6, x7, x8, x9, rfl⟩ := ten hL
      clear hL
      have hc10 : crOf [x0, x1, x2, x3, x4, x5, x6, x7, x8, x9] = ⟨x0, x1, x2, x3, x4, x5, x6, x7, x8, x9⟩ := rfl
      rw [hc10] at hRC
      have HRC := hide hRC
      clear hRC hc10
      have d0 : wr.cell? ⟨b1, 0, none⟩ = some (.int .i64 (x0 : Nat)) := by rw [G1.out.cell 0]; rfl
      have d1 : wr.cell? ⟨b1, 1, none⟩ = some (.int .i64 (x1 : Nat)) := by rw [G1.out.cell 1]; rfl
      have d2 : wr.cell? ⟨b1, 2, none⟩ = some (.int .i64 (x2 : Nat)) := by rw [G1.out.cell 2]; rfl
      have d3 : wr.cell? ⟨b1, 3, none⟩ = some (.int .i64 (x3 : Nat)) := by rw [G1.out.cell 3]; rfl
      have d4 : wr.cell? ⟨b1, 4, none⟩ = some (.int .i64 (x4 : Nat)) := by rw [G1.out.cell 4]; rfl
      have d5 : wr.cell? ⟨b1, 5, none⟩ = some (.int .i64 (x5 : Nat)) := by rw [G1.out.cell 5]; rfl
      have d6 : wr.cell? ⟨b1, 6, none⟩ = some (.int .i64 (x6 : Nat)) := by rw [G1.out.cell 6]; rfl
      have d7 : wr.cell? ⟨b1, 7, none⟩ = some (.int .i64 (x7 : Nat)) := by rw [G1.out.cell 7]; rfl
      have d8 : wr.cell? ⟨b1, 8, none⟩ = some (.int .i64 (x8 : Nat)) := by rw [G1.out.cell 8]; rfl
      have d9 : wr.cell? ⟨b1, 9, none⟩ = some (.int .i64 (x9 : Nat)) := by rw [G1.out.cell 9]; rfl
      have l0 := G0.out.lt
      have l1 := G1.out.lt
      go_wp2_with fail
      clear d0 d1 d2 d3 d4 d5 d6 d7 d8 d9
      refine (cred_calls ⟨x0, x1, x2, x3, x4, x5, x6, x7, x8, x9⟩ _).mono ?_
      rintro e w2 ⟨rfl, hb2⟩
      have G0 := hide (G0.out.below hb2 l0)
      have HB := hide (HB.out.trans (hb2.mono HB.out.size))
      have l02 : b0 < w2.heap.size := Nat.lt_of_lt_of_le l0 hb2.size
      clear hb2 G1 l1 l0
      have hb3 := HB.out.alloc HB.out.size (.cells #[.int .i64 (x0 : Nat), .int .i64 (x1 : Nat), .int .i64 (x2 : Nat), .int .i64 (x3 : Nat), .int .i64 (x4 : Nat), .int .i64 (x5 : Nat), .int .i64 (x6 : Nat), .int .i64 (x7 : Nat), .int .i64 (x8 : Nat), .int .i64 (x9 : Nat)] 27)
      have G2 := hide (Blk.new w2 #[.int .i64 (x0 : Nat), .int .i64 (x1 : Nat), .int .i64 (x2 : Nat), .int .i64 (x3 : Nat), .int .i64 (x4 : Nat), .int .i64 (x5 : Nat), .int .i64 (x6 : Nat), .int .i64 (x7 : Nat), .int .i64 (x8 : Nat), .int .i64 (x9 : Nat)] 27)
      have G0' := G0
      have G0 := hide (G0.out.below ((Below.refl _ w2).alloc (Nat.le_refl _) (.cells #[.int .i64 (x0 : Nat), .int .i64 (x1 : Nat), .int .i64 (x2 : Nat), .int .i64 (x3 : Nat), .int .i64 (x4 : Nat), .int .i64 (x5 : Nat), .int .i64 (x6 : Nat), .int .i64 (x7 : Nat), .int .i64 (x8 : Nat), .int .i64 (x9 : Nat)] 27)) l02)
      have HB3 := hide hb3
      clear hb3
      have HOK := hide (fun wx => implCredOk_calls ⟨x0, x1, x2, x3, x4, x5, x6, x7, x8, x9⟩ wx)
      by_cases hp2 : p = s.size
      · have hne : ((p : Int) != (s.size : Int)) = false := by simp [hp2]
        go_wp2_with fail
        obtain ⟨b2, e2⟩ : ∃ b, b = w2.heap.size := ⟨_, rfl⟩
        rw [← e2] at G2 ⊢
        have h02 : b0 ≠ b2 := by omega
        clear e2 l02
        generalize w2.alloc (.cells #[.int .i64 (x0 : Nat), .int .i64 (x1 : Nat), .int .i64 (x2 : Nat), .int .i64 (x3 : Nat), .int .i64 (x4 : Nat), .int .i64 (x5 : Nat), .int .i64 (x6 : Nat), .int .i64 (x7 : Nat), .int .i64 (x8 : Nat), .int .i64 (x9 : Nat)] 27) = w3 at *
        refine (HOK.out _).mono ?_
        rintro e w4 ⟨rfl, hb4⟩
        have G0 := hide (G0.out.below hb4 G0.out.lt)
        have G2 := hide (G2.out.below hb4 G2.out.lt)
        have HB := hide (HB3.out.trans (hb4.mono HB3.out.size))
        clear hb4 HB3 HOK
        have a0 := G0.out.free
        have l0 := G0.out.lt
        have l2 := G2.out.lt
        have c0 : w4.cell? ⟨b0, 0, none⟩ = some (.int .i64 0) := by rw [G0.out.cell 0]; rfl
        have c1 : w4.cell? ⟨b0, 1, none⟩ = some (.int .i64 0) := by rw [G0.out.cell 1]; rfl
        have c2 : w4.cell? ⟨b0, 2, none⟩ = some (.int .i64 0) := by rw [G0.out.cell 2]; rfl
        have c3 : w4.cell? ⟨b0, 3, none⟩ = some (.int .i64 0) := by rw [G0.out.cell 3]; rfl
        have c4 : w4.cell? ⟨b0, 4, none⟩ = some (.int .i64 0) := by rw [G0.out.cell 4]; rfl
        have c5 : w4.cell? ⟨b0, 5, none⟩ = some (.int .i64 0) := by rw [G0.out.cell 5]; rfl
        have c6 : w4.cell? ⟨b0, 6, none⟩ = some (.int .i64 0) := by rw [G0.out.cell 6]; rfl
        have c7 : w4.cell? ⟨b0, 7, none⟩ = some (.int .i64 0) := by rw [G0.out.cell 7]; rfl
        have c8 : w4.cell? ⟨b0, 8, none⟩ = some (.int .i64 0) := by rw [G0.out.cell 8]; rfl
        have c9 : w4.cell? ⟨b0, 9, none⟩ = some (.int .i64 0) := by rw [G0.out.cell 9]; rfl
        have z0 : w4.cell? ⟨b2, 0, none⟩ = some (.int .i64 (x0 : Nat)) := by rw [G2.out.cell 0]; rfl
        have z1 : w4.cell? ⟨b2, 1, none⟩ = some (.int .i64 (x1 : Nat)) := by rw [G2.out.cell 1]; rfl
        have z2 : w4.cell? ⟨b2, 2, none⟩ = some (.int .i64 (x2 : Nat)) := by rw [G2.out.cell 2]; rfl
        have z3 : w4.cell? ⟨b2, 3, none⟩ = some (.int .i64 (x3 : Nat)) := by rw [G2.out.cell 3]; rfl
        have z4 : w4.cell? ⟨b2, 4, none⟩ = some (.int .i64 (x4 : Nat)) := by rw [G2.out.cell 4]; rfl
        have z5 : w4.cell? ⟨b2, 5, none⟩ = some (.int .i64 (x5 : Nat)) := by rw [G2.out.cell 5]; rfl
        have z6 : w4.cell? ⟨b2, 6, none⟩ = some (.int .i64 (x6 : Nat)) := by rw [G2.out.cell 6]; rfl
        have z7 : w4.cell? ⟨b2, 7, none⟩ = some (.int .i64 (x7 : Nat)) := by rw [G2.out.cell 7]; rfl
        have z8 : w4.cell? ⟨b2, 8, none⟩ = some (.int .i64 (x8 : Nat)) := by rw [G2.out.cell 8]; rfl
        have z9 : w4.cell? ⟨b2, 9, none⟩ = some (.int .i64 (x9 : Nat)) := by rw [G2.out.cell 9]; rfl
        by_cases hok : credOk ⟨x0, x1, x2, x3, x4, x5, x6, x7, x8, x9⟩
        · rw [decide_eq_true hok]
          have HRR : Hid (R = (⟨x0, x1, x2, x3, x4, x5, x6, x7, x8, x9⟩, true)) := by
            show R = _
            rw [HRC.out, if_pos ⟨hp2, hok⟩]
          clear hok HRC
          go_wp2_with fail
          have HF := hide (((((((((((HB.out.setCell (p := ⟨b0, 0, none⟩) hw0 (.int .i64 (x0 : Nat))).setCell (p := ⟨b0, 1, none⟩) hw0 (.int .i64 (x1 : Nat))).setCell (p := ⟨b0, 2, none⟩) hw0 (.int .i64 (x2 : Nat))).setCell (p := ⟨b0, 3, none⟩) hw0 (.int .i64 (x3 : Nat))).setCell (p := ⟨b0, 4, none⟩) hw0 (.int .i64 (x4 : Nat))).setCell (p := ⟨b0, 5, none⟩) hw0 (.int .i64 (x5 : Nat))).setCell (p := ⟨b0, 6, none⟩) hw0 (.int .i64 (x6 : Nat))).setCell (p := ⟨b0, 7, none⟩) hw0 (.int .i64 (x7 : Nat))).setCell (p := ⟨b0, 8, none⟩) hw0 (.int .i64 (x8 : Nat))).setCell (p := ⟨b0, 9, none⟩) hw0 (.int .i64 (x9 : Nat))))
          have GF := hide (((((((((((G0.out.set 0 (.int .i64 (x0 : Nat))).set 1 (.int .i64 (x1 : Nat))).set 2 (.int .i64 (x2 : Nat))).set 3 (.int .i64 (x3 : Nat))).set 4 (.int .i64 (x4 : Nat))).set 5 (.int .i64 (x5 : Nat))).set 6 (.int .i64 (x6 : Nat))).set 7 (.int .i64 (x7 : Nat))).set 8 (.int .i64 (x8 : Nat))).set 9 (.int .i64 (x9 : Nat))))
          clear c0 c1 c2 c3 c4 c5 c6 c7 c8 c9 z0 z1 z2 z3 z4 z5 z6 z7 z8 z9 a0 l0 l2 G0 G2 HB
          generalize ((((((((((w4.setCell ⟨b0, 0, none⟩ (.int .i64 (x0 : Nat))).setCell ⟨b0, 1, none⟩ (.int .i64 (x1 : Nat))).setCell ⟨b0, 2, none⟩ (.int .i64 (x2 : Nat))).setCell ⟨b0, 3, none⟩ (.int .i64 (x3 : Nat))).setCell ⟨b0, 4, none⟩ (.int .i64 (x4 : Nat))).setCell ⟨b0, 5, none⟩ (.int .i64 (x5 : Nat))).setCell ⟨b0, 6, none⟩ (.int .i64 (x6 : Nat))).setCell ⟨b0, 7, none⟩ (.int .i64 (x7 : Nat))).setCell ⟨b0, 8, none⟩ (.int .i64 (x8 : Nat))).setCell ⟨b0, 9, none⟩ (.int .i64 (x9 : Nat))) = wF at *
          have y0 : wF.cell? ⟨b0, 0, none⟩ = some (.int .i64 (x0 : Nat)) := by rw [GF.out.cell 0]; rfl
          have y1 : wF.cell? ⟨b0, 1, none⟩ = some (.int .i64 (x1 : Nat)) := by rw [GF.out.cell 1]; rfl
          have y2 : wF.cell? ⟨b0, 2, none⟩ = some (.int .i64 (x2 : Nat)) := by rw [GF.out.cell 2]; rfl
          have y3 : wF.cell? ⟨b0, 3, none⟩ = some (.int .i64 (x3 : Nat)) := by rw [GF.out.cell 3]; rfl
          have y4 : wF.cell? ⟨b0, 4, none⟩ = some (.int .i64 (x4 : Nat)) := by rw [GF.out.cell 4]; rfl
          have y5 : wF.cell? ⟨b0, 5, none⟩ = some (.int .i64 (x5 : Nat)) := by rw [GF.out.cell 5]; rfl
          have y6 : wF.cell? ⟨b0, 6, none⟩ = some (.int .i64 (x6 : Nat)) := by rw [GF.out.cell 6]; rfl
          have y7 : wF.cell? ⟨b0, 7, none⟩ = some (.int .i64 (x7 : Nat)) := by rw [GF.out.cell 7]; rfl
          have y8 : wF.cell? ⟨b0, 8, none⟩ = some (.int .i64 (x8 : Nat)) := by rw [GF.out.cell 8]; rfl
          have y9 : wF.cell? ⟨b0, 9, none⟩ = some (.int .i64 (x9 : Nat)) := by rw [GF.out.cell 9]; rfl
          refine bodyPost_ret (v := .tuple #[.agg #[.int .i64 (x0 : Nat), .int .i64 (x1 : Nat), .int .i64 (x2 : Nat), .int .i64 (x3 : Nat), .int .i64 (x4 : Nat), .int .i64 (x5 : Nat), .int .i64 (x6 : Nat), .int .i64 (x7 : Nat), .int .i64 (x8 : Nat), .int .i64 (x9 : Nat)], .bool true]) (by simp [results, Tryd.results8, go_sem, y0, y1, y2, y3, y4, y5, y6, y7, y8, y9]) rfl ⟨?_, HF.out⟩
          rw [HRR.out]
        · rw [decide_eq_false hok]
          have HRR : Hid (R = (Cr.zero, false)) := by
            show R = _
            rw [HRC.out, if_neg (fun h => hok h.2)]
          clear hok HRC
          go_wp2_with fail
          have HF := hide (((((((((((HB.out.setCell (p := ⟨b0, 0, none⟩) hw0 (.int .i64 0)).setCell (p := ⟨b0, 1, none⟩) hw0 (.int .i64 0)).setCell (p := ⟨b0, 2, none⟩) hw0 (.int .i64 0)).setCell (p := ⟨b0, 3, none⟩) hw0 (.int .i64 0)).setCell (p := ⟨b0, 4, none⟩) hw0 (.int .i64 0)).setCell (p := ⟨b0, 5, none⟩) hw0 (.int .i64 0)).setCell (p := ⟨b0, 6, none⟩) hw0 (.int .i64 0)).setCell (p := ⟨b0, 7, none⟩) hw0 (.int .i64 0)).setCell (p := ⟨b0, 8, none⟩) hw0 (.int .i64 0)).setCell (p := ⟨b0, 9, none⟩) hw0 (.int .i64 0)))
          have GF := hide (((((((((((G0.out.set 0 (.int .i64 0)).set 1 (.int .i64 0)).set 2 (.int .i64 0)).set 3 (.int .i64 0)).set 4 (.int .i64 0)).set 5 (.int .i64 0)).set 6 (.int .i64 0)).set 7 (.int .i64 0)).set 8 (.int .i64 0)).set 9 (.int .i64 0)))
          clear c0 c1 c2 c3 c4 c5 c6 c7 c8 c9 z0 z1 z2 z3 z4 z5 z6 z7 z8 z9 a0 l0 l2 G0 G2 HB
          generalize ((((((((((w4.setCell ⟨b0, 0, none⟩ (.int .i64 0)).setCell ⟨b0, 1, none⟩ (.int .i64 0)).setCell ⟨b0, 2, none⟩ (.int .i64 0)).setCell ⟨b0, 3, none⟩ (.int .i64 0)).setCell ⟨b0, 4, none⟩ (.int .i64 0)).setCell ⟨b0, 5, none⟩ (.int .i64 0)).setCell ⟨b0, 6, none⟩ (.int .i64 0)).setCell ⟨b0, 7, none⟩ (.int .i64 0)).setCell ⟨b0, 8, none⟩ (.int .i64 0)).setCell ⟨b0, 9, none⟩ (.int .i64 0)) = wF at *
          have y0 : wF.cell? ⟨b0, 0, none⟩ = some (.int .i64 0) := by rw [GF.out.cell 0]; rfl
          have y1 : wF.cell? ⟨b0, 1, none⟩ = some (.int .i64 0) := by rw [GF.out.cell 1]; rfl
          have y2 : wF.cell? ⟨b0, 2, none⟩ = some (.int .i64 0) := by rw [GF.out.cell 2]; rfl
          have y3 : wF.cell? ⟨b0, 3, none⟩ = some (.int .i64 0) := by rw [GF.out.cell 3]; rfl
          have y4 : wF.cell? ⟨b0, 4, none⟩ = some (.int .i64 0) := by rw [GF.out.cell 4]; rfl
          have y5 : wF.cell? ⟨b0, 5, none⟩ = some (.int .i64 0) := by rw [GF.out.cell 5]; rfl
          have y6 : wF.cell? ⟨b0, 6, none⟩ = some (.int .i64 0) := by rw [GF.out.cell 6]; rfl
          have y7 : wF.cell? ⟨b0, 7, none⟩ = some (.int .i64 0) := by rw [GF.out.cell 7]; rfl
          have y8 : wF.cell? ⟨b0, 8, none⟩ = some (.int .i64 0) := by rw [GF.out.cell 8]; rfl
          have y9 : wF.cell? ⟨b0, 9, none⟩ = some (.int .i64 0) := by rw [GF.out.cell 9]; rfl
          refine bodyPost_ret (v := .tuple #[.agg #[.int .i64 0, .int .i64 0, .int .i64 0, .int .i64 0, .int .i64 0, .int .i64 0, .int .i64 0, .int .i64 0, .int .i64 0, .int .i64 0], .bool false]) (by simp [results, Tryd.results8, go_sem, y0, y1, y2, y3, y4, y5, y6, y7, y8, y9]) rfl ⟨?_, HF.out⟩
          rw [HRR.out]
          rfl
      · have hne : ((p : Int) != (s.size : Int)) = true := by simp; omega
        have HRR : Hid (R = (Cr.zero, false)) := by
          show R = _
          rw [HRC.out, if_neg (fun h => hp2 h.1)]
        clear hp2 HRC HOK G2
        have a0 := G0'.out.free
        have hn0 : b0 ≠ w2.heap.size := by omega
        have hn0' : ¬ b0 = w2.heap.size := hn0
        have c0 : w2.cell? ⟨b0, 0, none⟩ = some (.int .i64 0) := by rw [G0'.out.cell 0]; rfl
        have c1 : w2.cell? ⟨b0, 1, none⟩ = some (.int .i64 0) := by rw [G0'.out.cell 1]; rfl
        have c2 : w2.cell? ⟨b0, 2, none⟩ = some (.int .i64 0) := by rw [G0'.out.cell 2]; rfl
        have c3 : w2.cell? ⟨b0, 3, none⟩ = some (.int .i64 0) := by rw [G0'.out.cell 3]; rfl
        have c4 : w2.cell? ⟨b0, 4, none⟩ = some (.int .i64 0) := by rw [G0'.out.cell 4]; rfl
        have c5 : w2.cell? ⟨b0, 5, none⟩ = some (.int .i64 0) := by rw [G0'.out.cell 5]; rfl
        have c6 : w2.cell? ⟨b0, 6, none⟩ = some (.int .i64 0) := by rw [G0'.out.cell 6]; rfl
        have c7 : w2.cell? ⟨b0, 7, none⟩ = some (.int .i64 0) := by rw [G0'.out.cell 7]; rfl
        have c8 : w2.cell? ⟨b0, 8, none⟩ = some (.int .i64 0) := by rw [G0'.out.cell 8]; rfl
        have c9 : w2.cell? ⟨b0, 9, none⟩ = some (.int .i64 0) := by rw [G0'.out.cell 9]; rfl
        have G0 := G0'
        go_wp2_with fail
        have hf := ((((((((((HB.out.setCell (p := ⟨b0, 0, none⟩) hw0 (.int .i64 0)).setCell (p := ⟨b0, 1, none⟩) hw0 (.int .i64 0)).setCell (p := ⟨b0, 2, none⟩) hw0 (.int .i64 0)).setCell (p := ⟨b0, 3, none⟩) hw0 (.int .i64 0)).setCell (p := ⟨b0, 4, none⟩) hw0 (.int .i64 0)).setCell (p := ⟨b0, 5, none⟩) hw0 (.int .i64 0)).setCell (p := ⟨b0, 6, none⟩) hw0 (.int .i64 0)).setCell (p := ⟨b0, 7, none⟩) hw0 (.int .i64 0)).setCell (p := ⟨b0, 8, none⟩) hw0 (.int .i64 0)).setCell (p := ⟨b0, 9, none⟩) hw0 (.int .i64 0))
        have gf := ((((((((((G0.out.set 0 (.int .i64 0)).set 1 (.int .i64 0)).set 2 (.int .i64 0)).set 3 (.int .i64 0)).set 4 (.int .i64 0)).set 5 (.int .i64 0)).set 6 (.int .i64 0)).set 7 (.int .i64 0)).set 8 (.int .i64 0)).set 9 (.int .i64 0))
        have HF := hide (hf.alloc hf.size (.cells #[.int .i64 (x0 : Nat), .int .i64 (x1 : Nat), .int .i64 (x2 : Nat), .int .i64 (x3 : Nat), .int .i64 (x4 : Nat), .int .i64 (x5 : Nat), .int .i64 (x6 : Nat), .int .i64 (x7 : Nat), .int .i64 (x8 : Nat), .int .i64 (x9 : Nat)] 27))
        have GF := hide (gf.below ((Below.refl _ _).alloc (Nat.le_refl _) (.cells #[.int .i64 (x0 : Nat), .int .i64 (x1 : Nat), .int .i64 (x2 : Nat), .int .i64 (x3 : Nat), .int .i64 (x4 : Nat), .int .i64 (x5 : Nat), .int .i64 (x6 : Nat), .int .i64 (x7 : Nat), .int .i64 (x8 : Nat), .int .i64 (x9 : Nat)] 27)) gf.lt)
        clear c0 c1 c2 c3 c4 c5 c6 c7 c8 c9 a0 G0 HB HB3 hf gf G0'
        generalize ((((((((((w2.setCell ⟨b0, 0, none⟩ (.int .i64 0)).setCell ⟨b0, 1, none⟩ (.int .i64 0)).setCell ⟨b0, 2, none⟩ (.int .i64 0)).setCell ⟨b0, 3, none⟩ (.int .i64 0)).setCell ⟨b0, 4, none⟩ (.int .i64 0)).setCell ⟨b0, 5, none⟩ (.int .i64 0)).setCell ⟨b0, 6, none⟩ (.int .i64 0)).setCell ⟨b0, 7, none⟩ (.int .i64 0)).setCell ⟨b0, 8, none⟩ (.int .i64 0)).setCell ⟨b0, 9, none⟩ (.int .i64 0)).alloc (.cells #[.int .i64 (x0 : Nat), .int .i64 (x1 : Nat), .int .i64 (x2 : Nat), .int .i64 (x3 : Nat), .int .i64 (x4 : Nat), .int .i64 (x5 : Nat), .int .i64 (x6 : Nat), .int .i64 (x7 : Nat), .int .i64 (x8 : Nat), .int .i64 (x9 : Nat)] 27) = wF at *
        have y0 : wF.cell? ⟨b0, 0, none⟩ = some (.int .i64 0) := by rw [GF.out.cell 0]; rfl
        have y1 : wF.cell? ⟨b0, 1, none⟩ = some (.int .i64 0) := by rw [GF.out.cell 1]; rfl
        have y2 : wF.cell? ⟨b0, 2, none⟩ = some (.int .i64 0) := by rw [GF.out.cell 2]; rfl
        have y3 : wF.cell? ⟨b0, 3, none⟩ = some (.int .i64 0) := by rw [GF.out.cell 3]; rfl
        have y4 : wF.cell? ⟨b0, 4, none⟩ = some (.int .i64 0) := by rw [GF.out.cell 4]; rfl
        have y5 : wF.cell? ⟨b0, 5, none⟩ = some (.int .i64 0) := by rw [GF.out.cell 5]; rfl
        have y6 : wF.cell? ⟨b0, 6, none⟩ = some (.int .i64 0) := by rw [GF.out.cell 6]; rfl
        have y7 : wF.cell? ⟨b0, 7, none⟩ = some (.int .i64 0) := by rw [GF.out.cell 7]; rfl
        have y8 : wF.cell? ⟨b0, 8, none⟩ = some (.int .i64 0) := by rw [GF.out.cell 8]; rfl
        have y9 : wF.cell? ⟨b0, 9, none⟩ = some (.int .i64 0) := by rw [GF.out.cell 9]; rfl
        refine bodyPost_ret (v := .tuple #[.agg #[.int .i64 0, .int .i64 0, .int .i64 0, .int .i64 0, .int .i64 0, .int .i64 0, .int .i64 0, .int .i64 0, .int .i64 0, .int .i64 0], .bool false]) (by simp [results, Tryd.results8, go_sem, y0, y1, y2, y3, y4, y5, y6, y7, y8, y9]) rfl ⟨?_, HF.out⟩
        rw [HRR.out]
        rfl
end Go.Proofs.YtflicklgmhgpiaaDoor.P5
namespace Go.Proofs.YtflicklgmhgpiaaDoor.P5
set_option maxRecDepth 8000
open Go.RowKit P1

theorem zero_cred : ∀ w : World, (zeroValue 27).run Tryd.prog w = .ok (.agg #[.int .i64 0, .int .i64 0, .int .i64 0, .int .i64 0, .int .i64 0, .int .i64 0, .int .i64 0, .int .i64 0, .int .i64 0, .int .i64 0]) w := fun w => by
  kernel_rfl

theorem infoI : (Tryd.prog.info? 3).map (fun i => (i.zero, i.size, i.bytes)) = some (some (.int .i64 0), 1, 8) := by kernel_rfl

set_option maxHeartbeats 2000000 in
theorem specReadCred_calls (s : ByteArray) (hs : s.size ≤ 1048576) (w : World) :
    Calls Tryd.prog 10 #[.string s] w fun e w' => e = .returned (rcV (readCred s.data.toList)) ∧ Below w.heap.size w w' := by
  obtain ⟨T, rfl⟩ : ∃ T : List UInt8, s = ⟨T.toArray⟩ := ⟨s.data.toList, by simp⟩
  have HRV := hide (fun (p : Nat) wx => specReadVar_calls ⟨T.toArray⟩ (p : Int) hs wx)
  have HSL : Hid (T.length ≤ 1048576) := hs
  simp only at HRV ⊢
  clear hs
  obtain ⟨i0, hi, hz0, hz1, hz2⟩ := info_parts infoI
  obtain ⟨R, ER⟩ : ∃ R, Hid (R = readCred T) := ⟨_, rfl⟩
  rw [← ER.out]
  go_enter Tryd.func10, Tryd.ntmps10
  go_wp2_with fail
  have HB0 : Hid (Below w.heap.size w ((w.alloc (.cells #[.int .i64 0, .int .i64 0, .int .i64 0, .int .i64 0, .int .i64 0, .int .i64 0, .int .i64 0, .int .i64 0, .int .i64 0, .int .i64 0] 27)).alloc (.cells #[] 3))) := Below.two _ _ _
  have g0 := Blk.new w #[.int .i64 0, .int .i64 0, .int .i64 0, .int .i64 0, .int .i64 0, .int .i64 0, .int .i64 0, .int .i64 0, .int .i64 0, .int .i64 0] 27
  have g0 := hide (g0.below ((Below.refl _ _).alloc (Nat.le_refl _) (.cells #[] 3)) g0.lt)
  have hsz1 : (w.alloc (.cells #[.int .i64 0, .int .i64 0, .int .i64 0, .int .i64 0, .int .i64 0, .int .i64 0, .int .i64 0, .int .i64 0, .int .i64 0, .int .i64 0] 27)).heap.size = w.heap.size + 1 := by simp [go_sem]
  have HO0 : Hid (((w.alloc (.cells #[.int .i64 0, .int .i64 0, .int .i64 0, .int .i64 0, .int .i64 0, .int .i64 0, .int .i64 0, .int .i64 0, .int .i64 0, .int .i64 0] 27)).alloc (.cells #[] 3)).ownsRow (w.heap.size + 1) 3 1 (.slice (some ⟨w.heap.size + 1, 0, none⟩) 0 0) 0 (cellsI (intsOf []))) := by
    have := World.ownsRow_lit (base := w.heap.size + 1) (e := 3) (size := 1) (w.alloc (.cells #[.int .i64 0, .int .i64 0, .int .i64 0, .int .i64 0, .int .i64 0, .int .i64 0, .int .i64 0, .int .i64 0, .int .i64 0, .int .i64 0] 27)) #[] 0 (by omega) (by decide) rfl
    rw [hsz1] at this
    exact this
  clear hsz1
  go_loopw [4, 5, 6] (fun v at_ i wr => ∃ k p : Nat, ∃ L : List Nat, k ≤ 10 ∧ p ≤ 1048576 ∧ L.length = k ∧ i = .int .i64 k ∧ at_ = .int .i64 p ∧ Hid (readRow T k = some (L, p)) ∧ Hid (wr.ownsRow (w.heap.size + 1) 3 1 v k (cellsI (intsOf L))) ∧ Hid (Blk wr w.heap.size [.int .i64 0, .int .i64 0, .int .i64 0, .int .i64 0, .int .i64 0, .int .i64 0, .int .i64 0, .int .i64 0, .int .i64 0, .int .i64 0] 27) ∧ Hid (Below w.heap.size w wr) ∧ w.heap.size + 1 ≤ wr.heap.size) (fun _ _ i _ => 10 - (intOf i).toNat)
  case atStart => exact ⟨0, 0, [], by decide, by decide, rfl, rfl, rfl, rfl, HO0.out, g0.out, HB0.out, by simp [go_sem]⟩
  case round =>
    obtain ⟨k, p, L, hk, hp, hL, rfl, rfl, HR, HO, G0, HB, hsz⟩ := hrel
    by_cases hlt : k < 10
    · go_wp2_with fail
      refine (HRV.out p _).mono ?_
      rintro e w2 ⟨rfl, hb2⟩
      have HO := hide (own_below HO.out hb2)
      have G0 := hide (G0.out.below hb2 G0.out.lt)
      have HB := hide (HB.out.trans (hb2.mono HB.out.size))
      have hsz2 : w.heap.size + 1 ≤ w2.heap.size := Nat.le_trans hsz hb2.size
      clear hb2 hsz
      by_cases hr : (readVar T p).2.2 = true
      · have h2 := readVar_true hr
        have HN := hide (readRow_next HR.out hr)
        have h3 := h2.2.1
        have h4 : (readVar T p).2.1 ≤ 1048576 := by have := HSL.out; omega
        clear h2 h3
        generalize readVar T (p : Int) = rv at hr h4 HN ⊢
        obtain ⟨n, q, ok⟩ := rv
        dsimp only at hr h4 HN
        subst hr
        simp only [rvV]
        have HL' : Hid ((L ++ [n]).length = k + 1) := by show _ = _; simp [hL]
        clear HR
        go_wp2_with (at_builtin; refine wpList_append_one (cs := #[.int .i64 (n : Int)]) (Below.refl (w.heap.size + 1) _) hsz2 rfl (.tmp 26) (.tmp 28) 50 rfl 3 i0 (.int .i64 0) 1 8 Tryd.underlying50 hi hz0 hz1 hz2 rfl (by decide) rfl (by simp [Value.oneCell']) _ _ _ rfl HO.out 1 rfl (by omega) (by omega) ?_)
        intro v' w3 hown3 hbel3
        have HO3 : Hid (w3.ownsRow (w.heap.size + 1) 3 1 v' (k + 1) (cellsI (intsOf (L ++ [n])))) := by
          show World.ownsRow _ _ _ _ _ _ _
          have : cellsI (intsOf (L ++ [n])) = cellsI (intsOf L) ++ #[Value.int .i64 (n : Int)].toList := by simp [cellsI, intsOf]
          rw [this]
          exact hown3
        have G03 := hide (G0.out.below hbel3 (Nat.lt_succ_self _))
        have HB3 := hide (HB.out.trans (hbel3.mono (Nat.le_succ _)))
        have hsz3 : w.heap.size + 1 ≤ w3.heap.size := Nat.le_trans hsz2 hbel3.size
        clear hown3 hbel3 HO G0 HB hsz2
        go_wp2
        go_roundw
        case rel => exact ⟨k + 1, q, L ++ [n], by omega, h4, HL'.out, by go_num, rfl, HN.out, HO3.out, G03.out, HB3.out, hsz3⟩
        case measure => simp [intOf]; omega
      · have hr' : (readVar T p).2.2 = false := by simpa using hr
        have HN := readRow_stop HR.out hr'
        have hR : R = (Cr.zero, false) := by
          rw [ER.out]
          refine readCred_none ?_
          have := readRow_none HN (9 - k)
          rw [show k + 1 + (9 - k) = 10 by omega] at this
          exact this
        have HRR := hide hR
        clear hR HN hr
        generalize readVar T (p : Int) = rv at hr' ⊢
        obtain ⟨n, q, ok⟩ := rv
        dsimp only at hr'
        subst hr'
        simp only [rvV]
        obtain ⟨b0, e0⟩ : ∃ b, b = w.heap.size := ⟨_, rfl⟩
        have hw0 : w.heap.size ≤ b0 := by omega
        rw [← e0] at G0 ⊢
        clear e0
        have l0 := G0.out.lt
        have a0 := G0.out.free
        have c0 : w2.cell? ⟨b0, 0, none⟩ = some (.int .i64 0) := by rw [G0.out.cell 0]; rfl
        have c1 : w2.cell? ⟨b0, 1, none⟩ = some (.int .i64 0) := by rw [G0.out.cell 1]; rfl
        have c2 : w2.cell? ⟨b0, 2, none⟩ = some (.int .i64 0) := by rw [G0.out.cell 2]; rfl
        have c3 : w2.cell? ⟨b0, 3, none⟩ = some (.int .i64 0) := by rw [G0.out.cell 3]; rfl
        have c4 : w2.cell? ⟨b0, 4, none⟩ = some (.int .i64 0) := by rw [G0.out.cell 4]; rfl
        have c5 : w2.cell? ⟨b0, 5, none⟩ = some (.int .i64 0) := by rw [G0.out.cell 5]; rfl
        have c6 : w2.cell? ⟨b0, 6, none⟩ = some (.int .i64 0) := by rw [G0.out.cell 6]; rfl
        have c7 : w2.cell? ⟨b0, 7, none⟩ = some (.int .i64 0) := by rw [G0.out.cell 7]; rfl
        have c8 : w2.cell? ⟨b0, 8, none⟩ = some (.int .i64 0) := by rw [G0.out.cell 8]; rfl
        have c9 : w2.cell? ⟨b0, 9, none⟩ = some (.int .i64 0) := by rw [G0.out.cell 9]; rfl
        go_wp2_with fail
        have HF := hide (((((((((((HB.out.setCell (p := ⟨b0, 0, none⟩) hw0 (.int .i64 0)).setCell (p := ⟨b0, 1, none⟩) hw0 (.int .i64 0)).setCell (p := ⟨b0, 2, none⟩) hw0 (.int .i64 0)).setCell (p := ⟨b0, 3, none⟩) hw0 (.int .i64 0)).setCell (p := ⟨b0, 4, none⟩) hw0 (.int .i64 0)).setCell (p := ⟨b0, 5, none⟩) hw0 (.int .i64 0)).setCell (p := ⟨b0, 6, none⟩) hw0 (.int .i64 0)).setCell (p := ⟨b0, 7, none⟩) hw0 (.int .i64 0)).setCell (p := ⟨b0, 8, none⟩) hw0 (.int .i64 0)).setCell (p := ⟨b0, 9, none⟩) hw0 (.int .i64 0)))
        have GF := hide (((((((((((G0.out.set 0 (.int .i64 0)).set 1 (.int .i64 0)).set 2 (.int .i64 0)).set 3 (.int .i64 0)).set 4 (.int .i64 0)).set 5 (.int .i64 0)).set 6 (.int .i64 0)).set 7 (.int .i64 0)).set 8 (.int .i64 0)).set 9 (.int .i64 0)))
        clear c0 c1 c2 c3 c4 c5 c6 c7 c8 c9 a0 l0 G0 HO HB
        generalize ((((((((((w2.setCell ⟨b0, 0, none⟩ (.int .i64 0)).setCell ⟨b0, 1, none⟩ (.int .i64 0)).setCell ⟨b0, 2, none⟩ (.int .i64 0)).setCell ⟨b0, 3, none⟩ (.int .i64 0)).setCell ⟨b0, 4, none⟩ (.int .i64 0)).setCell ⟨b0, 5, none⟩ (.int .i64 0)).setCell ⟨b0, 6, none⟩ (.int .i64 0)).setCell ⟨b0, 7, none⟩ (.int .i64 0)).setCell ⟨b0, 8, none⟩ (.int .i64 0)).setCell ⟨b0, 9, none⟩ (.int .i64 0)) = wF at *
        have y0 : wF.cell? ⟨b0, 0, none⟩ = some (.int .i64 0) := by rw [GF.out.cell 0]; rfl
        have y1 : wF.cell? ⟨b0, 1, none⟩ = some (.int .i64 0) := by rw [GF.out.cell 1]; rfl
        have y2 : wF.cell? ⟨b0, 2, none⟩ = some (.int .i64 0) := by rw [GF.out.cell 2]; rfl
        have y3 : wF.cell? ⟨b0, 3, none⟩ = some (.int .i64 0) := by rw [GF.out.cell 3]; rfl
        have y4 : wF.cell? ⟨b0, 4, none⟩ = some (.int .i64 0) := by rw [GF.out.cell 4]; rfl
        have y5 : wF.cell? ⟨b0, 5, none⟩ = some (.int .i64 0) := by rw [GF.out.cell 5]; rfl
        have y6 : wF.cell? ⟨b0, 6, none⟩ = some (.int .i64 0) := by rw [GF.out.cell 6]; rfl
        have y7 : wF.cell? ⟨b0, 7, none⟩ = some (.int .i64 0) := by rw [GF.out.cell 7]; rfl
        have y8 : wF.cell? ⟨b0, 8, none⟩ = some (.int .i64 0) := by rw [GF.out.cell 8]; rfl
        have y9 : wF.cell? ⟨b0, 9, none⟩ = some (.int .i64 0) := by rw [GF.out.cell 9]; rfl
        refine bodyPost_ret (v := .tuple #[.agg #[.int .i64 0, .int .i64 0, .int .i64 0, .int .i64 0, .int .i64 0, .int .i64 0, .int .i64 0, .int .i64 0, .int .i64 0, .int .i64 0], .bool false]) (by simp [results, Tryd.results10, go_sem, y0, y1, y2, y3, y4, y5, y6, y7, y8, y9]) rfl ⟨?_, HF.out⟩
        rw [HRR.out]
        rfl
    · have hk10 : k = 10 := by omega
      subst hk10
      have hRC : R = if credOk (crOf L) ∧ credB (crOf L) = T then (crOf L, true) else (Cr.zero, false) := by
        rw [ER.out, readCred, HR.out]
      clear HR
      obtain ⟨x0, x1, x2, x3, x4, x5, x6, x7, x8, x9, rfl⟩ := ten hL
      have hc10 : crOf [x0, x1, x2, x3, x4, x5, x6, x7, x8, x9] = ⟨x0, x1, x2, x3, x4, x5, x6, x7, x8, x9⟩ := rfl
      rw [hc10] at hRC
      have HRC := hide hRC
      clear hRC hc10 hL
      obtain ⟨g, cap, rfl, hg1, hg2, hcap, hcell, -⟩ := own_at HO.out (by decide)
      have hN : ∀ (j : Nat) (x : Nat), j < 10 → (cellsI (intsOf [x0, x1, x2, x3, x4, x5, x6, x7, x8, x9]))[j]? = some (.int .i64 (x : Int)) → ∀ p : Near wr.heap.size wr, p.w.cell? ⟨g, j, none⟩ = some (.int .i64 (x : Int)) := fun j x hj he p => by
        rw [p.h.cell (p := ⟨g, j, none⟩) hg2, hcell j (by omega), he]
      have n0 := hN 0 x0 (by decide) rfl
      have n1 := hN 1 x1 (by decide) rfl
      have n2 := hN 2 x2 (by decide) rfl
      have n3 := hN 3 x3 (by decide) rfl
      have n4 := hN 4 x4 (by decide) rfl
      have n5 := hN 5 x5 (by decide) rfl
      have n6 := hN 6 x6 (by decide) rfl
      have n7 := hN 7 x7 (by decide) rfl
      have n8 := hN 8 x8 (by decide) rfl
      have n9 := hN 9 x9 (by decide) rfl
      clear hN hcell HO
      have hnn := Near.some wr.heap.size wr
      go_wp2_with fail
      refine wp_region_open (fun wd => ∃ p : Near wr.heap.size wr, wd = p.w) ⟨⟨_, (Below.refl _ _).drew⟩, rfl⟩ (by kernel_rfl) ?_
      rintro wd ⟨pd, rfl⟩
      refine wpAny_of_K (c := 35) (D := fun w' => ∃ p : Near wr.heap.size wr, w' = p.w) _ _ _ _ ?_
      refine wpAnyK_seg_lit 0 34 2 2 rfl (by decide) (by decide) (by kernel_rfl) (by kernel_rfl) (by kernel_rfl) (by kernel_rfl) (fun _ _ _ _ _ h => h) ⟨pd, rfl⟩ ?_
      simp only [List.take_succ_cons, List.take_zero, List.drop_zero]
      repeat (go_big_quiet_step (fail))
      refine wpQuiet_nil ?_
      have hqb := pd.h
      obtain ⟨w3, hq⟩ := pd
      simp only at hqb ⊢
      have HBT := hide hqb
      clear hq hqb n0 n1 n2 n3 n4 n5 n6 n7 n8 n9 hnn
      have hzw := zero_cred w3
      refine wpAnyK_value (i := 34) (v := .pointer (some ⟨w3.heap.size, 0, none⟩)) (w' := w3.alloc (.cells #[.int .i64 0, .int .i64 0, .int .i64 0, .int .i64 0, .int .i64 0, .int .i64 0, .int .i64 0, .int .i64 0, .int .i64 0, .int .i64 0] 27)) (by kernel_rfl) rfl rfl (by simp [execOp, go_sem, hzw, Instr.alloc]) ⟨⟨_, HBT.out.alloc HBT.out.size _⟩, rfl⟩ ?_
      refine wpAnyK_last (by kernel_rfl) (by decide) ?_
      refine wpAny_rest 35 rfl (by kernel_rfl) ?_
      simp only [List.drop_succ_cons, List.drop_zero]
      have HB := hide (HB.out.trans (HBT.out.mono HB.out.size))
      have G0 := hide (G0.out.below HBT.out G0.out.lt)
      have HB3 := hide (HB.out.alloc HB.out.size (.cells #[.int .i64 (x0 : Nat), .int .i64 (x1 : Nat), .int .i64 (x2 : Nat), .int .i64 (x3 : Nat), .int .i64 (x4 : Nat), .int .i64 (x5 : Nat), .int .i64 (x6 : Nat), .int .i64 (x7 : Nat), .int .i64 (x8 : Nat), .int .i64 (x9 : Nat)] 27))
      have G2 := hide (Blk.new w3 #[.int .i64 (x0 : Nat), .int .i64 (x1 : Nat), .int .i64 (x2 : Nat), .int .i64 (x3 : Nat), .int .i64 (x4 : Nat), .int .i64 (x5 : Nat), .int .i64 (x6 : Nat), .int .i64 (x7 : Nat), .int .i64 (x8 : Nat), .int .i64 (x9 : Nat)] 27)
      have l3 := G0.out.lt
      have G0 := hide (G0.out.below ((Below.refl _ w3).alloc (Nat.le_refl _) (.cells #[.int .i64 (x0 : Nat), .int .i64 (x1 : Nat), .int .i64 (x2 : Nat), .int .i64 (x3 : Nat), .int .i64 (x4 : Nat), .int .i64 (x5 : Nat), .int .i64 (x6 : Nat), .int .i64 (x7 : Nat), .int .i64 (x8 : Nat), .int .i64 (x9 : Nat)] 27)) l3)
      clear HB HBT hzw hsz
      go_wp2_with fail
      obtain ⟨b2, e2⟩ : ∃ b, b = w3.heap.size := ⟨_, rfl⟩
      obtain ⟨b0, e0⟩ : ∃ b, b = w.heap.size := ⟨_, rfl⟩
      have hw0 : w.heap.size ≤ b0 := by omega
      rw [← e2] at G2 ⊢
      rw [← e0] at G0 ⊢
      have h02 : b0 ≠ b2 := by omega
      clear e2 e0 l3
      generalize w3.alloc (.cells #[.int .i64 (x0 : Nat), .int .i64 (x1 : Nat), .int .i64 (x2 : Nat), .int .i64 (x3 : Nat), .int .i64 (x4 : Nat), .int .i64 (x5 : Nat), .int .i64 (x6 : Nat), .int .i64 (x7 : Nat), .int .i64 (x8 : Nat), .int .i64 (x9 : Nat)] 27) = w4 at *
      refine (specCredOk_calls ⟨x0, x1, x2, x3, x4, x5, x6, x7, x8, x9⟩ _).mono ?_
      rintro e w5 ⟨rfl, hb5⟩
      have G0 := hide (G0.out.below hb5 G0.out.lt)
      have G2 := hide (G2.out.below hb5 G2.out.lt)
      have HB := hide (HB3.out.trans (hb5.mono HB3.out.size))
      clear hb5 HB3
      have l0 := G0.out.lt
      have l2 := G2.out.lt
      have z0 : w5.cell? ⟨b2, 0, none⟩ = some (.int .i64 (x0 : Nat)) := by rw [G2.out.cell 0]; rfl
      have z1 : w5.cell? ⟨b2, 1, none⟩ = some (.int .i64 (x1 : Nat)) := by rw [G2.out.cell 1]; rfl
      have z2 : w5.cell? ⟨b2, 2, none⟩ = some (.int .i64 (x2 : Nat)) := by rw [G2.out.cell 2]; rfl
      have z3 : w5.cell? ⟨b2, 3, none⟩ = some (.int .i64 (x3 : Nat)) := by rw [G2.out.cell 3]; rfl
      have z4 : w5.cell? ⟨b2, 4, none⟩ = some (.int .i64 (x4 : Nat)) := by rw [G2.out.cell 4]; rfl
      have z5 : w5.cell? ⟨b2, 5, none⟩ = some (.int .i64 (x5 : Nat)) := by rw [G2.out.cell 5]; rfl
      have z6 : w5.cell? ⟨b2, 6, none⟩ = some (.int .i64 (x6 : Nat)) := by rw [G2.out.cell 6]; rfl
      have z7 : w5.cell? ⟨b2, 7, none⟩ = some (.int .i64 (x7 : Nat)) := by rw [G2.out.cell 7]; rfl
      have z8 : w5.cell? ⟨b2, 8, none⟩ = some (.int .i64 (x8 : Nat)) := by rw [G2.out.cell 8]; rfl
      have z9 : w5.cell? ⟨b2, 9, none⟩ = some (.int .i64 (x9 : Nat)) := by rw [G2.out.cell 9]; rfl
      by_cases hok : credOk ⟨x0, x1, x2, x3, x4, x5, x6, x7, x8, x9⟩
      · rw [decide_eq_true hok]
        have hT : credT ⟨x0, x1, x2, x3, x4, x5, x6, x7, x8, x9⟩ = credB ⟨x0, x1, x2, x3, x4, x5, x6, x7, x8, x9⟩ := by rw [credT, if_pos hok]
        go_wp2_with fail
        clear z0 z1 z2 z3 z4 z5 z6 z7 z8 z9 l0 l2
        have HT := hide (fun wx => specCredText_calls ⟨x0, x1, x2, x3, x4, x5, x6, x7, x8, x9⟩ wx)
        rw [hT] at HT
        refine (HT.out _).mono ?_
        rintro e w4 ⟨rfl, hb4⟩
        have G0 := hide (G0.out.below hb4 G0.out.lt)
        have G2 := hide (G2.out.below hb4 G2.out.lt)
        have HB := hide (HB.out.trans (hb4.mono HB.out.size))
        clear hb4 HT hT
        have l0 := G0.out.lt
        have l2 := G2.out.lt
        have a0 := G0.out.free
        have c0 : w4.cell? ⟨b0, 0, none⟩ = some (.int .i64 0) := by rw [G0.out.cell 0]; rfl
        have c1 : w4.cell? ⟨b0, 1, none⟩ = some (.int .i64 0) := by rw [G0.out.cell 1]; rfl
        have c2 : w4.cell? ⟨b0, 2, none⟩ = some (.int .i64 0) := by rw [G0.out.cell 2]; rfl
        have c3 : w4.cell? ⟨b0, 3, none⟩ = some (.int .i64 0) := by rw [G0.out.cell 3]; rfl
        have c4 : w4.cell? ⟨b0, 4, none⟩ = some (.int .i64 0) := by rw [G0.out.cell 4]; rfl
        have c5 : w4.cell? ⟨b0, 5, none⟩ = some (.int .i64 0) := by rw [G0.out.cell 5]; rfl
        have c6 : w4.cell? ⟨b0, 6, none⟩ = some (.int .i64 0) := by rw [G0.out.cell 6]; rfl
        have c7 : w4.cell? ⟨b0, 7, none⟩ = some (.int .i64 0) := by rw [G0.out.cell 7]; rfl
        have c8 : w4.cell? ⟨b0, 8, none⟩ = some (.int .i64 0) := by rw [G0.out.cell 8]; rfl
        have c9 : w4.cell? ⟨b0, 9, none⟩ = some (.int .i64 0) := by rw [G0.out.cell 9]; rfl
        have z0 : w4.cell? ⟨b2, 0, none⟩ = some (.int .i64 (x0 : Nat)) := by rw [G2.out.cell 0]; rfl
        have z1 : w4.cell? ⟨b2, 1, none⟩ = some (.int .i64 (x1 : Nat)) := by rw [G2.out.cell 1]; rfl
        have z2 : w4.cell? ⟨b2, 2, none⟩ = some (.int .i64 (x2 : Nat)) := by rw [G2.out.cell 2]; rfl
        have z3 : w4.cell? ⟨b2, 3, none⟩ = some (.int .i64 (x3 : Nat)) := by rw [G2.out.cell 3]; rfl
        have z4 : w4.cell? ⟨b2, 4, none⟩ = some (.int .i64 (x4 : Nat)) := by rw [G2.out.cell 4]; rfl
        have z5 : w4.cell? ⟨b2, 5, none⟩ = some (.int .i64 (x5 : Nat)) := by rw [G2.out.cell 5]; rfl
        have z6 : w4.cell? ⟨b2, 6, none⟩ = some (.int .i64 (x6 : Nat)) := by rw [G2.out.cell 6]; rfl
        have z7 : w4.cell? ⟨b2, 7, none⟩ = some (.int .i64 (x7 : Nat)) := by rw [G2.out.cell 7]; rfl
        have z8 : w4.cell? ⟨b2, 8, none⟩ = some (.int .i64 (x8 : Nat)) := by rw [G2.out.cell 8]; rfl
        have z9 : w4.cell? ⟨b2, 9, none⟩ = some (.int .i64 (x9 : Nat)) := by rw [G2.out.cell 9]; rfl
        by_cases hq : credB ⟨x0, x1, x2, x3, x4, x5, x6, x7, x8, x9⟩ = T
        · have HRR : Hid (R = (⟨x0, x1, x2, x3, x4, x5, x6, x7, x8, x9⟩, true)) := by
            show R = _
            rw [HRC.out, if_pos ⟨hok, hq⟩]
          rw [hq]
          clear hok HRC hq
          go_wp2_with fail
          have HF := hide (((((((((((HB.out.setCell (p := ⟨b0, 0, none⟩) hw0 (.int .i64 (x0 : Nat))).setCell (p := ⟨b0, 1, none⟩) hw0 (.int .i64 (x1 : Nat))).setCell (p := ⟨b0, 2, none⟩) hw0 (.int .i64 (x2 : Nat))).setCell (p := ⟨b0, 3, none⟩) hw0 (.int .i64 (x3 : Nat))).setCell (p := ⟨b0, 4, none⟩) hw0 (.int .i64 (x4 : Nat))).setCell (p := ⟨b0, 5, none⟩) hw0 (.int .i64 (x5 : Nat))).setCell (p := ⟨b0, 6, none⟩) hw0 (.int .i64 (x6 : Nat))).setCell (p := ⟨b0, 7, none⟩) hw0 (.int .i64 (x7 : Nat))).setCell (p := ⟨b0, 8, none⟩) hw0 (.int .i64 (x8 : Nat))).setCell (p := ⟨b0, 9, none⟩) hw0 (.int .i64 (x9 : Nat))))
          have GF := hide (((((((((((G0.out.set 0 (.int .i64 (x0 : Nat))).set 1 (.int .i64 (x1 : Nat))).set 2 (.int .i64 (x2 : Nat))).set 3 (.int .i64 (x3 : Nat))).set 4 (.int .i64 (x4 : Nat))).set 5 (.int .i64 (x5 : Nat))).set 6 (.int .i64 (x6 : Nat))).set 7 (.int .i64 (x7 : Nat))).set 8 (.int .i64 (x8 : Nat))).set 9 (.int .i64 (x9 : Nat))))
          clear c0 c1 c2 c3 c4 c5 c6 c7 c8 c9 z0 z1 z2 z3 z4 z5 z6 z7 z8 z9 a0 l0 l2 G0 G2 HB
          generalize ((((((((((w4.setCell ⟨b0, 0, none⟩ (.int .i64 (x0 : Nat))).setCell ⟨b0, 1, none⟩ (.int .i64 (x1 : Nat))).setCell ⟨b0, 2, none⟩ (.int .i64 (x2 : Nat))).setCell ⟨b0, 3, none⟩ (.int .i64 (x3 : Nat))).setCell ⟨b0, 4, none⟩ (.int .i64 (x4 : Nat))).setCell ⟨b0, 5, none⟩ (.int .i64 (x5 : Nat))).setCell ⟨b0, 6, none⟩ (.int .i64 (x6 : Nat))).setCell ⟨b0, 7, none⟩ (.int .i64 (x7 : Nat))).setCell ⟨b0, 8, none⟩ (.int .i64 (x8 : Nat))).setCell ⟨b0, 9, none⟩ (.int .i64 (x9 : Nat))) = wF at *
          have y0 : wF.cell? ⟨b0, 0, none⟩ = some (.int .i64 (x0 : Nat)) := by rw [GF.out.cell 0]; rfl
          have y1 : wF.cell? ⟨b0, 1, none⟩ = some (.int .i64 (x1 : Nat)) := by rw [GF.out.cell 1]; rfl
          have y2 : wF.cell? ⟨b0, 2, none⟩ = some (.int .i64 (x2 : Nat)) := by rw [GF.out.cell 2]; rfl
          have y3 : wF.cell? ⟨b0, 3, none⟩ = some (.int .i64 (x3 : Nat)) := by rw [GF.out.cell 3]; rfl
          have y4 : wF.cell? ⟨b0, 4, none⟩ = some (.int .i64 (x4 : Nat)) := by rw [GF.out.cell 4]; rfl
          have y5 : wF.cell? ⟨b0, 5, none⟩ = some (.int .i64 (x5 : Nat)) := by rw [GF.out.cell 5]; rfl
          have y6 : wF.cell? ⟨b0, 6, none⟩ = some (.int .i64 (x6 : Nat)) := by rw [GF.out.cell 6]; rfl
          have y7 : wF.cell? ⟨b0, 7, none⟩ = some (.int .i64 (x7 : Nat)) := by rw [GF.out.cell 7]; rfl
          have y8 : wF.cell? ⟨b0, 8, none⟩ = some (.int .i64 (x8 : Nat)) := by rw [GF.out.cell 8]; rfl
          have y9 : wF.cell? ⟨b0, 9, none⟩ = some (.int .i64 (x9 : Nat)) := by rw [GF.out.cell 9]; rfl
          refine bodyPost_ret (v := .tuple #[.agg #[.int .i64 (x0 : Nat), .int .i64 (x1 : Nat), .int .i64 (x2 : Nat), .int .i64 (x3 : Nat), .int .i64 (x4 : Nat), .int .i64 (x5 : Nat), .int .i64 (x6 : Nat), .int .i64 (x7 : Nat), .int .i64 (x8 : Nat), .int .i64 (x9 : Nat)], .bool true]) (by simp [results, Tryd.results10, go_sem, y0, y1, y2, y3, y4, y5, y6, y7, y8, y9]) rfl ⟨?_, HF.out⟩
          rw [HRR.out]
        · have HRR : Hid (R = (Cr.zero, false)) := by
            show R = _
            rw [HRC.out, if_neg (fun h => hq h.2)]
          have hne : (!credB ⟨x0, x1, x2, x3, x4, x5, x6, x7, x8, x9⟩ == T) = true := by simpa using hq
          clear hok HRC hq
          generalize credB ⟨x0, x1, x2, x3, x4, x5, x6, x7, x8, x9⟩ = A at *
          go_wp2_with fail
          have HF := hide (((((((((((HB.out.setCell (p := ⟨b0, 0, none⟩) hw0 (.int .i64 0)).setCell (p := ⟨b0, 1, none⟩) hw0 (.int .i64 0)).setCell (p := ⟨b0, 2, none⟩) hw0 (.int .i64 0)).setCell (p := ⟨b0, 3, none⟩) hw0 (.int .i64 0)).setCell (p := ⟨b0, 4, none⟩) hw0 (.int .i64 0)).setCell (p := ⟨b0, 5, none⟩) hw0 (.int .i64 0)).setCell (p := ⟨b0, 6, none⟩) hw0 (.int .i64 0)).setCell (p := ⟨b0, 7, none⟩) hw0 (.int .i64 0)).setCell (p := ⟨b0, 8, none⟩) hw0 (.int .i64 0)).setCell (p := ⟨b0, 9, none⟩) hw0 (.int .i64 0)))
          have GF := hide (((((((((((G0.out.set 0 (.int .i64 0)).set 1 (.int .i64 0)).set 2 (.int .i64 0)).set 3 (.int .i64 0)).set 4 (.int .i64 0)).set 5 (.int .i64 0)).set 6 (.int .i64 0)).set 7 (.int .i64 0)).set 8 (.int .i64 0)).set 9 (.int .i64 0)))
          clear c0 c1 c2 c3 c4 c5 c6 c7 c8 c9 z0 z1 z2 z3 z4 z5 z6 z7 z8 z9 a0 l0 l2 G0 G2 HB
          generalize ((((((((((w4.setCell ⟨b0, 0, none⟩ (.int .i64 0)).setCell ⟨b0, 1, none⟩ (.int .i64 0)).setCell ⟨b0, 2, none⟩ (.int .i64 0)).setCell ⟨b0, 3, none⟩ (.int .i64 0)).setCell ⟨b0, 4, none⟩ (.int .i64 0)).setCell ⟨b0, 5, none⟩ (.int .i64 0)).setCell ⟨b0, 6, none⟩ (.int .i64 0)).setCell ⟨b0, 7, none⟩ (.int .i64 0)).setCell ⟨b0, 8, none⟩ (.int .i64 0)).setCell ⟨b0, 9, none⟩ (.int .i64 0)) = wF at *
          have y0 : wF.cell? ⟨b0, 0, none⟩ = some (.int .i64 0) := by rw [GF.out.cell 0]; rfl
          have y1 : wF.cell? ⟨b0, 1, none⟩ = some (.int .i64 0) := by rw [GF.out.cell 1]; rfl
          have y2 : wF.cell? ⟨b0, 2, none⟩ = some (.int .i64 0) := by rw [GF.out.cell 2]; rfl
          have y3 : wF.cell? ⟨b0, 3, none⟩ = some (.int .i64 0) := by rw [GF.out.cell 3]; rfl
          have y4 : wF.cell? ⟨b0, 4, none⟩ = some (.int .i64 0) := by rw [GF.out.cell 4]; rfl
          have y5 : wF.cell? ⟨b0, 5, none⟩ = some (.int .i64 0) := by rw [GF.out.cell 5]; rfl
          have y6 : wF.cell? ⟨b0, 6, none⟩ = some (.int .i64 0) := by rw [GF.out.cell 6]; rfl
          have y7 : wF.cell? ⟨b0, 7, none⟩ = some (.int .i64 0) := by rw [GF.out.cell 7]; rfl
          have y8 : wF.cell? ⟨b0, 8, none⟩ = some (.int .i64 0) := by rw [GF.out.cell 8]; rfl
          have y9 : wF.cell? ⟨b0, 9, none⟩ = some (.int .i64 0) := by rw [GF.out.cell 9]; rfl
          refine bodyPost_ret (v := .tuple #[.agg #[.int .i64 0, .int .i64 0, .int .i64 0, .int .i64 0, .int .i64 0, .int .i64 0, .int .i64 0, .int .i64 0, .int .i64 0, .int .i64 0], .bool false]) (by simp [results, Tryd.results10, go_sem, y0, y1, y2, y3, y4, y5, y6, y7, y8, y9]) rfl ⟨?_, HF.out⟩
          rw [HRR.out]
          rfl
      · rw [decide_eq_false hok]
        have HRR : Hid (R = (Cr.zero, false)) := by
          show R = _
          rw [HRC.out, if_neg (fun h => hok h.1)]
        clear hok HRC
        have a0 := G0.out.free
        have c0 : w5.cell? ⟨b0, 0, none⟩ = some (.int .i64 0) := by rw [G0.out.cell 0]; rfl
        have c1 : w5.cell? ⟨b0, 1, none⟩ = some (.int .i64 0) := by rw [G0.out.cell 1]; rfl
        have c2 : w5.cell? ⟨b0, 2, none⟩ = some (.int .i64 0) := by rw [G0.out.cell 2]; rfl
        have c3 : w5.cell? ⟨b0, 3, none⟩ = some (.int .i64 0) := by rw [G0.out.cell 3]; rfl
        have c4 : w5.cell? ⟨b0, 4, none⟩ = some (.int .i64 0) := by rw [G0.out.cell 4]; rfl
        have c5 : w5.cell? ⟨b0, 5, none⟩ = some (.int .i64 0) := by rw [G0.out.cell 5]; rfl
        have c6 : w5.cell? ⟨b0, 6, none⟩ = some (.int .i64 0) := by rw [G0.out.cell 6]; rfl
        have c7 : w5.cell? ⟨b0, 7, none⟩ = some (.int .i64 0) := by rw [G0.out.cell 7]; rfl
        have c8 : w5.cell? ⟨b0, 8, none⟩ = some (.int .i64 0) := by rw [G0.out.cell 8]; rfl
        have c9 : w5.cell? ⟨b0, 9, none⟩ = some (.int .i64 0) := by rw [G0.out.cell 9]; rfl
        go_wp2_with fail
        have HF := hide (((((((((((HB.out.setCell (p := ⟨b0, 0, none⟩) hw0 (.int .i64 0)).setCell (p := ⟨b0, 1, none⟩) hw0 (.int .i64 0)).setCell (p := ⟨b0, 2, none⟩) hw0 (.int .i64 0)).setCell (p := ⟨b0, 3, none⟩) hw0 (.int .i64 0)).setCell (p := ⟨b0, 4, none⟩) hw0 (.int .i64 0)).setCell (p := ⟨b0, 5, none⟩) hw0 (.int .i64 0)).setCell (p := ⟨b0, 6, none⟩) hw0 (.int .i64 0)).setCell (p := ⟨b0, 7, none⟩) hw0 (.int .i64 0)).setCell (p := ⟨b0, 8, none⟩) hw0 (.int .i64 0)).setCell (p := ⟨b0, 9, none⟩) hw0 (.int .i64 0)))
        have GF := hide (((((((((((G0.out.set 0 (.int .i64 0)).set 1 (.int .i64 0)).set 2 (.int .i64 0)).set 3 (.int .i64 0)).set 4 (.int .i64 0)).set 5 (.int .i64 0)).set 6 (.int .i64 0)).set 7 (.int .i64 0)).set 8 (.int .i64 0)).set 9 (.int .i64 0)))
        clear c0 c1 c2 c3 c4 c5 c6 c7 c8 c9 z0 z1 z2 z3 z4 z5 z6 z7 z8 z9 a0 l0 l2 G0 G2 HB
        generalize ((((((((((w5.setCell ⟨b0, 0, none⟩ (.int .i64 0)).setCell ⟨b0, 1, none⟩ (.int .i64 0)).setCell ⟨b0, 2, none⟩ (.int .i64 0)).setCell ⟨b0, 3, none⟩ (.int .i64 0)).setCell ⟨b0, 4, none⟩ (.int .i64 0)).setCell ⟨b0, 5, none⟩ (.int .i64 0)).setCell ⟨b0, 6, none⟩ (.int .i64 0)).setCell ⟨b0, 7, none⟩ (.int .i64 0)).setCell ⟨b0, 8, none⟩ (.int .i64 0)).setCell ⟨b0, 9, none⟩ (.int .i64 0)) = wF at *
        have y0 : wF.cell? ⟨b0, 0, none⟩ = some (.int .i64 0) := by rw [GF.out.cell 0]; rfl
        have y1 : wF.cell? ⟨b0, 1, none⟩ = some (.int .i64 0) := by rw [GF.out.cell 1]; rfl
        have y2 : wF.cell? ⟨b0, 2, none⟩ = some (.int .i64 0) := by rw [GF.out.cell 2]; rfl
        have y3 : wF.cell? ⟨b0, 3, none⟩ = some (.int .i64 0) := by rw [GF.out.cell 3]; rfl
        have y4 : wF.cell? ⟨b0, 4, none⟩ = some (.int .i64 0) := by rw [GF.out.cell 4]; rfl
        have y5 : wF.cell? ⟨b0, 5, none⟩ = some (.int .i64 0) := by rw [GF.out.cell 5]; rfl
        have y6 : wF.cell? ⟨b0, 6, none⟩ = some (.int .i64 0) := by rw [GF.out.cell 6]; rfl
        have y7 : wF.cell? ⟨b0, 7, none⟩ = some (.int .i64 0) := by rw [GF.out.cell 7]; rfl
        have y8 : wF.cell? ⟨b0, 8, none⟩ = some (.int .i64 0) := by rw [GF.out.cell 8]; rfl
        have y9 : wF.cell? ⟨b0, 9, none⟩ = some (.int .i64 0) := by rw [GF.out.cell 9]; rfl
        refine bodyPost_ret (v := .tuple #[.agg #[.int .i64 0, .int .i64 0, .int .i64 0, .int .i64 0, .int .i64 0, .int .i64 0, .int .i64 0, .int .i64 0, .int .i64 0, .int .i64 0], .bool false]) (by simp [results, Tryd.results10, go_sem, y0, y1, y2, y3, y4, y5, y6, y7, y8, y9]) rfl ⟨?_, HF.out⟩
        rw [HRR.out]
        rfl
end Go.Proofs.YtflicklgmhgpiaaDoor.P5
