/- The contracts of the program's ChainOf, SecretOf and nodeOf; conditions: a text is at most 2^20 bytes long, numbers are ints, the listed tables hold what their text lays. -/
import Derived.Test.YtmjpdccfdaajmaaDoorSgnP
import Derived.Test.YtmjpdccfdaajmaaDoorShaHI
import Derived.Test.YtmjpdccfdaajmaaDoorSgn1
import Derived.Test.YtmjpdccfdaajmaaDoorVar
import Derived.Test.YtmjpdccfdaajmaaDoorClone
namespace Go.Proofs.YtmjpdccfdaajmaaDoor.P4
set_option maxRecDepth 8000
open Go.RowKit P1 P3

/-- impl.CutDigest at eight. -/
theorem icut_calls (t : List UInt8) (ht : t.length ≤ 1048577) (w : World) (hG : Glo w) :
    Calls Tryd.prog 57 #[.string ⟨t.toArray⟩, .int .i64 8] w fun e w' => e = .returned (.string ⟨(cut8 t).toArray⟩) ∧ Below w.heap.size w w' := by
  have h := implCut_calls t ht 8 w hG
  rw [cutV8] at h
  exact h

set_option maxHeartbeats 1000000 in
theorem implChain_calls (t : List UInt8) (ht : t.length ≤ 1048576) (n : Int) (w : World) (hG : Glo w) :
    Calls Tryd.prog 31 #[.string ⟨t.toArray⟩, .int .i64 n] w fun e w' => e = .returned (.string ⟨(chainV t n).toArray⟩) ∧ Below w.heap.size w w' := by
  obtain ⟨m, hm⟩ : ∃ m : Nat, m = min 3 n.toNat := ⟨_, rfl⟩
  have HC : Hid (chainV t n = chain m t) := by show chainV t n = _; rw [hm]; rfl
  rw [HC.out]
  clear HC
  have hm3 : m ≤ 3 := by omega
  have hmin : min (max n 0) 3 = (m : Int) := by omega
  have HMN := hide hmin
  have HG := hide hG
  have hsz : (⟨t.toArray⟩ : ByteArray).size ≤ 281474976710656 := by show t.length ≤ _; omega
  have HCL := hide (fun wx => clone_calls ⟨t.toArray⟩ wx hsz)
  clear hG hm hmin hsz
  go_enter Tryd.func31, Tryd.ntmps31
  go_wp2_with fail
  refine (HCL.out _).mono ?_
  rintro e w1 ⟨rfl, hb1⟩
  have HG1 := hide (HG.out.below hb1)
  have HB1 := hide hb1
  clear hb1 HCL HG
  go_wp2_with fail
  rw [HMN.out]
  go_loopw [5, 11] (fun v i wr => ∃ k : Nat, k ≤ m ∧ i = .int .i64 k ∧ v = .string ⟨(chain k t).toArray⟩ ∧ Glo wr ∧ Below w.heap.size w wr) (fun _ i _ => m - (intOf i).toNat)
  case atStart => exact ⟨0, by omega, rfl, rfl, HG1.out, HB1.out⟩
  case round =>
    clear HG1 HB1 HMN
    obtain ⟨k, hk, rfl, rfl, hg, hb⟩ := hrel
    have HB := hide hb
    have HG := hide hg
    clear hb hg
    have hlen := chain_le k t
    by_cases hlt : k < m
    · have hd1 : decide ((k : Int) < (m : Int)) = true := by simp; omega
      have HC := hide (fun wx hg => icut_calls (99 :: chain k t) (by rw [List.length_cons]; omega) wx hg)
      have HN : Hid (chain (k + 1) t = cut8 (99 :: chain k t)) := rfl
      rw [← HN.out] at HC
      have hcat : (⟨#[99]⟩ : ByteArray) ++ ⟨(chain k t).toArray⟩ = ⟨(99 :: chain k t).toArray⟩ := ByteArray.mk_append_mk [99] (chain k t)
      obtain ⟨c1, E1⟩ : ∃ c1, Hid (c1 = chain (k + 1) t) := ⟨_, rfl⟩
      obtain ⟨c2, E2⟩ : ∃ c2, Hid (c2 = 99 :: chain k t) := ⟨_, rfl⟩
      obtain ⟨c0, E0⟩ : ∃ c0, Hid (c0 = chain k t) := ⟨_, rfl⟩
      rw [← E1.out, ← E2.out] at HC
      rw [← E2.out, ← E0.out] at hcat
      rw [← E0.out] at hlen ⊢
      clear HN E0 E2
      go_wp2_with fail
      refine (HC.out _ HG.out).mono ?_
      rintro e w2 ⟨rfl, hb2⟩
      have HB2 := hide (HB.out.trans (hb2.mono HB.out.size))
      have HG2 := hide (HG.out.below hb2)
      clear hb2 HG
      go_wp2_with fail
      go_roundw
      case rel => exact ⟨k + 1, by omega, by go_num, by rw [E1.out], HG2.out, HB2.out⟩
      case measure => simp [intOf]; omega
    · have hd1 : decide ((k : Int) < (m : Int)) = false := by simp; omega
      have HKM : Hid (k = m) := by show k = m; omega
      go_wp2_with fail
      go_ret
      exact ⟨by rw [← HKM.out]; rfl, HB.out⟩

theorem varText_few (n : Int) (h : few n) : varText n = (varB 4 n.toNat, true) := by
  unfold varText
  rw [if_pos ⟨h.1, by have := h.2; omega⟩]

/-- A secret's text behind so many numbers. -/
def secText (l : List Int) : Nat → List UInt8
  | 0 => [115]
  | k + 1 => secText l k ++ varB 4 (l.getD k 0).toNat

theorem secText_le (l : List Int) (k : Nat) : (secText l k).length ≤ 1 + 5 * k := by
  induction k with
  | zero => simp [secText]
  | succ k ih =>
    have := (varB_length 4 (l.getD k 0).toNat).2
    rw [secText, List.length_append]
    omega

theorem secret_yes (a b c : Int) (h : ∀ k, k < 3 → few ([a, b, c].getD k 0)) : secret a b c = cut8 (secText [a, b, c] 3) := by
  unfold secret
  rw [if_pos ⟨h 0 (by omega), h 1 (by omega), h 2 (by omega)⟩]
  simp [secText]

theorem secret_no (a b c : Int) (k : Nat) (hk : k < 3) (h : ¬ few ([a, b, c].getD k 0)) : secret a b c = [] := by
  unfold secret
  rw [if_neg]
  rintro ⟨h0, h1, h2⟩
  have hk' : k = 0 ∨ k = 1 ∨ k = 2 := by omega
  rcases hk' with rfl | rfl | rfl
  · exact h h0
  · exact h h1
  · exact h h2

theorem arrI3 : Tryd.prog.underlying 73 = some (.array 3 3) := by kernel_rfl

theorem index_three (a b c : Int) (k : Nat) (hk : k < 3) (wx : World) : (Instr.index 73 (.agg #[.int .i64 a, .int .i64 b, .int .i64 c]) (.int .i64 k)).run Tryd.prog wx = .ok (.int .i64 ([a, b, c].getD k 0)) wx := by
  have hk' : k = 0 ∨ k = 1 ∨ k = 2 := by omega
  unfold Instr.index
  simp [asIntOf, run_underlying arrI3, Tryd.sizeOf3]
  rw [if_pos hk]
  unfold part
  rcases hk' with rfl | rfl | rfl <;> simp [Tryd.isAgg3]

set_option maxHeartbeats 1000000 in
theorem implSecret_calls (a b c : Int) (w : World) (hG : Glo w) :
    Calls Tryd.prog 18 #[.int .i64 a, .int .i64 b, .int .i64 c] w fun e w' => e = .returned (.string ⟨(secret a b c).toArray⟩) ∧ Below w.heap.size w w' := by
  have HIX := hide (fun k hk wx => index_three a b c k hk wx)
  have HY := hide (fun h => secret_yes a b c h)
  have HNO := hide (fun k hk h => secret_no a b c k hk h)
  obtain ⟨l, El⟩ : ∃ l, Hid (l = [a, b, c]) := ⟨_, rfl⟩
  simp only [← El.out] at HIX HY HNO
  obtain ⟨sv, Es⟩ : ∃ sv, Hid (sv = secret a b c) := ⟨_, rfl⟩
  simp only [← Es.out] at HY HNO ⊢
  have HG := hide hG
  clear El Es hG
  go_enter Tryd.func18, Tryd.ntmps18
  go_wp2_with fail
  go_loopw [7, 16] (fun v i wr => ∃ k : Nat, k ≤ 3 ∧ i = .int .i64 k ∧ v = .string ⟨(secText l k).toArray⟩ ∧ (∀ j, j < k → few (l.getD j 0)) ∧ Glo wr ∧ Below w.heap.size w wr) (fun _ i _ => 3 - (intOf i).toNat)
  case atStart => exact ⟨0, by omega, rfl, rfl, fun j hj => by omega, HG.out, Below.refl _ _⟩
  case round =>
    clear HG
    obtain ⟨k, hk, rfl, rfl, hf, hg, hb⟩ := hrel
    have HB := hide hb
    have HG := hide hg
    have HF := hide hf
    clear hb hg hf
    have hlen := secText_le l k
    by_cases hlt : k < 3
    · have hd1 : decide ((k : Int) < 3) = true := by simp; omega
      have hix := HIX.out k hlt
      have HSN : Hid (secText l (k + 1) = secText l k ++ varB 4 (l.getD k 0).toNat) := rfl
      have HNK := hide (HNO.out k hlt)
      have HFN : Hid (few (l.getD k 0) → ∀ j, j < k + 1 → few (l.getD j 0)) := fun h j hj => by
        by_cases hjk : j = k
        · rw [hjk]; exact h
        · exact HF.out j (by omega)
      obtain ⟨x, Ex⟩ : ∃ x, Hid (x = l.getD k 0) := ⟨_, rfl⟩
      simp only [← Ex.out] at hix HSN HNK HFN
      clear Ex HF
      by_cases hx : few x
      · have h0 : ¬ x < 0 := by have := hx.1; omega
        have h1 : ¬ 1000000 < x := by have := hx.2; omega
        have HV := hide (fun wx => implVarText_calls x wx)
        rw [varText_few x hx] at HV
        have HFF := hide (HFN.out hx)
        have lv := (varB_length 4 x.toNat).2
        generalize varB 4 x.toNat = vx at *
        obtain ⟨c1, E1⟩ : ∃ c1, Hid (c1 = secText l (k + 1)) := ⟨_, rfl⟩
        obtain ⟨c0, E0⟩ : ∃ c0, Hid (c0 = secText l k) := ⟨_, rfl⟩
        rw [← E1.out, ← E0.out] at HSN
        rw [← E0.out] at hlen ⊢
        have hcat : (⟨c0.toArray⟩ : ByteArray) ++ ⟨vx.toArray⟩ = ⟨c1.toArray⟩ := by rw [ByteArray.mk_append_mk, HSN.out]
        have hl1 : c1.length = c0.length + vx.length := by rw [HSN.out, List.length_append]
        clear HSN E0 hx HNK HFN
        go_wp2_with fail
        refine (HV.out _).mono ?_
        rintro e w2 ⟨rfl, hb2⟩
        have HB2 := hide (HB.out.trans (hb2.mono HB.out.size))
        have HG2 := hide (HG.out.below hb2)
        clear hb2 HG hix
        go_wp2_with fail
        go_roundw
        case rel => exact ⟨k + 1, by omega, by go_num, by rw [E1.out], HFF.out, HG2.out, HB2.out⟩
        case measure => simp [intOf]; omega
      · have HS0 := hide (HNK.out hx)
        have hor : x < 0 ∨ 1000000 < x := by unfold few at hx; omega
        clear hx HNK HFN HSN
        rcases hor with h0 | h0
        · go_wp2_with fail
          go_ret
          exact ⟨by rw [HS0.out]; rfl, HB.out⟩
        · have h1 : ¬ x < 0 := by omega
          go_wp2_with fail
          go_ret
          exact ⟨by rw [HS0.out]; rfl, HB.out⟩
    · have hk3 : k = 3 := by omega
      have hd1 : decide ((k : Int) < 3) = false := by simp; omega
      rw [hk3] at HF hlen ⊢
      have HS := hide (HY.out HF.out)
      have HC := hide (fun wx hg => icut_calls (secText l 3) (by omega) wx hg)
      rw [← HS.out] at HC
      generalize secText l 3 = tt at *
      clear HF HS hk3
      go_wp2_with fail
      refine (HC.out _ HG.out).mono ?_
      rintro e w2 ⟨rfl, hb2⟩
      have HB2 := hide (HB.out.trans (hb2.mono HB.out.size))
      clear hb2
      go_wp2_with fail
      go_ret
      exact ⟨rfl, HB2.out⟩

set_option maxHeartbeats 400000 in
theorem node_calls (x y : List UInt8) (hx : x.length ≤ 1000) (hy : y.length ≤ 1000) (w : World) (hG : Glo w) :
    Calls Tryd.prog 62 #[.string ⟨x.toArray⟩, .string ⟨y.toArray⟩] w fun e w' => e = .returned (.string ⟨(node x y).toArray⟩) ∧ Below w.heap.size w w' := by
  have HCT := hide (icut_calls (110 :: (x ++ y)) (by simp; omega) w hG)
  have e1 : (⟨#[110]⟩ : ByteArray) ++ ⟨x.toArray⟩ = ⟨(110 :: x).toArray⟩ := ByteArray.mk_append_mk [110] _
  have e2 : (⟨(110 :: x).toArray⟩ : ByteArray) ++ ⟨y.toArray⟩ = ⟨(110 :: (x ++ y)).toArray⟩ := by rw [ByteArray.mk_append_mk]; simp
  have s1 : (110 :: x).length = x.length + 1 := by simp
  have s2 : (110 :: (x ++ y)).length = x.length + y.length + 1 := by simp
  rw [show cut8 (110 :: (x ++ y)) = node x y from rfl] at HCT
  generalize node x y = c1 at *
  generalize 110 :: (x ++ y) = t2 at *
  generalize 110 :: x = t1 at *
  clear hG
  go_enter Tryd.func62, Tryd.ntmps62
  go_wp2_with fail
  refine HCT.out.mono ?_
  rintro e w5 ⟨rfl, hb5⟩
  go_wp2_with fail
  go_ret
  exact ⟨rfl, hb5⟩
end Go.Proofs.YtmjpdccfdaajmaaDoor.P4
