/- The contracts of the specification's chapter 4: l04Cut, ChainOf, l04Few, SecretOf, LeafKey; conditions: a text is at most 2^20 bytes long, numbers are ints. -/
import Derived.Test.YtmjpdccfdaajmaaDoorSgnP
import Derived.Test.YtmjpdccfdaajmaaDoorShaH
import Derived.Test.YtmjpdccfdaajmaaDoorVar
namespace Go.Proofs.YtmjpdccfdaajmaaDoor.P4
set_option maxRecDepth 8000
open Go.RowKit P1 P3

theorem cutV8 (t : List UInt8) : cutV t 8 = cut8 t := by
  unfold cutV cut8
  rw [if_pos (by decide)]
  rfl

set_option maxHeartbeats 400000 in
theorem cut_calls (t : List UInt8) (ht : t.length ≤ 1048577) (w : World) :
    Calls Tryd.prog 55 #[.string ⟨t.toArray⟩] w fun e w' => e = .returned (.string ⟨(cut8 t).toArray⟩) ∧ Below w.heap.size w w' := by
  have H := hide (fun wx => specCut_calls t ht 8 wx)
  simp only [cutV8] at H
  generalize cut8 t = c at *
  go_enter Tryd.func55, Tryd.ntmps55
  go_wp2_with fail
  refine (H.out _).mono ?_
  rintro e w1 ⟨rfl, hb⟩
  go_wp2_with fail
  go_ret
  exact ⟨rfl, hb⟩

set_option maxHeartbeats 1000000 in
theorem specChain_calls (t : List UInt8) (ht : t.length ≤ 1048576) (n : Int) (w : World) :
    Calls Tryd.prog 17 #[.string ⟨t.toArray⟩, .int .i64 n] w fun e w' => e = .returned (.string ⟨(chainV t n).toArray⟩) ∧ Below w.heap.size w w' := by
  obtain ⟨c, Ec⟩ : ∃ c, Hid (c = chainV t n) := ⟨_, rfl⟩
  rw [← Ec.out]
  go_enter Tryd.func17, Tryd.ntmps17
  go_wp2_with fail
  go_loopw [0, 5] (fun v i wr => ∃ k : Nat, k ≤ 3 ∧ k ≤ n.toNat ∧ i = .int .i64 k ∧ v = .string ⟨(chain k t).toArray⟩ ∧ Below w.heap.size w wr) (fun _ i _ => 3 - (intOf i).toNat)
  case atStart => exact ⟨0, by omega, by omega, rfl, rfl, Below.refl _ _⟩
  case round =>
    obtain ⟨k, hk, hkn, rfl, rfl, hb⟩ := hrel
    have HB := hide hb
    clear hb
    have hlen := chain_le k t
    by_cases hlt : (k : Int) < n
    · have hd1 : decide ((k : Int) < n) = true := by simpa using hlt
      by_cases h3 : k < 3
      · have hd2 : decide ((k : Int) < 3) = true := by simp; omega
        have HC := hide (fun wx => cut_calls (99 :: chain k t) (by rw [List.length_cons]; omega) wx)
        have HN : Hid (chain (k + 1) t = cut8 (99 :: chain k t)) := rfl
        rw [← HN.out] at HC
        have hcat : (⟨#[99]⟩ : ByteArray) ++ ⟨(chain k t).toArray⟩ = ⟨(99 :: chain k t).toArray⟩ := ByteArray.mk_append_mk [99] (chain k t)
        obtain ⟨c1, E1⟩ : ∃ c1, Hid (c1 = chain (k + 1) t) := ⟨_, rfl⟩
        obtain ⟨c2, E2⟩ : ∃ c2, Hid (c2 = 99 :: chain k t) := ⟨_, rfl⟩
        obtain ⟨c0, E0⟩ : ∃ c0, Hid (c0 = chain k t) := ⟨_, rfl⟩
        rw [← E1.out, ← E2.out] at HC
        rw [← E2.out, ← E0.out] at hcat
        rw [← E0.out] at hlen ⊢
        clear HN E0 E2
        go_wp2_with fail
        refine (HC.out _).mono ?_
        rintro e w1 ⟨rfl, hb1⟩
        have HB1 := hide (HB.out.trans (hb1.mono HB.out.size))
        clear hb1
        go_wp2_with fail
        go_roundw
        case rel => exact ⟨k + 1, by omega, by omega, by go_num, by rw [E1.out], HB1.out⟩
        case measure => simp [intOf]; omega
      · have hd2 : decide ((k : Int) < 3) = false := by simp; omega
        have hce : c = chain k t := by rw [Ec.out, chainV]; congr 1; omega
        rw [← hce]
        clear hce
        go_wp2_with fail
        go_ret
        exact ⟨rfl, HB.out⟩
    · have hd1 : decide ((k : Int) < n) = false := by simpa using hlt
      have hce : c = chain k t := by rw [Ec.out, chainV]; congr 1; omega
      rw [← hce]
      clear hce
      go_wp2_with fail
      go_ret
      exact ⟨rfl, HB.out⟩

theorem few_calls (n : Int) (w : World) : Calls Tryd.prog 68 #[.int .i64 n] w fun e w' => e = .returned (.bool (decide (few n))) ∧ w' = w := by
  go_enter Tryd.func68, Tryd.ntmps68
  go_wp2_with fail
  refine (inD_calls _ _ _ _).mono ?_
  rintro e w1 ⟨rfl, rfl⟩
  go_wp2_with fail
  go_ret
  refine ⟨congrArg (fun z => Ending.returned (.bool z)) ?_, rfl⟩
  by_cases h : few n
  · rw [decide_eq_true h, decide_eq_true h.1, decide_eq_true h.2]; rfl
  · rw [decide_eq_false h]
    by_cases h1 : 0 ≤ n
    · rw [decide_eq_true h1, decide_eq_false (fun h2 => h ⟨h1, h2⟩)]; rfl
    · rw [decide_eq_false h1]; rfl

set_option maxHeartbeats 1000000 in
theorem specSecret_calls (seed leaf i : Int) (w : World) :
    Calls Tryd.prog 32 #[.int .i64 seed, .int .i64 leaf, .int .i64 i] w fun e w' => e = .returned (.string ⟨(secret seed leaf i).toArray⟩) ∧ Below w.heap.size w w' := by
  by_cases h1 : few seed
  · have d1 : decide (few seed) = true := by simpa using h1
    by_cases h2 : few leaf
    · have d2 : decide (few leaf) = true := by simpa using h2
      by_cases h3 : few i
      · have d3 : decide (few i) = true := by simpa using h3
        have HS : Hid (secret seed leaf i = cut8 (115 :: (varB 4 seed.toNat ++ varB 4 leaf.toNat ++ varB 4 i.toNat))) := by
          show secret seed leaf i = _
          unfold secret
          rw [if_pos ⟨h1, h2, h3⟩]
        obtain ⟨a, rfl⟩ := Int.eq_ofNat_of_zero_le h1.1
        obtain ⟨b, rfl⟩ := Int.eq_ofNat_of_zero_le h2.1
        obtain ⟨c, rfl⟩ := Int.eq_ofNat_of_zero_le h3.1
        have ha : a ≤ 1000000 := by have := h1.2; omega
        have hb : b ≤ 1000000 := by have := h2.2; omega
        have hc : c ≤ 1000000 := by have := h3.2; omega
        simp only [Int.toNat_natCast] at HS
        obtain ⟨sv, Es⟩ : ∃ sv, Hid (sv = secret (a : Int) (b : Int) (c : Int)) := ⟨_, rfl⟩
        rw [← Es.out] at HS ⊢
        have la := (varB_length 4 a).2
        have lb := (varB_length 4 b).2
        have lc := (varB_length 4 c).2
        have Ha := hide (fun wx => l01Var_calls a (by omega) wx)
        have Hb := hide (fun wx => l01Var_calls b (by omega) wx)
        have Hc := hide (fun wx => l01Var_calls c (by omega) wx)
        generalize varB 4 a = va at *
        generalize varB 4 b = vb at *
        generalize varB 4 c = vc at *
        have e1 : (⟨#[115]⟩ : ByteArray) ++ ⟨va.toArray⟩ = ⟨(115 :: va).toArray⟩ := ByteArray.mk_append_mk [115] va
        have e2 : (⟨(115 :: va).toArray⟩ : ByteArray) ++ ⟨vb.toArray⟩ = ⟨(115 :: va ++ vb).toArray⟩ := ByteArray.mk_append_mk _ _
        have e3 : (⟨(115 :: va ++ vb).toArray⟩ : ByteArray) ++ ⟨vc.toArray⟩ = ⟨(115 :: (va ++ vb ++ vc)).toArray⟩ := by rw [ByteArray.mk_append_mk]; simp
        have HC := hide (fun wx => cut_calls (115 :: (va ++ vb ++ vc)) (by simp; omega) wx)
        rw [← HS.out] at HC
        have l1 : (115 :: va).length = va.length + 1 := rfl
        have l2 : (115 :: va ++ vb).length = va.length + 1 + vb.length := by simp; omega
        have l3 : (115 :: (va ++ vb ++ vc)).length = va.length + vb.length + vc.length + 1 := by simp; omega
        generalize 115 :: va = t1 at *
        generalize t1 ++ vb = t2 at *
        generalize 115 :: (va ++ vb ++ vc) = t3 at *
        clear h1 h2 h3 HS Es
        go_enter Tryd.func32, Tryd.ntmps32
        go_wp2_with fail
        refine (few_calls _ _).mono ?_
        rintro e w1 ⟨rfl, rfl⟩
        rw [d1]
        go_wp2_with fail
        refine (few_calls _ _).mono ?_
        rintro e w1 ⟨rfl, rfl⟩
        rw [d2]
        go_wp2_with fail
        refine (few_calls _ _).mono ?_
        rintro e w1 ⟨rfl, rfl⟩
        rw [d3]
        clear d1 d2 d3
        go_wp2_with fail
        refine (Ha.out _).mono ?_
        rintro e w2 ⟨rfl, hb2⟩
        go_wp2_with fail
        refine (Hb.out _).mono ?_
        rintro e w3 ⟨rfl, hb3⟩
        have HB3 := hide (hb2.trans (hb3.mono hb2.size))
        clear hb2 hb3
        go_wp2_with fail
        refine (Hc.out _).mono ?_
        rintro e w4 ⟨rfl, hb4⟩
        have HB4 := hide (HB3.out.trans (hb4.mono HB3.out.size))
        clear hb4 HB3
        go_wp2_with fail
        refine (HC.out _).mono ?_
        rintro e w5 ⟨rfl, hb5⟩
        have HB5 := hide (HB4.out.trans (hb5.mono HB4.out.size))
        clear hb5 HB4
        go_wp2_with fail
        go_ret
        exact ⟨rfl, HB5.out⟩
      · have d3 : decide (few i) = false := by simpa using h3
        have HS : Hid (secret seed leaf i = []) := by
          show secret seed leaf i = _
          unfold secret
          rw [if_neg (fun h => h3 h.2.2)]
        clear h1 h2 h3
        go_enter Tryd.func32, Tryd.ntmps32
        go_wp2_with fail
        refine (few_calls _ _).mono ?_
        rintro e w1 ⟨rfl, rfl⟩
        rw [d1]
        go_wp2_with fail
        refine (few_calls _ _).mono ?_
        rintro e w1 ⟨rfl, rfl⟩
        rw [d2]
        go_wp2_with fail
        refine (few_calls _ _).mono ?_
        rintro e w1 ⟨rfl, rfl⟩
        rw [d3]
        go_wp2_with fail
        go_ret
        exact ⟨by rw [HS.out]; rfl, Below.refl _ _⟩
    · have d2 : decide (few leaf) = false := by simpa using h2
      have HS : Hid (secret seed leaf i = []) := by
        show secret seed leaf i = _
        unfold secret
        rw [if_neg (fun h => h2 h.2.1)]
      clear h1 h2
      go_enter Tryd.func32, Tryd.ntmps32
      go_wp2_with fail
      refine (few_calls _ _).mono ?_
      rintro e w1 ⟨rfl, rfl⟩
      rw [d1]
      go_wp2_with fail
      refine (few_calls _ _).mono ?_
      rintro e w1 ⟨rfl, rfl⟩
      rw [d2]
      go_wp2_with fail
      go_ret
      exact ⟨by rw [HS.out]; rfl, Below.refl _ _⟩
  · have d1 : decide (few seed) = false := by simpa using h1
    have HS : Hid (secret seed leaf i = []) := by
      show secret seed leaf i = _
      unfold secret
      rw [if_neg (fun h => h1 h.1)]
    clear h1
    go_enter Tryd.func32, Tryd.ntmps32
    go_wp2_with fail
    refine (few_calls _ _).mono ?_
    rintro e w1 ⟨rfl, rfl⟩
    rw [d1]
    go_wp2_with fail
    go_ret
    exact ⟨by rw [HS.out]; rfl, Below.refl _ _⟩

set_option maxHeartbeats 1000000 in
theorem specLeafKey_calls (seed leaf : Int) (w : World) :
    Calls Tryd.prog 23 #[.int .i64 seed, .int .i64 leaf] w fun e w' => e = .returned (.string ⟨(leafKey seed leaf).toArray⟩) ∧ Below w.heap.size w w' := by
  have HL : Hid (leafKey seed leaf = cut8 (leafText seed leaf 11)) := rfl
  obtain ⟨lk, EL⟩ : ∃ lk, Hid (lk = leafKey seed leaf) := ⟨_, rfl⟩
  rw [← EL.out] at HL ⊢
  clear EL
  go_enter Tryd.func23, Tryd.ntmps23
  go_wp2_with fail
  go_loopw [5, 6] (fun v i wr => ∃ k : Nat, k ≤ 11 ∧ i = .int .i64 k ∧ v = .string ⟨(leafText seed leaf k).toArray⟩ ∧ Below w.heap.size w wr) (fun _ i _ => 11 - (intOf i).toNat)
  case atStart => exact ⟨0, by omega, rfl, rfl, Below.refl _ _⟩
  case round =>
    obtain ⟨k, hk, rfl, rfl, hb⟩ := hrel
    have HB := hide hb
    clear hb
    by_cases hlt : k < 11
    · have hsl := secret_length seed leaf k
      have HN : Hid (leafText seed leaf (k + 1) = leafText seed leaf k ++ chain 3 (secret seed leaf k)) := rfl
      have h1 := leafText_length seed leaf k
      have HS := hide (fun wx => specSecret_calls seed leaf k wx)
      obtain ⟨s, Es⟩ : ∃ s, Hid (s = secret seed leaf k) := ⟨_, rfl⟩
      rw [← Es.out] at HN hsl
      simp only [← Es.out] at HS
      clear Es
      have hc8 := chain_length 3 s (by decide)
      have HC := hide (fun wx => specChain_calls s (by omega) 3 wx)
      simp only [show chainV s 3 = chain 3 s from rfl] at HC
      obtain ⟨c, Ec⟩ : ∃ c, Hid (c = chain 3 s) := ⟨_, rfl⟩
      rw [← Ec.out] at HN hc8
      simp only [← Ec.out] at HC
      obtain ⟨t1, E1⟩ : ∃ t1, Hid (t1 = leafText seed leaf (k + 1)) := ⟨_, rfl⟩
      obtain ⟨t0, E0⟩ : ∃ t0, Hid (t0 = leafText seed leaf k) := ⟨_, rfl⟩
      rw [← E0.out] at HN h1 ⊢
      rw [← E1.out] at HN
      have hcat : (⟨t0.toArray⟩ : ByteArray) ++ ⟨c.toArray⟩ = ⟨t1.toArray⟩ := by rw [ByteArray.mk_append_mk, HN.out]
      have hl1 : t1.length = 1 + 8 * k + 8 := by rw [HN.out, List.length_append, h1, hc8]
      clear HN Ec E0
      go_wp2_with fail
      refine (HS.out _).mono ?_
      rintro e w1 ⟨rfl, hb1⟩
      have HB1 := hide (HB.out.trans (hb1.mono HB.out.size))
      clear hb1
      go_wp2_with fail
      refine (HC.out _).mono ?_
      rintro e w2 ⟨rfl, hb2⟩
      have HB2 := hide (HB1.out.trans (hb2.mono HB1.out.size))
      clear hb2
      go_wp2_with fail
      go_roundw
      case rel => exact ⟨k + 1, by omega, by go_num, by rw [← E1.out], HB2.out⟩
      case measure => simp [intOf]; omega
    · have hk11 : k = 11 := by omega
      have h1 := leafText_length seed leaf 11
      have HC := hide (fun wx => cut_calls (leafText seed leaf 11) (by omega) wx)
      rw [← HL.out] at HC
      rw [hk11]
      generalize leafText seed leaf 11 = tt at *
      clear hk11
      go_wp2_with fail
      refine (HC.out _).mono ?_
      rintro e w1 ⟨rfl, hb1⟩
      have HB1 := hide (HB.out.trans (hb1.mono HB.out.size))
      clear hb1
      go_wp2_with fail
      go_ret
      exact ⟨rfl, HB1.out⟩
end Go.Proofs.YtmjpdccfdaajmaaDoor.P4
