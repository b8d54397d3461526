/- The contract of impl.ReadDecimal: what chapter 1 tells of decimal figures; conditions: the text is at most 2^20 bytes long, and the library's table of powers of ten holds what its text lays. -/
import Derived.Test.YtknlhejpcjpeeaaDoorItoI
import Derived.Test.YtknlhejpcjpeeaaDoorRdS
import Derived.Test.YtknlhejpcjpeeaaDoorFigD
import Derived.WalkKit
namespace Go.Proofs.YtknlhejpcjpeeaaDoor.P1
set_option maxRecDepth 8000
open Go.RowKit

theorem itoa_max : (Lib.itoa 1000000000).length = 10 := by
  have e : Lib.itoa 1000000000 = Lib.decDigits 1000000000 := itoa_nat 1000000000
  rw [e, Lib.decDigits_length]
  exact Lib.nDigits_unique 9 1000000000 (by decide) (by decide)

theorem readDec_empty {l : List UInt8} (h : l = []) : readDec l = (0, false) := by
  subst h
  refine readDec_no ?_
  rintro ⟨_, _, _, h4⟩
  exact absurd rfl ((dec_num 0 [] rfl (by intro c hc; cases hc)).1 h4).1

theorem readDec_nought {l : List UInt8} (h0 : 1 < l.length) (hc : (l[0]'(by omega)).toNat = 48) : readDec l = (0, false) := by
  refine readDec_no ?_
  rintro ⟨_, h2, _, h4⟩
  have := (dec_num l.length l rfl (allD_of_full l h2)).1 h4
  refine this.2 ⟨?_, h0⟩
  rw [List.head?_eq_getElem?, List.getElem?_eq_getElem (by omega)]
  simp [hc]

theorem readDec_of {l : List UInt8} (h1 : 1 ≤ l.length) (h2 : l.length ≤ 10) (hc : ¬ ((l[0]'(by omega)).toNat = 48 ∧ 1 < l.length)) :
    readDec l = if (figs 10 l).length = l.length ∧ numF (figs 10 l) ≤ 1000000000 then (numF (figs 10 l), true) else (0, false) := by
  by_cases hf : (figs 10 l).length = l.length
  · have hd : Lib.decDigits (num l) = l := by
      refine (dec_num l.length l rfl (allD_of_full l hf)).2 ⟨by intro e; subst e; simp at h1, ?_⟩
      rintro ⟨h3, h4⟩
      rw [List.head?_eq_getElem?, List.getElem?_eq_getElem (by omega)] at h3
      exact hc ⟨by simpa using h3, h4⟩
    by_cases hn : numF (figs 10 l) ≤ 1000000000
    · rw [if_pos ⟨hf, hn⟩]; exact readDec_yes ⟨h2, hf, hn, hd⟩
    · rw [if_neg (fun h => hn h.2)]; exact readDec_no (fun h => hn h.2.2.1)
  · rw [if_neg (fun h => hf h.1)]; exact readDec_no (fun h => hf h.2.1)

set_option maxHeartbeats 1000000 in
theorem implReadDecimal_calls (s : ByteArray) (hs : s.size ≤ 1048576) (w : World) (ht : Pow10 w) :
    Calls Tryd.prog 8 #[.string s] w fun e w' => e = .returned (rdV (readDec s.data.toList)) ∧ Below w.heap.size w w' := by
  have hlen : s.data.toList.length = s.size := Array.length_toList
  have Ht := hide ht
  clear ht
  by_cases h0 : s.size = 0
  · have hnil : s.data.toList = [] := List.eq_nil_of_length_eq_zero (by omega)
    have Ha := hide (readDec_empty hnil)
    have hem : s.toList.isEmpty = true := by rw [ByteArray.toList_eq, hnil]; rfl
    clear hnil hlen h0
    go_enter Tryd.func8, Tryd.ntmps8
    go_wp2
    go_ret2
    exact ⟨by rw [Ha.out]; rfl, Below.refl _ _⟩
  · have hem : s.toList.isEmpty = false := by
      rw [ByteArray.toList_eq]
      cases hl : s.data.toList with
      | nil => rw [hl] at hlen; simp at hlen; omega
      | cons _ _ => rfl
    have hpos : 0 < s.size := by omega
    obtain ⟨m, Hm⟩ : ∃ m, Hid (m = Lib.itoa 1000000000) := ⟨_, hide rfl⟩
    have hml : m.length = 10 := by rw [Hm.out]; exact itoa_max
    have Hml := hide hml
    clear hml
    by_cases h10 : s.size ≤ 10
    · have Hl := hide hlen
      by_cases hz : (s[0]'hpos).toNat = 48 ∧ 1 < s.size
      · have Ha := hide (readDec_nought (l := s.data.toList) (by rw [hlen]; exact hz.2) hz.1)
        obtain ⟨hz1, hz2⟩ := hz
        clear hlen h0
        go_enter Tryd.func8, Tryd.ntmps8
        go_wp2_with fail
        refine (implDecimal_calls 1000000000 (by decide) (by decide) _ Ht.out).mono ?_
        rintro e w1 ⟨rfl, hb1⟩
        rw [← Hm.out]
        have hml := Hml.out
        go_wp2
        go_ret2
        exact ⟨by rw [Ha.out]; rfl, hb1⟩
      · have Hof := hide (readDec_of (l := s.data.toList) (by rw [hlen]; omega) (by rw [hlen]; exact h10) (fun h => hz ⟨h.1, by have := h.2; omega⟩))
        have Hsm := hide (figs_small s.data.toList)
        have hcase : ((s[0]'hpos).toNat = 48 ∧ s.size = 1) ∨ ¬ (s[0]'hpos).toNat = 48 := by omega
        clear hlen h0 hz
        rcases hcase with ⟨hz1, hz2⟩ | hz1
        all_goals
          go_enter Tryd.func8, Tryd.ntmps8
          go_wp2_with fail
          refine (implDecimal_calls 1000000000 (by decide) (by decide) _ Ht.out).mono ?_
          rintro e w1 ⟨rfl, hb1⟩
          rw [← Hm.out]
          have hml := Hml.out
          go_wp2_with fail
          refine (figuresTen_calls s hs _).mono ?_
          rintro e w2 ⟨v, rfl, hown, hb2⟩
          have hbel := hb1.trans (hb2.mono hb1.size)
          clear hml hb1
          have hfl := figs_len 10 s.data.toList
          rw [Hl.out] at hfl
          obtain ⟨F, HF⟩ : ∃ F, Hid (F = figs 10 s.data.toList) := ⟨_, hide rfl⟩
          rw [← HF.out] at hown hfl ⊢
          rcases hown.2 with ⟨rfl, hF0⟩ | ⟨g, cap, cur, rfl, -⟩
          · have hok : decide (F.length = s.size) = false := by simp; omega
            rw [hok]
            have Ha : Hid (readDec s.data.toList = (0, false)) := by rw [Hof.out, if_neg (by rw [← HF.out, Hl.out]; omega)]; exact hide rfl
            clear hok hown
            go_wp2
            go_loop [6, 33] (fun n i => n = .int .i64 0 ∧ i = .int .i64 0) (fun _ _ => 0)
            case atStart => exact ⟨rfl, rfl⟩
            case round =>
              obtain ⟨rfl, rfl⟩ := hrel
              go_wp2
              go_ret2
              exact ⟨by rw [Ha.out]; rfl, hbel⟩
          · obtain ⟨ok, Hok⟩ : ∃ ok, Hid (ok = decide (F.length = s.size)) := ⟨_, hide rfl⟩
            rw [← Hok.out]
            have hF10 : F.length ≤ 10 := by omega
            obtain ⟨L, HL⟩ : ∃ L, Hid (L = F.length) := ⟨_, hide rfl⟩
            rw [← HL.out] at hown hF10 ⊢
            go_wp2
            go_loop [6, 33] (fun n i => ∃ k : Nat, k ≤ L ∧ n = .int .i64 (numF (F.take k) : Int) ∧ i = .int .i64 (k : Int)) (fun _ i => L - (intOf i).toNat)
            case atStart => exact ⟨0, Nat.zero_le _, rfl, rfl⟩
            case round =>
              obtain ⟨k, hk, rfl, rfl⟩ := hrel
              have hnl := numF_lt (F.take k) (fun v hv => Hsm.out v (by rw [← HF.out]; exact List.mem_of_mem_take hv))
              have hpb := pow_bound (F.take k).length (by rw [List.length_take]; omega)
              have hnb : numF (F.take k) < 10000000000 := by omega
              clear hnl hpb
              by_cases hlt : k < L
              · have hkF : k < F.length := by rw [← HL.out]; exact hlt
                have hc : w2.cell? ⟨g, k, none⟩ = some (.int .u8 ((F[k]).toNat : Int)) := by rw [hown.cellAt k (by omega)]; simp [cellsB, hkF]
                have hv : (F[k]).toNat < 10 := Hsm.out _ (by rw [← HF.out]; exact List.getElem_mem hkF)
                have Hs : Hid (numF (F.take (k + 1)) = 10 * numF (F.take k) + (F[k]).toNat) := by rw [List.take_succ_eq_append_getElem hkF, numF_snoc]; exact hide rfl
                go_wp2
                go_round
                case rel => exact ⟨k + 1, by omega, by rw [Hs.out]; go_num, by go_num⟩
                case measure => simp [intOf]; omega
              · have htk : F.take k = F := List.take_of_length_le (by rw [← HL.out]; omega)
                rw [htk] at hnb ⊢
                have Hof2 := Hof.out
                rw [← HF.out, Hl.out] at Hof2
                obtain ⟨n, Hn⟩ : ∃ n, Hid (n = numF F) := ⟨_, hide rfl⟩
                rw [← Hn.out] at hnb Hof2 ⊢
                have HO := hide Hof2
                clear Hof2 htk hown
                cases ok with
                | false =>
                  have Ha : Hid (readDec s.data.toList = (0, false)) := by rw [HO.out, if_neg (fun h => absurd (decide_eq_true h.1) (by rw [← Hok.out]; decide))]; exact hide rfl
                  go_wp2
                  go_ret2
                  exact ⟨by rw [Ha.out]; rfl, hbel⟩
                | true =>
                  have hfull : F.length = s.size := of_decide_eq_true Hok.out.symm
                  have Hfull := hide hfull
                  clear hfull
                  by_cases hbig : n ≤ 1000000000
                  · have Ha : Hid (readDec s.data.toList = (n, true)) := by rw [HO.out, if_pos ⟨Hfull.out, hbig⟩]; exact hide rfl
                    go_wp2
                    go_ret2
                    exact ⟨by rw [Ha.out]; rfl, hbel⟩
                  · have Ha : Hid (readDec s.data.toList = (0, false)) := by rw [HO.out, if_neg (fun h => hbig h.2)]; exact hide rfl
                    go_wp2
                    go_ret2
                    exact ⟨by rw [Ha.out]; rfl, hbel⟩
    · have Ha := hide (readDec_no (l := s.data.toList) (by rintro ⟨h1, _⟩; rw [hlen] at h1; omega))
      clear hlen h0
      go_enter Tryd.func8, Tryd.ntmps8
      go_wp2_with fail
      refine (implDecimal_calls 1000000000 (by decide) (by decide) _ Ht.out).mono ?_
      rintro e w1 ⟨rfl, hb1⟩
      rw [← Hm.out]
      have hml := Hml.out
      go_wp2
      go_ret2
      exact ⟨by rw [Ha.out]; rfl, hb1⟩
end Go.Proofs.YtknlhejpcjpeeaaDoor.P1
