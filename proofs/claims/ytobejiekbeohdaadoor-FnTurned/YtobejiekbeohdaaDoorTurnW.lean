/- The walk of the law FnTurned; condition: the table lies where its text lays it. -/
import Derived.Test.YtobejiekbeohdaaDoorTurnP
import Derived.Test.YtobejiekbeohdaaDoorSumD
import Derived.Test.YtobejiekbeohdaaDoorKit3
namespace Go.Proofs.YtobejiekbeohdaaDoor.P2
open Go.RowKit P1

theorem sealed_some (s : List UInt8) (h : s.length < 40) : ∃ t : List UInt8, Hid (sealedV s = .tuple #[.string ⟨t.toArray⟩, .bool true]) ∧ Hid (unsealedV t = .tuple #[.string ⟨s.toArray⟩, .bool true]) ∧ t.length = s.length + 4 ∧
    Hid (∀ i (hi : i < t.length) (c : UInt8), c ≠ t[i] → unsealedV (t.set i c) = .tuple #[.string ⟨#[]⟩, .bool false]) :=
  ⟨s ++ fourB (sumOf s), by show sealedV s = _; unfold sealedV; rw [if_pos (by omega)], unseal_seal s (by omega), by simp [fourB_length], fun i hi c hc => unseal_turned s (by omega) i hi c hc⟩

/-- A byte turned by a number that is not 0 is another one. -/
theorem turn8 (b : UInt8) (n : Nat) : ∃ c : UInt8, c ≠ b ∧ bits .xor .u8 (b.toNat : Int) (1 + (n : Int) % 255) = (c.toNat : Int) := by
  have hb := b.toNat_lt
  refine ⟨b ^^^ UInt8.ofNat (1 + n % 255), ?_, ?_⟩
  · intro h
    have h1 := congrArg UInt8.toNat h
    rw [UInt8.toNat_xor] at h1
    have h2 : (UInt8.ofNat (1 + n % 255)).toNat = 1 + n % 255 := by simp; omega
    rw [h2] at h1
    have h3 : (1 + n % 255) ^^^ b.toNat = 0 ^^^ b.toNat := by rw [Nat.xor_comm, h1, Nat.zero_xor]
    have := xor_cancel _ _ _ h3
    omega
  · have h := u8_xor_nat b.toNat (1 + n % 255) (by omega) (by omega)
    have h2 : (UInt8.ofNat (1 + n % 255)).toNat = 1 + n % 255 := by simp; omega
    rw [UInt8.toNat_xor, h2, ← h]
    rfl

set_option maxHeartbeats 400000 in
theorem turned_walk (w : World) (a : Option Addr) (len cap : Nat) (z : List Int) (hr : Frame.IsRow .u8 w a len cap z) (ht : P2.Tab w) :
    Calls Tryd.prog 3 #[.slice a len cap] w fun e w' => e = .returned (.bool true) ∧ Below w.heap.size w w' := by
  have Ht := P1.hide ht
  have Hr := P1.hide hr
  clear hr ht
  by_cases hbig : 1048576 < len
  · have hd : decide (1048576 < (len : Int)) = true := by simp; omega
    go_enter Tryd.func3, Tryd.ntmps3
    go_wp2_with fail
    refine (P2.big_calls _ a len cap).mono ?_
    rintro e w1 ⟨rfl, rfl⟩
    rw [hd]
    go_wp2
    go_ret
    exact ⟨rfl, Below.refl _ _⟩
  · have hd : decide (1048576 < (len : Int)) = false := by simp; omega
    have Hc := P1.hide (Cu.code_of_row Hr.out (by omega))
    clear Hr hbig
    go_enter Tryd.func3, Tryd.ntmps3
    go_wp2_with fail
    refine (P2.big_calls _ a len cap).mono ?_
    rintro e w1 ⟨rfl, rfl⟩
    rw [hd]
    clear hd
    go_wp2_with fail
    refine (P2.drawSumOf_calls _ a len cap Hc.out).mono ?_
    rintro e w2 ⟨s, hs, rfl, hb⟩
    have Hb2 := P1.hide hb
    have Hc2 := P1.hide (Hc.out.below (fun k hk => hb.block k hk))
    clear hb Hc
    go_wp2_with fail
    refine (Cu.places_calls _ a len cap (Hc2.out.more Hb2.out.size)).mono ?_
    rintro e w3 ⟨v, l, hl, hall, rfl, hown, hb⟩
    have Hb3 := P1.hide (Hb2.out.trans (hb.mono Hb2.out.size))
    have Hown := P1.hide hown
    have Ht3 := P1.hide (Ht.out.on Ht.out.1 Hb3.out)
    clear hb hown
    obtain ⟨g, cp, hv, hg1, hg2, hcp, hcells, hfz⟩ := P1.own_at Hown.out (by omega)
    subst hv
    obtain ⟨t, HS, HU, htl, HT⟩ := sealed_some s hs
    have H1 := hide (implSealed_calls ⟨s.toArray⟩ (by show s.length ≤ maxLen; unfold maxLen; omega) w3 Ht3.out)
    simp only [HS.out] at H1
    go_wp2_with fail
    refine H1.out.mono ?_
    rintro e w4 ⟨rfl, hb⟩
    have Hb4 := hide hb
    have Ht4 := hide (Ht3.out.on Ht3.out.1 hb)
    have H2 := hide (implUnsealed_calls ⟨t.toArray⟩ (by show t.length ≤ maxLen; unfold maxLen; omega) w4 Ht4.out)
    simp only [HU.out] at H2
    clear hb H1 HS HU
    go_wp2_with fail
    refine H2.out.mono ?_
    rintro e w5 ⟨rfl, hb⟩
    have Hb5 := hide (Hb4.out.trans (hb.mono Hb4.out.size))
    have Ht5 := hide (Ht4.out.on Ht4.out.1 hb)
    clear hb H2 Ht3 Ht4 Hb4
    obtain ⟨c, w6, hrun, hsz6, hb6, hcell6, hfz6⟩ := bytes_of w5 9 22 5 t Tryd.underlying9 Tryd.underlying22 Tryd.underlying5
    obtain ⟨l0, l1, lr, rfl⟩ : ∃ l0 l1 lr, l = l0 :: l1 :: lr := by
      match l, hl with
      | l0 :: l1 :: lr, _ => exact ⟨l0, l1, lr, rfl⟩
    have hb0 := hall l0 (by simp)
    have hb1 := hall l1 (by simp)
    obtain ⟨n0, rfl⟩ := Int.eq_ofNat_of_zero_le hb0.1
    obtain ⟨n1, rfl⟩ := Int.eq_ofNat_of_zero_le hb1.1
    have hw36 : Below w3.heap.size w3 w6 := Hb5.out.trans (hb6.mono Hb5.out.size)
    have q0 : w6.cell? ⟨g, 0, none⟩ = some (.int .i64 (n0 : Int)) := by rw [hw36.cell (p := ⟨g, 0, none⟩) hg2, hcells 0 (by omega)]; rfl
    have q1 : w6.cell? ⟨g, 1, none⟩ = some (.int .i64 (n1 : Int)) := by rw [hw36.cell (p := ⟨g, 1, none⟩) hg2, hcells 1 (by omega)]; rfl
    have hklt : n0 % t.length < t.length := Nat.mod_lt _ (by omega)
    obtain ⟨k, hk⟩ : ∃ k : Nat, k = n0 % t.length := ⟨_, rfl⟩
    rw [← hk] at hklt
    have hke : (n0 : Int) % ((s.length : Int) + 4) = (k : Int) := by rw [hk, htl]; rfl
    have hklt4 : k < s.length + 4 := by omega
    have qk := hcell6 k hklt
    have fk := hfz6 k hklt
    have hgw5 : g < w5.heap.size := Nat.lt_of_lt_of_le hg2 Hb5.out.size
    have Hhc := hide hcells
    have Hfz := hide hfz
    have Hc6 := hide hcell6
    have Hf6 := hide hfz6
    have Hb6 := hide hb6
    clear hcells hfz hcell6 hfz6 hb6 hall hb0 hb1 hw36 hk
    go_wp2_with fail
    go_region
    obtain ⟨c', hne, hc'⟩ := turn8 t[k] n1
    rw [hc']
    obtain ⟨w7, hw7⟩ : ∃ w7 : World, w7 = (w6.setCell ⟨w5.heap.size, k, none⟩ (.int .u8 (c'.toNat : Int))).drew := ⟨_, rfl⟩
    rw [← hw7]
    have hb7 : Below w5.heap.size w5 w7 := by rw [hw7]; exact (Hb6.out.setCell (Nat.le_refl _) _).drew
    have hrow : ∀ j (hj : j < (t.set k c').length), w7.cell? ((⟨w5.heap.size, 0, none⟩ : Addr).add j) = some (.int .u8 ((t.set k c')[j].toNat : Int)) := by
      intro j hj
      have hj' : j < t.length := by simpa using hj
      rw [Go.WideShapes.add_plain, Nat.zero_add, hw7]
      by_cases hjk : k = j
      · subst hjk
        simp [go_sem, Hc6.out k hj']
      · rw [List.getElem_set_ne hjk]
        have := Hc6.out j hj'
        simp [go_sem, this]
    have hconv := run_convert_bytes_back (P := Tryd.prog) w7 22 9 5 ⟨w5.heap.size, 0, none⟩ c (t.set k c') Tryd.underlying22 Tryd.underlying5 Tryd.underlying9 hrow
    rw [List.length_set, htl] at hconv
    have Ht7 := hide (Ht5.out.on Ht5.out.1 hb7)
    have H3 := hide (implUnsealed_calls ⟨(t.set k c').toArray⟩ (by show (t.set k c').length ≤ maxLen; rw [List.length_set]; unfold maxLen; omega) w7 Ht7.out)
    simp only [HT.out k hklt c' hne] at H3
    have Hb7 := hide hb7
    clear hw7 hb7 hrow qk fk hne hc' HT q0 q1 hrun hke
    generalize t.set k c' = t' at hconv H3
    go_wp2_with fail
    refine H3.out.mono ?_
    rintro e w8 ⟨rfl, hb⟩
    have Hb8 := hide (Hb7.out.trans (hb.mono Hb7.out.size))
    have Ht8 := hide (Ht7.out.on Ht7.out.1 hb)
    have H4 := hide (implSumOf_calls ⟨s.toArray⟩ (by show s.length ≤ maxLen; unfold maxLen; omega) w8 Ht8.out)
    have H5 := hide (implSumMore_calls (sumOf s) (sumOf_lt s) ⟨#[120]⟩ (by decide) w8 Ht8.out)
    have H6 := hide (implSumOf_calls (⟨s.toArray⟩ ++ ⟨#[120]⟩) (by rw [ByteArray.size_append]; show s.length + 1 ≤ maxLen; unfold maxLen; omega) w8 Ht8.out)
    have hcat : (⟨s.toArray⟩ ++ ⟨#[120]⟩ : ByteArray).data.toList = s ++ [120] := by rw [ByteArray.mk_append_mk s [120]]
    have HE := hide (show sumL (sumOf s) [120] = sumOf (⟨s.toArray⟩ ++ ⟨#[120]⟩ : ByteArray).data.toList by rw [hcat]; unfold sumOf; rw [sumL_append])
    clear hb H3 hconv hcat
    generalize sumOf (⟨s.toArray⟩ ++ ⟨#[120]⟩ : ByteArray).data.toList = y6 at H6 HE
    go_wp2_with fail
    refine H4.out.mono ?_
    rintro e w9 ⟨rfl, rfl⟩
    go_wp2_with fail
    refine H5.out.mono ?_
    rintro e w9 ⟨rfl, rfl⟩
    go_wp2_with fail
    refine H6.out.mono ?_
    rintro e w9 ⟨rfl, rfl⟩
    have he : (((sumL (sumOf s) [120] : Nat) : Int) == (y6 : Int)) = true := by rw [HE.out]; simp
    clear H4 H5 H6 HE
    generalize sumL (sumOf s) [120] = y5 at he
    go_wp2
    go_ret
    exact ⟨rfl, Hb3.out.trans ((Hb5.out.mono Hb3.out.size).trans (Hb8.out.mono (Nat.le_trans Hb3.out.size Hb5.out.size)))⟩
end Go.Proofs.YtobejiekbeohdaaDoor.P2
