/- Whether all who are there know all, as the program tells it of a drawn ring: plain mathematics; no condition.
The program's Ideal; condition: a drawn ring. -/
import Derived.Test.YteladljgnbfcnaaGreatDoorZSE
import Derived.Test.YteladljgnbfcnaaGreatDoorZRM
import Derived.Test.YteladljgnbfcnaaGreatDoorZRT
import Derived.Test.YteladljgnbfcnaaGreatDoorZSC
import Derived.Test.YteladljgnbfcnaaGreatDoorZSG
import Derived.BigQuiet
namespace Go.Proofs.YteladljgnbfcnaaGreatDoor.P9
open Go.RowKit P1 P8 Da

theorem other_here {l : List Pr} (hx : RingX l) (x : Int) : ∃ (j : Nat) (hj : j < l.length), l[j].here = true ∧ l[j].id ≠ x := by
  have h3 := hx.least
  have ht := hx.two
  have key : ∀ (i j : Nat) (hi : i < l.length) (hj : j < l.length), i ≠ j → l[i].here = true → l[j].here = true → ∃ (k : Nat) (hk : k < l.length), l[k].here = true ∧ l[k].id ≠ x := fun i j hi hj hne h1 h2 => by
    by_cases h : l[i].id = x
    · exact ⟨j, hj, h2, fun e => hne (ids_inj hx.nodup hi hj (h.trans e.symm))⟩
    · exact ⟨i, hi, h1, h⟩
  have e : heres l = [l[0].here, l[1].here, l[2].here] := by
    clear key ht hx
    unfold heres
    match l, h3 with
    | a :: b :: c :: m, _ => rfl
  rw [e] at ht
  cases h0 : l[0].here with
  | true =>
    cases h1 : l[1].here with
    | true => exact key 0 1 (by omega) (by omega) (by decide) h0 h1
    | false =>
      cases h2 : l[2].here with
      | true => exact key 0 2 (by omega) (by omega) (by decide) h0 h2
      | false => rw [h0, h1, h2] at ht; exact absurd ht (by decide)
  | false =>
    cases h1 : l[1].here with
    | true =>
      cases h2 : l[2].here with
      | true => exact key 1 2 (by omega) (by omega) (by decide) h1 h2
      | false => rw [h0, h1, h2] at ht; exact absurd ht (by decide)
    | false => cases h2 : l[2].here <;> (rw [h0, h1, h2] at ht; exact absurd ht (by decide))

theorem mem_ordered (a : Int) (H : List Int) (x : Int) : x ∈ ordered a H ↔ x ∈ H ∧ x ≠ a := by
  rw [← rows_ordered, mem_rows, mem_nub]

theorem ordered_ne {l : List Pr} (hx : RingX l) (id : Int) : (ordered id (hereOf l)).length ≠ 0 := by
  obtain ⟨j, hj, hh, hne⟩ := other_here hx id
  intro h
  have hm : l[j].id ∈ ordered id (hereOf l) := (mem_ordered _ _ _).2 ⟨(hereOf_perm l).mem_iff.2 (List.mem_map.2 ⟨l[j], List.mem_filter.2 ⟨List.getElem_mem hj, hh⟩, rfl⟩), hne⟩
  rw [List.eq_nil_of_length_eq_zero h] at hm
  cases hm

theorem idealAt_is {l : List Pr} (hx : RingX l) {k : Nat} (hk : k < l.length) : idealAt (hereOf l) l k = !(notAll (hereOf l) l[k]) := by
  unfold idealAt notAll
  rw [List.getElem?_eq_getElem hk]
  dsimp only
  cases l[k].here with
  | false => rfl
  | true =>
    have hid : 0 ≤ l[k].id ∧ l[k].id < 256 := by
      have := hx.on l[k].id (List.mem_map_of_mem (List.getElem_mem hk))
      unfold onR at this
      simpa using this
    rw [knows_is hid (ordered_ne hx _)]
    cases knowsAll (hereOf l) l[k] <;> rfl

theorem ideal_is {l : List Pr} (hx : RingX l) : ideal l = !(l.any (notAll (hereOf l))) := by
  unfold ideal
  cases h : l.any (notAll (hereOf l)) with
  | false =>
    refine all_range fun j hj => ?_
    rw [idealAt_is hx hj]
    rw [List.any_eq_false] at h
    have := h l[j] (List.getElem_mem hj)
    simpa using this
  | true =>
    obtain ⟨p, hp, h1⟩ := List.any_eq_true.1 h
    obtain ⟨j, hj, rfl⟩ := List.mem_iff_getElem.1 hp
    exact not_all_range hj (by rw [idealAt_is hx hj, h1]; rfl)
end Go.Proofs.YteladljgnbfcnaaGreatDoor.P9
namespace Go.Proofs.YteladljgnbfcnaaGreatDoor.P9
set_option maxRecDepth 8000
open Go.RowKit P1 P8 Da Mp Ap Rr Rc

set_option maxHeartbeats 1000000 in
theorem equalI_calls (w : World) (v u : Value) (l m : List Int) (hv : IntsAt w v l) (hu : IntsAt w u m) (hm : m.length ≤ 1048576) :
    Calls Tryz.prog 83 #[v, u] w fun e w' => e = .returned (.bool (decide (l = m))) ∧ ∃ n, w' = w.drewN n := by
  have HV := hide hv
  have HU := hide hu
  obtain ⟨a, ca, rfl, -⟩ := hv
  obtain ⟨b, cb, rfl, -⟩ := hu
  obtain ⟨R, eR⟩ : ∃ R, R = decide (l = m) := ⟨_, rfl⟩
  rw [← eR]
  by_cases hlen : l.length = m.length
  · have HR1 : Hid (l = m → R = true) := fun h => eR.trans (decide_eq_true h)
    have HR2 : Hid (l ≠ m → R = false) := fun h => eR.trans (decide_eq_false h)
    have HLN := hide hlen
    obtain ⟨n, en⟩ : ∃ n, n = m.length := ⟨_, rfl⟩
    rw [hlen, ← en]
    rw [← en] at hm
    have hln : l.length = n := by omega
    have HLl := hide hln
    have HMl := hide en
    clear eR hlen en hln
    go_enter Tryz.func83, Tryz.ntmps83
    have hnn : ((n : Int) != (n : Int)) = false := by simp
    go_wp2_with fail
    go_loopw [13] (fun i wr => ∃ k : Nat, k ≤ n ∧ i = .int .i64 k ∧ Hid (l.take k = m.take k) ∧ Hid (∃ q, wr = w.drewN q)) (fun i _ => n - (intOf i).toNat)
    case atStart => exact ⟨0, Nat.zero_le _, rfl, rfl, 0, rfl⟩
    case round =>
      obtain ⟨k, hk, rfl, HN, HW⟩ := hrel
      by_cases hlt : k < n
      · have hkl : k < l.length := by have := HLl.out; omega
        have hkm : k < m.length := by have := HMl.out; omega
        obtain ⟨ax, cx, hax, HA⟩ := ints_drewn HV.out HW.out
        obtain ⟨bx, dx, hbx, HB⟩ := ints_drewn HU.out HW.out
        rw [HLl.out] at hax
        rw [← HMl.out] at hbx
        cases hax
        cases hbx
        obtain ⟨g, off, rfl, hg, hc⟩ := HA k hkl
        obtain ⟨g2, off2, rfl, hg2, hc2⟩ := HB k hkm
        have HNx := hide (fun e => take_eq hkl hkm HN.out e)
        have HNo : Hid (l[k] ≠ m[k] → l ≠ m) := fun h e => h (by subst e; rfl)
        clear HA HB HN
        generalize l[k] = x at *
        generalize m[k] = y at *
        by_cases hxy : x = y
        · have hd : (x != y) = false := by simpa using hxy
          have HR := hide (HNx.out hxy)
          clear HNx HNo hxy
          go_wp2_with fail
          go_quiet (fail)
          go_wp2_with fail
          go_roundw
          case rel => exact ⟨k + 1, by omega, by go_num, HR.out, drewN_more HW.out _⟩
          case measure => simp [intOf]; omega
        · have hd : (x != y) = true := by simpa using hxy
          have HR := hide (HR2.out (HNo.out hxy))
          clear HNx HNo hxy
          go_wp2_with fail
          go_quiet (fail)
          go_wp2_with fail
          go_ret
          exact ⟨by rw [HR.out]; rfl, drewN_more HW.out _⟩
      · have hkn : k = n := by omega
        have HR := hide (HR1.out (by
          have h := HN.out
          rwa [List.take_of_length_le (by have := HLl.out; omega), List.take_of_length_le (by have := HMl.out; omega)] at h))
        clear HN
        go_wp2_with fail
        go_ret
        exact ⟨by rw [HR.out]; rfl, HW.out⟩
  · have hnn : ((l.length : Int) != (m.length : Int)) = true := by simp; omega
    have HR : Hid (R = false) := eR.trans (decide_eq_false (fun e => hlen (by rw [e])))
    clear eR
    go_enter Tryz.func83, Tryz.ntmps83
    go_wp2_with fail
    go_ret
    exact ⟨by rw [HR.out]; rfl, 0, rfl⟩

set_option maxHeartbeats 1000000 in
theorem containsPeers_calls (w : World) (v : Value) (l : List Pr) (k0 : FuncId) (caps : Array Value) (p : Pr → Bool) (hv : PeersAt w v l) (hl : l.length ≤ 1048576) (hk0 : ∀ args w, (callFunc k0 args).run Tryz.prog w = .ok (.enter k0 args) w) (hp : Tests w k0 caps l p) :
    Calls Tryz.prog 44 #[v, .func (.func k0) #[] caps] w fun e w' => e = .returned (.bool (l.any p)) ∧ Below w.heap.size w w' := by
  have HC := hide (indexPeers_calls w v l k0 caps p hv hl hk0 hp)
  have HE : Hid (decide (0 ≤ idxI l p) = l.any p) := by
    show _ = _
    unfold idxI
    cases h : l.findIdx? p with
    | none =>
      have h1 := List.findIdx?_eq_none_iff.1 h
      rw [show l.any p = false from by rw [List.any_eq_false]; intro x hx; simp [h1 x hx]]
      rfl
    | some i =>
      obtain ⟨hi, h1, -⟩ := List.findIdx?_eq_some_iff_getElem.1 h
      rw [show l.any p = true from List.any_eq_true.2 ⟨_, List.getElem_mem hi, h1⟩]
      exact decide_eq_true (by show (0 : Int) ≤ (i : Int); omega)
  rw [← HE.out]
  generalize idxI l p = x at *
  clear hv hp HE
  go_enter Tryz.func44, Tryz.ntmps44
  go_wp2_with fail
  refine HC.out.mono ?_
  rintro e w2 ⟨rfl, hb⟩
  have HB := hide hb
  clear hb HC
  go_wp2_with fail
  go_ret
  exact ⟨rfl, HB.out⟩

set_option maxRecDepth 100000 in
set_option maxHeartbeats 4000000 in
theorem knowsAll_calls (w : World) (vh u3 u4 u5 : Value) (H : List Int) (p : Pr) (hh : IntsAt w vh H) (hl : H.length ≤ 1048576) (h3 : IntsAt w u3 p.behind) (h4 : IntsAt w u4 p.fingers) (h5 : ShelvesAt w u5 p.shelves) (hid : 0 ≤ p.id ∧ p.id < 256) :
    Calls Tryz.prog 46 #[vh, prV p u3 u4 u5] w fun e w' => e = .returned (.bool (knowsAll H p)) ∧ Below w.heap.size w w' := by
  have HH := hide hh
  obtain ⟨ah, ch, rfl, -⟩ := hh
  have H3 := hide h3
  have H4 := hide h4
  obtain ⟨a3, c3, e3, -⟩ := h3
  obtain ⟨a4, c4, e4, -⟩ := h4
  obtain ⟨a5, c5, e5, -⟩ := h5.open_
  subst e3 e4 e5
  unfold prV knowsAll
  obtain ⟨W3, eW3⟩ : ∃ W3, W3 = (ordered p.id H).take 3 := ⟨_, rfl⟩
  obtain ⟨WF, eWF⟩ : ∃ WF, WF = wantFingers H p.id := ⟨_, rfl⟩
  obtain ⟨WA, eWA⟩ : ∃ WA, WA = wantAhead H p.id := ⟨_, rfl⟩
  have hol := ordered_length p.id H
  have hl3 : W3.length ≤ 1048576 := by rw [eW3, List.length_take]; omega
  have hl8 : WF.length = 8 := by rw [eWF]; simp [wantFingers]
  rw [← eW3, ← eWF, ← eWA]
  have HW3 := hide eW3
  have HWF := hide eWF
  have HWA := hide eWA
  clear eW3 eWF eWA hol
  have hba := (Below.refl w.heap.size w).alloc (Nat.le_refl _) (.cells #[.int .i64 p.id, .bool p.here, .int .i64 p.ahead, .slice a3 p.behind.length c3, .slice a4 p.fingers.length c4, .slice a5 p.shelves.length c5] 32)
  have S := Blk.new w #[.int .i64 p.id, .bool p.here, .int .i64 p.ahead, .slice a3 p.behind.length c3, .slice a4 p.fingers.length c4, .slice a5 p.shelves.length c5] 32
  have HB := hide hba
  clear h5 hba
  go_enter Tryz.func46, Tryz.ntmps46
  go_upto_region 1 with fail
  obtain ⟨s, es⟩ : ∃ s, s = w.heap.size := ⟨_, rfl⟩
  rw [← es] at S ⊢
  clear es
  generalize w.alloc (.cells #[.int .i64 p.id, .bool p.here, .int .i64 p.ahead, .slice a3 p.behind.length c3, .slice a4 p.fingers.length c4, .slice a5 p.shelves.length c5] 32) = w1 at *
  have HK := hide (knowing_calls w1 ah H.length ch H p.id (HH.out.below HB.out (Nat.le_refl _)) hl hid.1 hid.2)
  rw [← HW3.out, ← HWF.out, ← HWA.out] at HK
  have k0 := blk_free_cell S 0 rfl
  have kl := S.lt
  go_wp2_with fail
  refine HK.out.mono ?_
  rintro e w2 ⟨v3, v4, rfl, ho3, ho4, -, hb2⟩
  obtain ⟨b3, d3, hsh⟩ := own_sh ho3
  subst hsh
  obtain ⟨b4, d4, hsh⟩ := own_sh ho4
  subst hsh
  have hba := hb2.alloc hb2.size (.cells #[.int .i64 p.id, .bool true, .int .i64 WA, .slice b3 W3.length d3, .slice b4 8 d4, .slice none 0 0] 32)
  have hbn := (Below.refl w2.heap.size w2).alloc (Nat.le_refl _) (.cells #[.int .i64 p.id, .bool true, .int .i64 WA, .slice b3 W3.length d3, .slice b4 8 d4, .slice none 0 0] 32)
  have S2 := Blk.new w2 #[.int .i64 p.id, .bool true, .int .i64 WA, .slice b3 W3.length d3, .slice b4 8 d4, .slice none 0 0] 32
  have S1 := S.below hba S.lt
  have J3 := hide ((IntsAt.of_own ho3).below hbn (Nat.le_refl _))
  have J4 := hide ((IntsAt.of_own (l := WF) (by rw [hl8]; exact ho4)).below hbn (Nat.le_refl _))
  have HB3 := hide (HB.out.trans (hba.mono HB.out.size))
  have K3 := hide (H3.out.below HB3.out (Nat.le_refl _))
  have K4 := hide (H4.out.below HB3.out (Nat.le_refl _))
  clear k0 kl HK hb2 hba hbn ho3 ho4 HB S HH H3 H4
  go_upto_region 2 with fail
  obtain ⟨b5, e5⟩ : ∃ b, b = w2.heap.size := ⟨_, rfl⟩
  rw [← e5] at S2 ⊢
  clear e5
  generalize w2.alloc (.cells #[.int .i64 p.id, .bool true, .int .i64 WA, .slice b3 W3.length d3, .slice b4 8 d4, .slice none 0 0] 32) = w3 at *
  have m2 := blk_free_cell S1 2 rfl
  have n2 := blk_free_cell S2 2 rfl
  have ml := S1.lt
  have nl := S2.lt
  cases h1 : (p.ahead == WA) with
  | false =>
    have HR : Hid (decide (p.ahead = WA) = false) := decide_eq_false (by simpa using h1)
    go_wp2_with fail
    go_ret
    exact ⟨by rw [HR.out]; rfl, HB3.out⟩
  | true =>
    have HR : Hid (decide (p.ahead = WA) = true) := decide_eq_true (by simpa using h1)
    have m3 := blk_free_cell S1 3 rfl
    have n3 := blk_free_cell S2 3 rfl
    have HE3 := hide (equalI_calls w3 _ _ p.behind W3 K3.out J3.out hl3)
    cases h2 : decide (p.behind = W3) with
    | false =>
      have HR2 := hide h2
      rw [h2] at HE3
      clear h2
      go_wp2_with fail
      refine HE3.out.mono ?_
      rintro e w4 ⟨rfl, q, rfl⟩
      go_wp2_with fail
      go_ret
      exact ⟨by rw [HR.out, HR2.out]; rfl, below_drewN HB3.out q⟩
    | true =>
      have HR2 := hide h2
      rw [h2] at HE3
      clear h2
      have HE4 := hide (fun q : Nat => equalI_calls (w3.drewN q) _ _ p.fingers WF (K4.out.below (below_drewN (Below.refl _ _) q) (Nat.le_refl _)) (J4.out.below (below_drewN (Below.refl _ _) q) (Nat.le_refl _)) (by omega))
      go_wp2_with fail
      refine HE3.out.mono ?_
      rintro e w4 ⟨rfl, q, rfl⟩
      have m4 : (w3.drewN q).cell? ⟨s, 4, none⟩ = some (.slice a4 p.fingers.length c4) := blk_free_cell S1 4 rfl
      have n4 : (w3.drewN q).cell? ⟨b5, 4, none⟩ = some (.slice b4 8 d4) := blk_free_cell S2 4 rfl
      have ml' : s < (w3.drewN q).heap.size := ml
      have nl' : b5 < (w3.drewN q).heap.size := nl
      clear HE3 m2 n2 m3 n3
      go_wp2_with fail
      refine (HE4.out q).mono ?_
      rintro e w5 ⟨rfl, r, rfl⟩
      go_wp2_with fail
      go_ret
      exact ⟨by rw [HR.out, HR2.out]; rfl, below_drewN HB3.out (q + r)⟩

set_option maxHeartbeats 2000000 in
theorem ideal1_calls (w : World) (b : Nat) (vh u3 u4 u5 : Value) (H : List Int) (p : Pr) (hc : w.cell? ⟨b, 0, none⟩ = some vh) (hh : IntsAt w vh H) (hl : H.length ≤ 1048576) (h3 : IntsAt w u3 p.behind) (h4 : IntsAt w u4 p.fingers) (h5 : ShelvesAt w u5 p.shelves) (hid : 0 ≤ p.id ∧ p.id < 256) :
    Calls Tryz.prog 45 #[prV p u3 u4 u5, .pointer (some ⟨b, 0, none⟩)] w fun e w' => e = .returned (.bool (notAll H p)) ∧ Below w.heap.size w w' := by
  obtain ⟨a3, c3, e3, -⟩ := id h3
  obtain ⟨a4, c4, e4, -⟩ := id h4
  obtain ⟨a5, c5, e5, -⟩ := h5.open_
  obtain ⟨ah, ch, eh, -⟩ := id hh
  subst e3 e4 e5 eh
  have hba := (Below.refl w.heap.size w).alloc (Nat.le_refl _) (.cells #[.int .i64 p.id, .bool p.here, .int .i64 p.ahead, .slice a3 p.behind.length c3, .slice a4 p.fingers.length c4, .slice a5 p.shelves.length c5] 32)
  have S := Blk.new w #[.int .i64 p.id, .bool p.here, .int .i64 p.ahead, .slice a3 p.behind.length c3, .slice a4 p.fingers.length c4, .slice a5 p.shelves.length c5] 32
  have hbl := cell_lt' hc
  have hcx := (hba.cell (p := ⟨b, 0, none⟩) hbl).trans hc
  have hbx := cell_lt' hcx
  have HK := hide (knowsAll_calls (w.alloc (.cells #[.int .i64 p.id, .bool p.here, .int .i64 p.ahead, .slice a3 p.behind.length c3, .slice a4 p.fingers.length c4, .slice a5 p.shelves.length c5] 32)) _ _ _ _ H p (hh.below hba (Nat.le_refl _)) hl (h3.below hba (Nat.le_refl _)) (h4.below hba (Nat.le_refl _)) (h5.below hba (Nat.le_refl _)) hid)
  have HB := hide hba
  unfold prV at HK ⊢
  unfold notAll
  clear hc hh h3 h4 h5 hba hbl
  generalize knowsAll H p = kb at *
  go_enter Tryz.func45, Tryz.ntmps45
  go_upto_region 1 with fail
  obtain ⟨s, es⟩ : ∃ s, s = w.heap.size := ⟨_, rfl⟩
  rw [← es] at S ⊢
  clear es
  generalize w.alloc (.cells #[.int .i64 p.id, .bool p.here, .int .i64 p.ahead, .slice a3 p.behind.length c3, .slice a4 p.fingers.length c4, .slice a5 p.shelves.length c5] 32) = w1 at *
  have k0 := blk_free_cell S 0 rfl
  have k1 := blk_free_cell S 1 rfl
  have k2 := blk_free_cell S 2 rfl
  have k3 := blk_free_cell S 3 rfl
  have k4 := blk_free_cell S 4 rfl
  have k5 := blk_free_cell S 5 rfl
  have kl := S.lt
  clear S
  cases hph : p.here with
  | false =>
    rw [hph] at k1
    go_wp2_with fail
    go_ret
    exact ⟨rfl, HB.out⟩
  | true =>
    rw [hph] at k1 HK
    go_wp2_with fail
    refine HK.out.mono ?_
    rintro e w2 ⟨rfl, hb2⟩
    have HB2 := hide (HB.out.trans (hb2.mono HB.out.size))
    clear hb2 HK
    go_wp2_with fail
    go_ret
    exact ⟨(by first | rfl | (rw [hph]; rfl)), HB2.out⟩

set_option maxHeartbeats 2000000 in
theorem idealC : IdealC := by
  intro w v l hv hx
  rw [ideal_is hx]
  obtain ⟨ab, eab⟩ : ∃ ab, ab = l.any (notAll (hereOf l)) := ⟨_, rfl⟩
  rw [← eab]
  have HAB := hide eab
  clear eab
  have hup : hereUp l = hereOf l := hereUp_eq (by have := hx.nodup; unfold idsOf at this; exact this)
  have hHl := hereOf_len l
  have hb1 := (Below.refl w.heap.size w).alloc (Nat.le_refl _) (.cells #[v] 26)
  have HV := hide (hv.below hb1 (Nat.le_refl _))
  obtain ⟨a, cap, rfl, -⟩ := hv.open_
  have G := Blk.new w #[.slice a l.length cap] 26
  have HB := hide hb1
  have HX := hide hx
  have hll := hx.len
  clear hv hb1 hx
  go_enter Tryz.func14, Tryz.ntmps14
  go_upto_region 1 with fail
  obtain ⟨b0, e0⟩ : ∃ b, b = w.heap.size := ⟨_, rfl⟩
  rw [← e0] at G ⊢
  clear e0
  generalize w.alloc (.cells #[.slice a l.length cap] 26) = w1 at *
  have k0 := blk_free_cell G 0 rfl
  have kl := G.lt
  have HH := hide (implHere_calls w1 _ l HV.out hll HX.out.ring)
  rw [hup] at HH
  go_wp2_with fail
  refine HH.out.mono ?_
  rintro e w2 ⟨v2, rfl, ho2, hb2⟩
  obtain ⟨a2, c2, hsh⟩ := own_sh ho2
  subst hsh
  have hba := hb2.alloc hb2.size (.cells #[.slice a2 (hereOf l).length c2] 28)
  have hbn := (Below.refl w2.heap.size w2).alloc (Nat.le_refl _) (.cells #[.slice a2 (hereOf l).length c2] 28)
  have S2 := Blk.new w2 #[.slice a2 (hereOf l).length c2] 28
  have S1 := G.below hba G.lt
  have HI := hide ((IntsAt.of_own ho2).below hbn (Nat.le_refl _))
  have HV3 := hide (HV.out.below hba (Nat.le_refl _))
  have HB3 := hide (HB.out.trans (hba.mono HB.out.size))
  clear k0 kl HH hb2 hba hbn ho2 HB G HV
  go_upto_region 2 with fail
  obtain ⟨b5, e5⟩ : ∃ b, b = w2.heap.size := ⟨_, rfl⟩
  rw [← e5] at S2 ⊢
  clear e5
  generalize w2.alloc (.cells #[.slice a2 (hereOf l).length c2] 28) = w3 at *
  have hq5 := blk_free_cell S2 0 rfl
  have hl5 := S2.lt
  have HC := hide (containsPeers_calls w3 _ l 45 #[.pointer (some ⟨b5, 0, none⟩)] (notAll (hereOf l)) HV3.out hll (run_enter Tryz.func45 (by kernel_rfl) (by kernel_rfl))
    (fun wx x u3 u4 u5 hb hm h3 h4 h5 => ideal1_calls wx b5 _ u3 u4 u5 (hereOf l) x ((hb.cell (p := ⟨b5, 0, none⟩) hl5).trans hq5) (HI.out.below hb (Nat.le_refl _)) (by omega) h3 h4 h5 (by
      have := HX.out.on x.id (List.mem_map_of_mem hm)
      unfold onR at this
      simpa using this)))
  have k0 := blk_free_cell S1 0 rfl
  have kl := S1.lt
  clear hq5 S1 S2
  rw [← HAB.out] at HC
  go_wp2_with fail
  refine HC.out.mono ?_
  rintro e w4 ⟨rfl, hb4⟩
  have HB4 := hide (HB3.out.trans (hb4.mono HB3.out.size))
  clear hb4 HC k0 kl
  go_wp2_with fail
  go_ret
  exact ⟨rfl, HB4.out⟩
end Go.Proofs.YteladljgnbfcnaaGreatDoor.P9
