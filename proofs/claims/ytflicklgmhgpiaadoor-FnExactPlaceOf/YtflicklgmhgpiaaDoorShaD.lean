/- The contract of spec.Digest; condition: the text is at most 2^20 bytes long. -/
import Derived.Test.YtflicklgmhgpiaaDoorShaC
import Derived.Test.YtflicklgmhgpiaaDoorShaPad
import Derived.Test.YtflicklgmhgpiaaDoorArrS
namespace Go.Proofs.YtflicklgmhgpiaaDoor.P3
set_option maxRecDepth 8000
open Go.RowKit P1

/-- The memory of a digest's call: the state and the keys. -/
structure DMem (w wr : World) (b0 b1 : Nat) (hs : List Nat) : Prop where
  h : Arr wr b0 hs
  k : Arr wr b1 keys
  bel : Below w.heap.size w wr
  o0 : w.heap.size ≤ b0
  o1 : b0 < b1

theorem DMem.drew {w wr : World} {b0 b1 : Nat} {hs : List Nat} (m : DMem w wr b0 b1 hs) : DMem w wr.drew b0 b1 hs := ⟨m.h.drew, m.k.drew, m.bel.drew, m.o0, m.o1⟩

theorem DMem.on {w wr wr' : World} {b0 b1 : Nat} {hs : List Nat} (m : DMem w wr b0 b1 hs) (hb : Below wr.heap.size wr wr') : DMem w wr' b0 b1 hs :=
  ⟨m.h.below hb m.h.lt, m.k.below hb m.k.lt, m.bel.trans (hb.mono m.bel.size), m.o0, m.o1⟩

theorem DMem.setH {w wr : World} {b0 b1 : Nat} {hs : List Nat} (m : DMem w wr b0 b1 hs) (ys : List Nat) (hl : ys.length = hs.length) : DMem w (wr.setCells b0 0 (wordsV ys).toList) b0 b1 ys :=
  ⟨m.h.setAll ys hl, m.k.otherAll (by have := m.o1; omega) _ _, below_setCells m.o0 _ _ _ m.bel, m.o0, m.o1⟩

theorem bl_ok (p : List UInt8) (k : Nat) : (bl p k).ok := by
  cases k with
  | zero => exact start_ok
  | succ k => exact plus_ok _ _

theorem zeros_cells (n : Nat) : (madeCells #[Value.int .u8 0] n).toList = cellsB (List.replicate n 0) := by
  rw [toList_madeCells_one]
  simp [cellsB]

theorem set_four (l : List UInt8) (i : Nat) (h : i + 3 < l.length) (a b c d : UInt8) : ((((l.set i a).set (i + 1) b).set (i + 2) c).set (i + 3) d).take (i + 4) = l.take i ++ [a, b, c, d] := by
  apply List.ext_getElem?
  intro j
  have hti : (l.take i).length = i := by rw [List.length_take]; omega
  by_cases h1 : j < i
  · rw [List.getElem?_take_of_lt (by omega), List.getElem?_set_ne (by omega), List.getElem?_set_ne (by omega), List.getElem?_set_ne (by omega), List.getElem?_set_ne (by omega), List.getElem?_append_left (by omega), List.getElem?_take_of_lt h1]
  · rw [List.getElem?_append_right (by omega), hti]
    by_cases h2 : j = i
    · subst h2
      rw [List.getElem?_take_of_lt (by omega), List.getElem?_set_ne (by omega), List.getElem?_set_ne (by omega), List.getElem?_set_ne (by omega), List.getElem?_set_self (by omega)]
      simp
    · by_cases h3 : j = i + 1
      · subst h3
        rw [List.getElem?_take_of_lt (by omega), List.getElem?_set_ne (by omega), List.getElem?_set_ne (by omega), List.getElem?_set_self (by simp; omega)]
        simp
      · by_cases h4 : j = i + 2
        · subst h4
          rw [List.getElem?_take_of_lt (by omega), List.getElem?_set_ne (by omega), List.getElem?_set_self (by simp; omega)]
          simp
        · by_cases h5 : j = i + 3
          · subst h5
            rw [List.getElem?_take_of_lt (by omega), List.getElem?_set_self (by simp; omega)]
            simp
          · rw [List.getElem?_eq_none (by rw [List.length_take]; omega), List.getElem?_eq_none (by simp; omega)]

theorem flat_next (s : St) (k : Nat) (hk : k < 8) : (s.list.take (k + 1)).flatMap four = (s.list.take k).flatMap four ++ four (s.list.getD k 0) := by
  have hl : s.list.length = 8 := rfl
  rw [List.take_succ_eq_append_getElem (by omega), List.flatMap_append]
  simp [List.getD_eq_getElem?_getD, List.getElem?_eq_getElem (show k < s.list.length by omega)]

theorem list_lt (s : St) (h : s.ok) (k : Nat) (hk : k < 8) : s.list.getD k 0 < 4294967296 := by
  obtain ⟨h0, h1, h2, h3, h4, h5, h6, h7⟩ := h
  match k, hk with
  | 0, _ => exact h0
  | 1, _ => exact h1
  | 2, _ => exact h2
  | 3, _ => exact h3
  | 4, _ => exact h4
  | 5, _ => exact h5
  | 6, _ => exact h6
  | 7, _ => exact h7

theorem DMem.setG {w wr : World} {b0 b1 g : Nat} {hs : List Nat} (m : DMem w wr b0 b1 hs) (hg : b1 < g) (i : Nat) (v : Value) : DMem w (wr.setCell ⟨g, i, none⟩ v) b0 b1 hs := by
  have o0 := m.o0
  have o1 := m.o1
  exact ⟨m.h.other (by omega) _, m.k.other (by omega) _, m.bel.setCell (by show w.heap.size ≤ g; omega) _, m.o0, m.o1⟩

theorem slice_block (p : List UInt8) (k : Nat) (hk : 64 * k + 64 ≤ p.length) (wx : World) :
    (Instr.slice 9 (.string ⟨p.toArray⟩) (some (.int .i64 (64 * (k : Int)))) (some (.int .i64 (64 * (k : Int) + 64))) none).run Tryd.prog wx = .ok (.string ⟨((p.drop (64 * k)).take 64).toArray⟩) wx := by
  have h := run_slice_string (P := Tryd.prog) wx 9 ⟨p.toArray⟩ .i64 .i64 (64 * (k : Int)) (64 * (k : Int) + 64) Tryd.underlying9 (by omega) (by omega) (by show 64 * (k : Int) + 64 ≤ (p.length : Int); omega)
  rw [h]
  have e1 : (64 * (k : Int)).toNat = 64 * k := by omega
  have e2 : (64 * (k : Int) + 64).toNat = 64 * k + 64 := by omega
  rw [e1, e2, ByteArray.extract_mk]
  rw [show 64 * k + 64 - 64 * k = 64 by omega]

set_option maxRecDepth 8000 in
set_option maxHeartbeats 1000000 in
theorem specDigest_calls (t : List UInt8) (ht : t.length ≤ 1048577) (w : World) :
    Calls Tryd.prog 40 #[.string ⟨t.toArray⟩] w fun e w' => e = .returned (.string ⟨(digest t).toArray⟩) ∧ Below w.heap.size w w' := by
  obtain ⟨dg, Edg⟩ : ∃ dg, Hid (dg = digest t) := ⟨_, rfl⟩
  rw [← Edg.out]
  have hz64 := (zero_of_info zero64).1
  have hz8 := (zero_of_info zero8).1
  obtain ⟨Z64, hZ64⟩ : ∃ Z, Z = wordsV nil64 := ⟨_, rfl⟩
  obtain ⟨Z8, hZ8⟩ : ∃ Z, Z = wordsV nil8 := ⟨_, rfl⟩
  obtain ⟨KV, hKV⟩ : ∃ Z, Z = wordsV keys := ⟨_, rfl⟩
  obtain ⟨SV, hSV⟩ : ∃ Z, Z = wordsV start.list := ⟨_, rfl⟩
  have HF := hide first_calls
  have HK := hide keys_calls
  rw [← hZ64] at hz64
  rw [← hZ8] at hz8
  simp only [← hSV] at HF
  simp only [← hKV] at HK
  have s1 : Z64.size = 64 := by rw [hZ64]; rfl
  have s2 : KV.size = 64 := by rw [hKV]; rfl
  have s3 : Z8.size = 8 := by rw [hZ8]; rfl
  have s4 : SV.size = 8 := by rw [hSV]; rfl
  have u1 : KV.all (·.oneCell') = true := by rw [hKV]; exact wordsV_one _
  have u2 : SV.all (·.oneCell') = true := by rw [hSV]; exact wordsV_one _
  have EK := hide hKV
  have ES := hide hSV
  have Hz8 := hide hz8
  have Hz64 := hide hz64
  clear hz8 hz64 hZ64 hZ8 hKV hSV
  go_enter Tryd.func40, Tryd.ntmps40
  go_wp2_with fail
  refine (HF.out _).mono ?_
  rintro e w1 ⟨rfl, hb1⟩
  have HB1 := hide hb1
  clear hb1
  go_wp2_with (first | (refine wpList_alloc_agg rfl 71 rfl Z8 Hz8.out ?_) | (refine wpList_store_last rfl 71 (.tmp 3) (.tmp 9) rfl Z8 SV rfl rfl (by rw [s4]; exact size8) (by rw [s3, s4]) u2 ?_))
  have hA := Arr.new w1 71 start.list SV ES.out
  have hbA : Below w.heap.size w (w1.alloc (.cells SV 71)) := HB1.out.alloc HB1.out.size _
  obtain ⟨b0, hb0⟩ : ∃ b0, b0 = w1.heap.size := ⟨_, rfl⟩
  obtain ⟨w2, hw2⟩ : ∃ w2, w2 = w1.alloc (.cells SV 71) := ⟨_, rfl⟩
  have ho0 : w.heap.size ≤ b0 := by rw [hb0]; exact HB1.out.size
  rw [← hw2] at hA hbA ⊢
  rw [← hb0] at hA ⊢
  have HA := hide hA
  have HBA := hide hbA
  clear hA hbA hw2 hb0 HB1
  refine (HK.out _).mono ?_
  rintro e w3 ⟨rfl, hb3⟩
  have HA3 := hide (HA.out.below hb3 HA.out.lt)
  have HB3 := hide (HBA.out.trans (hb3.mono HBA.out.size))
  clear hb3 HA HBA
  go_wp2_with (first | (refine wpList_alloc_agg rfl 76 rfl Z64 Hz64.out ?_) | (refine wpList_store_last rfl 76 (.tmp 4) (.tmp 10) rfl Z64 KV rfl rfl (by rw [s2]; exact size64) (by rw [s1, s2]) u1 ?_))
  have hK := Arr.new w3 76 keys KV EK.out
  have hk1 : Below w3.heap.size w3 (w3.alloc (.cells KV 76)) := (Below.refl _ _).alloc (Nat.le_refl _) _
  have hdm : DMem w (w3.alloc (.cells KV 76)) b0 w3.heap.size start.list := ⟨HA3.out.below hk1 HA3.out.lt, hK, HB3.out.trans (hk1.mono HB3.out.size), ho0, HA3.out.lt⟩
  obtain ⟨b1, hb1⟩ : ∃ b1, b1 = w3.heap.size := ⟨_, rfl⟩
  obtain ⟨w4, hw4⟩ : ∃ w4, w4 = w3.alloc (.cells KV 76) := ⟨_, rfl⟩
  rw [← hw4] at hdm ⊢
  rw [← hb1] at hdm ⊢
  have HD := hide hdm
  clear hdm hK hk1 hw4 hb1 HA3 HB3 ho0 u1 u2 s1 s2 s3 s4 Hz8 Hz64 HF HK
  refine (specPad_calls t (by omega) _).mono ?_
  rintro e w5 ⟨rfl, hb5⟩
  have HD5 := hide (HD.out.on hb5)
  clear hb5 HD
  have hpl := pad_length t
  have hpm := pad_mod t
  have hz : zeros t.length < 64 := Nat.mod_lt _ (by decide)
  obtain ⟨p, EP⟩ : ∃ p, Hid (p = pad t) := ⟨_, rfl⟩
  rw [← EP.out] at hpl hpm ⊢
  go_wp2
  obtain ⟨n, hn⟩ : ∃ n, p.length = 64 * n := ⟨p.length / 64, by omega⟩
  go_loopw [6] (fun i wr => ∃ k : Nat, k ≤ n ∧ i = .int .i64 (64 * (k : Int)) ∧ DMem w wr b0 b1 (bl p k).list) (fun i _ => 64 * n - (intOf i).toNat)
  case atStart => exact ⟨0, by omega, rfl, HD5.out⟩
  case round =>
    clear HD5
    obtain ⟨k, hk, rfl, hm⟩ := hrel
    have HM := hide hm
    clear hm
    by_cases hlt : k < n
    · have hsl := slice_block p k (by omega)
      have hql : ((p.drop (64 * k)).take 64).length = 64 := by rw [List.length_take, List.length_drop]; omega
      obtain ⟨q, EQ⟩ : ∃ q, Hid (q = (p.drop (64 * k)).take 64) := ⟨_, rfl⟩
      rw [← EQ.out] at hql
      simp only [← EQ.out] at hsl
      obtain ⟨st, Est⟩ : ∃ st, Hid (st = bl p k) := ⟨_, rfl⟩
      have hok : st.ok := by rw [Est.out]; exact bl_ok p k
      rw [← Est.out] at HM
      have HN : Hid (bl p (k + 1) = block st q) := by rw [EQ.out, Est.out]; exact rfl
      have HC := hide (fun wx => block_calls st hok keys keys_length keys_lt q hql wx)
      have EQ2 : Hid (block st q = st.plus (roundsN keys (sched q) 64 st)) := rfl
      simp only [← EQ2.out] at HC
      obtain ⟨R, ER⟩ : ∃ R, Hid (R = block st q) := ⟨_, rfl⟩
      simp only [← ER.out] at HC
      rw [← ER.out] at HN
      obtain ⟨HV, EHV⟩ : ∃ HV, Hid (HV = wordsV st.list) := ⟨_, rfl⟩
      obtain ⟨RV, ERV⟩ : ∃ RV, Hid (RV = wordsV R.list) := ⟨_, rfl⟩
      simp only [← EHV.out, ← EK.out, ← ERV.out] at HC
      clear EQ EQ2 ER Est hok
      go_wp2
      refine wp_region_tail 7 (fun wd => DMem w wd b0 b1 st.list) HM.out.drew (by kernel_rfl) (by kernel_rfl) ?_
      clear HM
      intro wd hm
      have HM := hide hm
      have hl8 := hm.h.load (P := Tryd.prog) 8 rfl
      have hl64 := hm.k.load (P := Tryd.prog) 64 rfl
      rw [← EHV.out] at hl8
      rw [← EK.out] at hl64
      clear hm
      simp only [List.take_succ_cons, List.take_zero, List.drop_succ_cons, List.drop_zero]
      refine wpQuiet_load_agg rfl 71 (.tmp 3) 19 rfl rfl b0 rfl 8 Tryd.isAgg71 Tryd.sizeOf71 HV hl8 ?_
      simp only [List.setIfInBounds_toArray, List.set_cons_succ, List.set_cons_zero]
      repeat (go_big_quiet_step (fail))
      refine wpQuiet_load_agg rfl 76 (.tmp 4) 25 rfl rfl b1 rfl 64 Tryd.isAgg76 Tryd.sizeOf76 KV hl64 ?_
      simp only [List.setIfInBounds_toArray, List.set_cons_succ, List.set_cons_zero]
      refine wpQuiet_nil ?_
      go_wp2_with fail
      refine (HC.out _).mono ?_
      rintro e w6 ⟨rfl, hb6⟩
      have HM6 := hide (HM.out.on hb6)
      have r8 : RV.size = 8 := by rw [ERV.out]; rfl
      have r1 : RV.all (·.oneCell') = true := by rw [ERV.out]; exact wordsV_one _
      clear hb6 HM hl8 hl64 HC hsl
      go_wp2_with (refine wpList_store_mid rfl 71 (.tmp 3) (.tmp 26) rfl b0 0 RV rfl rfl (by rw [r8]; exact HM6.out.h.there 8 rfl) (by rw [r8]; exact size8) r1 ?_)
      go_roundw
      case rel => exact ⟨k + 1, by omega, by go_num, by rw [ERV.out, HN.out]; exact HM6.out.setH R.list rfl⟩
      case measure => simp [intOf]; omega
    · have hkn : k = n := by omega
      have hEn : n = (pad t).length / 64 := by rw [← EP.out]; omega
      rw [hkn] at HM
      obtain ⟨st, Est⟩ : ∃ st, Hid (st = bl p n) := ⟨_, rfl⟩
      have hok : st.ok := by rw [Est.out]; exact bl_ok p n
      have HG : Hid (dg = st.list.flatMap four) := by rw [Edg.out, Est.out, EP.out, hEn]; exact rfl
      rw [← Est.out] at HM
      clear Est Edg hkn hEn EP hk
      obtain ⟨i0, hi, hz0, hz1, hz2⟩ := info_parts info_u8
      have hne : ¬ (64 * (k : Int) < (p.length : Int)) := by omega
      have hwsz : w.heap.size ≤ wr.heap.size := HM.out.bel.size
      go_wp2_with (at_make; refine wpList_make_full _ rfl (.const (.int .i64 32)) (.const (.int .i64 32)) 22 rfl w.heap.size 5 i0 (.int .u8 0) 1 Tryd.underlying22 hi hz0 hz1 .i64 .i64 _ _ 32 rfl rfl (by omega) (by omega) (by rw [hz2]; omega) (by unfold maxLen; omega) hwsz ?_)
      intro w2 hown2 hgr2
      rw [zeros_cells] at hown2
      have hbt := Byt.of_own hown2
      have hd2 := HM.out.on (wr' := w2) ⟨hgr2.os, hgr2.tape, hgr2.output, hgr2.size, fun k hk => hgr2.block k hk (fun e => by cases e)⟩
      have hb1g : b1 < wr.heap.size := HM.out.k.lt
      have HBt := hide hbt
      have HD2 := hide hd2
      clear hown2 hgr2 hbt hd2 HM hne hwsz
      obtain ⟨g, hg⟩ : ∃ g, g = wr.heap.size := ⟨_, rfl⟩
      rw [← hg] at hb1g HBt ⊢
      clear hg
      go_wp2
      clear hlt
      go_loopw [8] (fun i wr => ∃ k : Nat, ∃ l : List UInt8, k ≤ 8 ∧ i = .int .i64 k ∧ l.length = 32 ∧ l.take (4 * k) = (st.list.take k).flatMap four ∧ DMem w wr b0 b1 st.list ∧ Byt wr g l) (fun i _ => 8 - (intOf i).toNat)
      case atStart => exact ⟨0, List.replicate 32 0, by omega, rfl, rfl, by simp, HD2.out, HBt.out⟩
      case round =>
        clear HD2 HBt
        obtain ⟨k, l, hk, rfl, hl, htk, hd, hbt⟩ := hrel
        have HD := hide hd
        have HBt := hide hbt
        have HTK := hide htk
        clear hd hbt htk
        by_cases hlt : k < 8
        · have ck := HD.out.h.cell k (by show k < 8; omega)
          have hx := list_lt st hok k hlt
          have HFN := hide (flat_next st k hlt)
          obtain ⟨x, hxe⟩ : ∃ x, x = st.list.getD k 0 := ⟨_, rfl⟩
          rw [← hxe] at ck hx HFN
          clear hxe
          have g0 := HBt.out.cell (4 * k) (by omega)
          have g1 := HBt.out.cell (4 * k + 1) (by omega)
          have g2 := HBt.out.cell (4 * k + 2) (by omega)
          have g3 := HBt.out.cell (4 * k + 3) (by omega)
          have hf := HBt.out.free
          have hgb : b0 < g := by have := HD.out.o1; omega
          go_wp2
          go_roundw
          case rel =>
            refine ⟨k + 1, (((l.set (4 * k) (UInt8.ofNat (x / 16777216))).set (4 * k + 1) (UInt8.ofNat (x / 65536 % 256))).set (4 * k + 2) (UInt8.ofNat (x / 256 % 256))).set (4 * k + 3) (UInt8.ofNat (x % 256)), by omega, by go_num, by simpa using hl, ?_, (((HD.out.setG hb1g _ _).setG hb1g _ _).setG hb1g _ _).setG hb1g _ _, ?_⟩
            · rw [show 4 * (k + 1) = 4 * k + 4 by omega, set_four l (4 * k) (by omega), HTK.out, HFN.out]
              rfl
            · exact (((HBt.out.set (UInt8.ofNat (x / 16777216)) (by rw [byte_of _ (by omega)]; omega)).set (UInt8.ofNat (x / 65536 % 256)) (by rw [byte_of _ (by omega)]; omega)).set (UInt8.ofNat (x / 256 % 256)) (by rw [byte_of _ (by omega)]; omega)).set (UInt8.ofNat (x % 256)) (by rw [byte_of _ (by omega)]; omega)
          case measure => simp [intOf]; omega
        · have hk8 : k = 8 := by omega
          have hall : l = dg := by
            have h := HTK.out
            rw [hk8, List.take_of_length_le (by omega), List.take_of_length_le (by show 8 ≤ 8; omega)] at h
            rw [h, ← HG.out]
          have hcv := HBt.out.text (P := Tryd.prog) (cap := 32) 32 hl 22 9 5 Tryd.underlying22 Tryd.underlying5 Tryd.underlying9
          rw [hall] at hcv
          have HBe := hide HD.out.bel
          clear hall HBt HTK HD hk8
          go_wp2
          go_ret
          exact ⟨rfl, HBe.out⟩
end Go.Proofs.YtflicklgmhgpiaaDoor.P3
