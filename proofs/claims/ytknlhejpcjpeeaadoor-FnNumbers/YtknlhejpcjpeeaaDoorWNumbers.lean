/- The walk of FnNumbers: it returns true; condition: the library's table of powers of ten holds what its text lays. -/
import Derived.Test.YtknlhejpcjpeeaaDoorNbrP
import Derived.Test.YtknlhejpcjpeeaaDoorNbrD
import Derived.Test.YtknlhejpcjpeeaaDoorRdI
import Derived.Test.YtknlhejpcjpeeaaDoorItoI
import Derived.Test.YtknlhejpcjpeeaaDoorRead
import Derived.Test.YtknlhejpcjpeeaaDoorReadS
import Derived.Test.YtknlhejpcjpeeaaDoorShort
import Derived.Test.YtknlhejpcjpeeaaDoorHex
import Derived.Test.YtknlhejpcjpeeaaDoorUnhexI
import Derived.Test.YtknlhejpcjpeeaaDoorFrame
import Derived.Deep.CutRange
namespace Go.Proofs.YtknlhejpcjpeeaaDoor.P1
set_option maxRecDepth 8000
open Go.RowKit Cu

theorem code_onN {w w' : World} {len : Nat} {v : Value} (h : Cu.Code w.heap.size w v len) (hb : Below w.heap.size w w') : Cu.Code w'.heap.size w' v len := (h.below (fun q hq => hb.block q hq)).more hb.size

theorem size_list (l : List UInt8) : (⟨l.toArray⟩ : ByteArray).size = l.length := by
  show l.toArray.size = _
  simp

theorem data_list (l : List UInt8) : (⟨l.toArray⟩ : ByteArray).data.toList = l := rfl

/-- A text comes back from its short text. -/
theorem readShort_back (l : List UInt8) (h : l.length ≤ 20000) : readShort ⟨(varB 4 l.length ++ l).toArray⟩ 0 = (⟨l.toArray⟩, (varB 4 l.length).length + l.length, true) := by
  have hr : readVar (⟨(varB 4 l.length ++ l).toArray⟩ : ByteArray).data.toList 0 = (l.length, (varB 4 l.length).length, true) := readVar_head l (by omega)
  rw [readShort_of hr.symm, if_pos ⟨rfl, h, by rw [size_list, List.length_append]; omega⟩]
  refine Prod.ext ?_ rfl
  refine ByteArray.ext ?_
  rw [ByteArray.data_extract]
  apply Array.ext'
  simp

theorem shortText_of (l : List UInt8) (h : l.length ≤ 20000) : shortText ⟨l.toArray⟩ = (⟨(varB 4 l.length ++ l).toArray⟩, true) := by
  unfold shortText
  rw [size_list, if_pos h]
  refine Prod.ext ?_ rfl
  exact ByteArray.mk_append_mk _ _

theorem between_x (v : List UInt8) : (⟨#[120]⟩ : ByteArray) ++ ⟨v.toArray⟩ ++ ⟨#[121]⟩ = ⟨([120] ++ (v ++ [121])).toArray⟩ := by
  have h1 : (⟨#[120]⟩ : ByteArray) ++ ⟨v.toArray⟩ = ⟨([120] ++ v).toArray⟩ := ByteArray.mk_append_mk [120] v
  have h2 : (⟨([120] ++ v).toArray⟩ : ByteArray) ++ ⟨#[121]⟩ = ⟨(([120] ++ v) ++ [121]).toArray⟩ := ByteArray.mk_append_mk ([120] ++ v) [121]
  rw [h1]
  refine h2.trans ?_
  rw [List.append_assoc]

theorem hex_of (l : List UInt8) (h : l.length ≤ 20000) : hex ⟨l.toArray⟩ = (hexB l, true) := by
  unfold hex
  rw [size_list, if_pos h]

set_option maxRecDepth 100000 in
set_option maxHeartbeats 8000000 in
theorem numbersWalk (w : World) (a0 : Option Addr) (len cap : Nat) (z : List Int) (hr : Frame.IsRow .u8 w a0 len cap z) (ht : Pow10 w) :
    Calls Tryd.prog 3 #[.slice a0 len cap] w fun e w' => e = .returned (.bool true) ∧ Below w.heap.size w w' := by
  have hcap : len ≤ maxLen := by
    rcases hr with ⟨_, rfl, _⟩ | ⟨_, _, h1, h2, _⟩
    · unfold maxLen; omega
    · omega
  unfold maxLen at hcap
  have HT := hide ht
  clear ht
  by_cases hbig : 1048576 < len
  · have hd : decide (1048576 < (len : Int)) = true := by simp; omega
    go_enter Tryd.func3, Tryd.ntmps3
    go_wp2_with fail
    refine (big_calls _ a0 len cap).mono ?_
    rintro e w1 ⟨rfl, rfl⟩
    rw [hd]
    go_wp2
    go_ret
    exact ⟨rfl, Below.refl _ _⟩
  have hl : len ≤ 1048576 := by omega
  have HC := hide (code_of_row hr hl)
  have hd : decide (1048576 < (len : Int)) = false := by simp; omega
  clear hr
  go_enter Tryd.func3, Tryd.ntmps3
  go_wp2_with fail
  refine (big_calls _ a0 len cap).mono ?_
  rintro e w1 ⟨rfl, rfl⟩
  rw [hd]
  clear hd hbig
  go_wp2_with fail
  refine (drawNumber_calls w1 a0 len cap HC.out).mono ?_
  rintro e w2 ⟨n, rfl, hb⟩
  have HB2 := hide hb
  have HC2 := hide (code_onN HC.out hb)
  clear hb HC
  by_cases h0 : 0 ≤ n
  · have hd0 : decide (n < 0) = false := decide_eq_false (by omega)
    by_cases h1 : n ≤ 1000000000
    · have hd1 : decide (n > 1000000000) = false := decide_eq_false (by omega)
      obtain ⟨N, rfl⟩ := Int.eq_ofNat_of_zero_le h0
      have hN : N ≤ 1000000000 := by omega
      have CV := hide (fun wx => implVarText_calls (N : Int) wx)
      have hvt : varText (N : Int) = (varB 4 N, true) := by
        have hc : (0 : Int) ≤ (N : Int) ∧ (N : Int) ≤ 1000000000 := by omega
        simp only [varText, if_pos hc, Int.toNat_natCast]
      rw [hvt] at CV
      have CR := hide (fun wx => implReadVar_calls ⟨([120] ++ (varB 4 N ++ [121])).toArray⟩ 1 (by rw [size_list]; have := (varB_length 4 N).2; simp; omega) wx)
      rw [data_list, readVar_back N hN] at CR
      have eS := hide (between_x (varB 4 N))
      have CD := hide (fun wx (hp : Pow10 wx) => implDecimal_calls (N : Int) (by omega) (by omega) wx hp)
      have CE := hide (fun wx (hp : Pow10 wx) => implReadDecimal_calls ⟨(Lib.itoa (N : Int)).toArray⟩ (by rw [size_list]; have := Lib.itoa_length_le (N : Int) (by omega) (by omega); omega) wx hp)
      rw [data_list, readDec_back N hN] at CE
      have hsz := size_list (varB 4 N)
      have hvl := (varB_length 4 N).2
      unfold rvV at CR
      unfold rdV at CE
      dsimp only at CV CR CE
      generalize Lib.itoa (N : Int) = dt at *
      clear hvt h0 h1
      obtain ⟨lv, elv⟩ : ∃ q, q = (varB 4 N).length := ⟨_, rfl⟩
      rw [← elv] at hsz CR hvl
      generalize varB 4 N = vb at *
      clear elv
      go_wp2_with fail
      refine (CV.out _).mono ?_
      rintro e w3 ⟨rfl, hb⟩
      have HB3 := hide (HB2.out.trans (hb.mono HB2.out.size))
      have HC3 := hide (code_onN HC2.out hb)
      clear hb CV HB2 HC2
      go_wp2_with fail
      rw [eS.out]
      refine (CR.out _).mono ?_
      rintro e w4 ⟨rfl, rfl⟩
      clear CR eS
      go_wp2_with fail
      refine (CD.out _ (HT.out.on HB3.out)).mono ?_
      rintro e w5 ⟨rfl, hb⟩
      have HB5 := hide (HB3.out.trans (hb.mono HB3.out.size))
      have HC5 := hide (code_onN HC3.out hb)
      clear hb CD HB3 HC3
      go_wp2_with fail
      refine (CE.out _ (HT.out.on HB5.out)).mono ?_
      rintro e w6 ⟨rfl, hb⟩
      have HB6 := hide (HB5.out.trans (hb.mono HB5.out.size))
      have HC6 := hide (code_onN HC5.out hb)
      clear hb CE HB5 HC5 HT
      go_wp2_with fail
      refine (drawText_calls _ a0 len cap HC6.out).mono ?_
      rintro e w7 ⟨t, hlt, rfl, hb⟩
      have HB7 := hide (HB6.out.trans (hb.mono HB6.out.size))
      have hts := size_list t
      clear hb HB6 HC6
      by_cases h3 : t.length ≤ 300
      · have hd3 : decide ((t.length : Int) > 300) = false := decide_eq_false (by omega)
        obtain ⟨T, rfl⟩ : ∃ T, T = t := ⟨_, rfl⟩
        have hT : T.length ≤ 300 := h3
        clear h3 hlt
        go_wp2_with fail
        have hT2 : T.length ≤ 20000 := by omega
        have CS := hide (fun wx => implShortText_calls ⟨T.toArray⟩ (by rw [size_list]; omega) wx)
        rw [shortText_of T hT2] at CS
        have CH := hide (fun wx => implReadShort_calls ⟨(varB 4 T.length ++ T).toArray⟩ 0 (by rw [size_list, List.length_append]; have := (varB_length 4 T.length).2; omega) wx)
        rw [readShort_back T hT2] at CH
        have CX := hide (fun wx => implHex_calls ⟨T.toArray⟩ (by rw [size_list]; omega) wx)
        rw [hex_of T hT2] at CX
        have CU := hide (fun wx => implUnhex_calls ⟨(hexB T).toArray⟩ (by rw [size_list, hexB_length]; omega) wx)
        rw [data_list, unhexL_back T hT2] at CU
        unfold rsV at CH
        dsimp only at CS CH CX CU
        have hsz2 := size_list (varB 4 T.length ++ T)
        rw [List.length_append] at hsz2
        generalize hexB T = hx at *
        generalize (varB 4 T.length).length + T.length = tl at *
        generalize varB 4 T.length ++ T = st at *
        clear hT2 hT
        refine (CS.out _).mono ?_
        rintro e w8 ⟨rfl, hb⟩
        have HB8 := hide (HB7.out.trans (hb.mono HB7.out.size))
        clear hb CS HB7
        go_wp2_with fail
        refine (CH.out _).mono ?_
        rintro e w9 ⟨rfl, hb⟩
        have HB9 := hide (HB8.out.trans (hb.mono HB8.out.size))
        clear hb CH HB8
        go_wp2_with fail
        refine (CX.out _).mono ?_
        rintro e w10 ⟨rfl, hb⟩
        have HB10 := hide (HB9.out.trans (hb.mono HB9.out.size))
        clear hb CX HB9
        go_wp2_with fail
        refine (CU.out _).mono ?_
        rintro e w11 ⟨rfl, hb⟩
        have HB11 := hide (HB10.out.trans (hb.mono HB10.out.size))
        clear hb CU HB10
        go_wp2_with fail
        go_ret
        exact ⟨rfl, HB11.out⟩
      · have hd3 : decide ((t.length : Int) > 300) = true := decide_eq_true (by omega)
        obtain ⟨T, eT⟩ : ∃ T : List UInt8, T = [97, 98, 99] := ⟨_, rfl⟩
        have hT : T.length ≤ 300 := by rw [eT]; decide
        have eB : Hid ((⟨#[97, 98, 99]⟩ : ByteArray) = ⟨T.toArray⟩) := by show _ = _; rw [eT]
        clear h3 hlt eT
        go_wp2_with fail
        rw [eB.out]
        clear eB
        have hT2 : T.length ≤ 20000 := by omega
        have CS := hide (fun wx => implShortText_calls ⟨T.toArray⟩ (by rw [size_list]; omega) wx)
        rw [shortText_of T hT2] at CS
        have CH := hide (fun wx => implReadShort_calls ⟨(varB 4 T.length ++ T).toArray⟩ 0 (by rw [size_list, List.length_append]; have := (varB_length 4 T.length).2; omega) wx)
        rw [readShort_back T hT2] at CH
        have CX := hide (fun wx => implHex_calls ⟨T.toArray⟩ (by rw [size_list]; omega) wx)
        rw [hex_of T hT2] at CX
        have CU := hide (fun wx => implUnhex_calls ⟨(hexB T).toArray⟩ (by rw [size_list, hexB_length]; omega) wx)
        rw [data_list, unhexL_back T hT2] at CU
        unfold rsV at CH
        dsimp only at CS CH CX CU
        have hsz2 := size_list (varB 4 T.length ++ T)
        rw [List.length_append] at hsz2
        generalize hexB T = hx at *
        generalize (varB 4 T.length).length + T.length = tl at *
        generalize varB 4 T.length ++ T = st at *
        clear hT2 hT
        refine (CS.out _).mono ?_
        rintro e w8 ⟨rfl, hb⟩
        have HB8 := hide (HB7.out.trans (hb.mono HB7.out.size))
        clear hb CS HB7
        go_wp2_with fail
        refine (CH.out _).mono ?_
        rintro e w9 ⟨rfl, hb⟩
        have HB9 := hide (HB8.out.trans (hb.mono HB8.out.size))
        clear hb CH HB8
        go_wp2_with fail
        refine (CX.out _).mono ?_
        rintro e w10 ⟨rfl, hb⟩
        have HB10 := hide (HB9.out.trans (hb.mono HB9.out.size))
        clear hb CX HB9
        go_wp2_with fail
        refine (CU.out _).mono ?_
        rintro e w11 ⟨rfl, hb⟩
        have HB11 := hide (HB10.out.trans (hb.mono HB10.out.size))
        clear hb CU HB10
        go_wp2_with fail
        go_ret
        exact ⟨rfl, HB11.out⟩
    · have hd1 : decide (n > 1000000000) = true := decide_eq_true (by omega)
      clear h0 h1
      obtain ⟨m, em⟩ : ∃ m : Int, m = 12345 := ⟨_, rfl⟩
      have h0 : 0 ≤ m := by omega
      have h1 : m ≤ 1000000000 := by omega
      go_upto_region 6 with fail
      rw [← em]
      clear em
      obtain ⟨N, rfl⟩ := Int.eq_ofNat_of_zero_le h0
      have hN : N ≤ 1000000000 := by omega
      have CV := hide (fun wx => implVarText_calls (N : Int) wx)
      have hvt : varText (N : Int) = (varB 4 N, true) := by
        have hc : (0 : Int) ≤ (N : Int) ∧ (N : Int) ≤ 1000000000 := by omega
        simp only [varText, if_pos hc, Int.toNat_natCast]
      rw [hvt] at CV
      have CR := hide (fun wx => implReadVar_calls ⟨([120] ++ (varB 4 N ++ [121])).toArray⟩ 1 (by rw [size_list]; have := (varB_length 4 N).2; simp; omega) wx)
      rw [data_list, readVar_back N hN] at CR
      have eS := hide (between_x (varB 4 N))
      have CD := hide (fun wx (hp : Pow10 wx) => implDecimal_calls (N : Int) (by omega) (by omega) wx hp)
      have CE := hide (fun wx (hp : Pow10 wx) => implReadDecimal_calls ⟨(Lib.itoa (N : Int)).toArray⟩ (by rw [size_list]; have := Lib.itoa_length_le (N : Int) (by omega) (by omega); omega) wx hp)
      rw [data_list, readDec_back N hN] at CE
      have hsz := size_list (varB 4 N)
      have hvl := (varB_length 4 N).2
      unfold rvV at CR
      unfold rdV at CE
      dsimp only at CV CR CE
      generalize Lib.itoa (N : Int) = dt at *
      clear hvt h0 h1
      obtain ⟨lv, elv⟩ : ∃ q, q = (varB 4 N).length := ⟨_, rfl⟩
      rw [← elv] at hsz CR hvl
      generalize varB 4 N = vb at *
      clear elv
      go_wp2_with fail
      refine (CV.out _).mono ?_
      rintro e w3 ⟨rfl, hb⟩
      have HB3 := hide (HB2.out.trans (hb.mono HB2.out.size))
      have HC3 := hide (code_onN HC2.out hb)
      clear hb CV HB2 HC2
      go_wp2_with fail
      rw [eS.out]
      refine (CR.out _).mono ?_
      rintro e w4 ⟨rfl, rfl⟩
      clear CR eS
      go_wp2_with fail
      refine (CD.out _ (HT.out.on HB3.out)).mono ?_
      rintro e w5 ⟨rfl, hb⟩
      have HB5 := hide (HB3.out.trans (hb.mono HB3.out.size))
      have HC5 := hide (code_onN HC3.out hb)
      clear hb CD HB3 HC3
      go_wp2_with fail
      refine (CE.out _ (HT.out.on HB5.out)).mono ?_
      rintro e w6 ⟨rfl, hb⟩
      have HB6 := hide (HB5.out.trans (hb.mono HB5.out.size))
      have HC6 := hide (code_onN HC5.out hb)
      clear hb CE HB5 HC5 HT
      go_wp2_with fail
      refine (drawText_calls _ a0 len cap HC6.out).mono ?_
      rintro e w7 ⟨t, hlt, rfl, hb⟩
      have HB7 := hide (HB6.out.trans (hb.mono HB6.out.size))
      have hts := size_list t
      clear hb HB6 HC6
      by_cases h3 : t.length ≤ 300
      · have hd3 : decide ((t.length : Int) > 300) = false := decide_eq_false (by omega)
        obtain ⟨T, rfl⟩ : ∃ T, T = t := ⟨_, rfl⟩
        have hT : T.length ≤ 300 := h3
        clear h3 hlt
        go_wp2_with fail
        have hT2 : T.length ≤ 20000 := by omega
        have CS := hide (fun wx => implShortText_calls ⟨T.toArray⟩ (by rw [size_list]; omega) wx)
        rw [shortText_of T hT2] at CS
        have CH := hide (fun wx => implReadShort_calls ⟨(varB 4 T.length ++ T).toArray⟩ 0 (by rw [size_list, List.length_append]; have := (varB_length 4 T.length).2; omega) wx)
        rw [readShort_back T hT2] at CH
        have CX := hide (fun wx => implHex_calls ⟨T.toArray⟩ (by rw [size_list]; omega) wx)
        rw [hex_of T hT2] at CX
        have CU := hide (fun wx => implUnhex_calls ⟨(hexB T).toArray⟩ (by rw [size_list, hexB_length]; omega) wx)
        rw [data_list, unhexL_back T hT2] at CU
        unfold rsV at CH
        dsimp only at CS CH CX CU
        have hsz2 := size_list (varB 4 T.length ++ T)
        rw [List.length_append] at hsz2
        generalize hexB T = hx at *
        generalize (varB 4 T.length).length + T.length = tl at *
        generalize varB 4 T.length ++ T = st at *
        clear hT2 hT
        refine (CS.out _).mono ?_
        rintro e w8 ⟨rfl, hb⟩
        have HB8 := hide (HB7.out.trans (hb.mono HB7.out.size))
        clear hb CS HB7
        go_wp2_with fail
        refine (CH.out _).mono ?_
        rintro e w9 ⟨rfl, hb⟩
        have HB9 := hide (HB8.out.trans (hb.mono HB8.out.size))
        clear hb CH HB8
        go_wp2_with fail
        refine (CX.out _).mono ?_
        rintro e w10 ⟨rfl, hb⟩
        have HB10 := hide (HB9.out.trans (hb.mono HB9.out.size))
        clear hb CX HB9
        go_wp2_with fail
        refine (CU.out _).mono ?_
        rintro e w11 ⟨rfl, hb⟩
        have HB11 := hide (HB10.out.trans (hb.mono HB10.out.size))
        clear hb CU HB10
        go_wp2_with fail
        go_ret
        exact ⟨rfl, HB11.out⟩
      · have hd3 : decide ((t.length : Int) > 300) = true := decide_eq_true (by omega)
        obtain ⟨T, eT⟩ : ∃ T : List UInt8, T = [97, 98, 99] := ⟨_, rfl⟩
        have hT : T.length ≤ 300 := by rw [eT]; decide
        have eB : Hid ((⟨#[97, 98, 99]⟩ : ByteArray) = ⟨T.toArray⟩) := by show _ = _; rw [eT]
        clear h3 hlt eT
        go_wp2_with fail
        rw [eB.out]
        clear eB
        have hT2 : T.length ≤ 20000 := by omega
        have CS := hide (fun wx => implShortText_calls ⟨T.toArray⟩ (by rw [size_list]; omega) wx)
        rw [shortText_of T hT2] at CS
        have CH := hide (fun wx => implReadShort_calls ⟨(varB 4 T.length ++ T).toArray⟩ 0 (by rw [size_list, List.length_append]; have := (varB_length 4 T.length).2; omega) wx)
        rw [readShort_back T hT2] at CH
        have CX := hide (fun wx => implHex_calls ⟨T.toArray⟩ (by rw [size_list]; omega) wx)
        rw [hex_of T hT2] at CX
        have CU := hide (fun wx => implUnhex_calls ⟨(hexB T).toArray⟩ (by rw [size_list, hexB_length]; omega) wx)
        rw [data_list, unhexL_back T hT2] at CU
        unfold rsV at CH
        dsimp only at CS CH CX CU
        have hsz2 := size_list (varB 4 T.length ++ T)
        rw [List.length_append] at hsz2
        generalize hexB T = hx at *
        generalize (varB 4 T.length).length + T.length = tl at *
        generalize varB 4 T.length ++ T = st at *
        clear hT2 hT
        refine (CS.out _).mono ?_
        rintro e w8 ⟨rfl, hb⟩
        have HB8 := hide (HB7.out.trans (hb.mono HB7.out.size))
        clear hb CS HB7
        go_wp2_with fail
        refine (CH.out _).mono ?_
        rintro e w9 ⟨rfl, hb⟩
        have HB9 := hide (HB8.out.trans (hb.mono HB8.out.size))
        clear hb CH HB8
        go_wp2_with fail
        refine (CX.out _).mono ?_
        rintro e w10 ⟨rfl, hb⟩
        have HB10 := hide (HB9.out.trans (hb.mono HB9.out.size))
        clear hb CX HB9
        go_wp2_with fail
        refine (CU.out _).mono ?_
        rintro e w11 ⟨rfl, hb⟩
        have HB11 := hide (HB10.out.trans (hb.mono HB10.out.size))
        clear hb CU HB10
        go_wp2_with fail
        go_ret
        exact ⟨rfl, HB11.out⟩
  · have hd0 : decide (n < 0) = true := decide_eq_true (by omega)
    clear h0
    obtain ⟨m, em⟩ : ∃ m : Int, m = 12345 := ⟨_, rfl⟩
    have h0 : 0 ≤ m := by omega
    have h1 : m ≤ 1000000000 := by omega
    go_upto_region 6 with fail
    rw [← em]
    clear em
    obtain ⟨N, rfl⟩ := Int.eq_ofNat_of_zero_le h0
    have hN : N ≤ 1000000000 := by omega
    have CV := hide (fun wx => implVarText_calls (N : Int) wx)
    have hvt : varText (N : Int) = (varB 4 N, true) := by
      have hc : (0 : Int) ≤ (N : Int) ∧ (N : Int) ≤ 1000000000 := by omega
      simp only [varText, if_pos hc, Int.toNat_natCast]
    rw [hvt] at CV
    have CR := hide (fun wx => implReadVar_calls ⟨([120] ++ (varB 4 N ++ [121])).toArray⟩ 1 (by rw [size_list]; have := (varB_length 4 N).2; simp; omega) wx)
    rw [data_list, readVar_back N hN] at CR
    have eS := hide (between_x (varB 4 N))
    have CD := hide (fun wx (hp : Pow10 wx) => implDecimal_calls (N : Int) (by omega) (by omega) wx hp)
    have CE := hide (fun wx (hp : Pow10 wx) => implReadDecimal_calls ⟨(Lib.itoa (N : Int)).toArray⟩ (by rw [size_list]; have := Lib.itoa_length_le (N : Int) (by omega) (by omega); omega) wx hp)
    rw [data_list, readDec_back N hN] at CE
    have hsz := size_list (varB 4 N)
    have hvl := (varB_length 4 N).2
    unfold rvV at CR
    unfold rdV at CE
    dsimp only at CV CR CE
    generalize Lib.itoa (N : Int) = dt at *
    clear hvt h0 h1
    obtain ⟨lv, elv⟩ : ∃ q, q = (varB 4 N).length := ⟨_, rfl⟩
    rw [← elv] at hsz CR hvl
    generalize varB 4 N = vb at *
    clear elv
    go_wp2_with fail
    refine (CV.out _).mono ?_
    rintro e w3 ⟨rfl, hb⟩
    have HB3 := hide (HB2.out.trans (hb.mono HB2.out.size))
    have HC3 := hide (code_onN HC2.out hb)
    clear hb CV HB2 HC2
    go_wp2_with fail
    rw [eS.out]
    refine (CR.out _).mono ?_
    rintro e w4 ⟨rfl, rfl⟩
    clear CR eS
    go_wp2_with fail
    refine (CD.out _ (HT.out.on HB3.out)).mono ?_
    rintro e w5 ⟨rfl, hb⟩
    have HB5 := hide (HB3.out.trans (hb.mono HB3.out.size))
    have HC5 := hide (code_onN HC3.out hb)
    clear hb CD HB3 HC3
    go_wp2_with fail
    refine (CE.out _ (HT.out.on HB5.out)).mono ?_
    rintro e w6 ⟨rfl, hb⟩
    have HB6 := hide (HB5.out.trans (hb.mono HB5.out.size))
    have HC6 := hide (code_onN HC5.out hb)
    clear hb CE HB5 HC5 HT
    go_wp2_with fail
    refine (drawText_calls _ a0 len cap HC6.out).mono ?_
    rintro e w7 ⟨t, hlt, rfl, hb⟩
    have HB7 := hide (HB6.out.trans (hb.mono HB6.out.size))
    have hts := size_list t
    clear hb HB6 HC6
    by_cases h3 : t.length ≤ 300
    · have hd3 : decide ((t.length : Int) > 300) = false := decide_eq_false (by omega)
      obtain ⟨T, rfl⟩ : ∃ T, T = t := ⟨_, rfl⟩
      have hT : T.length ≤ 300 := h3
      clear h3 hlt
      go_wp2_with fail
      have hT2 : T.length ≤ 20000 := by omega
      have CS := hide (fun wx => implShortText_calls ⟨T.toArray⟩ (by rw [size_list]; omega) wx)
      rw [shortText_of T hT2] at CS
      have CH := hide (fun wx => implReadShort_calls ⟨(varB 4 T.length ++ T).toArray⟩ 0 (by rw [size_list, List.length_append]; have := (varB_length 4 T.length).2; omega) wx)
      rw [readShort_back T hT2] at CH
      have CX := hide (fun wx => implHex_calls ⟨T.toArray⟩ (by rw [size_list]; omega) wx)
      rw [hex_of T hT2] at CX
      have CU := hide (fun wx => implUnhex_calls ⟨(hexB T).toArray⟩ (by rw [size_list, hexB_length]; omega) wx)
      rw [data_list, unhexL_back T hT2] at CU
      unfold rsV at CH
      dsimp only at CS CH CX CU
      have hsz2 := size_list (varB 4 T.length ++ T)
      rw [List.length_append] at hsz2
      generalize hexB T = hx at *
      generalize (varB 4 T.length).length + T.length = tl at *
      generalize varB 4 T.length ++ T = st at *
      clear hT2 hT
      refine (CS.out _).mono ?_
      rintro e w8 ⟨rfl, hb⟩
      have HB8 := hide (HB7.out.trans (hb.mono HB7.out.size))
      clear hb CS HB7
      go_wp2_with fail
      refine (CH.out _).mono ?_
      rintro e w9 ⟨rfl, hb⟩
      have HB9 := hide (HB8.out.trans (hb.mono HB8.out.size))
      clear hb CH HB8
      go_wp2_with fail
      refine (CX.out _).mono ?_
      rintro e w10 ⟨rfl, hb⟩
      have HB10 := hide (HB9.out.trans (hb.mono HB9.out.size))
      clear hb CX HB9
      go_wp2_with fail
      refine (CU.out _).mono ?_
      rintro e w11 ⟨rfl, hb⟩
      have HB11 := hide (HB10.out.trans (hb.mono HB10.out.size))
      clear hb CU HB10
      go_wp2_with fail
      go_ret
      exact ⟨rfl, HB11.out⟩
    · have hd3 : decide ((t.length : Int) > 300) = true := decide_eq_true (by omega)
      obtain ⟨T, eT⟩ : ∃ T : List UInt8, T = [97, 98, 99] := ⟨_, rfl⟩
      have hT : T.length ≤ 300 := by rw [eT]; decide
      have eB : Hid ((⟨#[97, 98, 99]⟩ : ByteArray) = ⟨T.toArray⟩) := by show _ = _; rw [eT]
      clear h3 hlt eT
      go_wp2_with fail
      rw [eB.out]
      clear eB
      have hT2 : T.length ≤ 20000 := by omega
      have CS := hide (fun wx => implShortText_calls ⟨T.toArray⟩ (by rw [size_list]; omega) wx)
      rw [shortText_of T hT2] at CS
      have CH := hide (fun wx => implReadShort_calls ⟨(varB 4 T.length ++ T).toArray⟩ 0 (by rw [size_list, List.length_append]; have := (varB_length 4 T.length).2; omega) wx)
      rw [readShort_back T hT2] at CH
      have CX := hide (fun wx => implHex_calls ⟨T.toArray⟩ (by rw [size_list]; omega) wx)
      rw [hex_of T hT2] at CX
      have CU := hide (fun wx => implUnhex_calls ⟨(hexB T).toArray⟩ (by rw [size_list, hexB_length]; omega) wx)
      rw [data_list, unhexL_back T hT2] at CU
      unfold rsV at CH
      dsimp only at CS CH CX CU
      have hsz2 := size_list (varB 4 T.length ++ T)
      rw [List.length_append] at hsz2
      generalize hexB T = hx at *
      generalize (varB 4 T.length).length + T.length = tl at *
      generalize varB 4 T.length ++ T = st at *
      clear hT2 hT
      refine (CS.out _).mono ?_
      rintro e w8 ⟨rfl, hb⟩
      have HB8 := hide (HB7.out.trans (hb.mono HB7.out.size))
      clear hb CS HB7
      go_wp2_with fail
      refine (CH.out _).mono ?_
      rintro e w9 ⟨rfl, hb⟩
      have HB9 := hide (HB8.out.trans (hb.mono HB8.out.size))
      clear hb CH HB8
      go_wp2_with fail
      refine (CX.out _).mono ?_
      rintro e w10 ⟨rfl, hb⟩
      have HB10 := hide (HB9.out.trans (hb.mono HB9.out.size))
      clear hb CX HB9
      go_wp2_with fail
      refine (CU.out _).mono ?_
      rintro e w11 ⟨rfl, hb⟩
      have HB11 := hide (HB10.out.trans (hb.mono HB10.out.size))
      clear hb CU HB10
      go_wp2_with fail
      go_ret
      exact ⟨rfl, HB11.out⟩
end Go.Proofs.YtknlhejpcjpeeaaDoor.P1
