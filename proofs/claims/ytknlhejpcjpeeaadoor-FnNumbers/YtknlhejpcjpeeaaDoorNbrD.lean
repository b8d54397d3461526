/- The drawn number and the drawn text of chapter 1's law; condition: the code at most 2^20 bytes. -/
import Derived.Test.YtknlhejpcjpeeaaDoorPick
import Derived.Test.YtknlhejpcjpeeaaDoorOrd
import Derived.Test.YtknlhejpcjpeeaaDoorVar
namespace Go.Proofs.YtknlhejpcjpeeaaDoor.P1
set_option maxRecDepth 8000
open Go.RowKit Cu

theorem onceN_calls (B g : Nat) (w : World) (hc : Cur B w g) (n : Nat) (hn : 0 < n) (hm : n ≤ 256) :
    Calls Tryd.prog 19 #[.pointer (some ⟨g, 0, none⟩), .int .i64 n] w fun e w' => ∃ b : Bool, e = .returned (.bool b) ∧ Cur B w' g ∧ w.grownBy w' (some g) := by
  have HC := hide hc
  clear hc
  go_enter Tryd.func19, Tryd.ntmps19
  go_wp2_with fail
  refine (below_calls B g _ HC.out n hn (by omega)).mono ?_
  rintro e w2 ⟨x, hx, rfl, hc2, hg2⟩
  have HC2 := hide hc2
  have HG2 := hide hg2
  clear hc2 hg2
  go_wp2_with fail
  go_ret
  exact ⟨_, rfl, HC2.out, HG2.out⟩

set_option maxHeartbeats 1000000 in
theorem number_calls (B g : Nat) (w : World) (hc : Cur B w g) :
    Calls Tryd.prog 15 #[.pointer (some ⟨g, 0, none⟩)] w fun e w' => ∃ n : Int, e = .returned (.int .i64 n) ∧ w.grownBy w' (some g) := by
  have HC := hide hc
  clear hc
  go_enter Tryd.func15, Tryd.ntmps15
  go_wp2_with fail
  refine (below_calls B g _ HC.out 4 (by decide) (by decide)).mono ?_
  rintro e w2 ⟨x, hx, rfl, hc2, hg2⟩
  have HC2 := hide hc2
  have HG2 := hide hg2
  clear hc2 hg2 HC
  by_cases h0 : x = 0
  · have hd : ((x : Int) == 0) = true := by simpa using h0
    clear h0 hx
    go_wp2_with fail
    refine (pick_calls B g w2 HC2.out [-1, 0, 127, 128, 16383, 16384, 1000000000, 1000000001, 9223372036854775807, -9223372036854775808] (by decide) (by decide) 10 rfl _ rfl).mono ?_
    rintro e w3 ⟨y, hy, rfl, hc3, hg3⟩
    have HG3 := hide (grown_trans HG2.out hg3)
    clear hc3 hg3 hy
    go_wp2_with fail
    go_ret
    exact ⟨_, rfl, HG3.out⟩
  · have hd : ((x : Int) == 0) = false := by simpa using h0
    by_cases h1 : x = 1
    · have hd1 : ((x : Int) == 1) = true := by simp; omega
      clear h0 h1 hx
      go_wp2_with fail
      refine (below_calls B g _ HC2.out 1000000000 (by decide) (by decide)).mono ?_
      rintro e w3 ⟨y, hy, rfl, hc3, hg3⟩
      have HG3 := hide (grown_trans HG2.out hg3)
      clear hc3 hg3 hy
      go_wp2_with fail
      go_ret
      exact ⟨_, rfl, HG3.out⟩
    · have hd1 : ((x : Int) == 1) = false := by simp; omega
      clear h0 h1 hx
      go_wp2_with fail
      refine (below_calls B g _ HC2.out 400 (by decide) (by decide)).mono ?_
      rintro e w3 ⟨y, hy, rfl, hc3, hg3⟩
      have HG3 := hide (grown_trans HG2.out hg3)
      clear hc3 hg3 hy
      go_wp2_with fail
      go_ret
      exact ⟨_, rfl, HG3.out⟩

theorem drawNumber_calls (w : World) (a : Option Addr) (len cap : Nat) (hc : Cu.Code w.heap.size w (.slice a len cap) len) :
    Calls Tryd.prog 5 #[.slice a len cap] w fun e w' => ∃ n : Int, e = .returned (.int .i64 n) ∧ Below w.heap.size w w' := by
  have HC := hide hc
  clear hc
  go_enter Tryd.func5, Tryd.ntmps5
  go_wp2_with fail
  refine (new_calls _ a len cap HC.out).mono ?_
  rintro e w1 ⟨rfl, hc1, hb1⟩
  have HC1 := hide hc1
  have HB1 := hide hb1
  clear hc1 hb1
  go_wp2_with fail
  refine (number_calls _ _ _ HC1.out).mono ?_
  rintro e w2 ⟨n, rfl, hg2⟩
  have HB2 := hide (HB1.out.trans (below_of_grown hg2 (Nat.le_refl _) HB1.out.size))
  clear hg2
  go_wp2_with fail
  go_ret
  exact ⟨_, rfl, HB2.out⟩

theorem zerosB (n : Nat) : (madeCells #[Value.int .u8 0] n).toList = cellsB (List.replicate n 0) := by
  rw [toList_madeCells_one]
  simp [cellsB]

theorem setB (l : List UInt8) (k : Nat) (b : UInt8) : (cellsB l).set k (.int .u8 (b.toNat : Int)) = cellsB (l.set k b) := by
  simp [cellsB]

set_option maxHeartbeats 1000000 in
theorem long_calls (n : Nat) (hn : 0 < n) (hn2 : n ≤ 30000) (w : World) :
    Calls Tryd.prog 20 #[.int .i64 n, .int .u8 200] w fun e w' => ∃ l : List UInt8, l.length = n ∧ e = .returned (.string ⟨l.toArray⟩) ∧ Below w.heap.size w w' := by
  obtain ⟨i0, hi, hz0, hz1, hz2⟩ := info_parts info5
  have hb1 := Below.refl w.heap.size w
  go_enter Tryd.func20, Tryd.ntmps20
  go_wp2_with (at_make; refine wpList_make_full _ rfl (.tmp 7) (.tmp 7) 22 rfl w.heap.size 5 i0 (.int .u8 0) 1 Tryd.underlying22 hi hz0 hz1 .i64 .i64 _ _ n rfl rfl (by omega) (by omega) (by rw [hz2]; omega) (by unfold maxLen; omega) hb1.size ?_)
  intro w2 hown2 hgr2
  rw [zerosB] at hown2
  have hb2 : Below w.heap.size w w2 := hb1.grown hgr2 hb1.size (by intro k hk; cases hk)
  have hO := hide hown2
  have hB := hide hb2
  have hgO : w.heap.size ≤ w.heap.size := Nat.le_refl _
  obtain ⟨gO, egO⟩ : ∃ g, g = w.heap.size := ⟨_, rfl⟩
  clear hown2 hb2 hgr2 hb1
  go_wp2
  go_loopw [6] (fun i wr => ∃ (k : Nat) (l : List UInt8), k ≤ n ∧ l.length = n ∧ i = .int .i64 (k : Int) ∧ Hid (wr.ownsRow w.heap.size 5 1 (.slice (some ⟨w.heap.size, 0, none⟩) n n) n (cellsB l)) ∧ Hid (Below w.heap.size w wr)) (fun i _ => n - (intOf i).toNat)
  case atStart => exact ⟨0, List.replicate n 0, Nat.zero_le _, List.length_replicate, rfl, hO.out, hB.out⟩
  case round =>
    clear hO hB
    obtain ⟨k, l, hk, hl, rfl, HO, HB⟩ := hrel
    by_cases hlt : k < n
    · obtain ⟨x, hcO⟩ : ∃ x, wr.cell? ⟨w.heap.size, k, none⟩ = some x := by rw [HO.out.cellAt k (by omega)]; exact ⟨_, List.getElem?_eq_getElem (by rw [cellsB_length]; omega)⟩
      have hfO : wr.frozen? ⟨w.heap.size, k, none⟩ = false := HO.out.frozenAt k
      go_wp2
      go_roundw
      case rel =>
        have hst := HO.out.stored k (.int .u8 (((200 : UInt8).toNat : Nat) : Int))
        rw [setB] at hst
        exact ⟨k + 1, l.set k 200, by omega, by rw [List.length_set]; exact hl, by go_num, hst.1, HB.out.setCell (Nat.le_refl _) _⟩
      case measure => simp [intOf]; omega
    · have hcv := own_text_any (P := Tryd.prog) (l := l) (by rw [hl]; exact HO.out) 22 9 Tryd.underlying22 Tryd.underlying5 Tryd.underlying9
      go_wp2
      go_ret
      exact ⟨l, hl, rfl, HB.out⟩

set_option maxRecDepth 100000 in
set_option maxHeartbeats 1000000 in
theorem drawText_calls (w : World) (a : Option Addr) (len cap : Nat) (hc : Cu.Code w.heap.size w (.slice a len cap) len) :
    Calls Tryd.prog 10 #[.slice a len cap] w fun e w' => ∃ l : List UInt8, l.length ≤ 30000 ∧ e = .returned (.string ⟨l.toArray⟩) ∧ Below w.heap.size w w' := by
  have HC := hide hc
  clear hc
  go_enter Tryd.func10, Tryd.ntmps10
  go_wp2_with fail
  refine (new_calls _ a len cap HC.out).mono ?_
  rintro e w1 ⟨rfl, hc1, hb1⟩
  have HC1 := hide hc1
  have HB1 := hide hb1
  clear hc1 hb1 HC
  obtain ⟨g, eg⟩ : ∃ g, g = w.heap.size := ⟨_, rfl⟩
  rw [← eg] at HC1 ⊢
  have HG : Hid (w.heap.size ≤ g) := Nat.le_of_eq eg.symm
  clear eg
  go_wp2_with fail
  refine (onceN_calls _ g _ HC1.out 60 (by decide) (by decide)).mono ?_
  rintro e w2 ⟨b, rfl, hc2, hg2⟩
  have HC2 := hide hc2
  have HB2 := hide (HB1.out.trans (below_of_grown hg2 HG.out HB1.out.size))
  clear hc2 hg2 HC1 HB1
  cases b with
  | true =>
    go_wp2_with fail
    refine (below_calls _ g _ HC2.out 2 (by decide) (by decide)).mono ?_
    rintro e w3 ⟨x, hx, rfl, hc3, hg3⟩
    have HB3 := hide (HB2.out.trans (below_of_grown hg3 HG.out HB2.out.size))
    have hcast : Hid ((20000 : Int) + (x : Int) = ((20000 + x : Nat) : Int)) := by show _ = _; omega
    have HL := hide (fun wx => long_calls (20000 + x) (by omega) (by omega) wx)
    clear hc3 hg3 HC2 HB2
    go_wp2_with fail
    rw [hcast.out]
    refine (HL.out _).mono ?_
    rintro e w4 ⟨l, hl, rfl, hb4⟩
    have HB4 := hide (HB3.out.trans (hb4.mono HB3.out.size))
    clear hb4 HL HB3 hcast
    go_wp2_with fail
    go_ret
    exact ⟨l, by omega, rfl, HB4.out⟩
  | false =>
    go_wp2_with fail
    refine (below_calls _ g _ HC2.out 30 (by decide) (by decide)).mono ?_
    rintro e w3 ⟨x, hx, rfl, hc3, hg3⟩
    have HC3 := hide hc3
    have HB3 := hide (HB2.out.trans (below_of_grown hg3 HG.out HB2.out.size))
    clear hc3 hg3 HC2 HB2
    go_wp2_with fail
    refine (text_calls _ g _ HC3.out x (by omega)).mono ?_
    rintro e w4 ⟨l, hl, rfl, hc4, hg4⟩
    have HB4 := hide (HB3.out.trans (below_of_grown hg4 HG.out HB3.out.size))
    clear hc4 hg4 HC3 HB3
    go_wp2_with fail
    go_ret
    exact ⟨l, by omega, rfl, HB4.out⟩
end Go.Proofs.YtknlhejpcjpeeaaDoor.P1
