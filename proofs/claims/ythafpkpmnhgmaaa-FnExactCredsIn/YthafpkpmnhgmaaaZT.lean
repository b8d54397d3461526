/- The draws of lists of words; only the cursor and new memory are written.
The draws of lists of words, right or not, and what FnMembers and FnMembersTold draw; only new memory is written.
The draws of facts and a word, and of words, a role and somebody; only new memory is written. -/
import Derived.Test.YthafpkpmnhgmaaaZO
import Derived.Test.YthafpkpmnhgmaaaZM
namespace Go.Proofs.Ythafpkpmnhgmaaa.P6
set_option maxRecDepth 8000
open Go.RowKit P1 P5 Rc Cu

/-- What a drawn list of right words leaves. -/
def CredsR (B g : Nat) (w : World) (e : Ending) (w' : World) : Prop := ∃ (v : Value) (L : List Cr), e = .returned v ∧ 1 ≤ L.length ∧ L.length ≤ 9 ∧ (∀ c ∈ L, credOk c) ∧ w'.ownsRow w.heap.size 39 10 v L.length (cellsI (flat crR L)) ∧ Cur B w' g ∧ w.grownBy w' (some g)

set_option maxHeartbeats 1000000 in
theorem creds_calls (B g : Nat) (w : World) (hc : Cur B w g) (hB : B ≤ w.heap.size) :
    Calls Try.prog 67 #[.pointer (some ⟨g, 0, none⟩)] w fun e w' => CredsR B g w e w' := by
  have hg := hc.2.1
  obtain ⟨i0, hi, hz0, hz1, hz2⟩ := info_parts info_cred
  have hb0 : Below w.heap.size w (w.alloc (.cells #[] 39)) := (Below.refl _ _).alloc (Nat.le_refl _) _
  have HC0 := hide (cur_below hc hb0 hg)
  have HG0 := hide (grown_below (grown_refl w (some g)) hb0)
  have HO0 := hide (World.ownsRow_lit (base := w.heap.size) (e := 39) (size := 10) w #[] 0 (Nat.le_refl _) (by decide) rfl)
  clear hc hb0
  go_enter Try.func67, Try.ntmps67
  go_wp2_with fail
  generalize w.alloc (.cells #[] 39) = w1 at *
  go_loopw [3, 4] (fun v i wr => ∃ L : List Cr, L.length ≤ 9 ∧ i = .int .i64 L.length ∧ Hid (∀ c ∈ L, credOk c) ∧ Hid (wr.ownsRow w.heap.size 39 10 v L.length (cellsI (flat crR L))) ∧ Hid (Cur B wr g) ∧ Hid (w.grownBy wr (some g))) (fun _ i _ => 10 - (intOf i).toNat)
  case atStart => exact ⟨[], by decide, rfl, by show ∀ c ∈ ([] : List Cr), _; simp, HO0.out, HC0.out, HG0.out⟩
  case round =>
    clear HO0 HC0 HG0
    obtain ⟨L, hL, rfl, HK, HO, HC, HG⟩ := hrel
    generalize hn : L.length = n at *
    go_wp2_with fail
    refine (below_calls B g _ HC.out 9 (by decide) (by decide)).mono ?_
    rintro e w2 ⟨x, hx, rfl, hc2, hg2⟩
    have HO2 := hide (own_kept HO.out hg2 hg)
    have HC2 := hide hc2
    have HG2 := hide (grown_trans HG.out hg2)
    clear hc2 hg2 HO HC HG
    by_cases hlt : n < 1 + x
    · go_wp2_with fail
      refine (l05Cred_calls B g _ HC2.out (Nat.le_trans hB HG2.out.size)).mono ?_
      rintro e w3 ⟨c, hok, rfl, hc3, hg3⟩
      have HO3 := hide (own_kept HO2.out hg3 hg)
      have HC3 := hide hc3
      have HG3 := hide (grown_trans HG2.out hg3)
      have hz3 := HG3.out.size
      have HK2 : Hid (∀ d ∈ L ++ [c], credOk d) := fun d hd => by
        rcases List.mem_append.1 hd with h | h
        · exact HK.out d h
        · rw [List.mem_singleton.1 h]; exact hok
      have hlen2 : (L ++ [c]).length = n + 1 := by simp [hn]
      clear hc3 hg3 hok HO2 HC2 HG2 HK
      obtain ⟨k, ow, on, wh, aw, an, bw, bn, u, m⟩ := c
      simp only [credV]
      have HN := hide hn
      have HLN := hide hlen2
      clear hlen2 hn
      go_wp2_with (at_builtin; refine wpList_append_one (cs := #[.int .i64 k, .int .i64 ow, .int .i64 on, .int .i64 wh, .int .i64 aw, .int .i64 an, .int .i64 bw, .int .i64 bn, .int .i64 u, .int .i64 m]) (Below.refl w.heap.size _) hz3 rfl (.tmp 13) (.tmp 16) 24 rfl 39 i0 (.agg #[.int .i64 0, .int .i64 0, .int .i64 0, .int .i64 0, .int .i64 0, .int .i64 0, .int .i64 0, .int .i64 0, .int .i64 0, .int .i64 0]) 10 80 Try.underlying24 hi hz0 hz1 hz2 rfl (by decide) rfl (by simp [Value.oneCell']) _ _ _ rfl HO3.out 1 rfl (by omega) (by omega) ?_)
      intro v4 w4 hown hb
      have HO4 : Hid (w4.ownsRow w.heap.size 39 10 v4 (L ++ [(⟨k, ow, on, wh, aw, an, bw, bn, u, m⟩ : Cr)]).length (cellsI (flat crR (L ++ [⟨k, ow, on, wh, aw, an, bw, bn, u, m⟩])))) := by
        have h1 : w4.ownsRow w.heap.size 39 10 v4 (L.length + 1) (cellsI (flat crR L) ++ #[Value.int .i64 k, .int .i64 ow, .int .i64 on, .int .i64 wh, .int .i64 aw, .int .i64 an, .int .i64 bw, .int .i64 bn, .int .i64 u, .int .i64 m].toList) := by rw [HN.out]; exact hown
        exact own_snocR (R := crR) (x := (⟨k, ow, on, wh, aw, an, bw, bn, u, m⟩ : Cr)) rfl h1
      have HC4 := hide (cur_below HC3.out hb hg)
      have HG4 := hide (grown_below HG3.out hb)
      clear hown hb
      go_wp2
      go_roundw
      case rel => exact ⟨L ++ [(⟨k, ow, on, wh, aw, an, bw, bn, u, m⟩ : Cr)], by rw [HLN.out]; omega, by rw [HLN.out]; go_num, HK2.out, HO4.out, HC4.out, HG4.out⟩
      case measure => simp [intOf]; omega
    · go_wp2
      go_ret
      exact ⟨_, L, rfl, by omega, by omega, HK.out, by rw [hn]; exact HO2.out, HC2.out, HG2.out⟩
end Go.Proofs.Ythafpkpmnhgmaaa.P6
namespace Go.Proofs.Ythafpkpmnhgmaaa.P6
set_option maxRecDepth 8000
open Go.RowKit P1 P5 Rc Cu

/-- What a drawn list of words leaves. -/
def AnysR (B g : Nat) (w : World) (e : Ending) (w' : World) : Prop := ∃ (v : Value) (L : List Cr), e = .returned v ∧ L.length ≤ 10 ∧ w'.ownsRow w.heap.size 39 10 v L.length (cellsI (flat crR L)) ∧ Cur B w' g ∧ w.grownBy w' (some g)

set_option maxHeartbeats 1000000 in
theorem anys_calls (B g : Nat) (w : World) (hc : Cur B w g) (hB : B ≤ w.heap.size) :
    Calls Try.prog 108 #[.pointer (some ⟨g, 0, none⟩)] w fun e w' => AnysR B g w e w' := by
  have hg := hc.2.1
  have HC := hide hc
  obtain ⟨i0, hi, hz0, hz1, hz2⟩ := info_parts info_cred
  clear hc
  go_enter Try.func108, Try.ntmps108
  go_wp2_with fail
  refine (creds_calls B g w HC.out hB).mono ?_
  rintro e w1 ⟨v1, L, rfl, -, hL, -, ho, hc1, hg1⟩
  have HO := hide ho
  have HC := hide hc1
  have HG := hide hg1
  clear ho hc1 hg1
  generalize hn : L.length = n at *
  obtain ⟨a1, c1, hsh⟩ := own_shape HO.out
  subst hsh
  go_wp2_with fail
  refine (once_calls B g _ HC.out 4 (by decide) (by decide)).mono ?_
  rintro e w2 ⟨b, rfl, hc2, hg2⟩
  have HO := hide (own_kept HO.out hg2 hg)
  have HC := hide hc2
  have HG := hide (grown_trans HG.out hg2)
  clear hc2 hg2
  cases b with
  | true =>
    go_wp2_with fail
    refine (l05Any_calls B g _ HC.out (Nat.le_trans hB HG.out.size)).mono ?_
    rintro e w3 ⟨⟨k, ow, on, wh, aw, an, bw, bn, u, m⟩, rfl, hc3, hg3⟩
    have HO3 := hide (own_kept HO.out hg3 hg)
    have HC3 := hide hc3
    have HG3 := hide (grown_trans HG.out hg3)
    have hz3 := HG3.out.size
    have HN := hide hn
    simp only [credV]
    clear hc3 hg3 hn
    go_wp2_with (at_builtin; refine wpList_append_one (cs := #[.int .i64 k, .int .i64 ow, .int .i64 on, .int .i64 wh, .int .i64 aw, .int .i64 an, .int .i64 bw, .int .i64 bn, .int .i64 u, .int .i64 m]) (Below.refl w.heap.size _) hz3 rfl (.tmp 8) (.tmp 11) 24 rfl 39 i0 (.agg #[.int .i64 0, .int .i64 0, .int .i64 0, .int .i64 0, .int .i64 0, .int .i64 0, .int .i64 0, .int .i64 0, .int .i64 0, .int .i64 0]) 10 80 Try.underlying24 hi hz0 hz1 hz2 rfl (by decide) rfl (by simp [Value.oneCell']) _ _ _ rfl HO3.out 1 rfl (by omega) (by omega) ?_)
    intro v4 w4 hown hb
    have HO4 : Hid (w4.ownsRow w.heap.size 39 10 v4 (L ++ [(⟨k, ow, on, wh, aw, an, bw, bn, u, m⟩ : Cr)]).length (cellsI (flat crR (L ++ [(⟨k, ow, on, wh, aw, an, bw, bn, u, m⟩ : Cr)])))) := by
      have h1 : w4.ownsRow w.heap.size 39 10 v4 (L.length + 1) (cellsI (flat crR L) ++ (#[.int .i64 k, .int .i64 ow, .int .i64 on, .int .i64 wh, .int .i64 aw, .int .i64 an, .int .i64 bw, .int .i64 bn, .int .i64 u, .int .i64 m] : Array Value).toList) := by rw [HN.out]; exact hown
      exact own_snocR (R := crR) (x := (⟨k, ow, on, wh, aw, an, bw, bn, u, m⟩ : Cr)) rfl h1
    have HC4 := hide (cur_below HC3.out hb hg)
    have HG4 := hide (grown_below HG3.out hb)
    clear hown hb
    go_wp2_with fail
    go_ret
    exact ⟨v4, L ++ [(⟨k, ow, on, wh, aw, an, bw, bn, u, m⟩ : Cr)], rfl, by rw [List.length_append, HN.out]; simp; omega, HO4.out, HC4.out, HG4.out⟩
  | false =>
    go_wp2_with fail
    go_ret
    exact ⟨_, L, rfl, by omega, by rw [hn]; exact HO.out, HC.out, HG.out⟩

set_option maxHeartbeats 400000 in
theorem drawWords_calls (w : World) (a : Option Addr) (len cap : Nat) (hc : Cu.Code w.heap.size w (.slice a len cap) len) :
    Calls Try.prog 16 #[.slice a len cap] w fun e w' => ∃ (v : Value) (L : List Cr), e = .returned v ∧ 1 ≤ L.length ∧ L.length ≤ 9 ∧ (∀ c ∈ L, credOk c) ∧ w'.ownsRow w.heap.size 39 10 v L.length (cellsI (flat crR L)) ∧ Below w.heap.size w w' := by
  have HC := hide hc
  clear hc
  go_enter Try.func16, Try.ntmps16
  go_wp2_with fail
  refine (new_calls w a len cap HC.out).mono ?_
  rintro e w1 ⟨rfl, hc1, hb1⟩
  have HC1 := hide hc1
  have HB1 := hide hb1
  clear hc1 hb1
  go_wp2_with fail
  refine (creds_calls w.heap.size w.heap.size w1 HC1.out HB1.out.size).mono ?_
  rintro e w2 ⟨v2, L, rfl, h1, h2, hk, ho, hc2, hg2⟩
  have HO := hide (own_mono ho HB1.out.size)
  have HB2 := hide (HB1.out.trans (below_of_grown hg2 (Nat.le_refl _) HB1.out.size))
  have HK := hide hk
  clear hk ho hc2 hg2
  go_wp2_with fail
  go_ret
  exact ⟨v2, L, rfl, h1, h2, HK.out, HO.out, HB2.out⟩
end Go.Proofs.Ythafpkpmnhgmaaa.P6
namespace Go.Proofs.Ythafpkpmnhgmaaa.P6
open Go.RowKit P1 P5 Rc Cu

theorem own_low {w : World} {B : Nat} {e : TypeId} {size n b : Nat} {v : Value} {xs : List Value} (h : w.ownsRow B e size v n xs) (hb : b < B) (i : Nat) (u : Value) : (w.setCell ⟨b, i, none⟩ u).ownsRow B e size v n xs := by
  refine h.kept (grown_set w b i u) ?_
  cases hv : v.ownBlock with
  | none => exact .inl rfl
  | some k =>
    right
    intro e
    have h1 : k = b := by simpa using e
    have := (h.lt k hv).1
    omega

/-- A world in which that block is so. -/
structure BlkAt (b : Nat) (cs : List Value) (t : TypeId) where
  w : World
  h : Blk w b cs t

theorem enterC : ∀ args w, (callFunc 67 args).run Try.prog w = .ok (.enter 67 args) w := run_enter Try.func67 (by kernel_rfl) (by kernel_rfl)

theorem enterN : ∀ args w, (callFunc 108 args).run Try.prog w = .ok (.enter 108 args) w := run_enter Try.func108 (by kernel_rfl) (by kernel_rfl)
end Go.Proofs.Ythafpkpmnhgmaaa.P6
