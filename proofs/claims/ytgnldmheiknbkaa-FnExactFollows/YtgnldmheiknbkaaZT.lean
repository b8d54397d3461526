/- The draws of lists of words; only the cursor and new memory are written.
The draws of lists of words, right or not, and what FnMembers and FnMembersTold draw; only new memory is written.
The draws of facts and a word, and of words, a role and somebody; only new memory is written. -/
import Derived.Test.YtgnldmheiknbkaaZO
import Derived.Test.YtgnldmheiknbkaaZM
namespace Go.Proofs.Ytgnldmheiknbkaa.P6
set_option maxRecDepth 8000
open Go.RowKit P1 P5 Rc Cu

/-- What a drawn list of right words leaves. -/
def CredsR (B g : Nat) (w : World) (e : Ending) (w' : World) : Prop := ∃ (v : Value) (L : List Cr), e = .returned v ∧ 1 ≤ L.length ∧ L.length ≤ 9 ∧ (∀ c ∈ L, credOk c) ∧ w'.ownsRow w.heap.size 29 10 v L.length (cellsI (flat crR L)) ∧ Cur B w' g ∧ w.grownBy w' (some g)

set_option maxHeartbeats 1000000 in
theorem creds_calls (B g : Nat) (w : World) (hc : Cur B w g) (hB : B ≤ w.heap.size) :
    Calls Try.prog 49 #[.pointer (some ⟨g, 0, none⟩)] w fun e w' => CredsR B g w e w' := by
  have hg := hc.2.1
  obtain ⟨i0, hi, hz0, hz1, hz2⟩ := info_parts info_cred
  have hb0 : Below w.heap.size w (w.alloc (.cells #[] 29)) := (Below.refl _ _).alloc (Nat.le_refl _) _
  have HC0 := hide (cur_below hc hb0 hg)
  have HG0 := hide (grown_below (grown_refl w (some g)) hb0)
  have HO0 := hide (World.ownsRow_lit (base := w.heap.size) (e := 29) (size := 10) w #[] 0 (Nat.le_refl _) (by decide) rfl)
  clear hc hb0
  go_enter Try.func49, Try.ntmps49
  go_wp2_with fail
  generalize w.alloc (.cells #[] 29) = w1 at *
  go_loopw [3, 4] (fun v i wr => ∃ L : List Cr, L.length ≤ 9 ∧ i = .int .i64 L.length ∧ Hid (∀ c ∈ L, credOk c) ∧ Hid (wr.ownsRow w.heap.size 29 10 v L.length (cellsI (flat crR L))) ∧ Hid (Cur B wr g) ∧ Hid (w.grownBy wr (some g))) (fun _ i _ => 10 - (intOf i).toNat)
  case atStart => exact ⟨[], by decide, rfl, by show ∀ c ∈ ([] : List Cr), _; simp, HO0.out, HC0.out, HG0.out⟩
  case round =>
    clear HO0 HC0 HG0
    obtain ⟨L, hL, rfl, HK, HO, HC, HG⟩ := hrel
    generalize hn : L.length = n at *
    go_wp2_with fail
    refine (below_calls B g _ HC.out 9 (by decide) (by decide)).mono ?_
    rintro e w2 ⟨x, hx, rfl, hc2, hg2⟩
    have HO2 := hide (own_kept HO.out hg2 hg)
    have HC2 := hide hc2
    have HG2 := hide (grown_trans HG.out hg2)
    clear hc2 hg2 HO HC HG
    by_cases hlt : n < 1 + x
    · go_wp2_with fail
      refine (l05Cred_calls B g _ HC2.out (Nat.le_trans hB HG2.out.size)).mono ?_
      rintro e w3 ⟨c, hok, rfl, hc3, hg3⟩
      have HO3 := hide (own_kept HO2.out hg3 hg)
      have HC3 := hide hc3
      have HG3 := hide (grown_trans HG2.out hg3)
      have hz3 := HG3.out.size
      have HK2 : Hid (∀ d ∈ L ++ [c], credOk d) := fun d hd => by
        rcases List.mem_append.1 hd with h | h
        · exact HK.out d h
        · rw [List.mem_singleton.1 h]; exact hok
      have hlen2 : (L ++ [c]).length = n + 1 := by simp [hn]
      clear hc3 hg3 hok HO2 HC2 HG2 HK
      obtain ⟨k, ow, on, wh, aw, an, bw, bn, u, m⟩ := c
      simp only [credV]
      have HN := hide hn
      have HLN := hide hlen2
      clear hlen2 hn
      go_wp2_with (at_builtin; refine wpList_append_one (cs := #[.int .i64 k, .int .i64 ow, .int .i64 on, .int .i64 wh, .int .i64 aw, .int .i64 an, .int .i64 bw, .int .i64 bn, .int .i64 u, .int .i64 m]) (Below.refl w.heap.size _) hz3 rfl (.tmp 13) (.tmp 16) 24 rfl 29 i0 (.agg #[.int .i64 0, .int .i64 0, .int .i64 0, .int .i64 0, .int .i64 0, .int .i64 0, .int .i64 0, .int .i64 0, .int .i64 0, .int .i64 0]) 10 80 Try.underlying24 hi hz0 hz1 hz2 rfl (by decide) rfl (by simp [Value.oneCell']) _ _ _ rfl HO3.out 1 rfl (by omega) (by omega) ?_)
      intro v4 w4 hown hb
      have HO4 : Hid (w4.ownsRow w.heap.size 29 10 v4 (L ++ [(⟨k, ow, on, wh, aw, an, bw, bn, u, m⟩ : Cr)]).length (cellsI (flat crR (L ++ [⟨k, ow, on, wh, aw, an, bw, bn, u, m⟩])))) := by
        have h1 : w4.ownsRow w.heap.size 29 10 v4 (L.length + 1) (cellsI (flat crR L) ++ #[Value.int .i64 k, .int .i64 ow, .int .i64 on, .int .i64 wh, .int .i64 aw, .int .i64 an, .int .i64 bw, .int .i64 bn, .int .i64 u, .int .i64 m].toList) := by rw [HN.out]; exact hown
        exact own_snocR (R := crR) (x := (⟨k, ow, on, wh, aw, an, bw, bn, u, m⟩ : Cr)) rfl h1
      have HC4 := hide (cur_below HC3.out hb hg)
      have HG4 := hide (grown_below HG3.out hb)
      clear hown hb
      go_wp2
      go_roundw
      case rel => exact ⟨L ++ [(⟨k, ow, on, wh, aw, an, bw, bn, u, m⟩ : Cr)], by rw [HLN.out]; omega, by rw [HLN.out]; go_num, HK2.out, HO4.out, HC4.out, HG4.out⟩
      case measure => simp [intOf]; omega
    · go_wp2
      go_ret
      exact ⟨_, L, rfl, by omega, by omega, HK.out, by rw [hn]; exact HO2.out, HC2.out, HG2.out⟩
end Go.Proofs.Ytgnldmheiknbkaa.P6
namespace Go.Proofs.Ytgnldmheiknbkaa.P6
set_option maxRecDepth 8000
open Go.RowKit P1 P5 Rc Cu

/-- What a drawn list of words leaves. -/
def AnysR (B g : Nat) (w : World) (e : Ending) (w' : World) : Prop := ∃ (v : Value) (L : List Cr), e = .returned v ∧ L.length ≤ 10 ∧ w'.ownsRow w.heap.size 29 10 v L.length (cellsI (flat crR L)) ∧ Cur B w' g ∧ w.grownBy w' (some g)

set_option maxHeartbeats 1000000 in
theorem anys_calls (B g : Nat) (w : World) (hc : Cur B w g) (hB : B ≤ w.heap.size) :
    Calls Try.prog 58 #[.pointer (some ⟨g, 0, none⟩)] w fun e w' => AnysR B g w e w' := by
  have hg := hc.2.1
  have HC := hide hc
  obtain ⟨i0, hi, hz0, hz1, hz2⟩ := info_parts info_cred
  clear hc
  go_enter Try.func58, Try.ntmps58
  go_wp2_with fail
  refine (creds_calls B g w HC.out hB).mono ?_
  rintro e w1 ⟨v1, L, rfl, -, hL, -, ho, hc1, hg1⟩
  have HO := hide ho
  have HC := hide hc1
  have HG := hide hg1
  clear ho hc1 hg1
  generalize hn : L.length = n at *
  obtain ⟨a1, c1, hsh⟩ := own_shape HO.out
  subst hsh
  go_wp2_with fail
  refine (once_calls B g _ HC.out 4 (by decide) (by decide)).mono ?_
  rintro e w2 ⟨b, rfl, hc2, hg2⟩
  have HO := hide (own_kept HO.out hg2 hg)
  have HC := hide hc2
  have HG := hide (grown_trans HG.out hg2)
  clear hc2 hg2
  cases b with
  | true =>
    go_wp2_with fail
    refine (l05Any_calls B g _ HC.out (Nat.le_trans hB HG.out.size)).mono ?_
    rintro e w3 ⟨⟨k, ow, on, wh, aw, an, bw, bn, u, m⟩, rfl, hc3, hg3⟩
    have HO3 := hide (own_kept HO.out hg3 hg)
    have HC3 := hide hc3
    have HG3 := hide (grown_trans HG.out hg3)
    have hz3 := HG3.out.size
    have HN := hide hn
    simp only [credV]
    clear hc3 hg3 hn
    go_wp2_with (at_builtin; refine wpList_append_one (cs := #[.int .i64 k, .int .i64 ow, .int .i64 on, .int .i64 wh, .int .i64 aw, .int .i64 an, .int .i64 bw, .int .i64 bn, .int .i64 u, .int .i64 m]) (Below.refl w.heap.size _) hz3 rfl (.tmp 8) (.tmp 11) 24 rfl 29 i0 (.agg #[.int .i64 0, .int .i64 0, .int .i64 0, .int .i64 0, .int .i64 0, .int .i64 0, .int .i64 0, .int .i64 0, .int .i64 0, .int .i64 0]) 10 80 Try.underlying24 hi hz0 hz1 hz2 rfl (by decide) rfl (by simp [Value.oneCell']) _ _ _ rfl HO3.out 1 rfl (by omega) (by omega) ?_)
    intro v4 w4 hown hb
    have HO4 : Hid (w4.ownsRow w.heap.size 29 10 v4 (L ++ [(⟨k, ow, on, wh, aw, an, bw, bn, u, m⟩ : Cr)]).length (cellsI (flat crR (L ++ [(⟨k, ow, on, wh, aw, an, bw, bn, u, m⟩ : Cr)])))) := by
      have h1 : w4.ownsRow w.heap.size 29 10 v4 (L.length + 1) (cellsI (flat crR L) ++ (#[.int .i64 k, .int .i64 ow, .int .i64 on, .int .i64 wh, .int .i64 aw, .int .i64 an, .int .i64 bw, .int .i64 bn, .int .i64 u, .int .i64 m] : Array Value).toList) := by rw [HN.out]; exact hown
      exact own_snocR (R := crR) (x := (⟨k, ow, on, wh, aw, an, bw, bn, u, m⟩ : Cr)) rfl h1
    have HC4 := hide (cur_below HC3.out hb hg)
    have HG4 := hide (grown_below HG3.out hb)
    clear hown hb
    go_wp2_with fail
    go_ret
    exact ⟨v4, L ++ [(⟨k, ow, on, wh, aw, an, bw, bn, u, m⟩ : Cr)], rfl, by rw [List.length_append, HN.out]; simp; omega, HO4.out, HC4.out, HG4.out⟩
  | false =>
    go_wp2_with fail
    go_ret
    exact ⟨_, L, rfl, by omega, by rw [hn]; exact HO.out, HC.out, HG.out⟩

set_option maxHeartbeats 400000 in
theorem drawWords_calls (w : World) (a : Option Addr) (len cap : Nat) (hc : Cu.Code w.heap.size w (.slice a len cap) len) :
    Calls Try.prog 11 #[.slice a len cap] w fun e w' => ∃ (v : Value) (L : List Cr), e = .returned v ∧ 1 ≤ L.length ∧ L.length ≤ 9 ∧ (∀ c ∈ L, credOk c) ∧ w'.ownsRow w.heap.size 29 10 v L.length (cellsI (flat crR L)) ∧ Below w.heap.size w w' := by
  have HC := hide hc
  clear hc
  go_enter Try.func11, Try.ntmps11
  go_wp2_with fail
  refine (new_calls w a len cap HC.out).mono ?_
  rintro e w1 ⟨rfl, hc1, hb1⟩
  have HC1 := hide hc1
  have HB1 := hide hb1
  clear hc1 hb1
  go_wp2_with fail
  refine (creds_calls w.heap.size w.heap.size w1 HC1.out HB1.out.size).mono ?_
  rintro e w2 ⟨v2, L, rfl, h1, h2, hk, ho, hc2, hg2⟩
  have HO := hide (own_mono ho HB1.out.size)
  have HB2 := hide (HB1.out.trans (below_of_grown hg2 (Nat.le_refl _) HB1.out.size))
  have HK := hide hk
  clear hk ho hc2 hg2
  go_wp2_with fail
  go_ret
  exact ⟨v2, L, rfl, h1, h2, HK.out, HO.out, HB2.out⟩

set_option maxHeartbeats 400000 in
theorem drawFactsOf_calls (w : World) (a : Option Addr) (len cap : Nat) (hc : Cu.Code w.heap.size w (.slice a len cap) len) :
    Calls Try.prog 21 #[.slice a len cap] w fun e w' => ∃ (v : Value) (L : List Cr), e = .returned v ∧ L.length ≤ 10 ∧ w'.ownsRow w.heap.size 29 10 v L.length (cellsI (flat crR L)) ∧ Below w.heap.size w w' := by
  have HC := hide hc
  clear hc
  go_enter Try.func21, Try.ntmps21
  go_wp2_with fail
  refine (new_calls w a len cap HC.out).mono ?_
  rintro e w1 ⟨rfl, hc1, hb1⟩
  have HC1 := hide hc1
  have HB1 := hide hb1
  clear hc1 hb1
  go_wp2_with fail
  refine (anys_calls w.heap.size w.heap.size w1 HC1.out HB1.out.size).mono ?_
  rintro e w2 ⟨v2, L, rfl, h2, ho, hc2, hg2⟩
  have HO := hide (own_mono ho HB1.out.size)
  have HB2 := hide (HB1.out.trans (below_of_grown hg2 (Nat.le_refl _) HB1.out.size))
  clear ho hc2 hg2
  go_wp2_with fail
  go_ret
  exact ⟨v2, L, rfl, h2, HO.out, HB2.out⟩

set_option maxHeartbeats 400000 in
theorem drawAlive_calls (w : World) (a : Option Addr) (len cap : Nat) (hc : Cu.Code w.heap.size w (.slice a len cap) len) :
    Calls Try.prog 23 #[.slice a len cap] w fun e w' => ∃ (v : Value) (L : List Cr) (now : Int), e = .returned (.tuple #[v, .int .i64 now]) ∧ L.length ≤ 10 ∧ w'.ownsRow w.heap.size 29 10 v L.length (cellsI (flat crR L)) ∧ Below w.heap.size w w' := by
  have HC := hide hc
  clear hc
  go_enter Try.func23, Try.ntmps23
  go_wp2_with fail
  refine (new_calls w a len cap HC.out).mono ?_
  rintro e w1 ⟨rfl, hc1, hb1⟩
  have HC1 := hide hc1
  have HB1 := hide hb1
  clear hc1 hb1
  go_wp2_with fail
  refine (pick_calls w.heap.size w.heap.size w1 HC1.out [0, 5, 6, 51, 9999, 10000] (by decide) (by decide) 6 rfl _ rfl).mono ?_
  rintro e w3 ⟨now, -, rfl, hc3, hg3⟩
  have HC3 := hide hc3
  have HB3 := hide (HB1.out.trans (below_of_grown hg3 (Nat.le_refl _) HB1.out.size))
  clear hc3 hg3
  go_wp2_with fail
  refine (anys_calls w.heap.size w.heap.size w3 HC3.out HB3.out.size).mono ?_
  rintro e w2 ⟨v2, L, rfl, h2, ho, hc2, hg2⟩
  have HO := hide (own_mono ho HB3.out.size)
  have HB2 := hide (HB3.out.trans (below_of_grown hg2 (Nat.le_refl _) HB3.out.size))
  clear ho hc2 hg2
  obtain ⟨a2, c2, hsh⟩ := own_shape HO.out
  generalize hn : L.length = n at *
  subst hsh
  go_wp2_with fail
  go_ret2
  exact ⟨_, L, now, rfl, by omega, by rw [hn]; exact HO.out, HB2.out⟩
end Go.Proofs.Ytgnldmheiknbkaa.P6
namespace Go.Proofs.Ytgnldmheiknbkaa.P6
set_option maxRecDepth 8000
open Go.RowKit P1 P5 Rc Cu

theorem own_low {w : World} {B : Nat} {e : TypeId} {size n b : Nat} {v : Value} {xs : List Value} (h : w.ownsRow B e size v n xs) (hb : b < B) (i : Nat) (u : Value) : (w.setCell ⟨b, i, none⟩ u).ownsRow B e size v n xs := by
  refine h.kept (grown_set w b i u) ?_
  cases hv : v.ownBlock with
  | none => exact .inl rfl
  | some k =>
    right
    intro e
    have h1 : k = b := by simpa using e
    have := (h.lt k hv).1
    omega

/-- A world in which that block is so. -/
structure BlkAt (b : Nat) (cs : List Value) (t : TypeId) where
  w : World
  h : Blk w b cs t

theorem enterC : ∀ args w, (callFunc 49 args).run Try.prog w = .ok (.enter 49 args) w := run_enter Try.func49 (by kernel_rfl) (by kernel_rfl)

theorem enterN : ∀ args w, (callFunc 58 args).run Try.prog w = .ok (.enter 58 args) w := run_enter Try.func58 (by kernel_rfl) (by kernel_rfl)

set_option maxHeartbeats 2000000 in
theorem drawFollows_calls (w : World) (a : Option Addr) (len cap : Nat) (hc : Cu.Code w.heap.size w (.slice a len cap) len) :
    Calls Try.prog 20 #[.slice a len cap] w fun e w' => ∃ (v : Value) (F : List Fa) (c : Cr), e = .returned (.tuple #[v, credV c]) ∧ F.length ≤ 144 ∧ w'.ownsRow w.heap.size 36 3 v F.length (cellsI (flat faR F)) ∧ Below w.heap.size w w' := by
  have hbA : Below w.heap.size w (w.alloc (.cells #[.int .i64 0, .int .i64 0, .int .i64 0, .int .i64 0, .int .i64 0, .int .i64 0, .int .i64 0, .int .i64 0, .int .i64 0, .int .i64 0] 29)) := (Below.refl _ _).alloc (Nat.le_refl _) _
  have hx0 := Blk.new w #[.int .i64 0, .int .i64 0, .int .i64 0, .int .i64 0, .int .i64 0, .int .i64 0, .int .i64 0, .int .i64 0, .int .i64 0, .int .i64 0] 29
  have hlt0 := hx0.lt
  have HX := hide hx0
  have HC := hide ((hc.below (fun k hk => hbA.block k hk)).more hbA.size)
  have HB := hide hbA
  clear hc hbA hx0
  go_enter Try.func20, Try.ntmps20
  go_wp2_with fail
  obtain ⟨b0, e0⟩ : ∃ b, b = w.heap.size := ⟨_, rfl⟩
  have hb0 : w.heap.size ≤ b0 := by omega
  rw [← e0] at HX hlt0 ⊢
  clear e0
  generalize w.alloc (.cells #[.int .i64 0, .int .i64 0, .int .i64 0, .int .i64 0, .int .i64 0, .int .i64 0, .int .i64 0, .int .i64 0, .int .i64 0, .int .i64 0] 29) = w1 at *
  refine (new_calls w1 a len cap HC.out).mono ?_
  rintro e w2 ⟨rfl, hc2, hb2⟩
  have HC2 := hide hc2
  have hz := hb2.size
  have hgw : w.heap.size ≤ w1.heap.size := HB.out.size
  have HX := hide (HX.out.below hb2 hlt0)
  have HB := hide (HB.out.trans (hb2.mono hgw))
  clear hc2 hb2 HC
  obtain ⟨g, hg⟩ : ∃ g, g = w1.heap.size := ⟨_, rfl⟩
  have HC : Hid (Cur g w2 g) := by show Cur g w2 g; rw [hg]; exact HC2.out
  rw [← hg] at hz hgw hlt0 ⊢
  have ng0 : b0 ≠ g := by omega
  clear hg HC2
  go_wp2_with fail
  refine (l05Any_calls g g w2 HC.out hz).mono ?_
  rintro e w3 ⟨⟨k, ow, on, wh, aw, an, bw, bn, u, n⟩, rfl, hc3, hg3⟩
  have HX := hide (blk_kept HX.out hg3 ng0)
  have HB := hide (HB.out.trans (below_of_grown hg3 hgw HB.out.size))
  have hz3 : g ≤ w3.heap.size := Nat.le_trans hz hg3.size
  have hbA : Below w3.heap.size w3 (w3.alloc (.cells #[.int .i64 k, .int .i64 ow, .int .i64 on, .int .i64 wh, .int .i64 aw, .int .i64 an, .int .i64 bw, .int .i64 bn, .int .i64 u, .int .i64 n] 29)) := (Below.refl _ _).alloc (Nat.le_refl _) _
  have G2 := hide (Blk.new w3 #[.int .i64 k, .int .i64 ow, .int .i64 on, .int .i64 wh, .int .i64 aw, .int .i64 an, .int .i64 bw, .int .i64 bn, .int .i64 u, .int .i64 n] 29)
  have ng2 : w3.heap.size ≠ g := by have := hc3.2.1; omega
  have HX := hide (HX.out.below hbA HX.out.lt)
  have HC := hide (cur_below hc3 hbA hc3.2.1)
  have HB := hide (HB.out.trans (hbA.mono HB.out.size))
  have hz4 := Nat.le_trans hz3 hbA.size
  clear hc3 hg3 hbA hz hz3
  simp only [credV]
  go_wp2_with fail
  obtain ⟨b2, e2⟩ : ∃ b, b = w3.heap.size := ⟨_, rfl⟩
  rw [← e2] at G2 ng2 ⊢
  clear e2
  generalize w3.alloc (.cells #[.int .i64 k, .int .i64 ow, .int .i64 on, .int .i64 wh, .int .i64 aw, .int .i64 an, .int .i64 bw, .int .i64 bn, .int .i64 u, .int .i64 n] 29) = w4 at *
  have n0 : ∀ p : BlkAt b2 [.int .i64 k, .int .i64 ow, .int .i64 on, .int .i64 wh, .int .i64 aw, .int .i64 an, .int .i64 bw, .int .i64 bn, .int .i64 u, .int .i64 n] 29, p.w.cell? ⟨b2, 0, none⟩ = some (.int .i64 k) := fun p => by rw [p.h.cell 0]; rfl
  have n1 : ∀ p : BlkAt b2 [.int .i64 k, .int .i64 ow, .int .i64 on, .int .i64 wh, .int .i64 aw, .int .i64 an, .int .i64 bw, .int .i64 bn, .int .i64 u, .int .i64 n] 29, p.w.cell? ⟨b2, 1, none⟩ = some (.int .i64 ow) := fun p => by rw [p.h.cell 1]; rfl
  have n2 : ∀ p : BlkAt b2 [.int .i64 k, .int .i64 ow, .int .i64 on, .int .i64 wh, .int .i64 aw, .int .i64 an, .int .i64 bw, .int .i64 bn, .int .i64 u, .int .i64 n] 29, p.w.cell? ⟨b2, 2, none⟩ = some (.int .i64 on) := fun p => by rw [p.h.cell 2]; rfl
  have n3 : ∀ p : BlkAt b2 [.int .i64 k, .int .i64 ow, .int .i64 on, .int .i64 wh, .int .i64 aw, .int .i64 an, .int .i64 bw, .int .i64 bn, .int .i64 u, .int .i64 n] 29, p.w.cell? ⟨b2, 3, none⟩ = some (.int .i64 wh) := fun p => by rw [p.h.cell 3]; rfl
  have n4 : ∀ p : BlkAt b2 [.int .i64 k, .int .i64 ow, .int .i64 on, .int .i64 wh, .int .i64 aw, .int .i64 an, .int .i64 bw, .int .i64 bn, .int .i64 u, .int .i64 n] 29, p.w.cell? ⟨b2, 4, none⟩ = some (.int .i64 aw) := fun p => by rw [p.h.cell 4]; rfl
  have n5 : ∀ p : BlkAt b2 [.int .i64 k, .int .i64 ow, .int .i64 on, .int .i64 wh, .int .i64 aw, .int .i64 an, .int .i64 bw, .int .i64 bn, .int .i64 u, .int .i64 n] 29, p.w.cell? ⟨b2, 5, none⟩ = some (.int .i64 an) := fun p => by rw [p.h.cell 5]; rfl
  have n6 : ∀ p : BlkAt b2 [.int .i64 k, .int .i64 ow, .int .i64 on, .int .i64 wh, .int .i64 aw, .int .i64 an, .int .i64 bw, .int .i64 bn, .int .i64 u, .int .i64 n] 29, p.w.cell? ⟨b2, 6, none⟩ = some (.int .i64 bw) := fun p => by rw [p.h.cell 6]; rfl
  have n7 : ∀ p : BlkAt b2 [.int .i64 k, .int .i64 ow, .int .i64 on, .int .i64 wh, .int .i64 aw, .int .i64 an, .int .i64 bw, .int .i64 bn, .int .i64 u, .int .i64 n] 29, p.w.cell? ⟨b2, 7, none⟩ = some (.int .i64 bn) := fun p => by rw [p.h.cell 7]; rfl
  have n8 : ∀ p : BlkAt b2 [.int .i64 k, .int .i64 ow, .int .i64 on, .int .i64 wh, .int .i64 aw, .int .i64 an, .int .i64 bw, .int .i64 bn, .int .i64 u, .int .i64 n] 29, p.w.cell? ⟨b2, 8, none⟩ = some (.int .i64 u) := fun p => by rw [p.h.cell 8]; rfl
  have n9 : ∀ p : BlkAt b2 [.int .i64 k, .int .i64 ow, .int .i64 on, .int .i64 wh, .int .i64 aw, .int .i64 an, .int .i64 bw, .int .i64 bn, .int .i64 u, .int .i64 n] 29, p.w.cell? ⟨b2, 9, none⟩ = some (.int .i64 n) := fun p => by rw [p.h.cell 9]; rfl
  have hnn : Nonempty (BlkAt b2 [.int .i64 k, .int .i64 ow, .int .i64 on, .int .i64 wh, .int .i64 aw, .int .i64 an, .int .i64 bw, .int .i64 bn, .int .i64 u, .int .i64 n] 29) := ⟨⟨w4, G2.out⟩⟩
  refine wp_region_open (fun wd => wd = w4.drew) rfl (by kernel_rfl) ?_
  rintro wd rfl
  have HX : Hid (Blk w4.drew b0 [.int .i64 0, .int .i64 0, .int .i64 0, .int .i64 0, .int .i64 0, .int .i64 0, .int .i64 0, .int .i64 0, .int .i64 0, .int .i64 0] 29) := HX.out
  have G2 : Hid (Blk w4.drew b2 [.int .i64 k, .int .i64 ow, .int .i64 on, .int .i64 wh, .int .i64 aw, .int .i64 an, .int .i64 bw, .int .i64 bn, .int .i64 u, .int .i64 n] 29) := G2.out
  have HC : Hid (Cur g w4.drew g) := HC.out
  have HB := hide HB.out.drew
  have hz4 : g ≤ w4.drew.heap.size := hz4
  generalize w4.drew = w5 at *
  refine wpAny_of_K (c := 5) (D := fun w' => ∃ p : BlkAt b2 [.int .i64 k, .int .i64 ow, .int .i64 on, .int .i64 wh, .int .i64 aw, .int .i64 an, .int .i64 bw, .int .i64 bn, .int .i64 u, .int .i64 n] 29, w' = p.w) _ _ _ _ ?_
  refine wpAnyK_seg_lit 0 1 4 5 rfl (by decide) (by decide) (by kernel_rfl) (by kernel_rfl) (by kernel_rfl) (by kernel_rfl) (fun _ _ _ _ _ h => h) ⟨⟨w5, G2.out⟩, rfl⟩ ?_
  simp only [List.take_succ_cons, List.take_zero, List.drop_zero]
  repeat (go_big_quiet_step (fail))
  refine wpQuiet_nil ?_
  refine wpAnyK_seg_lit 3 1 4 4 rfl (by decide) (by decide) (by kernel_rfl) (by kernel_rfl) (by kernel_rfl) (by kernel_rfl) (fun _ _ _ _ _ h => h) ⟨⟨w5, G2.out⟩, rfl⟩ ?_
  simp only [List.take_succ_cons, List.take_zero, List.drop_succ_cons, List.drop_zero]
  repeat (go_big_quiet_step (fail))
  refine wpQuiet_nil ?_
  clear n0 n1 n2 n3 n4 n5 n6 n7 n8 n9 hnn
  refine wpAnyK_call 1 (by kernel_rfl) rfl rfl 49 _ _ rfl enterC #[.pointer (some ⟨g, 0, none⟩)] rfl (fun v w' => ∃ L : List Cr, L.length ≤ 9 ∧ w'.ownsRow w5.heap.size 29 10 v L.length (cellsI (flat crR L)) ∧ w5.grownBy w' (some g)) ?_ ?_
  · refine (creds_calls g g w5 HC.out hz4).mono ?_
    rintro e w6 ⟨v6, L, rfl, -, h2, -, h3, -, h4⟩
    exact ⟨_, rfl, L, h2, h3, h4⟩
  rintro v6 w6 ⟨L, hL, ho6, hg6⟩
  refine ⟨⟨⟨w6, blk_kept G2.out hg6 ng2⟩, rfl⟩, ?_⟩
  have HX := hide (blk_kept HX.out hg6 ng0)
  have G2 := hide (blk_kept G2.out hg6 ng2)
  have HB := hide (HB.out.trans (below_of_grown hg6 hgw HB.out.size))
  have HR := hide (RowAt.of_own ho6)
  clear hg6 HC ho6
  refine wpAnyK_call 2 (by kernel_rfl) rfl rfl 15 _ _ rfl enterF #[v6] rfl (fun v w' => w'.ownsRow w6.heap.size 36 3 v (factsOf L).length (cellsI (flat faR (factsOf L))) ∧ Below w6.heap.size w6 w') ?_ ?_
  · refine (specFacts_calls w6 v6 L HR.out (by omega)).mono ?_
    rintro e w7 ⟨v7, rfl, h1, h2⟩
    exact ⟨_, rfl, h1, h2⟩
  rintro v7 w7 ⟨ho7, hb7⟩
  refine ⟨⟨⟨w7, G2.out.below hb7 G2.out.lt⟩, rfl⟩, ?_⟩
  have hlX := HX.out.lt
  have HX := hide (HX.out.below hb7 HX.out.lt)
  have G2 := hide (G2.out.below hb7 G2.out.lt)
  have hwz : w.heap.size ≤ w6.heap.size := HB.out.size
  have HB := hide (HB.out.trans (hb7.mono HB.out.size))
  have HO := hide ho7
  have hfl := factsOf_le L
  obtain ⟨a7, c7, hsh⟩ := own_shape ho7
  clear hb7 ho7 HR
  generalize factsOf L = F at *
  generalize hn : F.length = nF at *
  subst hsh
  refine wpAnyK_seg_lit 4 1 4 1 rfl (by decide) (by decide) (by kernel_rfl) (by kernel_rfl) (by kernel_rfl) (by kernel_rfl) (fun _ _ _ _ _ h => h) ⟨⟨w7, G2.out⟩, rfl⟩ ?_
  simp only [List.take_succ_cons, List.take_zero, List.drop_succ_cons, List.drop_zero, Act.put, List.setIfInBounds_toArray, List.set_cons_succ, List.set_cons_zero]
  repeat (go_big_quiet_step (fail))
  refine wpQuiet_nil ?_
  refine wpAnyK_last (by kernel_rfl) (by decide) ?_
  refine wpAny_rest 5 rfl (by kernel_rfl) ?_
  simp only [List.drop_succ_cons, List.drop_zero]
  have c0 : w7.cell? ⟨b0, 0, none⟩ = some (.int .i64 0) := by rw [HX.out.cell 0]; rfl
  have c1 : w7.cell? ⟨b0, 1, none⟩ = some (.int .i64 0) := by rw [HX.out.cell 1]; rfl
  have c2 : w7.cell? ⟨b0, 2, none⟩ = some (.int .i64 0) := by rw [HX.out.cell 2]; rfl
  have c3 : w7.cell? ⟨b0, 3, none⟩ = some (.int .i64 0) := by rw [HX.out.cell 3]; rfl
  have c4 : w7.cell? ⟨b0, 4, none⟩ = some (.int .i64 0) := by rw [HX.out.cell 4]; rfl
  have c5 : w7.cell? ⟨b0, 5, none⟩ = some (.int .i64 0) := by rw [HX.out.cell 5]; rfl
  have c6 : w7.cell? ⟨b0, 6, none⟩ = some (.int .i64 0) := by rw [HX.out.cell 6]; rfl
  have c7 : w7.cell? ⟨b0, 7, none⟩ = some (.int .i64 0) := by rw [HX.out.cell 7]; rfl
  have c8 : w7.cell? ⟨b0, 8, none⟩ = some (.int .i64 0) := by rw [HX.out.cell 8]; rfl
  have c9 : w7.cell? ⟨b0, 9, none⟩ = some (.int .i64 0) := by rw [HX.out.cell 9]; rfl
  have a0 := HX.out.free
  have l0 := HX.out.lt
  go_wp2_with fail
  have X0 := hide ((((((((((HX.out.set 0 (.int .i64 k)).set 1 (.int .i64 ow)).set 2 (.int .i64 on)).set 3 (.int .i64 wh)).set 4 (.int .i64 aw)).set 5 (.int .i64 an)).set 6 (.int .i64 bw)).set 7 (.int .i64 bn)).set 8 (.int .i64 u)).set 9 (.int .i64 n))
  have HF := hide ((((((((((HB.out.setCell (p := ⟨b0, 0, none⟩) hb0 (.int .i64 k)).setCell (p := ⟨b0, 1, none⟩) hb0 (.int .i64 ow)).setCell (p := ⟨b0, 2, none⟩) hb0 (.int .i64 on)).setCell (p := ⟨b0, 3, none⟩) hb0 (.int .i64 wh)).setCell (p := ⟨b0, 4, none⟩) hb0 (.int .i64 aw)).setCell (p := ⟨b0, 5, none⟩) hb0 (.int .i64 an)).setCell (p := ⟨b0, 6, none⟩) hb0 (.int .i64 bw)).setCell (p := ⟨b0, 7, none⟩) hb0 (.int .i64 bn)).setCell (p := ⟨b0, 8, none⟩) hb0 (.int .i64 u)).setCell (p := ⟨b0, 9, none⟩) hb0 (.int .i64 n))
  have HOF := hide (own_low (own_low (own_low (own_low (own_low (own_low (own_low (own_low (own_low (own_low HO.out hlX 0 (.int .i64 k)) hlX 1 (.int .i64 ow)) hlX 2 (.int .i64 on)) hlX 3 (.int .i64 wh)) hlX 4 (.int .i64 aw)) hlX 5 (.int .i64 an)) hlX 6 (.int .i64 bw)) hlX 7 (.int .i64 bn)) hlX 8 (.int .i64 u)) hlX 9 (.int .i64 n))
  clear c0 c1 c2 c3 c4 c5 c6 c7 c8 c9 a0 l0 HX HB HO
  generalize ((((((((((w7.setCell ⟨b0, 0, none⟩ (.int .i64 k)).setCell ⟨b0, 1, none⟩ (.int .i64 ow)).setCell ⟨b0, 2, none⟩ (.int .i64 on)).setCell ⟨b0, 3, none⟩ (.int .i64 wh)).setCell ⟨b0, 4, none⟩ (.int .i64 aw)).setCell ⟨b0, 5, none⟩ (.int .i64 an)).setCell ⟨b0, 6, none⟩ (.int .i64 bw)).setCell ⟨b0, 7, none⟩ (.int .i64 bn)).setCell ⟨b0, 8, none⟩ (.int .i64 u)).setCell ⟨b0, 9, none⟩ (.int .i64 n)) = wF at *
  have y0 : wF.cell? ⟨b0, 0, none⟩ = some (.int .i64 k) := by rw [X0.out.cell 0]; rfl
  have y1 : wF.cell? ⟨b0, 1, none⟩ = some (.int .i64 ow) := by rw [X0.out.cell 1]; rfl
  have y2 : wF.cell? ⟨b0, 2, none⟩ = some (.int .i64 on) := by rw [X0.out.cell 2]; rfl
  have y3 : wF.cell? ⟨b0, 3, none⟩ = some (.int .i64 wh) := by rw [X0.out.cell 3]; rfl
  have y4 : wF.cell? ⟨b0, 4, none⟩ = some (.int .i64 aw) := by rw [X0.out.cell 4]; rfl
  have y5 : wF.cell? ⟨b0, 5, none⟩ = some (.int .i64 an) := by rw [X0.out.cell 5]; rfl
  have y6 : wF.cell? ⟨b0, 6, none⟩ = some (.int .i64 bw) := by rw [X0.out.cell 6]; rfl
  have y7 : wF.cell? ⟨b0, 7, none⟩ = some (.int .i64 bn) := by rw [X0.out.cell 7]; rfl
  have y8 : wF.cell? ⟨b0, 8, none⟩ = some (.int .i64 u) := by rw [X0.out.cell 8]; rfl
  have y9 : wF.cell? ⟨b0, 9, none⟩ = some (.int .i64 n) := by rw [X0.out.cell 9]; rfl
  refine bodyPost_ret (v := .tuple #[.slice a7 nF c7, .agg #[.int .i64 k, .int .i64 ow, .int .i64 on, .int .i64 wh, .int .i64 aw, .int .i64 an, .int .i64 bw, .int .i64 bn, .int .i64 u, .int .i64 n]]) (by simp [results, Try.results20, go_sem, y0, y1, y2, y3, y4, y5, y6, y7, y8, y9]) rfl ⟨_, F, ⟨k, ow, on, wh, aw, an, bw, bn, u, n⟩, rfl, by omega, by rw [hn]; exact own_mono HOF.out hwz, HF.out⟩
set_option maxHeartbeats 2000000 in
theorem drawIsMember_calls (w : World) (a : Option Addr) (len cap : Nat) (hc : Cu.Code w.heap.size w (.slice a len cap) len) :
    Calls Try.prog 22 #[.slice a len cap] w fun e w' => ∃ (v : Value) (L : List Cr) (ra rb who : Int), e = .returned (.tuple #[v, roleV ra rb, .int .i64 who]) ∧ L.length ≤ 10 ∧ w'.ownsRow w.heap.size 29 10 v L.length (cellsI (flat crR L)) ∧ Below w.heap.size w w' := by
  have hbA : Below w.heap.size w (w.alloc (.cells #[.int .i64 0, .int .i64 0] 27)) := (Below.refl _ _).alloc (Nat.le_refl _) _
  have hx0 := Blk.new w #[.int .i64 0, .int .i64 0] 27
  have hlt0 := hx0.lt
  have HX := hide hx0
  have HC := hide ((hc.below (fun k hk => hbA.block k hk)).more hbA.size)
  have HB := hide hbA
  clear hc hbA hx0
  go_enter Try.func22, Try.ntmps22
  go_wp2_with fail
  obtain ⟨b0, e0⟩ : ∃ b, b = w.heap.size := ⟨_, rfl⟩
  have hb0 : w.heap.size ≤ b0 := by omega
  rw [← e0] at HX hlt0 ⊢
  clear e0
  generalize w.alloc (.cells #[.int .i64 0, .int .i64 0] 27) = w1 at *
  refine (new_calls w1 a len cap HC.out).mono ?_
  rintro e w2 ⟨rfl, hc2, hb2⟩
  have HC2 := hide hc2
  have hz := hb2.size
  have hgw : w.heap.size ≤ w1.heap.size := HB.out.size
  have HX := hide (HX.out.below hb2 hlt0)
  have HB := hide (HB.out.trans (hb2.mono hgw))
  clear hc2 hb2 HC
  obtain ⟨g, hg⟩ : ∃ g, g = w1.heap.size := ⟨_, rfl⟩
  have HC : Hid (Cur g w2 g) := by show Cur g w2 g; rw [hg]; exact HC2.out
  rw [← hg] at hz hgw hlt0 ⊢
  have ng0 : b0 ≠ g := by omega
  clear hg HC2
  go_wp2_with fail
  refine (below_calls g g w2 HC.out 8 (by decide) (by decide)).mono ?_
  rintro e wb ⟨y, hy, rfl, hcb, hgb⟩
  have HX := hide (blk_kept HX.out hgb ng0)
  have HB := hide (HB.out.trans (below_of_grown hgb hgw HB.out.size))
  have hzb : g ≤ wb.heap.size := Nat.le_trans hz hgb.size
  have HC := hide hcb
  clear hcb hgb hz
  go_wp2_with fail
  refine (anyRole_calls g g wb HC.out hzb).mono ?_
  rintro e w3 ⟨ra, rb, rfl, hc3, hg3⟩
  have HX := hide (blk_kept HX.out hg3 ng0)
  have HB := hide (HB.out.trans (below_of_grown hg3 hgw HB.out.size))
  have hz3 : g ≤ w3.heap.size := Nat.le_trans hzb hg3.size
  have hbA : Below w3.heap.size w3 (w3.alloc (.cells #[.int .i64 ra, .int .i64 rb] 27)) := (Below.refl _ _).alloc (Nat.le_refl _) _
  have G2 := hide (Blk.new w3 #[.int .i64 ra, .int .i64 rb] 27)
  have ng2 : w3.heap.size ≠ g := by have := hc3.2.1; omega
  have HX := hide (HX.out.below hbA HX.out.lt)
  have HC := hide (cur_below hc3 hbA hc3.2.1)
  have HB := hide (HB.out.trans (hbA.mono HB.out.size))
  have hz4 := Nat.le_trans hz3 hbA.size
  clear hc3 hg3 hbA hzb hz3
  simp only [roleV]
  go_wp2_with fail
  obtain ⟨b2, e2⟩ : ∃ b, b = w3.heap.size := ⟨_, rfl⟩
  rw [← e2] at G2 ng2 ⊢
  clear e2
  generalize w3.alloc (.cells #[.int .i64 ra, .int .i64 rb] 27) = w4 at *
  have n0 : ∀ p : BlkAt b2 [.int .i64 ra, .int .i64 rb] 27, p.w.cell? ⟨b2, 0, none⟩ = some (.int .i64 ra) := fun p => by rw [p.h.cell 0]; rfl
  have n1 : ∀ p : BlkAt b2 [.int .i64 ra, .int .i64 rb] 27, p.w.cell? ⟨b2, 1, none⟩ = some (.int .i64 rb) := fun p => by rw [p.h.cell 1]; rfl
  have hnn : Nonempty (BlkAt b2 [.int .i64 ra, .int .i64 rb] 27) := ⟨⟨w4, G2.out⟩⟩
  refine wp_region_open (fun wd => wd = w4.drew) rfl (by kernel_rfl) ?_
  rintro wd rfl
  have HX : Hid (Blk w4.drew b0 [.int .i64 0, .int .i64 0] 27) := HX.out
  have G2 : Hid (Blk w4.drew b2 [.int .i64 ra, .int .i64 rb] 27) := G2.out
  have HC : Hid (Cur g w4.drew g) := HC.out
  have HB := hide HB.out.drew
  have hz4 : g ≤ w4.drew.heap.size := hz4
  generalize w4.drew = w5 at *
  refine wpAny_seg_lit 0 1 6 rfl (by decide) (by kernel_rfl) (by kernel_rfl) (fun _ _ _ _ _ h => h) ?_
  simp only [List.take_succ_cons, List.take_zero, List.drop_zero]
  repeat (go_big_quiet_step (fail))
  refine wpQuiet_nil ?_
  refine wpAny_seg_lit 3 1 5 rfl (by decide) (by kernel_rfl) (by kernel_rfl) (fun _ _ _ _ _ h => h) ?_
  simp only [List.take_succ_cons, List.take_zero, List.drop_succ_cons, List.drop_zero]
  repeat (go_big_quiet_step (fail))
  refine wpQuiet_nil ?_
  refine wpAny_of_K (c := 5) (D := fun w' => ∃ p : BlkAt b2 [.int .i64 ra, .int .i64 rb] 27, w' = p.w) _ _ _ _ ?_
  refine wpAnyK_seg_lit 2 1 4 4 rfl (by decide) (by decide) (by kernel_rfl) (by kernel_rfl) (by kernel_rfl) (by kernel_rfl) (fun _ _ _ _ _ h => h) ⟨⟨w5, G2.out⟩, rfl⟩ ?_
  simp only [List.take_succ_cons, List.take_zero, List.drop_succ_cons, List.drop_zero]
  repeat (go_big_quiet_step (fail))
  refine wpQuiet_nil ?_
  clear n0 n1 hnn
  refine wpAnyK_call 1 (by kernel_rfl) rfl rfl 58 _ _ rfl enterN #[.pointer (some ⟨g, 0, none⟩)] rfl (fun v w' => ∃ L : List Cr, L.length ≤ 10 ∧ w'.ownsRow w5.heap.size 29 10 v L.length (cellsI (flat crR L)) ∧ w5.grownBy w' (some g)) ?_ ?_
  · refine (anys_calls g g w5 HC.out hz4).mono ?_
    rintro e w6 ⟨v6, L, rfl, h2, h3, -, h4⟩
    exact ⟨_, rfl, L, h2, h3, h4⟩
  rintro v6 w6 ⟨L, hL, ho6, hg6⟩
  refine ⟨⟨⟨w6, blk_kept G2.out hg6 ng2⟩, rfl⟩, ?_⟩
  have hlX := HX.out.lt
  have HX := hide (blk_kept HX.out hg6 ng0)
  have G2 := hide (blk_kept G2.out hg6 ng2)
  have hwz : w.heap.size ≤ w5.heap.size := HB.out.size
  have HB := hide (HB.out.trans (below_of_grown hg6 hgw HB.out.size))
  have HO := hide ho6
  obtain ⟨a7, c7, hsh⟩ := own_shape ho6
  clear hg6 HC ho6
  generalize hn : L.length = nF at *
  subst hsh
  refine wpAnyK_seg_lit 4 1 4 2 rfl (by decide) (by decide) (by kernel_rfl) (by kernel_rfl) (by kernel_rfl) (by kernel_rfl) (fun _ _ _ _ _ h => h) ⟨⟨w6, G2.out⟩, rfl⟩ ?_
  simp only [List.take_succ_cons, List.take_zero, List.drop_succ_cons, List.drop_zero, Act.put, List.setIfInBounds_toArray, List.set_cons_succ, List.set_cons_zero]
  repeat (go_big_quiet_step (fail))
  refine wpQuiet_nil ?_
  refine wpAnyK_last (by kernel_rfl) (by decide) ?_
  refine wpAny_rest 5 rfl (by kernel_rfl) ?_
  simp only [List.drop_succ_cons, List.drop_zero]
  have c0 : w6.cell? ⟨b0, 0, none⟩ = some (.int .i64 0) := by rw [HX.out.cell 0]; rfl
  have c1 : w6.cell? ⟨b0, 1, none⟩ = some (.int .i64 0) := by rw [HX.out.cell 1]; rfl
  have a0 := HX.out.free
  have l0 := HX.out.lt
  go_wp2_with fail
  have X0 := hide ((HX.out.set 0 (.int .i64 ra)).set 1 (.int .i64 rb))
  have HF := hide ((HB.out.setCell (p := ⟨b0, 0, none⟩) hb0 (.int .i64 ra)).setCell (p := ⟨b0, 1, none⟩) hb0 (.int .i64 rb))
  have HOF := hide (own_low (own_low HO.out hlX 0 (.int .i64 ra)) hlX 1 (.int .i64 rb))
  clear c0 c1 a0 l0 HX HB HO
  generalize (w6.setCell ⟨b0, 0, none⟩ (.int .i64 ra)).setCell ⟨b0, 1, none⟩ (.int .i64 rb) = wF at *
  have y0 : wF.cell? ⟨b0, 0, none⟩ = some (.int .i64 ra) := by rw [X0.out.cell 0]; rfl
  have y1 : wF.cell? ⟨b0, 1, none⟩ = some (.int .i64 rb) := by rw [X0.out.cell 1]; rfl
  refine bodyPost_ret (v := .tuple #[.slice a7 nF c7, roleV ra rb, .int .i64 ((y : Int) - 1)]) (by simp [results, Try.results22, go_sem, y0, y1]) rfl ⟨_, L, ra, rb, (y : Int) - 1, rfl, by omega, by rw [hn]; exact own_mono HOF.out hwz, HF.out⟩
end Go.Proofs.Ytgnldmheiknbkaa.P6
