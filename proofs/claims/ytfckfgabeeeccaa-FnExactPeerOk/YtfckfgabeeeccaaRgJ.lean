/- The laws' szPeer, szPeerS, szRing: how much there is; no condition but that lengths are ints. -/
import Derived.Test.YtfckfgabeeeccaaRgI
namespace Go.Proofs.Ytfckfgabeeeccaa.P9
set_option maxRecDepth 8000
open Go.RowKit P1 P8 Da

def szP (p : Pr) : Nat := p.behind.length + p.fingers.length + szShL p.shelves

set_option maxHeartbeats 1000000 in
theorem szPeer_calls (w : World) (p : Pr) (u3 u4 u5 : Value) (left : Nat) (h3 : IntsAt w u3 p.behind) (h4 : IntsAt w u4 p.fingers) (h5 : ShelvesAt w u5 p.shelves) (hf : FitsP p) (hm : left ≤ 1048576) :
    Calls Try.prog 5 #[prV p u3 u4 u5, .int .i64 left] w fun e w' => e = .returned (.int .i64 (szRes left (szP p))) ∧ Below w.heap.size w w' := by
  obtain ⟨id, here, ahead, be, fi, sh⟩ := p
  obtain ⟨f3, f4, f5⟩ := hf
  have HZ : Hid (szP ⟨id, here, ahead, be, fi, sh⟩ = be.length + fi.length + szShL sh) := rfl
  dsimp only at h3 h4 h5 f3 f4 f5
  dsimp only [prV]
  have H3 := hide h3
  have H4 := hide h4
  have H5 := hide h5
  have F5 := hide f5
  obtain ⟨a3, c3, rfl, -⟩ := h3
  obtain ⟨a4, c4, rfl, -⟩ := h4
  obtain ⟨a5, c5, e5, -⟩ := h5.open_
  subst e5
  clear h5 f5
  generalize szP ⟨id, here, ahead, be, fi, sh⟩ = tot at *
  go_enter Try.func5, Try.ntmps5
  go_upto_region 1 with fail
  have h1 := (Below.refl w.heap.size w).alloc (Nat.le_refl _) (.cells #[.int .i64 id, .bool here, .int .i64 ahead, .slice a3 be.length c3, .slice a4 fi.length c4, .slice a5 sh.length c5] 25)
  have A := Blk.new w #[.int .i64 id, .bool here, .int .i64 ahead, .slice a3 be.length c3, .slice a4 fi.length c4, .slice a5 sh.length c5] 25
  have HB := hide h1
  obtain ⟨b1, e1⟩ : ∃ b, b = w.heap.size := ⟨_, rfl⟩
  rw [← e1] at A ⊢
  clear e1 h1
  generalize w.alloc (.cells #[.int .i64 id, .bool here, .int .i64 ahead, .slice a3 be.length c3, .slice a4 fi.length c4, .slice a5 sh.length c5] 25) = wa at *
  have d3 : wa.cell? ⟨b1, 3, none⟩ = some (.slice a3 be.length c3) := by rw [A.cell 3]; rfl
  have d4 : wa.cell? ⟨b1, 4, none⟩ = some (.slice a4 fi.length c4) := by rw [A.cell 4]; rfl
  have d5 : wa.cell? ⟨b1, 5, none⟩ = some (.slice a5 sh.length c5) := by rw [A.cell 5]; rfl
  have la := A.lt
  clear A
  have C3 := hide (szInts_calls wa be _ left (H3.out.below HB.out (Nat.le_refl _)) f3 hm)
  by_cases q3 : be.length ≤ left
  · rw [szRes_pos q3] at C3
    have hn3 : decide (((left - be.length : Nat) : Int) < 0) = false := decide_eq_false (by omega)
    obtain ⟨m3, em3⟩ : ∃ m, m = left - be.length := ⟨_, rfl⟩
    rw [← em3] at C3 hn3
    have E3 := hide em3
    have hm3 : m3 ≤ 1048576 := by omega
    clear em3
    go_wp2_with fail
    refine C3.out.mono ?_
    rintro e wb ⟨rfl, rfl⟩
    clear C3
    have C4 := hide (szInts_calls wb fi _ m3 (H4.out.below HB.out (Nat.le_refl _)) f4 hm3)
    by_cases q4 : fi.length ≤ m3
    · rw [szRes_pos q4] at C4
      have hn4 : decide (((m3 - fi.length : Nat) : Int) < 0) = false := decide_eq_false (by omega)
      obtain ⟨m4, em4⟩ : ∃ m, m = m3 - fi.length := ⟨_, rfl⟩
      rw [← em4] at C4 hn4
      have E4 := hide em4
      have hm4 : m4 ≤ 1048576 := by omega
      clear em4
      go_wp2_with fail
      refine C4.out.mono ?_
      rintro e wc ⟨rfl, rfl⟩
      clear C4
      have C5 := hide (szShelves_calls wc _ sh m4 (H5.out.below HB.out (Nat.le_refl _)) F5.out.1 F5.out.2 hm4)
      by_cases q5 : szShL sh ≤ m4
      · rw [szRes_pos q5] at C5
        have hn5 : decide (((m4 - szShL sh : Nat) : Int) < 0) = false := decide_eq_false (by omega)
        have HR : Hid (szRes left tot = ((m4 - szShL sh : Nat) : Int)) := by
          show _ = _
          have h1 := HZ.out
          have h2 := E3.out
          have h3 := E4.out
          rw [szRes_pos (by omega)]
          omega
        generalize m4 - szShL sh = r at *
        go_wp2_with fail
        refine C5.out.mono ?_
        rintro e wd ⟨rfl, hbd⟩
        have HBd := hide (HB.out.trans (hbd.mono HB.out.size))
        clear hbd HB C5 d3 d4 d5
        go_wp2_with fail
        go_ret
        exact ⟨by rw [HR.out]; rfl, HBd.out⟩
      · rw [szRes_neg q5] at C5
        have HR : Hid (szRes left tot = -1) := by
          show _ = _
          have h1 := HZ.out
          have h2 := E3.out
          have h3 := E4.out
          rw [szRes_neg (by omega)]
        go_wp2_with fail
        refine C5.out.mono ?_
        rintro e wd ⟨rfl, hbd⟩
        have HBd := hide (HB.out.trans (hbd.mono HB.out.size))
        clear hbd HB C5 d3 d4 d5
        go_wp2_with fail
        go_ret
        exact ⟨by rw [HR.out]; rfl, HBd.out⟩
    · rw [szRes_neg q4] at C4
      have HR : Hid (szRes left tot = -1) := by
        show _ = _
        have h1 := HZ.out
        have h2 := E3.out
        rw [szRes_neg (by omega)]
      go_wp2_with fail
      refine C4.out.mono ?_
      rintro e wc ⟨rfl, rfl⟩
      go_wp2_with fail
      go_ret
      exact ⟨by rw [HR.out]; rfl, HB.out⟩
  · rw [szRes_neg q3] at C3
    have HR : Hid (szRes left tot = -1) := by
      show _ = _
      have h1 := HZ.out
      rw [szRes_neg (by omega)]
    go_wp2_with fail
    refine C3.out.mono ?_
    rintro e wb ⟨rfl, rfl⟩
    go_wp2_with fail
    go_ret
    exact ⟨by rw [HR.out]; rfl, HB.out⟩

def szPrL (l : List Pr) : Nat := l.length + (l.map szP).sum

set_option maxHeartbeats 1000000 in
theorem szPeers_calls (w : World) (v : Value) (l : List Pr) (left : Nat) (hv : PeersAt w v l) (hl : l.length ≤ 9223372036854775807) (hw : ∀ x ∈ l, FitsP x) (hm : left ≤ 1048576) :
    Calls Try.prog 29 #[v, .int .i64 left] w fun e w' => e = .returned (.int .i64 (szRes left (szPrL l))) ∧ Below w.heap.size w w' := by
  have HV := hide hv
  have HWi := hide hw
  obtain ⟨a, ca, rfl, -⟩ := hv.open_
  have HZ : Hid (szPrL l = l.length + (l.map szP).sum) := rfl
  clear hv hw
  by_cases h0 : l.length ≤ left
  · obtain ⟨m0, e0⟩ : ∃ m, left = m + l.length := ⟨left - l.length, by omega⟩
    have q0 : ((left : Int) - (l.length : Int)) = (m0 : Int) := by omega
    have HE0 := hide e0
    have hm0 : m0 ≤ 1048576 := by omega
    clear e0
    go_enter Try.func29, Try.ntmps29
    go_wp2_with fail
    clear q0
    go_loopw [1, 5] (fun r i wr => ∃ (k m : Nat), k ≤ l.length ∧ i = .int .i64 k ∧ r = .int .i64 m ∧ Hid (m + ((l.take k).map szP).sum = m0) ∧ Hid (Below w.heap.size w wr)) (fun _ i _ => l.length - (intOf i).toNat)
    case atStart => exact ⟨0, m0, Nat.zero_le _, rfl, rfl, by show _ = _; simp, Below.refl _ _⟩
    case round =>
      obtain ⟨k, m, hk, rfl, rfl, HM, HB⟩ := hrel
      have hmle : m ≤ 1048576 := by have := HM.out; omega
      by_cases hlt : k < l.length
      · obtain ⟨ax, cx, hax, HA⟩ := (HV.out.below HB.out (Nat.le_refl _)).open_
        cases hax
        obtain ⟨g, off, u3, u4, u5, rfl, hg, hc⟩ := HA k hlt
        have hwi := HWi.out l[k] (List.getElem_mem hlt)
        have HT : Hid (((l.take (k + 1)).map szP).sum = ((l.take k).map szP).sum + szP l[k]) := by show _ = _; rw [List.take_succ_eq_append_getElem hlt, List.map_append, List.sum_append, List.map_cons, List.map_nil, List.sum_cons, List.sum_nil, Nat.add_zero]
        have HL : Hid (((l.take (k + 1)).map szP).sum ≤ (l.map szP).sum) := by
          show _ ≤ _
          conv => rhs; rw [← List.take_append_drop (k + 1) l]
          rw [List.map_append, List.sum_append]
          omega
        clear HA
        have HC := hide (szPeer_calls wr l[k] u3 u4 u5 m hc.behind hc.fingers hc.shelves hwi hmle)
        obtain ⟨a3, c3, e3, -⟩ := hc.behind
        obtain ⟨a4, c4, e4, -⟩ := hc.fingers
        obtain ⟨a5, c5, e5, -⟩ := hc.shelves.open_
        have f0 := hc.id
        have f1 := hc.here
        have f2 := hc.ahead
        have f3 := hc.c3
        have f4 := hc.c4
        have f5 := hc.c5
        clear hc hwi
        subst e3 e4 e5
        dsimp only [prV] at HC
        generalize szP l[k] = s at *
        generalize l[k] = q at *
        obtain ⟨id, here, ahead, be, fi, sh⟩ := q
        dsimp only at f0 f1 f2 f3 f4 f5 HC
        by_cases hs : s ≤ m
        · have hr : szRes m s = ((m - s : Nat) : Int) := by unfold szRes; rw [if_pos hs]; omega
          rw [hr] at HC
          have HM2 : Hid ((m - s) + ((l.take (k + 1)).map szP).sum = m0) := by show _ = _; rw [HT.out]; have := HM.out; omega
          clear HT HL hr
          go_wp2_with fail
          refine HC.out.mono ?_
          rintro e w5 ⟨rfl, hb5⟩
          have HB5 := hide (HB.out.trans (hb5.mono HB.out.size))
          clear hb5 HB HC HM
          have hnn : decide (((m - s : Nat) : Int) < 0) = false := decide_eq_false (by omega)
          generalize m - s = m2 at *
          go_wp2_with fail
          go_roundw
          case rel => exact ⟨k + 1, m2, by omega, by go_num, rfl, HM2.out, HB5.out⟩
          case measure => simp [intOf]; omega
        · have hr : szRes m s = -1 := by unfold szRes; rw [if_neg hs]
          rw [hr] at HC
          have HR : Hid (szRes left (szPrL l) = -1) := by
            show _ = _
            unfold szRes
            rw [if_neg (by rw [HZ.out]; have h1 := HM.out; have h2 := HT.out; have h3 := HL.out; have h4 := HE0.out; omega)]
          clear HT HL hr
          go_wp2_with fail
          refine HC.out.mono ?_
          rintro e w5 ⟨rfl, hb5⟩
          have HB5 := hide (HB.out.trans (hb5.mono HB.out.size))
          clear hb5 HB HC HM
          go_wp2_with fail
          go_ret
          exact ⟨by rw [HR.out]; rfl, HB5.out⟩
      · have hkl : k = l.length := by omega
        subst hkl
        have HR : Hid (szRes left (szPrL l) = (m : Int)) := by
          show _ = _
          have h1 := HM.out
          rw [List.take_length] at h1
          have h4 := HE0.out
          unfold szRes
          rw [HZ.out, if_pos (by omega)]
          omega
        clear HM
        go_wp2_with fail
        go_ret
        exact ⟨by rw [HR.out]; rfl, HB.out⟩
  · have HR : Hid (szRes left (szPrL l) = -1) := by show _ = _; unfold szRes; rw [if_neg (by rw [HZ.out]; omega)]
    have q0 : ((left : Int) - (l.length : Int)) < 0 := by omega
    go_enter Try.func29, Try.ntmps29
    go_wp2_with fail
    go_ret
    exact ⟨by rw [HR.out]; rfl, Below.refl _ _⟩

set_option maxHeartbeats 400000 in
theorem szRing_calls (w : World) (l : List Pr) (v : Value) (left : Nat) (hv : PeersAt w v l) (hl : l.length ≤ 9223372036854775807) (hf : ∀ x ∈ l, FitsP x) (hm : left ≤ 1048576) :
    Calls Try.prog 10 #[.agg #[v], .int .i64 left] w fun e w' => e = .returned (.int .i64 (szRes left (szPrL l))) ∧ Below w.heap.size w w' := by
  obtain ⟨a, ca, hsa, -⟩ := hv.open_
  subst hsa
  have h1 := (Below.refl w.heap.size w).alloc (Nat.le_refl _) (.cells #[.slice a l.length ca] 36)
  have HC := hide (szPeers_calls _ _ l left (hv.below h1 (Nat.le_refl _)) hl hf hm)
  have HB := hide h1
  clear h1 hv hf
  by_cases hs : szPrL l ≤ left
  · rw [szRes_pos hs] at HC ⊢
    have hnn : decide (((left - szPrL l : Nat) : Int) < 0) = false := decide_eq_false (by omega)
    generalize left - szPrL l = r at *
    go_enter Try.func10, Try.ntmps10
    go_wp2_with fail
    refine HC.out.mono ?_
    rintro e w3 ⟨rfl, hb3⟩
    have HB3 := hide (HB.out.trans (hb3.mono HB.out.size))
    clear hb3 HB HC
    go_wp2_with fail
    go_ret
    exact ⟨rfl, HB3.out⟩
  · rw [szRes_neg hs] at HC ⊢
    go_enter Try.func10, Try.ntmps10
    go_wp2_with fail
    refine HC.out.mono ?_
    rintro e w3 ⟨rfl, hb3⟩
    have HB3 := hide (HB.out.trans (hb3.mono HB.out.size))
    clear hb3 HB HC
    go_wp2_with fail
    go_ret
    exact ⟨rfl, HB3.out⟩

/-- What is within the bounds is small. -/
theorem small_of_sz {l : List Pr} (h : szPrL l ≤ 1048576) : l.length ≤ 1048576 ∧ ∀ p ∈ l, Small p := by
  have sum_mem : ∀ {α : Type} (f : α → Nat) (l : List α) (x : α), x ∈ l → f x ≤ (l.map f).sum := by
    intro α f l
    induction l with
    | nil => intro x hx; cases hx
    | cons y l ih =>
      intro x hx
      rw [List.map_cons, List.sum_cons]
      rcases List.mem_cons.1 hx with rfl | hx
      · omega
      · have := ih x hx
        omega
  unfold szPrL at h
  refine ⟨by omega, fun p hp => ?_⟩
  have h1 : p.behind.length + p.fingers.length + szShL p.shelves ≤ (l.map szP).sum := sum_mem szP l p hp
  have e1 : szShL p.shelves = p.shelves.length + (p.shelves.map szSh).sum := rfl
  refine ⟨by omega, by omega, by omega, fun x hx => ?_⟩
  have h2 : szItL x.items ≤ (p.shelves.map szSh).sum := sum_mem szSh p.shelves x hx
  have e2 : szItL x.items = x.items.length + (x.items.map szT).sum := rfl
  refine ⟨by omega, fun y hy => ?_⟩
  have h3 : y.t.length ≤ (x.items.map szT).sum := sum_mem szT x.items y hy
  omega
end Go.Proofs.Ytfckfgabeeeccaa.P9
