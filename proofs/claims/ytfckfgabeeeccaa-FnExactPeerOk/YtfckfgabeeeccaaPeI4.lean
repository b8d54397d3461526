/- The program's PeerOk; condition: lists of at most 2^20, texts of at most 2^20 bytes. -/
import Derived.Test.YtfckfgabeeeccaaPeI3
namespace Go.Proofs.Ytfckfgabeeeccaa.P9
set_option maxRecDepth 8000
open Go.RowKit P1 P8 Da

theorem range_all {α : Type} (d : α) (f : α → Bool) : ∀ l : List α, (List.range l.length).all (fun k => f ((l[k]?).getD d)) = l.all f
  | [] => rfl
  | x :: l => by
    rw [List.length_cons, List.range_succ_eq_map, List.all_cons, List.all_map, List.all_cons, ← range_all d f l]
    rfl

def peerOkI (p : Pr) : Bool := inB p.id 0 255 && if p.here then (inB p.ahead (-1) 255 && behindB p && fingersB p.fingers && shelvesB p.shelves) else awayOk p

theorem peerOkI_eq (p : Pr) : peerOkI p = peerOk p := by
  unfold peerOkI peerOk
  congr 1
  cases p.here with
  | false => rfl
  | true =>
    simp only [if_true]
    unfold hereOk behindB fingersB shelvesB
    have h1 : (List.range p.behind.length).all (behindOk p) = p.behind.all (fun x => inB x 0 255 && decide (x ≠ p.id)) := by
      exact range_all 0 (fun x => inB x 0 255 && decide (x ≠ p.id)) p.behind
    have h2 : (List.range p.fingers.length).all (fingerOk p) = p.fingers.all (fun x => inB x (-1) 255) := by
      exact range_all 0 (fun x => inB x (-1) 255) p.fingers
    rw [h1, h2]
    generalize inB p.ahead (-1) 255 = b1
    generalize p.behind.all _ = b2
    generalize p.fingers.all _ = b3
    generalize (List.range p.shelves.length).all _ = b4
    generalize decide (p.behind.length ≤ 3) = b5
    generalize decide (p.fingers.length = 8) = b6
    generalize decide (p.shelves.length ≤ 80) = b7
    cases b1 <;> cases b2 <;> cases b3 <;> cases b4 <;> cases b5 <;> cases b6 <;> cases b7 <;> rfl

set_option maxHeartbeats 2000000 in
theorem implPeerOk_calls (w : World) (p : Pr) (u3 u4 u5 : Value) (h3 : IntsAt w u3 p.behind) (h4 : IntsAt w u4 p.fingers) (h5 : ShelvesAt w u5 p.shelves) (hp : Small p) :
    Calls Try.prog 8 #[prV p u3 u4 u5] w fun e w' => e = .returned (.bool (peerOk p)) ∧ Below w.heap.size w w' := by
  rw [← peerOkI_eq]
  have hb1 := (Below.refl w.heap.size w).alloc (Nat.le_refl _) (.cells #[.int .i64 p.id, .bool p.here, .int .i64 p.ahead, u3, u4, u5] 30)
  have H3 := hide (h3.below hb1 (Nat.le_refl _))
  have H4 := hide (h4.below hb1 (Nat.le_refl _))
  have H5 := hide (h5.below hb1 (Nat.le_refl _))
  obtain ⟨a3, c3, rfl, -⟩ := h3
  obtain ⟨a4, c4, rfl, -⟩ := h4
  obtain ⟨a5, c5, rfl, -⟩ := h5.open_
  have G := Blk.new w #[.int .i64 p.id, .bool p.here, .int .i64 p.ahead, .slice a3 p.behind.length c3, .slice a4 p.fingers.length c4, .slice a5 p.shelves.length c5] 30
  have HB := hide hb1
  have HP := hide hp
  have HO : Hid (peerOkI p = (inB p.id 0 255 && if p.here then (inB p.ahead (-1) 255 && behindB p && fingersB p.fingers && shelvesB p.shelves) else awayOk p)) := rfl
  clear h5 hb1 hp
  go_enter Try.func8, Try.ntmps8
  go_upto_region 1 with fail
  obtain ⟨b0, e0⟩ : ∃ b, b = w.heap.size := ⟨_, rfl⟩
  rw [← e0] at G ⊢
  clear e0
  generalize w.alloc (.cells #[.int .i64 p.id, .bool p.here, .int .i64 p.ahead, .slice a3 p.behind.length c3, .slice a4 p.fingers.length c4, .slice a5 p.shelves.length c5] 30) = w1 at *
  have C0 := hide (fun wx => isOn_calls p.id wx)
  have C1 := hide (fun wx => known_calls p.ahead wx)
  have CN := hide (hasNothing_calls w1 p a3 a4 a5 c3 c4 c5 HP.out.b HP.out.f HP.out.s)
  have CB := hide (implBehind_calls w1 p _ (.slice a4 p.fingers.length c4) (.slice a5 p.shelves.length c5) H3.out HP.out.b)
  have CF := hide (fun wx (hb : Below w1.heap.size w1 wx) => implFingers_calls wx _ p.fingers (H4.out.below hb (Nat.le_refl _)) HP.out.f)
  have CS := hide (fun wx (hb : Below w1.heap.size w1 wx) => implShelves_calls wx _ p.shelves (H5.out.below hb (Nat.le_refl _)) HP.out.s HP.out.i)
  have d0 : w1.cell? ⟨b0, 0, none⟩ = some (.int .i64 p.id) := by rw [G.cell 0]; rfl
  have d1 : w1.cell? ⟨b0, 1, none⟩ = some (.bool p.here) := by rw [G.cell 1]; rfl
  have d2 : w1.cell? ⟨b0, 2, none⟩ = some (.int .i64 p.ahead) := by rw [G.cell 2]; rfl
  have d3 : w1.cell? ⟨b0, 3, none⟩ = some (.slice a3 p.behind.length c3) := by rw [G.cell 3]; rfl
  have d4 : w1.cell? ⟨b0, 4, none⟩ = some (.slice a4 p.fingers.length c4) := by rw [G.cell 4]; rfl
  have d5 : w1.cell? ⟨b0, 5, none⟩ = some (.slice a5 p.shelves.length c5) := by rw [G.cell 5]; rfl
  have l0 := G.lt
  have HG := hide G
  clear G H3 H4 H5 HP
  cases hi : inB p.id 0 255 with
  | false =>
    rw [hi] at C0 HO
    clear hi C1 CN CB CF CS
    go_wp2_with fail
    refine (C0.out _).mono ?_
    rintro e w2 ⟨rfl, rfl⟩
    go_wp2_with fail
    go_ret
    exact ⟨by rw [HO.out]; rfl, HB.out⟩
  | true =>
    rw [hi, Bool.true_and] at HO
    rw [hi] at C0
    clear hi
    go_wp2_with fail
    refine (C0.out _).mono ?_
    rintro e w2 ⟨rfl, rfl⟩
    clear C0
    cases hh : p.here with
    | false =>
      rw [hh] at d1
      have HO2 : Hid (peerOkI p = awayOk p) := by show _ = _; rw [HO.out, hh]; rfl
      rw [show prV p (.slice a3 p.behind.length c3) (.slice a4 p.fingers.length c4) (.slice a5 p.shelves.length c5) = .agg #[.int .i64 p.id, .bool false, .int .i64 p.ahead, .slice a3 p.behind.length c3, .slice a4 p.fingers.length c4, .slice a5 p.shelves.length c5] by rw [prV, hh]] at CN
      clear hh HO C1 CB CF CS
      go_wp2_with fail
      refine CN.out.mono ?_
      rintro e w3 ⟨rfl, hb3⟩
      have HB3 := hide (HB.out.trans (hb3.mono HB.out.size))
      clear hb3 HB CN d0 d1 d2 d3 d4 d5 l0
      go_wp2_with fail
      go_ret
      exact ⟨by rw [HO2.out]; rfl, HB3.out⟩
    | true =>
      rw [hh] at d1
      have HO2 : Hid (peerOkI p = (inB p.ahead (-1) 255 && behindB p && fingersB p.fingers && shelvesB p.shelves)) := by show _ = _; rw [HO.out, hh]; rfl
      rw [show prV p (.slice a3 p.behind.length c3) (.slice a4 p.fingers.length c4) (.slice a5 p.shelves.length c5) = .agg #[.int .i64 p.id, .bool true, .int .i64 p.ahead, .slice a3 p.behind.length c3, .slice a4 p.fingers.length c4, .slice a5 p.shelves.length c5] by rw [prV, hh]] at CB
      clear hh HO CN
      generalize inB p.ahead (-1) 255 = r1 at *
      generalize behindB p = r2 at *
      generalize fingersB p.fingers = r3 at *
      generalize shelvesB p.shelves = r4 at *
      cases r1 with
      | false =>
        clear CB CF CS
        go_wp2_with fail
        refine (C1.out _).mono ?_
        rintro e w3 ⟨rfl, rfl⟩
        go_wp2_with fail
        go_ret
        exact ⟨by rw [HO2.out]; rfl, HB.out⟩
      | true =>
        go_wp2_with fail
        refine (C1.out _).mono ?_
        rintro e w3 ⟨rfl, rfl⟩
        clear C1
        go_wp2_with fail
        refine CB.out.mono ?_
        rintro e w4 ⟨rfl, hb4⟩
        have HB4 := hide (HB.out.trans (hb4.mono HB.out.size))
        have G4 := HG.out.below hb4 HG.out.lt
        have CF4 := hide (CF.out w4 hb4)
        have CS4 := hide (CS.out w4 hb4)
        have d4 : w4.cell? ⟨b0, 4, none⟩ = some (.slice a4 p.fingers.length c4) := by rw [G4.cell 4]; rfl
        have d5 : w4.cell? ⟨b0, 5, none⟩ = some (.slice a5 p.shelves.length c5) := by rw [G4.cell 5]; rfl
        have l0 := G4.lt
        clear hb4 HB CB CF CS HG G4
        cases r2 with
        | false =>
          clear CF4 CS4
          go_wp2_with fail
          go_ret
          exact ⟨by rw [HO2.out]; rfl, HB4.out⟩
        | true =>
          go_wp2_with fail
          refine CF4.out.mono ?_
          rintro e w5 ⟨rfl, rfl⟩
          clear CF4
          cases r3 with
          | false =>
            clear CS4
            go_wp2_with fail
            go_ret
            exact ⟨by rw [HO2.out]; rfl, HB4.out⟩
          | true =>
            go_wp2_with fail
            refine CS4.out.mono ?_
            rintro e w6 ⟨rfl, hb6⟩
            have HB6 := hide (HB4.out.trans (hb6.mono HB4.out.size))
            clear CS4 hb6 HB4 d4 d5 l0
            go_wp2_with fail
            go_ret
            exact ⟨by rw [HO2.out]; rfl, HB6.out⟩
end Go.Proofs.Ytfckfgabeeeccaa.P9
