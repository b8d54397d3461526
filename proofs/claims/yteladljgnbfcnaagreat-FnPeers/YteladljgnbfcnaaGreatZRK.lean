/- The specification's Joined, where everybody that is there is on the ring; condition besides: at most 2^20 peers, their lists of at most 2^20, texts of at most 2^20 bytes.
What is put with a peer, and published in a ring, as plain mathematics; that lists stay short; no condition.
A ring that is right stays right through joining, leaving, settling, new fingers, and what is put on shelves; as plain mathematics; no condition.
Each change keeps a ring right: joining, leaving, settling, new fingers, publishing; as plain mathematics; no condition.
A drawn ring: short, right, on the ring; each change keeps it so; no condition.
A drawn ring, right or not: short, on the ring, each Id once, nobody behind itself, at least two of the first three there; each change keeps it so; no condition.
One cell of a ring's row while a loop writes it: its fingers, put in at the end; no condition.
The specification's Fingered, where everybody that is there is on the ring; condition besides: at most 2^20 peers, their lists of at most 2^20, texts of at most 2^20 bytes.
A row of shelves whose items lie elsewhere, read as shelves; what is put with a peer, step by step; no condition.
The specification's Put; condition: lists of at most 2^20, texts of at most 2^20 bytes, also where the shelf is put in.
What is published, step by step: who holds is there; what is put; a row that stays; no condition.
The specification's l12Publish on a drawn ring that its caller owns; the ring's row alone is written, and memory is made.
The specification's Publish on a drawn ring. -/
import Derived.Test.YteladljgnbfcnaaGreatZRI
import Derived.Test.YteladljgnbfcnaaGreatZRH
import Derived.Test.YteladljgnbfcnaaGreatZRJ
import Derived.Test.YteladljgnbfcnaaGreatZRB
namespace Go.Proofs.YteladljgnbfcnaaGreat.P9
set_option maxRecDepth 8000
open Go.RowKit P1 P8 Da Ap Rr Rc

theorem joined_lost {l : List Pr} {id by_ : Int} (h : find l by_ id = none) : joined l id by_ = (l, false) := by
  unfold joined
  rw [h]

theorem joined_no {l : List Pr} {id by_ : Int} {n : Int} {m : Nat} (hf : find l by_ id = some (n, m)) (h : freeAt l id l.length < 0 ∨ 0 ≤ peerAt l id ∨ peerAt l n < 0) : joined l id by_ = (l, false) := by
  unfold joined
  rw [hf]
  exact if_pos h

theorem joined_free {l : List Pr} {id by_ : Int} (h : freeAt l id l.length < 0) : joined l id by_ = (l, false) := by
  cases hf : find l by_ id with
  | none => exact joined_lost hf
  | some x => exact joined_no (n := x.1) (m := x.2) hf (.inl h)

theorem joined_ok {l : List Pr} {id by_ : Int} {n : Int} {m i : Nat} (hf : find l by_ id = some (n, m)) (h1 : freeAt l id l.length = i) (h2 : peerAt l id < 0) (h3 : 0 ≤ peerAt l n) : joined l id by_ = (l.set i (newP l id n), true) := by
  unfold joined
  rw [hf]
  show (if _ then _ else _) = _
  rw [if_neg (by omega), h1]
  rfl

theorem trip_shape (r : Option (Int × Nat)) : ∃ (x n : Int) (b : Bool), tripV r = .tuple #[.agg #[.int .i64 x, .int .i64 n], .bool b] ∧ (b = false → r = none) ∧ (b = true → ∃ m : Nat, r = some (x, m)) := by
  cases r with
  | none => exact ⟨_, _, false, rfl, fun _ => rfl, fun h => nomatch h⟩
  | some y => exact ⟨y.1, y.2, true, rfl, fun h => (nomatch h), fun _ => ⟨y.2, rfl⟩⟩

/-- One who has just come, written over. -/
theorem put_new {W : World} {T : Tys} {g n c i : Nat} {l : List Pr} {fp : List Nat} (h : Owns W (.slice (some ⟨g, 0, none⟩) n c) (peersD T l) fp) (hi : i < l.length) (id m : Int) {u3 u4 : Value} {f3 f4 : List Nat}
    (h3 : Owns W u3 (intsD (behindBut l m id)) f3) (h4 : Owns W u4 (intsD (List.replicate 8 (-1))) f4) (n3 : ∀ q ∈ f3, q ∉ fp) (n4 : ∀ q ∈ f4, q ∉ fp) (d34 : ∀ q ∈ f3, q ∉ f4) :
    ∃ fp', Owns ((((((W.setCell ⟨g, i * 6, none⟩ (.int .i64 id)).setCell ⟨g, i * 6 + 1, none⟩ (.bool true)).setCell ⟨g, i * 6 + 2, none⟩ (.int .i64 (-1))).setCell ⟨g, i * 6 + 3, none⟩ u3).setCell ⟨g, i * 6 + 4, none⟩ u4).setCell ⟨g, i * 6 + 5, none⟩ (.slice none 0 0))
      (.slice (some ⟨g, 0, none⟩) n c) (peersD T (l.set i (newP l id m))) fp' ∧ ∀ q ∈ fp', q ∈ fp ∨ q ∈ f3 ∨ q ∈ f4 := by
  obtain ⟨fp', h1, h2⟩ := put_peer h hi (newP l id m) h3 h4 (owns_nil _ _) n3 n4 (by simp) d34 (by simp) (by simp)
  refine ⟨fp', h1, fun q hq => ?_⟩
  rcases h2 q hq with h | h | h | h
  · exact .inl h
  · exact .inr (.inl h)
  · exact .inr (.inr h)
  · cases h

set_option maxRecDepth 100000 in
set_option maxHeartbeats 8000000 in
theorem specJoined_calls (w : World) (v : Value) (l : List Pr) (id by_ : Int) (hv : PeersAt w v l) (hl : l.length ≤ 1048576) (hsm : ∀ p ∈ l, Small p) (hon : OnRing l) :
    Calls Tryz.prog 71 #[.agg #[v], .int .i64 id, .int .i64 by_] w fun e w' => ∃ v' fp, e = .returned (.tuple #[.agg #[v'], .bool (joined l id by_).2]) ∧ Owns w' v' (peersD T0 (joined l id by_).1) fp ∧ (∀ q ∈ fp, w.heap.size ≤ q) ∧ Below w.heap.size w w' := by
  obtain ⟨R, eR⟩ : ∃ R, R = joined l id by_ := ⟨_, rfl⟩
  have HR1 : Hid (find l by_ id = none → R = (l, false)) := fun h => eR.trans (joined_lost h)
  have HR0 : Hid (freeAt l id l.length < 0 → R = (l, false)) := fun h => eR.trans (joined_free h)
  have HR2 : Hid (∀ (n : Int) (m : Nat), find l by_ id = some (n, m) → 0 ≤ peerAt l id → R = (l, false)) := fun n m h1 h => eR.trans (joined_no h1 (.inr (.inl h)))
  have HR3 : Hid (∀ (n : Int) (m i : Nat), find l by_ id = some (n, m) → freeAt l id l.length = i → peerAt l id < 0 → 0 ≤ peerAt l n → R = (l.set i (newP l id n), true)) := fun n m i h1 h2 h3 h4 => eR.trans (joined_ok h1 h2 h3 h4)
  rw [← eR]
  clear eR
  have HSM := hide hsm
  have HON := hide hon
  have HBL : Hid (∀ p ∈ l, p.behind.length ≤ 1048576) := fun p hp => (hsm p hp).b
  have hb1 := (Below.refl w.heap.size w).alloc (Nat.le_refl _) (.cells #[v] 28)
  have hb2 := hb1.alloc hb1.size (.cells #[.slice none 0 0] 28)
  have HV1 := hide (hv.below hb2 (Nat.le_refl _))
  have HV := hide hv
  obtain ⟨a, cap, rfl, -⟩ := hv.open_
  have A0 := Blk.new w #[.slice a l.length cap] 28
  have A1 := Blk.new (w.alloc (.cells #[.slice a l.length cap] 28)) #[.slice none 0 0] 28
  have hba := (Below.refl (w.alloc (.cells #[.slice a l.length cap] 28)).heap.size (w.alloc (.cells #[.slice a l.length cap] 28))).alloc (Nat.le_refl _) (.cells #[.slice none 0 0] 28)
  have A0' := A0.below hba A0.lt
  have e1 : (w.alloc (.cells #[.slice a l.length cap] 28)).heap.size = w.heap.size + 1 := by simp
  rw [e1] at A1
  have HB1 := hide hb2
  clear hv hsm hon hb1 hb2 hba A0 e1
  go_enter Tryz.func71, Tryz.ntmps71
  go_upto_region 1 with fail
  obtain ⟨s, es⟩ : ∃ s, s = w.heap.size := ⟨_, rfl⟩
  rw [← es] at A0' A1 ⊢
  have HS : Hid (w.heap.size = s) := es.symm
  clear es
  generalize (w.alloc (.cells #[.slice a l.length cap] 28)).alloc (.cells #[.slice none 0 0] 28) = w1 at *
  have c0 := blk_free_cell A0' 0 rfl
  have l0 := A0'.lt
  go_wp2_with fail
  refine (copyRing_calls w1 _ l HV1.out hl HSM.out).mono ?_
  rintro e wc ⟨v', fp, rfl, ho, hfp, hbc⟩
  obtain ⟨ao, co, rfl⟩ := peers_sl ho
  clear c0 l0
  go_upto_region 2 with fail
  have XO := Blk.new wc #[.slice ao l.length co] 28
  have hbo := (Below.refl wc.heap.size wc).alloc (Nat.le_refl _) (.cells #[.slice ao l.length co] 28)
  have hb13 := hbc.trans (hbo.mono hbc.size)
  have X0 := A0'.below hb13 A0'.lt
  have X1 := A1.below hb13 A1.lt
  have HB3 := hide (HB1.out.trans (hb13.mono HB1.out.size))
  have HO3 := hide (owns_below ho hbo)
  have hl1 := A1.lt
  have hlt := ho.lt
  obtain ⟨bo, ebo⟩ : ∃ b, b = wc.heap.size := ⟨_, rfl⟩
  rw [← ebo] at XO hlt ⊢
  have HFP : Hid (∀ q ∈ fp, s + 1 < q ∧ q < bo) := fun q hq => by
    have := hfp q hq
    have := hlt q hq
    omega
  have hso : s + 1 < bo := by have := hbc.size; omega
  clear ebo hbo hb13 A0' A1 HB1 HV1 ho hfp hbc hlt hl1
  generalize wc.alloc (.cells #[.slice ao l.length co] 28) = w3 at *
  have HC0 : Hid (∀ wx, Below w3.heap.size w3 wx → wx.cell? ⟨s, 0, none⟩ = some (.slice a l.length cap) ∧ s < wx.heap.size) := fun wx hb => ⟨blk_free_cell (X0.below hb X0.lt) 0 rfl, (X0.below hb X0.lt).lt⟩
  have HZ0 : Hid (∀ wx, Below w3.heap.size w3 wx → Blk wx s [.slice a l.length cap] 28) := fun wx hb => X0.below hb X0.lt
  have HZO : Hid (∀ wx, Below w3.heap.size w3 wx → Blk wx bo [.slice ao l.length co] 28) := fun wx hb => XO.below hb XO.lt
  have HX1 : Hid (∀ wx, Below w3.heap.size w3 wx → Blk wx (s + 1) [.slice none 0 0] 28) := fun wx hb => X1.below hb X1.lt
  have HVx : Hid (∀ wx, Below w3.heap.size w3 wx → PeersAt wx (.slice a l.length cap) l) := fun wx hb => HV.out.below (HB3.out.trans (hb.mono HB3.out.size)) (Nat.le_refl _)
  have HOx : Hid (∀ wx, Below w3.heap.size w3 wx → Owns wx (.slice ao l.length co) (peersD T0 l) fp) := fun wx hb => owns_below HO3.out hb
  have HBx : Hid (∀ wx, Below w3.heap.size w3 wx → Below w.heap.size w wx) := fun wx hb => HB3.out.trans (hb.mono HB3.out.size)
  clear X0 X1 XO HO3
  have hw3 := Below.refl w3.heap.size w3
  obtain ⟨c0, l0⟩ := HC0.out w3 hw3
  have HVw := hide (HVx.out w3 hw3)
  clear hw3
  go_wp2_with fail
  go_loopw [9, 10] (fun av iv wr => ∃ k : Nat, k ≤ l.length ∧ iv = .int .i64 k ∧ av = .int .i64 (freeAt l id k) ∧ wr = w3) (fun _ iv _ => l.length - (intOf iv).toNat)
  case atStart => exact ⟨0, Nat.zero_le _, rfl, rfl, rfl⟩
  case round =>
    obtain ⟨k, hk, rfl, rfl, hwr⟩ := hrel
    subst hwr
    by_cases hlt : k < l.length
    · obtain ⟨a2, c2, hsh, HA⟩ := HVw.out.open_
      cases hsh
      obtain ⟨g, off, u3, u4, u5, rfl, hg, hc⟩ := HA k hlt
      have f0 := hc.id
      have f1 := hc.here
      have HFS := hide (freeAt_step (id := id) hlt)
      clear HA hc HR0 HR1 HR2 HR3
      obtain ⟨fk, efk⟩ : ∃ x, x = freeAt l id k := ⟨_, rfl⟩
      rw [← efk] at HFS ⊢
      clear efk
      generalize l[k].here = hh at *
      generalize l[k].id = ii at *
      by_cases hi : ii = id
      · subst hi
        cases hh with
        | false =>
          have HF : Hid (freeAt l ii (k + 1) = k) := by show _ = _; rw [HFS.out]; simp
          clear HFS
          go_wp2
          go_roundw
          case rel => exact ⟨k + 1, by omega, by go_num, by rw [HF.out], trivial⟩
          case measure => simp [intOf]; omega
        | true =>
          have HF : Hid (freeAt l ii (k + 1) = fk) := by show _ = _; rw [HFS.out]; simp
          clear HFS
          go_wp2
          go_roundw
          case rel => exact ⟨k + 1, by omega, by go_num, by rw [HF.out], trivial⟩
          case measure => simp [intOf]; omega
      · have hne : (ii == id) = false := by simpa using hi
        have HF : Hid (freeAt l id (k + 1) = fk) := by show _ = _; rw [HFS.out]; simp [hi]
        clear HFS
        go_wp2
        go_roundw
        case rel => exact ⟨k + 1, by omega, by go_num, by rw [HF.out], trivial⟩
        case measure => simp [intOf]; omega
    · obtain rfl : k = l.length := by omega
      clear hk hlt
      have CF := hide (specFind_calls wr _ l by_ id HVw.out hl HSM.out HON.out)
      clear HVw
      obtain ⟨x, n, b, esh, hbn, hbs⟩ := trip_shape (find l by_ id)
      rw [esh] at CF
      have HBN : Hid (b = false → R = (l, false)) := fun h => HR1.out (hbn h)
      have HBS := hide hbs
      clear HR1 esh hbn hbs
      go_upto_region 8 with fail
      go_wp2_with fail
      refine CF.out.mono ?_
      rintro e wf ⟨rfl, hwf⟩
      clear CF c0 l0
      go_upto_region 9 with fail
      have YT := Blk.new wf #[.int .i64 x, .int .i64 n] 119
      have hb6 := hwf.alloc hwf.size (.cells #[.int .i64 x, .int .i64 n] 119)
      have hbt : bo < wf.heap.size := by have := (HZO.out wr (Below.refl _ _)).lt; have := hwf.size; omega
      obtain ⟨bt, ebt⟩ : ∃ b, b = wf.heap.size := ⟨_, rfl⟩
      rw [← ebt] at YT hbt ⊢
      clear ebt hwf
      generalize wf.alloc (.cells #[.int .i64 x, .int .i64 n] 119) = w6 at *
      have HB6 := hide hb6
      clear hb6
      -- it is not done
      have HEN : Hid (R = (l, false) → ∀ wx, Below wr.heap.size wr wx → Owns (wx.setCell ⟨s + 1, 0, none⟩ (.slice ao l.length co)) (.slice ao l.length co) (peersD T0 R.1) fp ∧ (∀ q ∈ fp, w.heap.size ≤ q) ∧ Below w.heap.size w (wx.setCell ⟨s + 1, 0, none⟩ (.slice ao l.length co))) := fun hR wx hb => by
        have hs := HS.out
        refine ⟨?_, fun q hq => by have := HFP.out q hq; omega, (HBx.out wx hb).setCell (p := ⟨s + 1, 0, none⟩) (by show _ ≤ s + 1; omega) _⟩
        rw [hR]
        exact owns_set (HOx.out wx hb) (fun q hq => by have := HFP.out q hq; omega) _
      have Y0 := HZ0.out w6 HB6.out
      have c0 := blk_free_cell Y0 0 rfl
      have l0 := Y0.lt
      have t0 := blk_free_cell YT 0 rfl
      have tl := YT.lt
      by_cases hfr : freeAt l id l.length < 0
      · have HE := hide (HEN.out (HR0.out hfr) w6 HB6.out)
        have HR := hide (HR0.out hfr)
        have YO := HZO.out w6 HB6.out
        have cO := blk_free_cell YO 0 rfl
        have lO := YO.lt
        have Y1 := HX1.out w6 HB6.out
        have y0 := blk_free_cell Y1 0 rfl
        have yf := Y1.free 0
        have yl := Y1.lt
        have hd : decide (freeAt l id l.length < 0) = true := decide_eq_true hfr
        clear HR0 HBN HR2 HR3 HBS hfr HEN HSM HON HBL HZ0 HZO HX1 HVx HOx HBx YO HV HB3
        generalize freeAt l id l.length = fr at *
        go_wp2_with fail
        have Rd := Y1.set 0 (.slice ao l.length co)
        have x0 := blk_free_cell Rd 0 rfl
        refine bodyPost_ret (v := .tuple #[.agg #[.slice ao l.length co], .bool false]) (by simp [results, Tryz.results71, go_sem, x0]) rfl ?_
        first | exact ⟨.slice ao l.length co, by rw [HR.out], fp, HE.out⟩ | exact ⟨.slice ao l.length co, fp, by rw [HR.out], HE.out⟩
      · have hd : decide (freeAt l id l.length < 0) = false := decide_eq_false hfr
        cases b with
        | false =>
          have HE := hide (HEN.out (HBN.out rfl) w6 HB6.out)
          have HR := hide (HBN.out rfl)
          have YO := HZO.out w6 HB6.out
          have cO := blk_free_cell YO 0 rfl
          have lO := YO.lt
          have Y1 := HX1.out w6 HB6.out
          have y0 := blk_free_cell Y1 0 rfl
          have yf := Y1.free 0
          have yl := Y1.lt
          clear HR0 HBN HR2 HR3 HBS hfr HEN HSM HON HBL HZ0 HZO HX1 HVx HOx HBx YO HV HB3
          generalize freeAt l id l.length = fr at *
          go_wp2_with fail
          have Rd := Y1.set 0 (.slice ao l.length co)
          have x0 := blk_free_cell Rd 0 rfl
          refine bodyPost_ret (v := .tuple #[.agg #[.slice ao l.length co], .bool false]) (by simp [results, Tryz.results71, go_sem, x0]) rfl ?_
          first | exact ⟨.slice ao l.length co, by rw [HR.out], fp, HE.out⟩ | exact ⟨.slice ao l.length co, fp, by rw [HR.out], HE.out⟩
        | true =>
          obtain ⟨m, hfm⟩ := HBS.out rfl
          have hat := (findGo_at HON.out id 66 by_ x m hfm).1
          have CP := hide (specPeerAt_calls w6 _ l id (HVx.out w6 HB6.out) hl)
          have HP2 := hide (HR2.out x m hfm)
          have HP3 := hide (fun i => HR3.out x m i hfm)
          clear HR0 HBN HR2 HR3 HBS hfm
          go_wp2_with fail
          refine CP.out.mono ?_
          rintro e w7 ⟨rfl, hw7⟩
          have HB7 := hide (HB6.out.trans (hw7.mono HB6.out.size))
          have YT7 := YT.below hw7 YT.lt
          clear CP HB6 c0 l0 t0 tl YT Y0 hw7
          have Y0 := HZ0.out w7 HB7.out
          have c0 := blk_free_cell Y0 0 rfl
          have l0 := Y0.lt
          have t0 := blk_free_cell YT7 0 rfl
          have tl := YT7.lt
          by_cases hp0 : 0 ≤ peerAt l id
          · have HE := hide (HEN.out (HP2.out hp0) w7 HB7.out)
            have HR := hide (HP2.out hp0)
            have YO := HZO.out w7 HB7.out
            have cO := blk_free_cell YO 0 rfl
            have lO := YO.lt
            have Y1 := HX1.out w7 HB7.out
            have y0 := blk_free_cell Y1 0 rfl
            have yf := Y1.free 0
            have yl := Y1.lt
            have hd2 : decide (peerAt l id ≥ 0) = true := decide_eq_true hp0
            clear HP2 HP3 hp0 hfr HEN HSM HON HBL HZ0 HZO HX1 HVx HOx HBx YO HV HB3
            generalize freeAt l id l.length = fr at *
            generalize peerAt l id = pa at *
            go_wp2_with fail
            have Rd := Y1.set 0 (.slice ao l.length co)
            have x0 := blk_free_cell Rd 0 rfl
            refine bodyPost_ret (v := .tuple #[.agg #[.slice ao l.length co], .bool false]) (by simp [results, Tryz.results71, go_sem, x0]) rfl ?_
            first | exact ⟨.slice ao l.length co, by rw [HR.out], fp, HE.out⟩ | exact ⟨.slice ao l.length co, fp, by rw [HR.out], HE.out⟩
          · have hd2 : decide (peerAt l id ≥ 0) = false := decide_eq_false hp0
            obtain ⟨i, hi, hfi⟩ : ∃ i : Nat, ∃ _ : i < l.length, freeAt l id l.length = i := by
              rcases freeAt_lt l id l.length with h | ⟨i, hi, h, -⟩
              · omega
              · exact ⟨i, hi, h⟩
            obtain ⟨j, hj, hpj⟩ : ∃ j : Nat, ∃ _ : j < l.length, peerAt l x = j := (peerAt_lt l x).resolve_left (by omega)
            have HR := hide (HP3.out i hfi (by omega) hat)
            have CP := hide (specPeerAt_calls w7 _ l x (HVx.out w7 HB7.out) hl)
            rw [hpj] at CP
            clear HP2 HP3 HEN hp0 hat
            rw [hfi] at hd ⊢
            clear hfr
            go_wp2_with fail
            refine CP.out.mono ?_
            rintro e w8 ⟨rfl, hw8⟩
            have HB8 := hide (HB7.out.trans (hw8.mono HB7.out.size))
            have YT8 := YT7.below hw8 YT7.lt
            clear CP HB7 c0 l0 t0 tl YT7 Y0 hw8
            have Y0 := HZ0.out w8 HB8.out
            have c0 := blk_free_cell Y0 0 rfl
            have l0 := Y0.lt
            have t0 := blk_free_cell YT8 0 rfl
            have tl := YT8.lt
            have hd3 : decide ((j : Int) < 0) = false := decide_eq_false (by omega)
            have CB := hide (behind_calls' w8 _ l x id j (HVx.out w8 HB8.out) hl HBL.out hj hpj)
            clear hpj
            go_wp2_with fail
            refine CB.out.mono ?_
            rintro e w9 ⟨v9, rfl, how, hb9⟩
            obtain ⟨a9, c9, hsh⟩ := own_sh how
            subst hsh
            obtain ⟨f9, ho9, hf9⟩ := ints_owned how
            have hB9 := HB8.out.trans (hb9.mono HB8.out.size)
            have h8z := HB8.out.size
            have h9z := hb9.size
            have hbo8 : bo < w8.heap.size := (HZO.out w8 HB8.out).lt
            clear CB c0 l0 t0 tl YT8 Y0 how hb9 HB8
            go_upto_region 12 with fail
            have W0 := Blk.new w9 #[.int .i64 id, .bool true, .int .i64 (-1), .slice a9 (behindBut l x id).length c9, .slice none 0 0, .slice none 0 0] 37
            have hbA := (Below.refl w9.heap.size w9).alloc (Nat.le_refl _) (.cells #[.int .i64 id, .bool true, .int .i64 (-1), .slice a9 (behindBut l x id).length c9, .slice none 0 0, .slice none 0 0] 37)
            have HO9 := hide (owns_below ho9 hbA)
            have hlt9 := ho9.lt
            have hBA := hide (hB9.trans (hbA.mono hB9.size))
            have hszA : (w9.alloc (.cells #[.int .i64 id, .bool true, .int .i64 (-1), .slice a9 (behindBut l x id).length c9, .slice none 0 0, .slice none 0 0] 37)).heap.size = w9.heap.size + 1 := by simp
            have HW := hide W0
            clear W0 hbA ho9 hB9
            obtain ⟨bp, ebp⟩ : ∃ b, b = w9.heap.size := ⟨_, rfl⟩
            rw [← ebp] at HW hszA hlt9 h9z ⊢
            clear ebp
            obtain ⟨nb, enb⟩ : ∃ n, n = (behindBut l x id).length := ⟨_, rfl⟩
            rw [← enb] at HO9 hBA hszA HW ⊢
            clear enb
            generalize w9.alloc (.cells #[.int .i64 id, .bool true, .int .i64 (-1), .slice a9 nb c9, .slice none 0 0, .slice none 0 0] 37) = wA at *
            obtain ⟨i0, hi0, hz0, hz1, hz2⟩ := info_parts info_i64
            generalize wr = wo at *
            go_wp2_with fail
            go_loopw [14] (fun iv wx => ∃ (j : Nat) (vf : Value), j ≤ 8 ∧ iv = .int .i64 j ∧ Hid (Blk wx bp [.int .i64 id, .bool true, .int .i64 (-1), .slice a9 nb c9, vf, .slice none 0 0] 37) ∧ Hid (wx.ownsRow (bp + 1) 3 1 vf j (cellsI (List.replicate j (-1)))) ∧ Hid (Only [bp] wA wx)) (fun iv _ => 8 - (intOf iv).toNat)
            case atStart => exact ⟨0, _, Nat.zero_le _, rfl, HW.out, World.ownsRow_nil _ _ _ _, Only.refl _ _⟩
            case round =>
              clear HW
              obtain ⟨j, vf, hj, rfl, HWx, HFx, HXx⟩ := hrel
              obtain ⟨af, cf, hsh⟩ := own_sh HFx.out
              subst hsh
              have hAx := HXx.out.size
              by_cases hj8 : j < 8
              · have k4 := blk_free_cell HWx.out 4 rfl
                have kf4 := HWx.out.free 4
                have kl := HWx.out.lt
                go_wp2_with (at_builtin; refine wpList_append_one (cs := #[.int .i64 (-1)]) (Below.refl (bp + 1) wr) (by omega) rfl (.tmp 81) (.tmp 82) 24 rfl 3 i0 (.int .i64 0) 1 8 Tryz.underlying24 hi0 hz0 hz1 hz2 rfl (by decide) rfl (by simp [Value.oneCell']) _ _ _ rfl HFx.out 1 rfl (by omega) (by omega) ?_)
                intro v6 w6x hown hb6'
                obtain ⟨a6, c6, hsh⟩ := own_sh hown
                subst hsh
                have hown' : w6x.ownsRow (bp + 1) 3 1 (.slice a6 (j + 1) c6) (j + 1) (cellsI (List.replicate (j + 1) (-1))) := by
                  rw [List.replicate_succ']
                  simpa [cellsI] using hown
                have hQ6 := HWx.out.below hb6' (by omega)
                have m4 := blk_free_cell hQ6 4 rfl
                have mf4 := hQ6.free 4
                have ml := hQ6.lt
                have hne : (Value.slice a6 (j + 1) c6).ownBlock ≠ some bp := fun e => by have := (hown'.lt bp e).1; omega
                have HF7 := hide (ownsRow_setCell_other hown' (a := ⟨bp, 4, none⟩) hne (.slice a6 (j + 1) c6))
                have HQ7 := hide (hQ6.set 4 (.slice a6 (j + 1) c6))
                have HO7 := hide ((only_more HXx.out (hb6'.mono (by omega))).setCell (p := ⟨bp, 4, none⟩) (by simp) (.slice a6 (j + 1) c6))
                clear hown hown' hb6' hQ6 hne HWx HFx HXx k4 kf4 kl
                go_wp2
                go_roundw
                case rel => exact ⟨j + 1, _, by omega, by go_num, HQ7.out, HF7.out, HO7.out⟩
                case measure => simp [intOf]; omega
              · obtain rfl : j = 8 := by omega
                have hF := HFx.out
                obtain ⟨f4, o4, hf4⟩ := ints_owned (l := List.replicate 8 (-1)) (v := .slice af 8 cf) hF
                have HB12 := hide (hBA.out.trans ((HXx.out.below (B := wo.heap.size) (by omega) (fun q hq => by simp at hq; omega))))
                have o3 := hide (owns_only HO9.out HXx.out (fun q hq => by have := hlt9 q hq; simp; omega))
                have hP := HOx.out wr HB12.out
                obtain ⟨go, co', esh⟩ := peers_shape hP (by omega)
                cases esh
                obtain ⟨fq, HPq, hfq⟩ := put_new hP hi id x (u3 := .slice a9 nb c9) (u4 := .slice af 8 cf) o3.out o4 (fun q hq h => by have := HFP.out q h; have := hf9 q hq; omega) (fun q hq h => by have := HFP.out q h; have := hf4 q hq; omega) (fun q hq h => by have := hlt9 q hq; have := hf4 q h; omega)
                obtain ⟨⟨s0, k0⟩, q0, hlg, hmem⟩ := peer_cell hP hi (j := 0) (by decide)
                obtain ⟨⟨s1, k1⟩, q1, -, -⟩ := peer_cell hP hi (j := 1) (by decide)
                obtain ⟨⟨s2, k2⟩, q2, -, -⟩ := peer_cell hP hi (j := 2) (by decide)
                obtain ⟨⟨s3, k3⟩, q3, -, -⟩ := peer_cell hP hi (j := 3) (by decide)
                obtain ⟨⟨s4, k4⟩, q4, -, -⟩ := peer_cell hP hi (j := 4) (by decide)
                obtain ⟨⟨s5, k5⟩, q5, -, -⟩ := peer_cell hP hi (j := 5) (by decide)
                simp only [Nat.add_zero] at k0 q0
                have hgo := HFP.out go hmem
                have m0 := blk_free_cell HWx.out 0 rfl
                have m1 := blk_free_cell HWx.out 1 rfl
                have m2 := blk_free_cell HWx.out 2 rfl
                have m3 := blk_free_cell HWx.out 3 rfl
                have m4 := blk_free_cell HWx.out 4 rfl
                have m5 := blk_free_cell HWx.out 5 rfl
                have ml := HWx.out.lt
                have YO := HZO.out wr HB12.out
                have yo := blk_free_cell YO 0 rfl
                have lo := YO.lt
                have QO := blk_six YO (g := go) (by omega) (i * 6) (.int .i64 id) (.bool true) (.int .i64 (-1)) (.slice a9 nb c9) (.slice af 8 cf) (.slice none 0 0)
                have Q1 := blk_six (HX1.out wr HB12.out) (g := go) (by omega) (i * 6) (.int .i64 id) (.bool true) (.int .i64 (-1)) (.slice a9 nb c9) (.slice af 8 cf) (.slice none 0 0)
                have HBq := hide (six_at (HBx.out wr HB12.out) (g := go) (by have := HS.out; omega) (i * 6) (.int .i64 id) (.bool true) (.int .i64 (-1)) (.slice a9 nb c9) (.slice af 8 cf) (.slice none 0 0))
                have HFq : Hid (∀ q ∈ fq, s + 1 < q) := fun q hq => by
                  rcases hfq q hq with h | h | h
                  · have := HFP.out q h; omega
                  · have := hf9 q h; omega
                  · have := hf4 q h; omega
                have HPQ := hide HPq
                clear hF o4 hf4 o3 hP hfq HPq hmem YO HWx HFx HXx HZ0 HZO HX1 HVx HOx HBx HC0 HO9 hBA HB12 hf9 hlt9
                have hQO := hide QO
                have hQ1 := hide Q1
                go_upto_region 16 with fail
                clear QO Q1
                go_upto_region 17 with fail
                clear k0 k1 k2 k3 k4 k5 q0 q1 q2 q3 q4 q5 m0 m1 m2 m3 m4 m5 ml yo lo hlg
                generalize (((((wr.setCell ⟨go, i * 6, none⟩ (.int .i64 id)).setCell ⟨go, i * 6 + 1, none⟩ (.bool true)).setCell ⟨go, i * 6 + 2, none⟩ (.int .i64 (-1))).setCell ⟨go, i * 6 + 3, none⟩ (.slice a9 nb c9)).setCell ⟨go, i * 6 + 4, none⟩ (.slice af 8 cf)).setCell ⟨go, i * 6 + 5, none⟩ (.slice none 0 0) = wG at *
                have cO := blk_free_cell hQO.out 0 rfl
                have lO := hQO.out.lt
                have y0 := blk_free_cell hQ1.out 0 rfl
                have yf := hQ1.out.free 0
                have yl := hQ1.out.lt
                go_wp2_with fail
                have Rd := hQ1.out.set 0 (.slice (some ⟨go, 0, none⟩) l.length co)
                have x0 := blk_free_cell Rd 0 rfl
                have HE : Owns (wG.setCell ⟨s + 1, 0, none⟩ (.slice (some ⟨go, 0, none⟩) l.length co)) (.slice (some ⟨go, 0, none⟩) l.length co) (peersD T0 R.1) fq ∧ (∀ q ∈ fq, w.heap.size ≤ q) ∧ Below w.heap.size w (wG.setCell ⟨s + 1, 0, none⟩ (.slice (some ⟨go, 0, none⟩) l.length co)) := by
                  have hs := HS.out
                  refine ⟨?_, fun q hq => by have := HFq.out q hq; omega, HBq.out.setCell (p := ⟨s + 1, 0, none⟩) (by show _ ≤ s + 1; omega) _⟩
                  rw [HR.out]
                  exact owns_set HPQ.out (fun q hq => by have := HFq.out q hq; omega) _
                refine bodyPost_ret (v := .tuple #[.agg #[.slice (some ⟨go, 0, none⟩) l.length co], .bool true]) (by simp [results, Tryz.results71, go_sem, x0]) rfl ?_
                first | exact ⟨_, by rw [HR.out], fq, HE⟩ | exact ⟨_, fq, by rw [HR.out], HE⟩
end Go.Proofs.YteladljgnbfcnaaGreat.P9
namespace Go.Proofs.YteladljgnbfcnaaGreat.P9
open Go.RowKit P1 P8 Da

/-- One shelf more of those that s is put among; whether s is there already. -/
def putStep (s : Shf) (acc : List Shf × Bool) (y : Shf) : List Shf × Bool :=
  if acc.2 = false ∧ s.key ≤ y.key then
    if y.key = s.key then (acc.1 ++ [s], true) else (acc.1 ++ [s] ++ [y], true)
  else (acc.1 ++ [y], acc.2)

def putAll (s : Shf) (l : List Shf) : List Shf × Bool := l.foldl (putStep s) ([], false)

def putShelves (s : Shf) (l : List Shf) : List Shf := if (putAll s l).2 then (putAll s l).1 else (putAll s l).1 ++ [s]

def putS (p : Pr) (key : Int) (list : List It) : Shf := ⟨key, merged (shelfOf p.shelves key) list⟩

def putOut (p : Pr) (key : Int) (list : List It) : Pr := { p with shelves := putShelves (putS p key list) p.shelves }

def put (p : Pr) (key : Int) (list : List It) : Pr × Bool := if peerOk (putOut p key list) then (putOut p key list, true) else (p, false)

theorem putAll_succ {s : Shf} {l : List Shf} {k : Nat} (hk : k < l.length) : putAll s (l.take (k + 1)) = putStep s (putAll s (l.take k)) l[k] := by
  unfold putAll
  rw [List.take_succ_eq_append_getElem hk, List.foldl_append]
  rfl

theorem putStep_len (s : Shf) (acc : List Shf × Bool) (y : Shf) (n : Nat) (h : acc.1.length ≤ n + (if acc.2 then 1 else 0)) : (putStep s acc y).1.length ≤ n + 1 + (if (putStep s acc y).2 then 1 else 0) := by
  unfold putStep
  split
  · rename_i h1
    rw [h1.1] at h
    simp at h
    split <;> simp <;> omega
  · simp only [List.length_append, List.length_singleton]
    split at h <;> simp_all <;> omega

theorem putAll_len (s : Shf) : ∀ (l : List Shf) (acc : List Shf × Bool) (n : Nat), acc.1.length ≤ n + (if acc.2 then 1 else 0) → (l.foldl (putStep s) acc).1.length ≤ n + l.length + (if (l.foldl (putStep s) acc).2 then 1 else 0)
  | [], acc, n, h => by rw [List.length_nil, Nat.add_zero]; exact h
  | y :: l, acc, n, h => by
    have := putAll_len s l (putStep s acc y) (n + 1) (putStep_len s acc y n h)
    rw [List.foldl_cons, List.length_cons]
    omega

theorem putAll_len' (s : Shf) (l : List Shf) : (putAll s l).1.length ≤ l.length + (if (putAll s l).2 then 1 else 0) := by
  have := putAll_len s l ([], false) 0 (by simp)
  unfold putAll
  omega

theorem putShelves_len (s : Shf) (l : List Shf) : (putShelves s l).length ≤ l.length + 1 := by
  have := putAll_len' s l
  unfold putShelves
  split
  · rename_i h
    rw [if_pos h] at this
    exact this
  · rename_i h
    rw [if_neg h] at this
    simp; omega

theorem putStep_mem {s : Shf} {acc : List Shf × Bool} {y x : Shf} (h : x ∈ (putStep s acc y).1) : x ∈ acc.1 ∨ x = s ∨ x = y := by
  unfold putStep at h
  split at h
  · split at h
    · rcases List.mem_append.1 h with h | h
      · exact .inl h
      · exact .inr (.inl (by simpa using h))
    · rcases List.mem_append.1 h with h | h
      · rcases List.mem_append.1 h with h | h
        · exact .inl h
        · exact .inr (.inl (by simpa using h))
      · exact .inr (.inr (by simpa using h))
  · rcases List.mem_append.1 h with h | h
    · exact .inl h
    · exact .inr (.inr (by simpa using h))

theorem putAll_mem (s : Shf) : ∀ (l : List Shf) (acc : List Shf × Bool) {x : Shf}, x ∈ (l.foldl (putStep s) acc).1 → x ∈ acc.1 ∨ x = s ∨ x ∈ l
  | [], acc, x, h => .inl h
  | y :: l, acc, x, h => by
    rw [List.foldl_cons] at h
    rcases putAll_mem s l (putStep s acc y) h with h | h | h
    · rcases putStep_mem h with h | h | h
      · exact .inl h
      · exact .inr (.inl h)
      · exact .inr (.inr (by simp [h]))
    · exact .inr (.inl h)
    · exact .inr (.inr (by simp [h]))

theorem putShelves_mem {s : Shf} {l : List Shf} {x : Shf} (h : x ∈ putShelves s l) : x = s ∨ x ∈ l := by
  unfold putShelves at h
  have key : x ∈ (putAll s l).1 → x = s ∨ x ∈ l := fun h => by
    rcases putAll_mem s l ([], false) h with h | h | h
    · cases h
    · exact .inl h
    · exact .inr h
  split at h
  · exact key h
  · rcases List.mem_append.1 h with h | h
    · exact key h
    · exact .inl (by simpa using h)

/-! Texts of items that are merged are texts of the two. -/
theorem oneStep_text {x y z : It} {s : List It × Bool} (h : z ∈ (oneStep x s y).1) : z.t ∈ s.1.map (·.t) ∨ z.t = x.t ∨ z.t = y.t := by
  unfold oneStep at h
  split at h
  · rcases List.mem_append.1 h with h | h
    · exact .inl (List.mem_map_of_mem h)
    · right; right
      have : z = ⟨y.t, y.gone || x.gone⟩ := by simpa using h
      rw [this]
  · split at h
    · rcases List.mem_append.1 h with h | h
      · rcases List.mem_append.1 h with h | h
        · exact .inl (List.mem_map_of_mem h)
        · right; left
          have : z = x := by simpa using h
          rw [this]
      · right; right
        have : z = y := by simpa using h
        rw [this]
    · rcases List.mem_append.1 h with h | h
      · exact .inl (List.mem_map_of_mem h)
      · right; right
        have : z = y := by simpa using h
        rw [this]

theorem oneFold_text (x : It) : ∀ (l : List It) (s : List It × Bool) {z : It}, z ∈ (l.foldl (oneStep x) s).1 → z.t ∈ s.1.map (·.t) ∨ z.t = x.t ∨ z.t ∈ l.map (·.t)
  | [], s, z, h => .inl (List.mem_map_of_mem h)
  | y :: l, s, z, h => by
    rw [List.foldl_cons] at h
    rcases oneFold_text x l (oneStep x s y) h with h | h | h
    · obtain ⟨u, hu, e⟩ := List.mem_map.1 h
      rw [← e]
      rcases oneStep_text hu with h | h | h
      · exact .inl h
      · exact .inr (.inl h)
      · exact .inr (.inr (by rw [h]; simp))
    · exact .inr (.inl h)
    · exact .inr (.inr (by rw [List.map_cons]; exact List.mem_cons_of_mem _ h))

theorem one_text {l : List It} {x z : It} (h : z ∈ one l x) : z.t = x.t ∨ z.t ∈ l.map (·.t) := by
  have key : z ∈ (oneAll x l).1 → z.t = x.t ∨ z.t ∈ l.map (·.t) := fun h => by
    rcases oneFold_text x l ([], false) h with h | h | h
    · simp at h
    · exact .inl h
    · exact .inr h
  unfold one at h
  split at h
  · exact key h
  · rcases List.mem_append.1 h with h | h
    · exact key h
    · left
      have : z = x := by simpa using h
      rw [this]

theorem fold_one_text : ∀ (l acc : List It) {z : It}, z ∈ l.foldl one acc → z.t ∈ acc.map (·.t) ∨ z.t ∈ l.map (·.t)
  | [], acc, z, h => .inl (List.mem_map_of_mem h)
  | x :: l, acc, z, h => by
    rw [List.foldl_cons] at h
    rcases fold_one_text l (one acc x) h with h | h
    · obtain ⟨u, hu, e⟩ := List.mem_map.1 h
      rw [← e]
      rcases one_text hu with h | h
      · exact .inr (by rw [h]; simp)
      · exact .inl h
    · exact .inr (by rw [List.map_cons]; exact List.mem_cons_of_mem _ h)

theorem merged_text {a b : List It} {z : It} (h : z ∈ merged a b) : z.t ∈ a.map (·.t) ∨ z.t ∈ b.map (·.t) := by
  unfold merged at h
  rcases fold_one_text b _ h with h | h
  · obtain ⟨u, hu, e⟩ := List.mem_map.1 h
    rw [← e]
    rcases fold_one_text a [] hu with h | h
    · simp at h
    · exact .inl h
  · exact .inr h

/-! What a drawn ring's peers hold. -/
structure Tiny (p : Pr) : Prop where
  b : p.behind.length ≤ 16
  f : p.fingers.length ≤ 16
  s : p.shelves.length ≤ 96
  i : ∀ x ∈ p.shelves, x.items.length ≤ 300 ∧ ∀ y ∈ x.items, y.t.length ≤ 600

theorem Tiny.small {p : Pr} (h : Tiny p) : Small p :=
  ⟨Nat.le_trans h.b (by decide), Nat.le_trans h.f (by decide), Nat.le_trans h.s (by decide), fun x hx => ⟨Nat.le_trans (h.i x hx).1 (by decide), fun y hy => Nat.le_trans ((h.i x hx).2 y hy) (by decide)⟩⟩

theorem shelfOf_mem {l : List Shf} {key : Int} : shelfOf l key = [] ∨ ∃ x ∈ l, shelfOf l key = x.items := by
  unfold shelfOf
  cases hf : l.find? (fun s => s.key == key) with
  | none => left; rfl
  | some x => right; exact ⟨x, List.mem_of_find?_eq_some hf, rfl⟩

theorem putS_short {p : Pr} (h : Tiny p) (key : Int) {list : List It} (hl : list.length ≤ 300) (ht : ∀ y ∈ list, y.t.length ≤ 600) : (putS p key list).items.length ≤ 600 ∧ ∀ y ∈ (putS p key list).items, y.t.length ≤ 600 := by
  have hs : (shelfOf p.shelves key).length ≤ 300 ∧ ∀ y ∈ shelfOf p.shelves key, y.t.length ≤ 600 := by
    rcases shelfOf_mem (l := p.shelves) (key := key) with e | ⟨x, hx, e⟩
    · rw [e]; simp
    · rw [e]; exact h.i x hx
  unfold putS
  refine ⟨?_, fun y hy => ?_⟩
  · have := merged_length (shelfOf p.shelves key) list
    show (merged _ _).length ≤ 600
    omega
  · rcases merged_text hy with h1 | h1
    · obtain ⟨u, hu, e⟩ := List.mem_map.1 h1
      rw [← e]; exact hs.2 u hu
    · obtain ⟨u, hu, e⟩ := List.mem_map.1 h1
      rw [← e]; exact ht u hu

theorem putOut_small {p : Pr} (h : Tiny p) (key : Int) {list : List It} (hl : list.length ≤ 300) (ht : ∀ y ∈ list, y.t.length ≤ 600) : Small (putOut p key list) := by
  refine ⟨Nat.le_trans h.b (by decide), Nat.le_trans h.f (by decide), ?_, fun x hx => ?_⟩
  · have := putShelves_len (putS p key list) p.shelves
    have := h.s
    show (putShelves _ _).length ≤ _
    omega
  · rcases putShelves_mem hx with e | hx
    · rw [e]
      have h1 := putS_short h key hl ht
      exact ⟨Nat.le_trans h1.1 (by decide), fun y hy => Nat.le_trans (h1.2 y hy) (by decide)⟩
    · exact ⟨Nat.le_trans (h.i x hx).1 (by decide), fun y hy => Nat.le_trans ((h.i x hx).2 y hy) (by decide)⟩

theorem of_all_range {n : Nat} {p : Nat → Bool} (h : (List.range n).all p = true) {j : Nat} (hj : j < n) : p j = true := (List.all_eq_true.1 h) j (List.mem_range.2 hj)

theorem itemsOk_short {l : List It} (h : itemsOk l = true) : l.length ≤ 300 ∧ ∀ y ∈ l, y.t.length ≤ 600 := by
  unfold itemsOk at h
  rw [Bool.and_eq_true] at h
  refine ⟨of_decide_eq_true h.2, fun y hy => ?_⟩
  obtain ⟨k, hk, rfl⟩ := List.getElem_of_mem hy
  have h1 := of_all_range h.1 hk
  unfold itemOk at h1
  rw [Bool.and_eq_true] at h1
  have h2 := of_decide_eq_true h1.1
  rw [List.getElem?_eq_getElem hk] at h2
  simpa using h2

theorem peerOk_tiny {p : Pr} (h : peerOk p = true) : Tiny p := by
  unfold peerOk at h
  rw [Bool.and_eq_true] at h
  have h := h.2
  split at h
  · unfold hereOk at h
    simp only [Bool.and_eq_true, decide_eq_true_eq] at h
    obtain ⟨⟨⟨⟨-, h1⟩, h2⟩, h3⟩, -, -, h6⟩ := h
    refine ⟨by omega, by omega, by omega, fun x hx => ?_⟩
    obtain ⟨k, hk, rfl⟩ := List.getElem_of_mem hx
    have h7 := of_all_range h6 hk
    unfold shelfOk at h7
    simp only [Bool.and_eq_true] at h7
    have h8 := h7.2
    rw [List.getElem?_eq_getElem hk] at h8
    exact itemsOk_short (by simpa using h8)
  · unfold awayOk at h
    simp only [Bool.and_eq_true, decide_eq_true_eq] at h
    obtain ⟨⟨⟨-, h1⟩, h2⟩, h3⟩ := h
    refine ⟨by omega, by omega, by omega, fun x hx => ?_⟩
    have : p.shelves = [] := List.eq_nil_of_length_eq_zero h3
    rw [this] at hx
    cases hx

theorem put_id (p : Pr) (key : Int) (list : List It) : (put p key list).1.id = p.id ∧ (put p key list).1.here = p.here := by
  unfold put
  split <;> exact ⟨rfl, rfl⟩

theorem put_tiny {p : Pr} (h : Tiny p) (key : Int) (list : List It) : Tiny (put p key list).1 := by
  unfold put
  split
  · rename_i h1
    exact peerOk_tiny h1
  · exact h

/-! Published. -/
def pubStep (key : Int) (list : List It) (s : List Pr × Nat) (x : Int) : List Pr × Nat :=
  match s.1[(peerAt s.1 x).toNat]? with
  | none => s
  | some p => if (put p key list).2 then (s.1.set (peerAt s.1 x).toNat (put p key list).1, s.2 + 1) else s

def pubAll (key : Int) (list : List It) (l : List Pr) (hs : List Int) : List Pr × Nat := hs.foldl (pubStep key list) (l, 0)

def publish (l : List Pr) (by_ key : Int) (list : List It) : (List Pr × Nat) × List Int :=
  match find l by_ key with
  | none => ((l, 0), [])
  | some (x, _) => (pubAll key list l (holdersOf l x), holdersOf l x)

theorem pubAll_succ {key : Int} {list : List It} {l : List Pr} {hs : List Int} {k : Nat} (hk : k < hs.length) : pubAll key list l (hs.take (k + 1)) = pubStep key list (pubAll key list l (hs.take k)) hs[k] := by
  unfold pubAll
  rw [List.take_succ_eq_append_getElem hk, List.foldl_append]
  rfl

/-- Of each its Id and whether it is there. -/
def whoOf (l : List Pr) : List (Int × Bool) := l.map fun p => (p.id, p.here)

theorem who_set {l : List Pr} {i : Nat} (hi : i < l.length) {p : Pr} (h : p.id = l[i].id ∧ p.here = l[i].here) : whoOf (l.set i p) = whoOf l := by
  unfold whoOf
  rw [List.map_set, h.1, h.2]
  apply List.ext_getElem (by simp)
  intro n h1 h2
  rw [List.getElem_set]
  split
  · rename_i e
    subst e
    simp
  · rfl

theorem who_pub (key : Int) (list : List It) (s : List Pr × Nat) (x : Int) : whoOf (pubStep key list s x).1 = whoOf s.1 := by
  unfold pubStep
  split
  · rfl
  · rename_i p hp
    split
    · obtain ⟨hi, e⟩ := List.getElem?_eq_some_iff.1 hp
      refine who_set hi ?_
      rw [e]
      exact put_id p key list
    · rfl

theorem who_fold (key : Int) (list : List It) : ∀ (hs : List Int) (s : List Pr × Nat), whoOf (hs.foldl (pubStep key list) s).1 = whoOf s.1
  | [], _ => rfl
  | x :: hs, s => by rw [List.foldl_cons, who_fold key list hs, who_pub]

theorem who_all (key : Int) (list : List It) (l : List Pr) (hs : List Int) : whoOf (pubAll key list l hs).1 = whoOf l := who_fold key list hs (l, 0)

theorem peerAt_who : ∀ {l m : List Pr}, whoOf l = whoOf m → ∀ id, peerAt l id = peerAt m id := by
  intro l m h id
  have key : ∀ l : List Pr, l.findIdx? (fun p => p.here && (p.id == id)) = (whoOf l).findIdx? (fun x => x.2 && (x.1 == id)) := by
    intro l
    unfold whoOf
    rw [List.findIdx?_map]
    rfl
  unfold peerAt
  rw [key l, key m, h]

theorem ids_who {l m : List Pr} (h : whoOf l = whoOf m) : idsOf l = idsOf m := by
  have := congrArg (List.map (·.1)) h
  simpa [whoOf, idsOf, List.map_map, Function.comp_def] using this

theorem tiny_set {l : List Pr} (h : ∀ p ∈ l, Tiny p) (i : Nat) {q : Pr} (hq : Tiny q) : ∀ p ∈ l.set i q, Tiny p := by
  intro p hp
  rcases List.mem_or_eq_of_mem_set hp with hp | rfl
  · exact h p hp
  · exact hq

theorem tiny_modify {l : List Pr} (h : ∀ p ∈ l, Tiny p) (i : Nat) {f : Pr → Pr} (hf : ∀ q, Tiny q → Tiny (f q)) : ∀ p ∈ l.modify i f, Tiny p := by
  rcases Nat.lt_or_ge i l.length with hi | hi
  · rw [modify_set f l i hi]
    exact tiny_set h i (hf _ (h _ (List.getElem_mem hi)))
  · rw [List.modify_eq_self hi]
    exact h

theorem tiny_pub {key : Int} {list : List It} {s : List Pr × Nat} (h : ∀ p ∈ s.1, Tiny p) (x : Int) : ∀ p ∈ (pubStep key list s x).1, Tiny p := by
  unfold pubStep
  split
  · exact h
  · rename_i p hp
    split
    · obtain ⟨hi, e⟩ := List.getElem?_eq_some_iff.1 hp
      exact tiny_set h _ (put_tiny (h p (e ▸ List.getElem_mem hi)) key list)
    · exact h

theorem tiny_fold {key : Int} {list : List It} : ∀ (hs : List Int) (s : List Pr × Nat), (∀ p ∈ s.1, Tiny p) → ∀ p ∈ (hs.foldl (pubStep key list) s).1, Tiny p
  | [], _, h => h
  | x :: hs, s, h => by rw [List.foldl_cons]; exact tiny_fold hs _ (tiny_pub h x)

theorem tiny_all {key : Int} {list : List It} {l : List Pr} (h : ∀ p ∈ l, Tiny p) (hs : List Int) : ∀ p ∈ (pubAll key list l hs).1, Tiny p := tiny_fold hs (l, 0) h

theorem tiny_empty (id : Int) : Tiny (emptyP id) := ⟨Nat.zero_le _, Nat.zero_le _, Nat.zero_le _, fun _ h => nomatch h⟩

theorem tiny_gone {l : List Pr} (h : ∀ p ∈ l, Tiny p) (id : Int) : ∀ p ∈ (gone l id).1, Tiny p := by
  unfold gone
  split
  · exact h
  · split
    · exact h
    · exact tiny_set h _ (tiny_empty id)

theorem tiny_settle {l : List Pr} (h : ∀ p ∈ l, Tiny p) (id : Int) : ∀ p ∈ (settle l id).1, Tiny p := by
  unfold settle
  split
  · exact h
  · dsimp only
    have h1 : ∀ n, ∀ p ∈ setBehind l (peerAt l id).toNat (behindBut l n id), Tiny p := fun n => tiny_modify h _ fun _ hp => ⟨Nat.le_trans (behindBut_len l n id) (by decide), hp.f, hp.s, hp.i⟩
    split
    · exact tiny_modify (h1 _) _ fun _ hp => ⟨hp.b, hp.f, hp.s, hp.i⟩
    · exact h1 _

theorem tiny_joined {l : List Pr} (h : ∀ p ∈ l, Tiny p) (id by_ : Int) : ∀ p ∈ (joined l id by_).1, Tiny p := by
  unfold joined
  split
  · exact h
  · split
    · exact h
    · refine tiny_set h _ ⟨Nat.le_trans (behindBut_len l _ id) (by decide), ?_, Nat.zero_le _, fun _ h => nomatch h⟩
      show (List.replicate 8 (-1 : Int)).length ≤ _
      decide

theorem tiny_fingered {l : List Pr} (h : ∀ p ∈ l, Tiny p) (id : Int) : ∀ p ∈ (fingered l id).1, Tiny p := by
  unfold fingered
  split
  · exact h
  · refine tiny_modify h _ fun _ hp => ⟨hp.b, ?_, hp.s, hp.i⟩
    simp

theorem tiny_publish {l : List Pr} (h : ∀ p ∈ l, Tiny p) (by_ key : Int) (list : List It) : ∀ p ∈ (publish l by_ key list).1.1, Tiny p := by
  unfold publish
  split
  · exact h
  · exact tiny_all h _

theorem ids_publish (l : List Pr) (by_ key : Int) (list : List It) : idsOf (publish l by_ key list).1.1 = idsOf l := by
  unfold publish
  split
  · rfl
  · exact ids_who (who_all key list l _)
end Go.Proofs.YteladljgnbfcnaaGreat.P9
namespace Go.Proofs.YteladljgnbfcnaaGreat.P9
open Go.RowKit P1 P8 Da

theorem all_at {l : List Int} {f : Int → Bool} : (List.range l.length).all (fun k => f ((l[k]?).getD 0)) = true ↔ ∀ x ∈ l, f x = true := by
  rw [List.all_eq_true]
  constructor
  · intro h x hx
    obtain ⟨k, hk, rfl⟩ := List.mem_iff_getElem.1 hx
    have := h k (List.mem_range.2 hk)
    simpa [List.getElem?_eq_getElem hk] using this
  · intro h k hk
    have hk := List.mem_range.1 hk
    rw [List.getElem?_eq_getElem hk]
    exact h _ (List.getElem_mem hk)

theorem inB_iff (x lo hi : Int) : inB x lo hi = true ↔ lo ≤ x ∧ x ≤ hi := by unfold inB; exact decide_eq_true_iff

/-- What is so of one that is there. -/
structure HereOk (p : Pr) : Prop where
  id : 0 ≤ p.id ∧ p.id ≤ 255
  ahead : -1 ≤ p.ahead ∧ p.ahead ≤ 255
  few : p.behind.length ≤ 3
  behind : ∀ x ∈ p.behind, (0 ≤ x ∧ x ≤ 255) ∧ x ≠ p.id
  eight : p.fingers.length = 8
  fingers : ∀ x ∈ p.fingers, -1 ≤ x ∧ x ≤ 255
  shelves : p.shelves.length ≤ 80 ∧ (List.range p.shelves.length).all (shelfOk p.shelves) = true

theorem peerOk_here {p : Pr} (hh : p.here = true) : peerOk p = true ↔ HereOk p := by
  have hb : (List.range p.behind.length).all (behindOk p) = true ↔ ∀ x ∈ p.behind, (inB x 0 255 && decide (x ≠ p.id)) = true := all_at (f := fun x => inB x 0 255 && decide (x ≠ p.id))
  have hf : (List.range p.fingers.length).all (fingerOk p) = true ↔ ∀ x ∈ p.fingers, inB x (-1) 255 = true := all_at (f := fun x => inB x (-1) 255)
  unfold peerOk
  rw [hh, if_pos rfl]
  unfold hereOk
  rw [Bool.and_eq_true, Bool.and_eq_true, Bool.and_eq_true, Bool.and_eq_true, Bool.and_eq_true, Bool.and_eq_true, Bool.and_eq_true, hb, hf, inB_iff, inB_iff, decide_eq_true_iff, decide_eq_true_iff, decide_eq_true_iff]
  constructor
  · rintro ⟨h1, ⟨⟨⟨h2, h3⟩, h4⟩, h5⟩, h6, h7, h8⟩
    refine ⟨h1, h2, h3, fun x hx => ?_, h4, fun x hx => (inB_iff _ _ _).1 (h7 x hx), h5, h8⟩
    have := h6 x hx
    rw [Bool.and_eq_true, inB_iff, decide_eq_true_iff] at this
    exact this
  · intro h
    refine ⟨h.id, ⟨⟨⟨h.ahead, h.few⟩, h.eight⟩, h.shelves.1⟩, fun x hx => ?_, fun x hx => (inB_iff _ _ _).2 (h.fingers x hx), h.shelves.2⟩
    rw [Bool.and_eq_true, inB_iff, decide_eq_true_iff]
    exact h.behind x hx

theorem peerOk_id {p : Pr} (h : peerOk p = true) : 0 ≤ p.id ∧ p.id ≤ 255 := by
  unfold peerOk at h
  rw [Bool.and_eq_true, inB_iff] at h
  exact h.1

theorem peerOk_empty {id : Int} (h : 0 ≤ id ∧ id ≤ 255) : peerOk (emptyP id) = true := by
  unfold peerOk emptyP
  rw [Bool.and_eq_true, inB_iff]
  exact ⟨h, by simp [awayOk]⟩

theorem at_self {l : List Pr} (hn : (idsOf l).Nodup) {k : Nat} (hk : k < l.length) (hh : l[k].here = true) : peerAt l l[k].id = (k : Int) := by
  refine peerAt_hit hk (by simp [hh]) fun j hj => ?_
  unfold idsOf at hn
  rw [List.nodup_iff_pairwise_ne, List.pairwise_map, List.pairwise_iff_getElem] at hn
  have := hn j k (by omega) hk hj
  simp [this]

theorem at_some {l : List Pr} {x : Int} (h : 0 ≤ peerAt l x) : ∃ i : Nat, ∃ hi : i < l.length, peerAt l x = i ∧ l[i].here = true ∧ l[i].id = x := by
  rcases peerAt_lt l x with h1 | ⟨i, hi, h1⟩
  · omega
  · obtain ⟨hi', h2, h3⟩ := peerAt_id h1
    exact ⟨i, hi, h1, h2, h3⟩

theorem at_of {l : List Pr} {k : Nat} (hk : k < l.length) (hh : l[k].here = true) : 0 ≤ peerAt l l[k].id := by
  unfold peerAt
  cases h : l.findIdx? fun p => p.here && (p.id == l[k].id) with
  | some i => simp
  | none =>
    have := List.findIdx?_eq_none_iff.1 h l[k] (List.getElem_mem hk)
    simp [hh] at this

/-- Somebody that this one knows behind it is there. -/
def Live (l : List Pr) (p : Pr) : Prop := ∃ x ∈ p.behind, 0 ≤ peerAt l x

theorem live_iff {l : List Pr} (hn : (idsOf l).Nodup) {k : Nat} (hk : k < l.length) (hh : l[k].here = true) (hb : ∀ x ∈ l[k].behind, 0 ≤ x) : 0 ≤ nextOf l l[k].id ↔ Live l l[k] := by
  rw [nextOf_hit hk (at_self hn hk hh)]
  cases h : l[k].behind.find? fun y => decide (0 ≤ peerAt l y) with
  | none =>
    rw [List.find?_eq_none] at h
    constructor
    · intro h0
      simp at h0
    · rintro ⟨x, hx, h1⟩
      exact absurd (decide_eq_true h1) (h x hx)
  | some y =>
    have h1 := List.find?_some h
    have hm := List.mem_of_find?_eq_some h
    exact ⟨fun _ => ⟨y, hm, of_decide_eq_true h1⟩, fun _ => hb y hm⟩

/-- A ring that is right. -/
structure Rok (l : List Pr) : Prop where
  least : 4 ≤ l.length
  most : l.length ≤ 8
  ok : ∀ p ∈ l, peerOk p = true
  base : ∀ i (hi : i < l.length), i < 4 → l[i].here = true
  live : ∀ p ∈ l, p.here = true → Live l p
  nodup : (idsOf l).Nodup

theorem idsOk_iff (l : List Pr) : (∀ k (hk : k < l.length), (List.range k).all (idsOk l l[k].id) = true) ↔ (idsOf l).Nodup := by
  unfold idsOf
  rw [List.nodup_iff_pairwise_ne, List.pairwise_map, List.pairwise_iff_getElem]
  constructor
  · intro h i j hi hj hij e
    have := h j hj
    rw [List.all_eq_true] at this
    have h2 := of_decide_eq_true (this i (List.mem_range.2 hij))
    rw [List.getElem?_eq_getElem hi] at h2
    exact h2 (by simp [e])
  · intro h k hk
    rw [List.all_eq_true]
    intro i hi
    have hik := List.mem_range.1 hi
    refine decide_eq_true ?_
    rw [List.getElem?_eq_getElem (by omega)]
    have := h i k (by omega) hk hik
    simpa using this

theorem rok_iff (l : List Pr) : ringOk l = true ↔ Rok l := by
  have hs : (List.range l.length).all (ringStep l) = true ↔ ∀ k (hk : k < l.length), (peerOk l[k] = true ∧ (4 ≤ k ∨ l[k].here = true)) ∧ (l[k].here = false ∨ 0 ≤ nextOf l l[k].id) ∧ (List.range k).all (idsOk l l[k].id) = true := by
    rw [List.all_eq_true]
    constructor
    · intro h k hk
      have := h k (List.mem_range.2 hk)
      unfold ringStep at this
      rw [List.getElem?_eq_getElem hk] at this
      simp only [Bool.and_eq_true, Bool.or_eq_true, decide_eq_true_eq, Bool.not_eq_true'] at this
      exact ⟨this.1.1, this.1.2, this.2⟩
    · intro h k hk
      have hk := List.mem_range.1 hk
      unfold ringStep
      rw [List.getElem?_eq_getElem hk]
      simp only [Bool.and_eq_true, Bool.or_eq_true, decide_eq_true_eq, Bool.not_eq_true']
      obtain ⟨h1, h2, h3⟩ := h k hk
      exact ⟨⟨h1, h2⟩, h3⟩
  unfold ringOk
  rw [Bool.and_eq_true, decide_eq_true_iff, hs]
  constructor
  · rintro ⟨⟨h1, h2⟩, h3⟩
    have hn := (idsOk_iff l).1 fun k hk => (h3 k hk).2.2
    have hok : ∀ p ∈ l, peerOk p = true := fun p hp => by
      obtain ⟨k, hk, rfl⟩ := List.mem_iff_getElem.1 hp
      exact (h3 k hk).1.1
    refine ⟨by omega, by omega, hok, fun i hi h4 => (h3 i hi).1.2.resolve_left (by omega), fun p hp hh => ?_, hn⟩
    obtain ⟨k, hk, rfl⟩ := List.mem_iff_getElem.1 hp
    have := ((peerOk_here hh).1 (hok _ hp)).behind
    exact (live_iff hn hk hh fun x hx => (this x hx).1.1).1 ((h3 k hk).2.1.resolve_left (by rw [hh]; simp))
  · intro h
    refine ⟨⟨by have := h.least; omega, by have := h.most; omega⟩, fun k hk => ⟨⟨h.ok _ (List.getElem_mem hk), ?_⟩, ?_, (idsOk_iff l).2 h.nodup k hk⟩⟩
    · rcases Nat.lt_or_ge k 4 with h4 | h4
      · exact .inr (h.base k hk h4)
      · exact .inl h4
    · cases hh : l[k].here with
      | false => exact .inl rfl
      | true =>
        have := ((peerOk_here hh).1 (h.ok _ (List.getElem_mem hk))).behind
        exact .inr ((live_iff h.nodup hk hh fun x hx => (this x hx).1.1).2 (h.live _ (List.getElem_mem hk) hh))

theorem Rok.on {l : List Pr} (h : Rok l) {x : Int} (hx : 0 ≤ peerAt l x) : 0 ≤ x ∧ x ≤ 255 := by
  obtain ⟨i, hi, -, -, rfl⟩ := at_some hx
  exact peerOk_id (h.ok _ (List.getElem_mem hi))

theorem Rok.ring {l : List Pr} (h : Rok l) : OnRing l := fun p hp _ => by
  have := peerOk_id (h.ok p hp)
  unfold onR
  simp only [Bool.and_eq_true, decide_eq_true_eq]
  omega

/-- A peer put in another's place, who is there with the same Id: whoever was there is there. -/
theorem Rok.set {l : List Pr} (h : Rok l) {i : Nat} (hi : i < l.length) {q : Pr} (hid : q.id = l[i].id) (hq : peerOk q = true) (hh : q.here = true) (hl : ∃ x ∈ q.behind, 0 ≤ peerAt l x ∨ x = q.id) (hne : ∀ x ∈ q.behind, x ≠ q.id) : Rok (l.set i q) := by
  have hids : idsOf (l.set i q) = idsOf l := ids_set hi hid
  have hmono : ∀ x, 0 ≤ peerAt l x → 0 ≤ peerAt (l.set i q) x := by
    intro x hx
    obtain ⟨j, hj, -, h2, rfl⟩ := at_some hx
    have hj' : j < (l.set i q).length := by rw [List.length_set]; exact hj
    by_cases e : i = j
    · subst e
      have := at_of (l := l.set i q) hj' (by rw [List.getElem_set_self]; exact hh)
      rw [List.getElem_set_self, hid] at this
      exact this
    · have := at_of (l := l.set i q) hj' (by rw [List.getElem_set_ne e]; exact h2)
      rw [List.getElem_set_ne e] at this
      exact this
  refine ⟨by rw [List.length_set]; exact h.least, by rw [List.length_set]; exact h.most, fun p hp => ?_, fun j hj h4 => ?_, fun p hp hp2 => ?_, by rw [hids]; exact h.nodup⟩
  · rcases List.mem_or_eq_of_mem_set hp with hp | rfl
    · exact h.ok p hp
    · exact hq
  · rw [List.length_set] at hj
    rw [List.getElem_set]
    split
    · exact hh
    · exact h.base j hj h4
  · rcases List.mem_or_eq_of_mem_set hp with hp | rfl
    · obtain ⟨x, hx, h1⟩ := h.live p hp hp2
      exact ⟨x, hx, hmono x h1⟩
    · obtain ⟨x, hx, h1⟩ := hl
      exact ⟨x, hx, hmono x (h1.resolve_right (hne x hx))⟩
end Go.Proofs.YteladljgnbfcnaaGreat.P9
namespace Go.Proofs.YteladljgnbfcnaaGreat.P9
open Go.RowKit P1 P8 Da

theorem bb_mem {l : List Pr} {n but x : Int} (h : x ∈ behindBut l n but) : x ≠ but ∧ (x = n ∨ ∃ p, l[(peerAt l n).toNat]? = some p ∧ x ∈ p.behind) := by
  unfold behindBut at h
  have h1 := List.mem_filter.1 (List.mem_of_mem_take h)
  refine ⟨of_decide_eq_true h1.2, ?_⟩
  rcases List.mem_cons.1 h1.1 with h2 | h2
  · exact .inl h2
  · cases hp : l[(peerAt l n).toNat]? with
    | none => rw [hp] at h2; cases h2
    | some p => rw [hp] at h2; exact .inr ⟨p, rfl, h2⟩

theorem bb_first {l : List Pr} {n but : Int} (h : n ≠ but) : n ∈ behindBut l n but := by
  unfold behindBut
  rw [List.filter_cons, if_pos (decide_eq_true h)]
  simp

theorem bb_on {l : List Pr} (h : Rok l) {n but x : Int} (hn : 0 ≤ peerAt l n) (hx : x ∈ behindBut l n but) : 0 ≤ x ∧ x ≤ 255 := by
  rcases (bb_mem hx).2 with rfl | ⟨p, hp, hm⟩
  · exact h.on hn
  · obtain ⟨i, hi, h1, h2, -⟩ := at_some hn
    rw [h1, Int.toNat_natCast, List.getElem?_eq_getElem hi] at hp
    cases hp
    exact (((peerOk_here h2).1 (h.ok _ (List.getElem_mem hi))).behind x hm).1

/-- .. where the new one knows somebody that was there. -/
theorem Rok.put {l : List Pr} (h : Rok l) {i : Nat} (hi : i < l.length) {q : Pr} (hid : q.id = l[i].id) (hh : q.here = true) (hq : HereOk q) (hl : ∃ x ∈ q.behind, 0 ≤ peerAt l x) : Rok (l.set i q) :=
  h.set hi hid ((peerOk_here hh).2 hq) hh (by obtain ⟨x, hx, h1⟩ := hl; exact ⟨x, hx, .inl h1⟩) fun x hx => (hq.behind x hx).2

theorem Rok.at_ {l : List Pr} (h : Rok l) {i : Nat} (hi : i < l.length) (hh : l[i].here = true) : HereOk l[i] := (peerOk_here hh).1 (h.ok _ (List.getElem_mem hi))

theorem rok_joined {l : List Pr} (h : Rok l) (id by_ : Int) : Rok (joined l id by_).1 := by
  unfold joined
  cases hf : find l by_ id with
  | none => exact h
  | some p =>
    obtain ⟨n, m⟩ := p
    show Rok (if _ then _ else _ : List Pr × Bool).1
    split
    · exact h
    · rename_i hc
      have hn : 0 ≤ peerAt l n := by omega
      have hne : n ≠ id := fun e => by rw [e] at hn; omega
      rcases freeAt_lt l id l.length with h0 | ⟨i, hi, h1, -, h3, h4⟩
      · omega
      · rw [h1, Int.toNat_natCast]
        have hid := peerOk_id (h.ok _ (List.getElem_mem hi))
        rw [h3] at hid
        refine h.put hi h3.symm rfl ⟨hid, ⟨by show (-1 : Int) ≤ -1; omega, by show (-1 : Int) ≤ 255; omega⟩, behindBut_len _ _ _, fun x hx => ⟨bb_on h hn hx, (bb_mem hx).1⟩, by simp [newP], fun x hx => ?_, ⟨by show ([] : List Shf).length ≤ 80; decide, rfl⟩⟩ ⟨n, bb_first hne, hn⟩
        have : x = -1 := List.eq_of_mem_replicate hx
        omega

theorem rok_fingered {l : List Pr} (h : Rok l) (id : Int) : Rok (fingered l id).1 := by
  unfold fingered
  split
  · exact h
  · obtain ⟨i, hi, h1, h2, -⟩ := at_some (l := l) (x := id) (by omega)
    rw [h1, Int.toNat_natCast]
    show Rok (setFingers l i _)
    unfold setFingers
    rw [modify_set _ _ _ hi]
    have hk := h.at_ hi h2
    refine h.put hi rfl h2 ⟨hk.id, hk.ahead, hk.few, hk.behind, by simp, fun x hx => ?_, hk.shelves⟩ (show ∃ x ∈ l[i].behind, 0 ≤ peerAt l x from h.live _ (List.getElem_mem hi) h2)
    obtain ⟨k, -, rfl⟩ := List.mem_map.1 hx
    unfold fingerOf
    cases hf : find l id (id + 2 ^ k) with
    | none => exact ⟨by decide, by decide⟩
    | some p =>
      have := h.on (findGo_at h.ring _ 66 id p.1 p.2 hf).1
      show -1 ≤ p.1 ∧ p.1 ≤ 255
      omega

theorem rok_gone {l : List Pr} (h : Rok l) (id : Int) : Rok (gone l id).1 := by
  unfold gone
  split
  · exact h
  · rename_i h4
    obtain ⟨i, hi, h1, h2, h3⟩ := at_some (l := l) (x := id) (by omega)
    rw [h1] at h4 ⊢
    rw [Int.toNat_natCast]
    split
    · exact h
    · rename_i ha
      have ha' : (l.set i (emptyP id)).any (lonely (l.set i (emptyP id))) = false := by
        cases hc : (l.set i (emptyP id)).any (lonely (l.set i (emptyP id))) with
        | false => rfl
        | true => exact absurd hc ha
      have hids : idsOf (l.set i (emptyP id)) = idsOf l := ids_set hi (by rw [h3]; rfl)
      have hid := peerOk_id (h.ok _ (List.getElem_mem hi))
      rw [h3] at hid
      have hok : ∀ p ∈ l.set i (emptyP id), peerOk p = true := fun p hp => by
        rcases List.mem_or_eq_of_mem_set hp with hp | rfl
        · exact h.ok p hp
        · exact peerOk_empty hid
      refine ⟨by rw [List.length_set]; exact h.least, by rw [List.length_set]; exact h.most, hok, fun j hj hj4 => ?_, fun p hp hh => ?_, by rw [hids]; exact h.nodup⟩
      · rw [List.length_set] at hj
        rw [List.getElem_set_ne (by omega)]
        exact h.base j hj hj4
      · have hl := List.any_eq_false.1 ha' p hp
        unfold lonely at hl
        rw [hh, Bool.true_and] at hl
        have hn : 0 ≤ nextOf (l.set i (emptyP id)) p.id := by
          have : ¬ nextOf (l.set i (emptyP id)) p.id < 0 := fun e => hl (decide_eq_true e)
          omega
        obtain ⟨k, hk, rfl⟩ := List.mem_iff_getElem.1 hp
        exact (live_iff (by rw [hids]; exact h.nodup) hk hh fun x hx => (((peerOk_here hh).1 (hok _ hp)).behind x hx).1.1).1 hn

theorem next_mem {l : List Pr} {id : Int} {i : Nat} (hi : i < l.length) (h : peerAt l id = i) (hn : 0 ≤ nextOf l id) : nextOf l id ∈ l[i].behind := by
  rw [nextOf_hit hi h] at hn ⊢
  cases hf : l[i].behind.find? fun y => decide (0 ≤ peerAt l y) with
  | none => rw [hf] at hn; simp at hn
  | some y => exact List.mem_of_find?_eq_some hf

theorem rok_settle {l : List Pr} (h : Rok l) (id : Int) : Rok (settle l id).1 := by
  unfold settle
  split
  · exact h
  · rename_i hc
    obtain ⟨i, hi, h1, h2, h3⟩ := at_some (l := l) (x := id) (by omega)
    have hn0 : 0 ≤ nextOf l id := by omega
    have hnx := next_at hn0
    have hk := h.at_ hi h2
    have hnid : nextOf l id ≠ id := by
      have := (hk.behind _ (next_mem hi h1 hn0)).2
      rw [h3] at this
      exact this
    have hasked : 0 ≤ peerAt l (asked l id (nextOf l id)) ∧ asked l id (nextOf l id) ≠ id := by
      unfold asked
      split
      · rename_i ha
        exact ⟨ha.1, ha.2.2.1⟩
      · exact ⟨hnx, hnid⟩
    generalize asked l id (nextOf l id) = n at *
    obtain ⟨hn, hne⟩ := hasked
    have hout : Rok (setBehind l (peerAt l id).toNat (behindBut l n id)) := by
      rw [h1, Int.toNat_natCast]
      unfold setBehind
      rw [modify_set _ _ _ hi]
      refine h.put hi rfl h2 ⟨hk.id, hk.ahead, behindBut_len _ _ _, fun x hx => ⟨bb_on h hn hx, ?_⟩, hk.eight, hk.fingers, hk.shelves⟩ ⟨n, bb_first hne, hn⟩
      rw [show ({ l[i] with behind := behindBut l n id } : Pr).id = l[i].id from rfl, h3]
      exact (bb_mem hx).1
    obtain ⟨k, hkl, hk1, hk2, -⟩ := at_some hn
    have hid := hk.id
    rw [h3] at hid
    show Rok (if _ then _ else _ : List Pr × Bool).1
    split
    · show Rok (setAhead _ _ id)
      rw [hk1, Int.toNat_natCast]
      have hlen : (setBehind l (peerAt l id).toNat (behindBut l n id)).length = l.length := len_ids (ids_behind _ _ _)
      have hkl2 : k < (setBehind l (peerAt l id).toNat (behindBut l n id)).length := by rw [hlen]; exact hkl
      have hhere : (setBehind l (peerAt l id).toNat (behindBut l n id))[k].here = true := by
        have : (setBehind l (peerAt l id).toNat (behindBut l n id))[k].here = l[k].here := by
          simp only [setBehind, List.getElem_modify]
          split <;> rfl
        rw [this]
        exact hk2
      unfold setAhead
      rw [modify_set _ _ _ hkl2]
      have hq := hout.at_ hkl2 hhere
      exact hout.put hkl2 rfl hhere ⟨hq.id, ⟨by have := hid.1; show -1 ≤ id; omega, hid.2⟩, hq.few, hq.behind, hq.eight, hq.fingers, hq.shelves⟩ (show ∃ x ∈ (setBehind l (peerAt l id).toNat (behindBut l n id))[k].behind, 0 ≤ peerAt (setBehind l (peerAt l id).toNat (behindBut l n id)) x from hout.live _ (List.getElem_mem hkl2) hhere)
    · exact hout

theorem rok_pub {key : Int} {list : List It} {s : List Pr × Nat} (h : Rok s.1) (x : Int) : Rok (pubStep key list s x).1 := by
  unfold pubStep
  cases hp : s.1[(peerAt s.1 x).toNat]? with
  | none => exact h
  | some p =>
    show Rok (if _ then _ else _ : List Pr × Nat).1
    split
    · rename_i hput
      obtain ⟨hi, rfl⟩ := List.getElem?_eq_some_iff.1 hp
      have hh : s.1[(peerAt s.1 x).toNat].here = true := by
        rcases peerAt_lt s.1 x with h1 | ⟨j, hj, h1⟩
        · exact h.base _ hi (by rw [h1]; decide)
        · obtain ⟨hj2, h2, -⟩ := peerAt_id h1
          have e : (peerAt s.1 x).toNat = j := by omega
          simp only [e]
          exact h2
      have hpo : peerOk (putOut s.1[(peerAt s.1 x).toNat] key list) = true := by
        unfold put at hput
        split at hput
        · assumption
        · cases hput
      have he : (put s.1[(peerAt s.1 x).toNat] key list).1 = putOut s.1[(peerAt s.1 x).toNat] key list := by
        unfold put
        rw [if_pos hpo]
      show Rok (s.1.set _ _)
      rw [he]
      have hh2 : (putOut s.1[(peerAt s.1 x).toNat] key list).here = true := hh
      have hl : Live s.1 s.1[(peerAt s.1 x).toNat] := h.live _ (List.getElem_mem hi) hh
      exact h.put hi rfl hh2 ((peerOk_here hh2).1 hpo) hl
    · exact h

theorem rok_pubAll {key : Int} {list : List It} : ∀ (hs : List Int) (s : List Pr × Nat), Rok s.1 → Rok (hs.foldl (pubStep key list) s).1
  | [], _, h => h
  | x :: hs, _, h => rok_pubAll hs _ (rok_pub h x)

theorem rok_publish {l : List Pr} (h : Rok l) (by_ key : Int) (list : List It) : Rok (publish l by_ key list).1.1 := by
  unfold publish
  split
  · exact h
  · exact rok_pubAll _ (l, 0) h
end Go.Proofs.YteladljgnbfcnaaGreat.P9
namespace Go.Proofs.YteladljgnbfcnaaGreat.P9
open Go.RowKit P1 P8 Da

/-- A drawn ring. -/
structure RingD (l : List Pr) : Prop where
  least : 4 ≤ l.length
  most : l.length ≤ 8
  tiny : ∀ p ∈ l, Tiny p
  on : ∀ x ∈ idsOf l, onR x = true
  nodup : (idsOf l).Nodup
  rok : Rok l

theorem RingD.same {l m : List Pr} (h : RingD l) (hi : idsOf m = idsOf l) (ht : ∀ p ∈ m, Tiny p) (hr : Rok m) : RingD m :=
  ⟨by rw [len_ids hi]; exact h.least, by rw [len_ids hi]; exact h.most, ht, by rw [hi]; exact h.on, by rw [hi]; exact h.nodup, hr⟩

theorem RingD.small {l : List Pr} (h : RingD l) : ∀ p ∈ l, Small p := fun p hp => (h.tiny p hp).small
theorem RingD.len {l : List Pr} (h : RingD l) : l.length ≤ 1048576 := Nat.le_trans h.most (by decide)
theorem RingD.ring {l : List Pr} (h : RingD l) : OnRing l := on_ids h.on
theorem RingD.joined {l : List Pr} (h : RingD l) (id by_ : Int) : RingD (joined l id by_).1 := h.same (ids_joined l id by_) (tiny_joined h.tiny id by_) (rok_joined h.rok id by_)
theorem RingD.gone {l : List Pr} (h : RingD l) (id : Int) : RingD (gone l id).1 := h.same (ids_gone l id) (tiny_gone h.tiny id) (rok_gone h.rok id)
theorem RingD.settle {l : List Pr} (h : RingD l) (id : Int) : RingD (settle l id).1 := h.same (ids_settle l id) (tiny_settle h.tiny id) (rok_settle h.rok id)
theorem RingD.fingered {l : List Pr} (h : RingD l) (id : Int) : RingD (fingered l id).1 := h.same (ids_fingered l id) (tiny_fingered h.tiny id) (rok_fingered h.rok id)
theorem RingD.publish {l : List Pr} (h : RingD l) (by_ key : Int) (list : List It) : RingD (publish l by_ key list).1.1 := h.same (ids_publish l by_ key list) (tiny_publish h.tiny by_ key list) (rok_publish h.rok by_ key list)
end Go.Proofs.YteladljgnbfcnaaGreat.P9
namespace Go.Proofs.YteladljgnbfcnaaGreat.P9
open Go.RowKit P1 P8 Da

theorem ids_inj {l : List Pr} (hn : (idsOf l).Nodup) {i j : Nat} (hi : i < l.length) (hj : j < l.length) (h : l[i].id = l[j].id) : i = j := by
  unfold idsOf at hn
  rw [List.nodup_iff_pairwise_ne, List.pairwise_map, List.pairwise_iff_getElem] at hn
  rcases Nat.lt_trichotomy i j with h1 | h1 | h1
  · exact absurd h (hn i j hi hj h1)
  · exact h1
  · exact absurd h.symm (hn j i hj hi h1)

/-- Nobody knows itself behind it. -/
def Selfless (l : List Pr) : Prop := ∀ p ∈ l, p.id ∉ p.behind

/-- Of the first three whether they are there. -/
def heres (l : List Pr) : List Bool := (l.map (·.here)).take 3

theorem self_set {l : List Pr} (h : Selfless l) (i : Nat) {q : Pr} (hq : q.id ∉ q.behind) : Selfless (l.set i q) := by
  intro p hp
  rcases List.mem_or_eq_of_mem_set hp with hp | rfl
  · exact h p hp
  · exact hq

theorem self_modify {l : List Pr} (h : Selfless l) (i : Nat) {f : Pr → Pr} (hf : ∀ q, q.id ∉ q.behind → (f q).id ∉ (f q).behind) : Selfless (l.modify i f) := by
  rcases Nat.lt_or_ge i l.length with hi | hi
  · rw [modify_set f l i hi]
    exact self_set h i (hf _ (h _ (List.getElem_mem hi)))
  · rw [List.modify_eq_self hi]
    exact h

theorem behindBut_not (l : List Pr) (n but : Int) : but ∉ behindBut l n but := by
  intro h
  unfold behindBut at h
  have := (List.mem_filter.1 (List.mem_of_mem_take h)).2
  simp at this

theorem self_gone {l : List Pr} (h : Selfless l) (id : Int) : Selfless (gone l id).1 := by
  unfold gone
  split
  · exact h
  · split
    · exact h
    · exact self_set h _ (fun hm => nomatch hm)

theorem self_settle {l : List Pr} (h : Selfless l) (id : Int) : Selfless (settle l id).1 := by
  unfold settle
  split
  · exact h
  · rename_i hn
    dsimp only
    have h1 : ∀ n, Selfless (setBehind l (peerAt l id).toNat (behindBut l n id)) := fun n => by
      obtain ⟨i, hi, h1, -, h3⟩ := at_some (l := l) (x := id) (by omega)
      rw [h1, Int.toNat_natCast]
      unfold setBehind
      rw [modify_set _ _ _ hi]
      refine self_set h i ?_
      rw [h3]
      exact behindBut_not l n id
    split
    · exact self_modify (h1 _) _ fun _ hp => hp
    · exact h1 _

theorem self_joined {l : List Pr} (h : Selfless l) (id by_ : Int) : Selfless (joined l id by_).1 := by
  unfold joined
  split
  · exact h
  · split
    · exact h
    · exact self_set h _ (behindBut_not l _ id)

theorem self_fingered {l : List Pr} (h : Selfless l) (id : Int) : Selfless (fingered l id).1 := by
  unfold fingered
  split
  · exact h
  · exact self_modify h _ fun _ hp => hp

theorem put_self {p : Pr} (h : p.id ∉ p.behind) (key : Int) (list : List It) : (put p key list).1.id ∉ (put p key list).1.behind := by
  unfold put
  split <;> exact h

theorem self_pub {key : Int} {list : List It} {s : List Pr × Nat} (h : Selfless s.1) (x : Int) : Selfless (pubStep key list s x).1 := by
  unfold pubStep
  split
  · exact h
  · rename_i p hp
    split
    · obtain ⟨hi, e⟩ := List.getElem?_eq_some_iff.1 hp
      exact self_set h _ (put_self (h p (e ▸ List.getElem_mem hi)) key list)
    · exact h

theorem self_fold {key : Int} {list : List It} : ∀ (hs : List Int) (s : List Pr × Nat), Selfless s.1 → Selfless (hs.foldl (pubStep key list) s).1
  | [], _, h => h
  | x :: hs, s, h => by rw [List.foldl_cons]; exact self_fold hs _ (self_pub h x)

theorem self_all {key : Int} {list : List It} {l : List Pr} (h : Selfless l) (hs : List Int) : Selfless (pubAll key list l hs).1 := self_fold hs (l, 0) h

theorem self_publish {l : List Pr} (h : Selfless l) (by_ key : Int) (list : List It) : Selfless (publish l by_ key list).1.1 := by
  unfold publish
  split
  · exact h
  · exact self_all h _

/-! At least two of the first three. -/
theorem here_set {l : List Pr} {i : Nat} (hi : i < l.length) {p : Pr} (h : p.here = l[i].here) : (l.set i p).map (·.here) = l.map (·.here) := by
  rw [List.map_set, h]
  apply List.ext_getElem (by simp)
  intro n h1 h2
  rw [List.getElem_set]
  split
  · rename_i e
    subst e
    simp
  · rfl

theorem here_modify {l : List Pr} {i : Nat} {f : Pr → Pr} (h : ∀ p, (f p).here = p.here) : heres (l.modify i f) = heres l := by
  unfold heres
  rcases Nat.lt_or_ge i l.length with hi | hi
  · rw [modify_set f l i hi]
    rw [here_set hi (h _)]
  · rw [List.modify_eq_self hi]

theorem count_up : ∀ (L : List Bool) (i : Nat), L.count true ≤ (L.set i true).count true
  | [], _ => by simp
  | b :: L, 0 => by
    rw [List.set_cons_zero, List.count_cons, List.count_cons]
    cases b <;> simp
  | b :: L, i + 1 => by
    rw [List.set_cons_succ, List.count_cons, List.count_cons]
    have := count_up L i
    omega

theorem heres_away {l : List Pr} {i : Nat} (h : 3 ≤ i) (q : Pr) : heres (l.set i q) = heres l := by
  unfold heres
  rw [List.map_set, List.take_set_of_le h]

theorem heres_come (l : List Pr) (i : Nat) {q : Pr} (hq : q.here = true) : (heres l).count true ≤ (heres (l.set i q)).count true := by
  unfold heres
  rw [List.map_set, hq, List.take_set]
  exact count_up _ _

theorem two_gone {l : List Pr} (h : 2 ≤ (heres l).count true) (id : Int) : 2 ≤ (heres (gone l id).1).count true := by
  unfold gone
  split
  · exact h
  · split
    · exact h
    · rw [heres_away (by omega)]
      exact h

theorem heres_settle (l : List Pr) (id : Int) : heres (settle l id).1 = heres l := by
  unfold settle
  split
  · rfl
  · dsimp only
    have h1 : ∀ i b, heres (setBehind l i b) = heres l := fun i b => here_modify fun _ => rfl
    have h2 : ∀ (m : List Pr) i a, heres (setAhead m i a) = heres m := fun m i a => here_modify fun _ => rfl
    split
    · rw [h2, h1]
    · exact h1 _ _

theorem two_joined {l : List Pr} (h : 2 ≤ (heres l).count true) (id by_ : Int) : 2 ≤ (heres (joined l id by_).1).count true := by
  unfold joined
  split
  · exact h
  · split
    · exact h
    · exact Nat.le_trans h (heres_come l _ rfl)

theorem heres_fingered (l : List Pr) (id : Int) : heres (fingered l id).1 = heres l := by
  unfold fingered
  split
  · rfl
  · exact here_modify fun _ => rfl

theorem heres_who {l m : List Pr} (h : whoOf l = whoOf m) : heres l = heres m := by
  have := congrArg (List.map (·.2)) h
  unfold heres
  simp only [whoOf, List.map_map, Function.comp_def] at this
  rw [this]

theorem two_publish {l : List Pr} (h : 2 ≤ (heres l).count true) (by_ key : Int) (list : List It) : 2 ≤ (heres (publish l by_ key list).1.1).count true := by
  unfold publish
  split
  · exact h
  · rw [heres_who (who_all key list l _)]
    exact h

/-- A ring that is drawn, and turned in one place. -/
structure RingX (l : List Pr) : Prop where
  least : 3 ≤ l.length
  most : l.length ≤ 8
  tiny : ∀ p ∈ l, Tiny p
  on : ∀ x ∈ idsOf l, onR x = true
  nodup : (idsOf l).Nodup
  self : Selfless l
  two : 2 ≤ (heres l).count true

theorem RingX.small {l : List Pr} (h : RingX l) : ∀ p ∈ l, Small p := fun p hp => (h.tiny p hp).small
theorem RingX.len {l : List Pr} (h : RingX l) : l.length ≤ 1048576 := Nat.le_trans h.most (by decide)
theorem RingX.ring {l : List Pr} (h : RingX l) : OnRing l := on_ids h.on

/-- In a drawn ring that is right nobody is behind itself, and the first three are there. -/
theorem RingD.self {l : List Pr} (h : RingD l) : Selfless l := by
  intro p hp hm
  have hk := h.rok.ok p hp
  cases hh : p.here with
  | true => exact (((peerOk_here hh).1 hk).behind _ hm).2 rfl
  | false =>
    unfold peerOk at hk
    rw [hh, Bool.and_eq_true] at hk
    have h2 : awayOk p = true := hk.2
    unfold awayOk at h2
    simp only [Bool.and_eq_true, decide_eq_true_eq] at h2
    rw [List.eq_nil_of_length_eq_zero h2.1.1.2] at hm
    cases hm

theorem RingD.heres {l : List Pr} (h : RingD l) : heres l = [true, true, true] := by
  have hl := h.rok.least
  have hb := h.rok.base
  match l, hl, hb with
  | a :: b :: c :: d :: m, _, hb =>
    have h0 := hb 0 (by simp) (by decide)
    have h1 := hb 1 (by simp) (by decide)
    have h2 := hb 2 (by simp) (by decide)
    simp only [List.getElem_cons_zero, List.getElem_cons_succ] at h0 h1 h2
    simp [Go.Proofs.YteladljgnbfcnaaGreat.P9.heres, h0, h1, h2]

theorem RingD.two {l : List Pr} (h : RingD l) : 2 ≤ (Go.Proofs.YteladljgnbfcnaaGreat.P9.heres l).count true := by
  rw [h.heres]
  decide

theorem RingX.same {l m : List Pr} (h : RingD l) (hi : idsOf m = idsOf l) (ht : ∀ p ∈ m, Tiny p) (hs : Selfless m) (h2 : 2 ≤ (heres m).count true) : RingX m :=
  ⟨by rw [len_ids hi]; have := h.least; omega, by rw [len_ids hi]; exact h.most, ht, by rw [hi]; exact h.on, by rw [hi]; exact h.nodup, hs, h2⟩

theorem RingD.x {l : List Pr} (h : RingD l) : RingX l := RingX.same h rfl h.tiny h.self h.two

theorem RingX.of {l m : List Pr} (h : RingX l) (hi : idsOf m = idsOf l) (ht : ∀ p ∈ m, Tiny p) (hs : Selfless m) (h2 : 2 ≤ (heres m).count true) : RingX m :=
  ⟨by rw [len_ids hi]; exact h.least, by rw [len_ids hi]; exact h.most, ht, by rw [hi]; exact h.on, by rw [hi]; exact h.nodup, hs, h2⟩

theorem RingX.joined {l : List Pr} (h : RingX l) (id by_ : Int) : RingX (joined l id by_).1 := h.of (ids_joined l id by_) (tiny_joined h.tiny id by_) (self_joined h.self id by_) (two_joined h.two id by_)
theorem RingX.gone {l : List Pr} (h : RingX l) (id : Int) : RingX (gone l id).1 := h.of (ids_gone l id) (tiny_gone h.tiny id) (self_gone h.self id) (two_gone h.two id)
theorem RingX.settle {l : List Pr} (h : RingX l) (id : Int) : RingX (settle l id).1 := h.of (ids_settle l id) (tiny_settle h.tiny id) (self_settle h.self id) (by rw [heres_settle]; exact h.two)
theorem RingX.fingered {l : List Pr} (h : RingX l) (id : Int) : RingX (fingered l id).1 := h.of (ids_fingered l id) (tiny_fingered h.tiny id) (self_fingered h.self id) (by rw [heres_fingered]; exact h.two)
theorem RingX.pubAll {l : List Pr} (h : RingX l) (key : Int) (list : List It) (hs : List Int) : RingX (pubAll key list l hs).1 := h.of (ids_who (who_all key list l hs)) (tiny_all h.tiny hs) (self_all h.self hs) (by rw [heres_who (who_all key list l hs)]; exact h.two)
theorem RingX.publish {l : List Pr} (h : RingX l) (by_ key : Int) (list : List It) : RingX (publish l by_ key list).1.1 := h.of (ids_publish l by_ key list) (tiny_publish h.tiny by_ key list) (self_publish h.self by_ key list) (two_publish h.two by_ key list)

/-- Of one that is right there is little. -/
theorem RingD.strict {l : List Pr} (h : RingD l) {p : Pr} (hp : p ∈ l) : p.behind.length ≤ 3 ∧ p.shelves.length ≤ 80 := by
  have hk := h.rok.ok p hp
  cases hh : p.here with
  | true =>
    have := (peerOk_here hh).1 hk
    exact ⟨this.few, this.shelves.1⟩
  | false =>
    unfold peerOk at hk
    rw [hh, Bool.and_eq_true] at hk
    have h2 : awayOk p = true := hk.2
    unfold awayOk at h2
    simp only [Bool.and_eq_true, decide_eq_true_eq] at h2
    omega
end Go.Proofs.YteladljgnbfcnaaGreat.P9
namespace Go.Proofs.YteladljgnbfcnaaGreat.P9
open Go.RowKit P1 P8 Da Ap Rr Rc

theorem heap_set_eq (w : World) (g o : Nat) (v : Value) : (w.setCell ⟨g, o, none⟩ v).heap[g]? = (w.heap[g]?).map fun
    | .cells c elem frozen => .cells (c.setIfInBounds o v) elem frozen
    | x => x := by
  unfold World.setCell
  simp only [Array.getElem?_modify, if_true]
  cases w.heap[g]? with
  | none => rfl
  | some x => cases x <;> rfl

theorem heap_set_congr {a b : World} {g : Nat} (o : Nat) (h : a.heap[g]? = b.heap[g]?) (v : Value) : (a.setCell ⟨g, o, none⟩ v).heap[g]? = (b.setCell ⟨g, o, none⟩ v).heap[g]? := by
  rw [heap_set_eq, heap_set_eq, h]

theorem heap_set_twice (a : World) (g o : Nat) (u v : Value) : ((a.setCell ⟨g, o, none⟩ u).setCell ⟨g, o, none⟩ v).heap[g]? = (a.setCell ⟨g, o, none⟩ v).heap[g]? := by
  rw [heap_set_eq, heap_set_eq, heap_set_eq]
  cases a.heap[g]? with
  | none => rfl
  | some x => cases x <;> simp

theorem heap_set_undo {a : World} {g o : Nat} {u : Value} (h : a.cell? ⟨g, o, none⟩ = some u) : (a.setCell ⟨g, o, none⟩ u).heap[g]? = a.heap[g]? := by
  rw [heap_set_eq]
  unfold World.cell? at h
  cases hx : a.heap[g]? with
  | none => rfl
  | some x =>
    cases x with
    | cells c e f =>
      rw [hx] at h
      have h1 : c[o]? = some u := by simpa using h
      have h2 : c.setIfInBounds o u = c := by
        apply Array.ext_getElem?
        intro j
        rw [Array.getElem?_setIfInBounds]
        split
        · rename_i e
          subst e
          split
          · exact h1.symm
          · rename_i hn
            obtain ⟨hlt, _⟩ := Array.getElem?_eq_some_iff.1 h1
            exact absurd hlt hn
        · rfl
      show some (Obj.cells (c.setIfInBounds o u) e f) = _
      rw [h2]
    | _ => rfl

/-- What the loop keeps of the row while it writes one cell of it: a world with the row as it was, but for the cell. -/
theorem row_back {wA wx : World} {v : Value} {d : Dt} {fp : List Nat} {g o : Nat} {vf u0 : Value} (h : Owns wA v d fp) (h0 : wA.cell? ⟨g, o, none⟩ = some u0) (hX : Only [g] wA wx) (hg : wx.heap[g]? = (wA.setCell ⟨g, o, none⟩ vf).heap[g]?) :
    Owns (wx.setCell ⟨g, o, none⟩ u0) v d fp ∧ ∀ q : Nat, (wx.heap[q]? = ((wx.setCell ⟨g, o, none⟩ u0).setCell ⟨g, o, none⟩ vf).heap[q]?) := by
  have hW : (wx.setCell ⟨g, o, none⟩ u0).heap[g]? = wA.heap[g]? := (heap_set_congr o hg u0).trans ((heap_set_twice wA g o vf u0).trans (heap_set_undo h0))
  refine ⟨h.stay (fun q hq => ?_), fun q => ?_⟩
  · by_cases e : q = g
    · rw [e]; exact hW
    · exact (Below.heap_setCell _ _ _ _ e).trans (hX.block q (h.lt q hq) (by simpa using e))
  · by_cases e : q = g
    · rw [e, hg]
      exact (heap_set_congr o hW vf).symm
    · rw [Below.heap_setCell _ _ _ _ (by exact e), Below.heap_setCell _ _ _ _ (by exact e)]

theorem ring_fingers {wA wx : World} {T : Tys} {g n c i : Nat} {l : List Pr} {fp : List Nat} {vf : Value} {F : List Int} {f : List Nat} (h : Owns wA (.slice (some ⟨g, 0, none⟩) n c) (peersD T l) fp) (hi : i < l.length) (hX : Only [g] wA wx)
    (hg : wx.heap[g]? = (wA.setCell ⟨g, i * 6 + 4, none⟩ vf).heap[g]?) (hf : Owns wx vf (intsD F) f) (hn : ∀ q ∈ f, q ∉ fp) : ∃ fp', Owns wx (.slice (some ⟨g, 0, none⟩) n c) (peersD T (setFingers l i F)) fp' ∧ ∀ q ∈ fp', q ∈ fp ∨ q ∈ f := by
  obtain ⟨⟨u0, k0⟩, _, _, hmem⟩ := peer_cell h hi (j := 4) (by decide)
  obtain ⟨h1, h2⟩ := row_back h k0 hX hg
  obtain ⟨fp', h3, h4⟩ := put_fingers h1 hi (owns_set hf (b := g) (i := i * 6 + 4) (fun q hq e => hn q hq (by rw [e]; exact hmem)) u0) hn
  exact ⟨fp', h3.stay (fun q _ => h2 q), h4⟩

theorem fingered_no {l : List Pr} {id : Int} (h : peerAt l id < 0) : fingered l id = (l, false) := by
  unfold fingered
  rw [if_pos h]

theorem fingered_ok {l : List Pr} {id : Int} {i : Nat} (h : peerAt l id = i) : fingered l id = (setFingers l i ((List.range 8).map (fingerOf l id)), true) := by
  unfold fingered
  rw [h, if_neg (by omega)]
  rfl

theorem fingers_snoc (l : List Pr) (id : Int) (k : Nat) : (List.range (k + 1)).map (fingerOf l id) = (List.range k).map (fingerOf l id) ++ [fingerOf l id k] := by
  rw [List.range_succ, List.map_append]
  rfl

/-- Worlds in which at most these blocks were written, and memory was made. -/
structure NOnly (fs : List Nat) (W : World) where
  w : World
  h : Only fs W w

theorem NOnly.some (fs : List Nat) (W : World) : Nonempty (NOnly fs W) := ⟨⟨W, Only.refl fs W⟩⟩

theorem only_then {fp fs : List Nat} {a b c : World} (h : Only fp a b) (h' : Only fs b c) (hf : ∀ q ∈ fs, a.heap.size ≤ q) : Only fp a c :=
  ⟨h'.os.trans h.os, h'.tape.trans h.tape, h'.output.trans h.output, Nat.le_trans h.size h'.size, fun g hg hn => (h'.block g (Nat.lt_of_lt_of_le hg h.size) (fun hm => by have := hf g hm; omega)).trans (h.block g hg hn)⟩

theorem only_by {a b : World} {v : Value} (h : a.grownBy b v.ownBlock) : Only v.ownBlock.toList a b :=
  ⟨h.os, h.tape, h.output, h.size, fun g hg hn => h.block g hg (fun e => hn (by rw [← e]; simp))⟩

theorem not_own {v : Value} {B q : Nat} (h : ∀ g, v.ownBlock = some g → B ≤ g) (hq : q < B) : q ∉ v.ownBlock.toList := by
  intro hm
  have : v.ownBlock = some q := by simpa using hm
  have := h q this
  omega

theorem frozen_of_block {w w' : World} {b o : Nat} (h : w'.heap[b]? = w.heap[b]?) : w'.frozen? ⟨b, o, none⟩ = w.frozen? ⟨b, o, none⟩ := by
  unfold World.frozen?
  rw [h]

/-- The cell that the loop writes: what it holds, and that it may be written. -/
theorem row_cell {wA wx : World} {g o : Nat} {vf u0 : Value} (h0 : wA.cell? ⟨g, o, none⟩ = some u0) (hf : wA.frozen? ⟨g, o, none⟩ = false) (hg : wx.heap[g]? = (wA.setCell ⟨g, o, none⟩ vf).heap[g]?) :
    wx.cell? ⟨g, o, none⟩ = some vf ∧ wx.frozen? ⟨g, o, none⟩ = false := by
  refine ⟨(World.cell?_of_block (w := wA.setCell ⟨g, o, none⟩ vf) hg).trans ?_, (frozen_of_block hg).trans ?_⟩
  · simp [go_sem, h0]
  · simp [go_sem, hf]

theorem row_step {wA wx : World} {g o : Nat} {vf v' : Value} (hg : wx.heap[g]? = (wA.setCell ⟨g, o, none⟩ vf).heap[g]?) : (wx.setCell ⟨g, o, none⟩ v').heap[g]? = (wA.setCell ⟨g, o, none⟩ v').heap[g]? :=
  (heap_set_congr o hg v').trans (heap_set_twice wA g o vf v')
end Go.Proofs.YteladljgnbfcnaaGreat.P9
namespace Go.Proofs.YteladljgnbfcnaaGreat.P9
set_option maxRecDepth 8000
open Go.RowKit P1 P8 Da Ap Rr Rc

set_option maxRecDepth 100000 in
set_option maxHeartbeats 8000000 in
theorem specFingered_calls (w : World) (v : Value) (l : List Pr) (id : Int) (hv : PeersAt w v l) (hl : l.length ≤ 1048576) (hsm : ∀ p ∈ l, Small p) (hon : OnRing l) :
    Calls Tryz.prog 73 #[.agg #[v], .int .i64 id] w fun e w' => ∃ v' fp, e = .returned (.tuple #[.agg #[v'], .bool (fingered l id).2]) ∧ Owns w' v' (peersD T0 (fingered l id).1) fp ∧ (∀ q ∈ fp, w.heap.size ≤ q) ∧ Below w.heap.size w w' := by
  obtain ⟨R, eR⟩ : ∃ R, R = fingered l id := ⟨_, rfl⟩
  have HR1 : Hid (peerAt l id < 0 → R = (l, false)) := fun h => eR.trans (fingered_no h)
  have HR2 : Hid (∀ i : Nat, peerAt l id = i → R = (setFingers l i ((List.range 8).map (fingerOf l id)), true)) := fun i h => eR.trans (fingered_ok h)
  rw [← eR]
  clear eR
  have HSM := hide hsm
  have HON := hide hon
  have HBL : Hid (∀ p ∈ l, p.behind.length ≤ 1048576) := fun p hp => (hsm p hp).b
  have hb1 := (Below.refl w.heap.size w).alloc (Nat.le_refl _) (.cells #[v] 28)
  have hb2 := hb1.alloc hb1.size (.cells #[.slice none 0 0] 28)
  have HV1 := hide (hv.below hb2 (Nat.le_refl _))
  have HV := hide hv
  obtain ⟨a, cap, rfl, -⟩ := hv.open_
  have A0 := Blk.new w #[.slice a l.length cap] 28
  have A1 := Blk.new (w.alloc (.cells #[.slice a l.length cap] 28)) #[.slice none 0 0] 28
  have hba := (Below.refl (w.alloc (.cells #[.slice a l.length cap] 28)).heap.size (w.alloc (.cells #[.slice a l.length cap] 28))).alloc (Nat.le_refl _) (.cells #[.slice none 0 0] 28)
  have A0' := A0.below hba A0.lt
  have e1 : (w.alloc (.cells #[.slice a l.length cap] 28)).heap.size = w.heap.size + 1 := by simp
  rw [e1] at A1
  have HB1 := hide hb2
  clear hv hsm hon hb1 hb2 hba A0 e1
  go_enter Tryz.func73, Tryz.ntmps73
  go_upto_region 1 with fail
  obtain ⟨s, es⟩ : ∃ s, s = w.heap.size := ⟨_, rfl⟩
  rw [← es] at A0' A1 ⊢
  have HS : Hid (w.heap.size = s) := es.symm
  clear es
  generalize (w.alloc (.cells #[.slice a l.length cap] 28)).alloc (.cells #[.slice none 0 0] 28) = w1 at *
  have c0 := blk_free_cell A0' 0 rfl
  have l0 := A0'.lt
  go_wp2_with fail
  refine (copyRing_calls w1 _ l HV1.out hl HSM.out).mono ?_
  rintro e wc ⟨v', fp, rfl, ho, hfp, hbc⟩
  obtain ⟨ao, co, rfl⟩ := peers_sl ho
  clear c0 l0
  go_upto_region 2 with fail
  have XO := Blk.new wc #[.slice ao l.length co] 28
  have hbo := (Below.refl wc.heap.size wc).alloc (Nat.le_refl _) (.cells #[.slice ao l.length co] 28)
  have hb13 := hbc.trans (hbo.mono hbc.size)
  have X0 := A0'.below hb13 A0'.lt
  have X1 := A1.below hb13 A1.lt
  have HB3 := hide (HB1.out.trans (hb13.mono HB1.out.size))
  have HO3 := hide (owns_below ho hbo)
  have hl1 := A1.lt
  have hlt := ho.lt
  obtain ⟨bo, ebo⟩ : ∃ b, b = wc.heap.size := ⟨_, rfl⟩
  rw [← ebo] at XO hlt ⊢
  have HFP : Hid (∀ q ∈ fp, s + 1 < q ∧ q < bo) := fun q hq => by
    have := hfp q hq
    have := hlt q hq
    omega
  have hso : s + 1 < bo := by have := hbc.size; omega
  clear ebo hbo hb13 A0' A1 HB1 HV1 ho hfp hbc hlt hl1
  generalize wc.alloc (.cells #[.slice ao l.length co] 28) = w3 at *
  have HC0 : Hid (∀ wx, Below w3.heap.size w3 wx → wx.cell? ⟨s, 0, none⟩ = some (.slice a l.length cap) ∧ s < wx.heap.size) := fun wx hb => ⟨blk_free_cell (X0.below hb X0.lt) 0 rfl, (X0.below hb X0.lt).lt⟩
  have HZ0 : Hid (∀ wx, Below w3.heap.size w3 wx → Blk wx s [.slice a l.length cap] 28) := fun wx hb => X0.below hb X0.lt
  have HZO : Hid (∀ wx, Below w3.heap.size w3 wx → Blk wx bo [.slice ao l.length co] 28) := fun wx hb => XO.below hb XO.lt
  have HX1 : Hid (∀ wx, Below w3.heap.size w3 wx → Blk wx (s + 1) [.slice none 0 0] 28) := fun wx hb => X1.below hb X1.lt
  have HVx : Hid (∀ wx, Below w3.heap.size w3 wx → PeersAt wx (.slice a l.length cap) l) := fun wx hb => HV.out.below (HB3.out.trans (hb.mono HB3.out.size)) (Nat.le_refl _)
  have HOx : Hid (∀ wx, Below w3.heap.size w3 wx → Owns wx (.slice ao l.length co) (peersD T0 l) fp) := fun wx hb => owns_below HO3.out hb
  have HBx : Hid (∀ wx, Below w3.heap.size w3 wx → Below w.heap.size w wx) := fun wx hb => HB3.out.trans (hb.mono HB3.out.size)
  clear X0 X1 XO HO3
  have hw3 := Below.refl w3.heap.size w3
  obtain ⟨c0, l0⟩ := HC0.out w3 hw3
  go_wp2_with fail
  refine (specPeerAt_calls w3 _ l id (HVx.out w3 hw3) hl).mono ?_
  rintro e w5 ⟨rfl, hw5⟩
  clear c0 l0 hw3
  have Y1 := HX1.out w5 hw5
  have y0 := blk_free_cell Y1 0 rfl
  have yf := Y1.free 0
  have yl := Y1.lt
  have YO := HZO.out w5 hw5
  have cO := blk_free_cell YO 0 rfl
  have lO := YO.lt
  have hw0 := HS.out
  by_cases hno : peerAt l id < 0
  · have HR := hide (HR1.out hno)
    have HBw := hide (HBx.out w5 hw5)
    have HOw := hide (HOx.out w5 hw5)
    have hd : decide (peerAt l id < 0) = true := decide_eq_true hno
    clear HR1 HR2 hno YO
    generalize peerAt l id = pa at *
    go_wp2_with fail
    have Rd := Y1.set 0 (.slice ao l.length co)
    have x0 := blk_free_cell Rd 0 rfl
    refine bodyPost_ret (v := .tuple #[.agg #[.slice ao l.length co], .bool false]) (by simp [results, Tryz.results73, go_sem, x0]) rfl ⟨_, fp, by rw [HR.out], by rw [HR.out]; exact owns_set HOw.out (fun q hq => by have := HFP.out q hq; omega) _, fun q hq => by have := HFP.out q hq; omega, HBw.out.setCell (p := ⟨s + 1, 0, none⟩) (by show _ ≤ s + 1; omega) _⟩
  · obtain ⟨i, hi, hpi⟩ : ∃ i : Nat, ∃ _ : i < l.length, peerAt l id = i := (peerAt_lt l id).resolve_left (by omega)
    have HR := hide (HR2.out i hpi)
    have hid := on_of_at HON.out (x := id) (by omega)
    have hd : decide ((i : Int) < 0) = false := decide_eq_false (by omega)
    obtain ⟨go, co', esh⟩ := peers_shape (HOx.out w5 hw5) (by omega)
    cases esh
    rw [hpi]
    clear HR1 HR2 hno hpi
    obtain ⟨⟨u4, k4⟩, q4, hlg, hmem⟩ := peer_cell (HOx.out w5 hw5) hi (j := 4) (by decide)
    have hgo := HFP.out go hmem
    clear YO y0 yf yl Y1 cO
    have HOw := hide (HOx.out w5 hw5)
    have HZ0w := hide (HZ0.out w5 hw5)
    have HZOw := hide (HZO.out w5 hw5)
    have HX1w := hide (HX1.out w5 hw5)
    have HBw := hide (HBx.out w5 hw5)
    have cO := blk_free_cell HZOw.out 0 rfl
    clear HC0 HZ0 HZO HX1 HVx HOx HBx hw5
    go_upto_region 6 with fail
    have HS0 : Hid ((((w5.setCell ⟨go, i * 6 + 4, none⟩ (.slice (some ⟨w5.heap.size, 0, none⟩) 0 0)).alloc (.cells #[] 3))).ownsRow w5.heap.size 3 1 (.slice (some ⟨w5.heap.size, 0, none⟩) 0 0) 0 (cellsI [])) := by
      have := own_lit0 (w5.setCell ⟨go, i * 6 + 4, none⟩ (.slice (some ⟨w5.heap.size, 0, none⟩) 0 0))
      have h := (by simpa using this : _)
      exact h
    have HX0 : Hid (Only [go] w5 ((w5.setCell ⟨go, i * 6 + 4, none⟩ (.slice (some ⟨w5.heap.size, 0, none⟩) 0 0)).alloc (.cells #[] 3))) :=
      (((Only.refl [go] w5).setCell (p := ⟨go, i * 6 + 4, none⟩) (by simp) _)).trans (Only.of_below ((Below.refl _ _).alloc (Nat.le_refl _) _))
    have HG0 : Hid (((w5.setCell ⟨go, i * 6 + 4, none⟩ (.slice (some ⟨w5.heap.size, 0, none⟩) 0 0)).alloc (.cells #[] 3)).heap[go]? = (w5.setCell ⟨go, i * 6 + 4, none⟩ (.slice (some ⟨w5.heap.size, 0, none⟩) 0 0)).heap[go]?) :=
      ((Below.refl _ _).alloc (Nat.le_refl _) _).block go (by simpa using hlg)
    obtain ⟨B, eB⟩ : ∃ B, B = w5.heap.size := ⟨_, rfl⟩
    rw [← eB] at HS0 HX0 HG0 hlg lO ⊢
    have HEB := hide eB
    clear eB
    generalize (w5.setCell ⟨go, i * 6 + 4, none⟩ (.slice (some ⟨B, 0, none⟩) 0 0)).alloc (.cells #[] 3) = w6 at *
    have HK4 := hide k4
    have HQ4 := hide q4
    clear k4 q4 cO
    obtain ⟨i0, hi0, hz0, hz1, hz2⟩ := info_parts info_i64
    go_wp2_with fail
    go_loopw [8] (fun iv wr => ∃ (j : Nat) (vf : Value), j ≤ 8 ∧ iv = .int .i64 j ∧ Hid (wr.ownsRow B 3 1 vf j (cellsI ((List.range j).map (fingerOf l id)))) ∧ Hid (Only [go] w5 wr) ∧ Hid (wr.heap[go]? = (w5.setCell ⟨go, i * 6 + 4, none⟩ vf).heap[go]?)) (fun iv _ => 8 - (intOf iv).toNat)
    case atStart => exact ⟨0, _, Nat.zero_le _, rfl, HS0.out, HX0.out, HG0.out⟩
    case round =>
      clear HS0 HX0 HG0
      obtain ⟨j, vf, hj, rfl, HOr, HXr, HGr⟩ := hrel
      obtain ⟨af, cf, hsh⟩ := own_sh HOr.out
      subst hsh
      have hzr := HXr.out.size
      rw [← HEB.out] at hzr
      have A0 := only_blk HXr.out HZ0w.out (by simp; omega)
      have AO := only_blk HXr.out HZOw.out (by simp; omega)
      have hBr : Below w.heap.size w wr := HBw.out.trans (HXr.out.below (by have := HBw.out.size; omega) (fun q hq => by simp at hq; omega))
      have HBr := hide hBr
      by_cases hlt : j < 8
      · have c0 := blk_free_cell A0 0 rfl
        have l0 := A0.lt
        have HNX := hide (fingers_snoc l id j)
        have CF := hide (specFind_calls wr _ l id (id + (2 : Int) ^ j) (HV.out.below hBr (Nat.le_refl _)) hl HSM.out HON.out)
        obtain ⟨x, n, b, esh, hbn, hbs⟩ := trip_shape (find l id (id + (2 : Int) ^ j))
        rw [esh] at CF
        have HBN : Hid (b = false → fingerOf l id j = -1) := fun h => by unfold fingerOf; rw [hbn h]
        have HBS : Hid (b = true → fingerOf l id j = x) := fun h => by unfold fingerOf; obtain ⟨m, e⟩ := hbs h; rw [e]
        clear esh hbn hbs hBr
        go_wp2_with fail
        rw [key_of hid.1 hid.2 hlt]
        refine CF.out.mono ?_
        rintro e wf ⟨rfl, hbf⟩
        clear CF c0 l0
        go_upto_region 10 with fail
        have YT := Blk.new wf #[.int .i64 x, .int .i64 n] 119
        have hb6 := hbf.alloc hbf.size (.cells #[.int .i64 x, .int .i64 n] 119)
        have htr : B ≤ wf.heap.size := by have := hbf.size; omega
        obtain ⟨bt, ebt⟩ : ∃ b, b = wf.heap.size := ⟨_, rfl⟩
        rw [← ebt] at YT htr ⊢
        have hbr : wr.heap.size ≤ bt := by have := hbf.size; omega
        clear ebt hbf
        generalize wf.alloc (.cells #[.int .i64 x, .int .i64 n] 119) = w6' at *
        have t0 := blk_free_cell YT 0 rfl
        have tf := YT.free 0
        have tl := YT.lt
        have K : Hid (∃ y, y = fingerOf l id j) := ⟨_, rfl⟩
        rcases b with _ | _
        case' false =>
          have HY : Hid (-1 = fingerOf l id j) := (HBN.out rfl).symm
          go_upto_region 12 with fail
          have Y2 := YT.set 0 (.int .i64 (-1))
          have hb7 := hide (hb6.setCell (p := ⟨bt, 0, none⟩) hbr (.int .i64 (-1)))
          clear t0 tf tl YT hb6 HBN HBS K
          generalize w6'.setCell ⟨bt, 0, none⟩ (.int .i64 (-1)) = w7 at *
          obtain ⟨y, ey⟩ : ∃ y : Int, y = -1 := ⟨_, rfl⟩
          rw [← ey] at HY Y2
          have HYB := hide Y2
          clear ey Y2
        case' true =>
          have HY : Hid (x = fingerOf l id j) := (HBS.out rfl).symm
          go_upto_region 12 with fail
          have hb7 := hide hb6
          obtain ⟨w7, ew⟩ : ∃ x, x = w6' := ⟨_, rfl⟩
          subst ew
          have HYB := hide YT
          clear t0 tf tl YT hb6 HBN HBS K
          generalize x = y at *
        all_goals
          have HX7 := hide (only_more HXr.out (hb7.out.mono (by rw [← HEB.out]; exact hzr)))
          have HG7 := hide ((hb7.out.block go (by omega)).trans HGr.out)
          have HO7 := hide (own_below HOr.out hb7.out)
          have hown7 : ∀ q, (Value.slice af j cf).ownBlock = some q → B ≤ q ∧ q < wr.heap.size := fun q hq => HOr.out.lt q hq
          obtain ⟨m4, mq⟩ := row_cell HK4.out HQ4.out HG7.out
          have hz7 : B ≤ w7.heap.size := by have := hb7.out.size; omega
          have YO7 := AO.below hb7.out AO.lt
          have hgw7 : go < w7.heap.size := by omega
          have no0 : ∀ p : NOnly (Value.slice af j cf).ownBlock.toList w7, p.w.cell? ⟨bo, 0, none⟩ = some (.slice (some ⟨go, 0, none⟩) l.length co) := fun p => blk_free_cell (only_blk p.h YO7 (not_own (fun q hq => (hown7 q hq).1) (by omega))) 0 rfl
          have nt0 : ∀ p : NOnly (Value.slice af j cf).ownBlock.toList w7, p.w.cell? ⟨bt, 0, none⟩ = some (.int .i64 y) := fun p => blk_free_cell (only_blk p.h HYB.out (by
            intro hm
            have := (hown7 bt (by simpa using hm)).2
            omega)) 0 rfl
          have nf0 : ∀ p : NOnly (Value.slice af j cf).ownBlock.toList w7, p.w.cell? ⟨go, i * 6 + 4, none⟩ = some (.slice af j cf) := fun p => (only_cell p.h (p := ⟨go, i * 6 + 4, none⟩) hgw7 (not_own (fun q hq => (hown7 q hq).1) (by show go < B; omega))).trans m4
          have hnn := NOnly.some (Value.slice af j cf).ownBlock.toList w7
          clear m4 YO7 hb7 hown7
          refine wp_region_open (fun wd => ∃ p : Near w7.heap.size w7, wd = p.w) ⟨⟨_, (Below.refl _ _).drew⟩, rfl⟩ (by kernel_rfl) ?_
          rintro wd ⟨pd, rfl⟩
          refine wpAny_of_K (c := 13) (D := fun w' => ∃ p : NOnly (Value.slice af j cf).ownBlock.toList w7, w' = p.w) _ _ _ _ ?_
          refine wpAnyK_seg_lit4 0 11 8 5 rfl (by decide) (by decide) (by kernel_rfl) (by kernel_rfl) (by kernel_rfl) (by kernel_rfl) (fun _ _ _ _ _ h => h) ⟨⟨_, Only.of_below pd.h⟩, rfl⟩ ?_
          simp only [List.take_succ_cons, List.take_zero, List.drop_zero]
          repeat (go_big_quiet_step (fail))
          refine wpQuiet_nil ?_
          have hps := pd.h.size
          refine wpAnyK_value (i := 11) (v := .slice (some ⟨pd.w.heap.size, 0, none⟩) 1 1) (w' := pd.w.alloc (.cells #[.int .i64 y] 3)) (by kernel_rfl) rfl rfl (by simp [execOp, go_sem]) ⟨⟨_, Only.of_below (pd.h.alloc hps _)⟩, rfl⟩ ?_
          simp only [Act.put, List.setIfInBounds_toArray, List.set_cons_succ, List.set_cons_zero]
          refine wpAnyK_one 12 (by kernel_rfl) rfl ?_
          have HOp := hide (own_below HO7.out pd.h)
          have HXp := hide (only_more HX7.out (pd.h.mono (by rw [← HEB.out]; exact hz7)))
          have HGp := hide ((pd.h.block go hgw7).trans HG7.out)
          have hzp : B ≤ pd.w.heap.size := by omega
          have hgp : go < pd.w.heap.size := by omega
          have hownp : ∀ q, (Value.slice af j cf).ownBlock = some q → B ≤ q := fun q hq => (HOp.out.lt q hq).1
          have HOWN := hide hownp
          have HPD := hide pd.h
          clear no0 nt0 nf0 hnn HO7 HX7 HG7 HOr HXr HGr HYB mq hownp A0 AO hps hz7 hgw7
          refine wpList_append_keep (cs := #[.int .i64 y]) hzp rfl (.tmp 51) (.tmp 54) 24 rfl 3 i0 (.int .i64 0) 1 8 Tryz.underlying24 hi0 hz0 hz1 hz2 rfl (by decide) rfl (by simp [Value.oneCell']) (.slice af j cf) _ _ rfl HOp.out 1 rfl (by omega) (by omega) ?_
          intro v6 wx hown hgrew
          obtain ⟨a6, c6, hsh⟩ := own_sh hown
          subst hsh
          refine ⟨⟨⟨wx, (Only.of_below HPD.out).trans ((only_by hgrew.by_))⟩, rfl⟩, ?_⟩
          simp only [Act.put, List.setIfInBounds_toArray, List.set_cons_succ, List.set_cons_zero]
          refine wpAnyK_last (by kernel_rfl) (by decide) ?_
          refine wpAny_rest 13 rfl (by kernel_rfl) ?_
          simp only [List.drop_succ_cons, List.drop_zero]
          have hown' : wx.ownsRow B 3 1 (.slice a6 (j + 1) c6) (j + 1) (cellsI ((List.range (j + 1)).map (fingerOf l id))) := by
            rw [HNX.out, ← HY.out]
            simpa [cellsI] using hown
          have hne : (Value.slice a6 (j + 1) c6).ownBlock ≠ some go := fun e => by have := (hown.lt go e).1; omega
          have HXx := hide ((only_then HXp.out (only_by hgrew.by_) (fun q hq => by rw [← HEB.out]; exact HOWN.out q (by simpa using hq))).setCell (p := ⟨go, i * 6 + 4, none⟩) (by simp) (.slice a6 (j + 1) c6))
          have hGx := (hgrew.by_.block go hgp (fun e => by have := HOWN.out go e.symm; omega)).trans HGp.out
          have HGx := hide (row_step (v' := .slice a6 (j + 1) c6) hGx)
          have HOx := hide (ownsRow_setCell_other hown' (a := ⟨go, i * 6 + 4, none⟩) hne (.slice a6 (j + 1) c6))
          obtain ⟨m4, mq⟩ := row_cell HK4.out HQ4.out hGx
          have hgx : go < wx.heap.size := Nat.lt_of_lt_of_le hgp hgrew.by_.size
          clear hown hown' hgrew hne hGx HOp HXp HGp HOWN
          go_wp2
          go_roundw
          case rel => exact ⟨j + 1, _, by omega, by go_num, HOx.out, HXx.out, HGx.out⟩
          case measure => simp [intOf]; omega
      · obtain rfl : j = 8 := by omega
        obtain ⟨f4, o4, hf4⟩ := ints_owned (l := (List.range 8).map (fingerOf l id)) (by simpa using HOr.out)
        have hsz := HEB.out
        obtain ⟨fq, HPq, hfq⟩ := ring_fingers HOw.out hi HXr.out HGr.out o4 (fun q hq h => by have := HOw.out.lt q h; have := hf4 q hq; omega)
        have HPQ := hide HPq
        have HFq : Hid (∀ q ∈ fq, s + 1 < q) := fun q hq => by
          rcases hfq q hq with h | h
          · have := HFP.out q h; omega
          · have := hf4 q h; omega
        have Y1 := only_blk HXr.out HX1w.out (by simp; omega)
        have y0 := blk_free_cell Y1 0 rfl
        have yf := Y1.free 0
        have yl := Y1.lt
        have cO := blk_free_cell AO 0 rfl
        have lO := AO.lt
        clear hBr A0 AO o4 hf4 HPq hfq hsz HOr HXr HGr
        go_wp2_with fail
        have Rd := Y1.set 0 (.slice (some ⟨go, 0, none⟩) l.length co)
        have x0 := blk_free_cell Rd 0 rfl
        have hs := HS.out
        have HE : Owns (wr.setCell ⟨s + 1, 0, none⟩ (.slice (some ⟨go, 0, none⟩) l.length co)) (.slice (some ⟨go, 0, none⟩) l.length co) (peersD T0 R.1) fq ∧ (∀ q ∈ fq, w.heap.size ≤ q) ∧ Below w.heap.size w (wr.setCell ⟨s + 1, 0, none⟩ (.slice (some ⟨go, 0, none⟩) l.length co)) := by
          refine ⟨?_, fun q hq => by have := HFq.out q hq; omega, HBr.out.setCell (p := ⟨s + 1, 0, none⟩) (by show _ ≤ s + 1; omega) _⟩
          rw [HR.out]
          exact owns_set HPQ.out (fun q hq => by have := HFq.out q hq; omega) _
        refine bodyPost_ret (v := .tuple #[.agg #[.slice (some ⟨go, 0, none⟩) l.length co], .bool true]) (by simp [results, Tryz.results73, go_sem, x0]) rfl ?_
        first | exact ⟨_, by rw [HR.out], fq, HE⟩ | exact ⟨_, fq, by rw [HR.out], HE⟩
end Go.Proofs.YteladljgnbfcnaaGreat.P9
namespace Go.Proofs.YteladljgnbfcnaaGreat.P9
open Go.RowKit P1 P8 Da Ap Rr Rc

def cellsSh (ps : List (Value × Shf)) : List Value := ps.flatMap fun q => [.int .i64 q.2.key, q.1]

theorem cellsSh_snoc (ps : List (Value × Shf)) (v : Value) (x : Shf) : cellsSh (ps ++ [(v, x)]) = cellsSh ps ++ [.int .i64 x.key, v] := by simp [cellsSh]

theorem items_any {W : World} {v : Value} {l : List It} (T : Tys) (h : ItemsAt W v l) : Reads W v (itemsD T l) := by
  obtain ⟨T', h⟩ := h
  unfold itemsD at *
  unfold Reads at *
  exact h

theorem readsAll_sh {W : World} {g : Nat} (hg : g < W.heap.size) : ∀ (ps : List (Value × Shf)) (k : Nat), (∀ i u, (cellsSh ps)[i]? = some u → W.cell? ⟨g, 0 + (k + i), none⟩ = some u) → (∀ q ∈ ps, ItemsAt W q.1 q.2.items) → ReadsAll W (some ⟨g, 0, none⟩) k ((ps.map (·.2)).flatMap (shC T0))
  | [], k, _, _ => by
    simp only [List.map_nil, List.flatMap_nil]
    unfold ReadsAll
    trivial
  | q :: ps, k, h, hi => by
    rw [List.map_cons, List.flatMap_cons]
    show ReadsAll W _ k (intD q.2.key :: itemsD T0 q.2.items :: _)
    unfold ReadsAll
    refine ⟨⟨g, 0, .int .i64 q.2.key, rfl, hg, by simpa using h 0 (.int .i64 q.2.key) rfl, by unfold intD Reads; rfl⟩, ?_⟩
    unfold ReadsAll
    refine ⟨⟨g, 0, q.1, rfl, hg, h 1 q.1 rfl, items_any T0 (hi q (by simp))⟩, ?_⟩
    exact readsAll_sh hg ps (k + 1 + 1) (fun i u hu => by
      have := h (i + 2) u (by simpa [cellsSh] using hu)
      rw [show k + 1 + 1 + i = k + (i + 2) by omega]
      exact this) (fun q hq => hi q (by simp [hq]))

theorem shelves_of {W : World} {B : Nat} {v : Value} {ps : List (Value × Shf)} (h : W.ownsRow B 72 2 v ps.length (cellsSh ps)) (hi : ∀ q ∈ ps, ItemsAt W q.1 q.2.items) : ShelvesAt W v (ps.map (·.2)) := by
  refine ⟨T0, ?_⟩
  unfold shelvesD
  unfold Reads
  rcases h.2 with ⟨rfl, hn⟩ | ⟨g, cap, cur, rfl, h1⟩
  · have : ps = [] := List.eq_nil_of_length_eq_zero hn
    subst this
    refine ⟨none, 0, 0, rfl, rfl, ?_⟩
    simp only [List.map_nil, List.flatMap_nil]
    unfold ReadsAll
    trivial
  · refine ⟨_, ps.length, cap, rfl, by rw [flatMap_length _ 2 (fun _ => rfl)]; simp, readsAll_sh (h.lt g rfl).2 ps 0 (fun i u hu => ?_) hi⟩
    have := h.cells (g := g) rfl i u hu
    simp only [Go.WideShapes.add_plain] at this
    rw [Nat.zero_add i]
    exact this

/-- Where the items of a shelf of the row lie. -/
def Src (w : World) (vm : Value) (S : Shf) (ps : List (Value × Shf)) : Prop := ∀ q ∈ ps, (q.1 = vm ∧ q.2 = S) ∨ ItemsAt w q.1 q.2.items

theorem Src.snocS {w : World} {vm : Value} {S : Shf} {ps : List (Value × Shf)} (h : Src w vm S ps) : Src w vm S (ps ++ [(vm, S)]) := fun q hq => by
  rcases List.mem_append.1 hq with hq | hq
  · exact h q hq
  · have e : q = (vm, S) := by simpa using hq
    subst e
    exact .inl ⟨rfl, rfl⟩

theorem Src.snoc {w : World} {vm : Value} {S : Shf} {ps : List (Value × Shf)} (h : Src w vm S ps) {v : Value} {x : Shf} (hx : ItemsAt w v x.items) : Src w vm S (ps ++ [(v, x)]) := fun q hq => by
  rcases List.mem_append.1 hq with hq | hq
  · exact h q hq
  · have e : q = (v, x) := by simpa using hq
    subst e
    exact .inr hx

theorem Src.at_ {w wr : World} {vm : Value} {S : Shf} {ps : List (Value × Shf)} (h : Src w vm S ps) (hS : ItemsAt wr vm S.items) (hb : Below w.heap.size w wr) : ∀ q ∈ ps, ItemsAt wr q.1 q.2.items := fun q hq => by
  rcases h q hq with ⟨e1, e2⟩ | h1
  · rw [e1, e2]; exact hS
  · exact h1.below hb (Nat.le_refl _)

theorem put_yes {p : Pr} {key : Int} {list : List It} (h : peerOk (putOut p key list) = true) : put p key list = (putOut p key list, true) := by
  unfold put
  rw [if_pos h]

theorem put_not {p : Pr} {key : Int} {list : List It} (h : peerOk (putOut p key list) = false) : put p key list = (p, false) := by
  unfold put
  rw [if_neg (by rw [h]; decide)]

theorem putStep_here {s : Shf} {acc : List Shf × Bool} {y : Shf} (h : acc.2 = false) (h1 : s.key ≤ y.key) (h2 : y.key = s.key) : putStep s acc y = (acc.1 ++ [s], true) := by
  unfold putStep
  rw [if_pos ⟨h, h1⟩, if_pos h2]

theorem putStep_ahead {s : Shf} {acc : List Shf × Bool} {y : Shf} (h : acc.2 = false) (h1 : s.key ≤ y.key) (h2 : y.key ≠ s.key) : putStep s acc y = (acc.1 ++ [s] ++ [y], true) := by
  unfold putStep
  rw [if_pos ⟨h, h1⟩, if_neg h2]

theorem putStep_not {s : Shf} {acc : List Shf × Bool} {y : Shf} (h : acc.2 = true ∨ y.key < s.key) : putStep s acc y = (acc.1 ++ [y], acc.2) := by
  unfold putStep
  rw [if_neg (fun h1 => by
    rcases h with h | h
    · rw [h1.1] at h; cases h
    · have := h1.2; omega)]

theorem putShelves_of {s : Shf} {l : List Shf} : putShelves s l = if (putAll s (l.take l.length)).2 then (putAll s (l.take l.length)).1 else (putAll s (l.take l.length)).1 ++ [s] := by
  rw [List.take_length]
  rfl

theorem putAll_len_take (s : Shf) (l : List Shf) (k : Nat) : (putAll s (l.take k)).1.length ≤ l.length + 1 := by
  have := putAll_len' s (l.take k)
  have h2 : (l.take k).length ≤ l.length := List.length_take_le' _ _
  split at this <;> omega
theorem PeerOwn.six {W : World} {B b : Nat} {p : Pr} {v3 v4 v5 : Value} {f3 f4 f5 : List Nat} (h : PeerOwn W B p v3 v4 v5 f3 f4 f5) (hb : b < B) (a0 a1 a2 a3 a4 a5 : Value) :
    PeerOwn ((((((W.setCell ⟨b, 0, none⟩ a0).setCell ⟨b, 1, none⟩ a1).setCell ⟨b, 2, none⟩ a2).setCell ⟨b, 3, none⟩ a3).setCell ⟨b, 4, none⟩ a4).setCell ⟨b, 5, none⟩ a5) B p v3 v4 v5 f3 f4 f5 :=
  ⟨h.o3.stay (fun q hq => six_other (by have := h.b3 q hq; omega)), h.o4.stay (fun q hq => six_other (by have := h.b4 q hq; omega)), h.o5.stay (fun q hq => six_other (by have := h.b5 q hq; omega)), h.b3, h.b4, h.b5, h.d34, h.d35, h.d45⟩

theorem PeerOwn.mono {W : World} {B B' : Nat} {p : Pr} {v3 v4 v5 : Value} {f3 f4 f5 : List Nat} (h : PeerOwn W B p v3 v4 v5 f3 f4 f5) (hB : B' ≤ B) : PeerOwn W B' p v3 v4 v5 f3 f4 f5 :=
  ⟨h.o3, h.o4, h.o5, fun q hq => Nat.le_trans hB (h.b3 q hq), fun q hq => Nat.le_trans hB (h.b4 q hq), fun q hq => Nat.le_trans hB (h.b5 q hq), h.d34, h.d35, h.d45⟩
end Go.Proofs.YteladljgnbfcnaaGreat.P9
namespace Go.Proofs.YteladljgnbfcnaaGreat.P9
set_option maxRecDepth 8000
open Go.RowKit P1 P8 Da Ap Rr Rc

set_option maxRecDepth 100000 in
set_option maxHeartbeats 8000000 in
theorem specPut_calls (w : World) (p : Pr) (u3 u4 u5 vl : Value) (key : Int) (list : List It) (h3 : IntsAt w u3 p.behind) (h4 : IntsAt w u4 p.fingers) (h5 : ShelvesAt w u5 p.shelves) (hvl : ItemsAt w vl list) (hp : Small p) (hll : list.length ≤ 1048576) (hq : Small (putOut p key list)) :
    Calls Tryz.prog 106 #[prV p u3 u4 u5, .int .i64 key, vl] w fun e w' => ∃ v3 v4 v5 f3 f4 f5, e = .returned (.tuple #[prV (put p key list).1 v3 v4 v5, .bool (put p key list).2]) ∧ PeerOwn w' w.heap.size (put p key list).1 v3 v4 v5 f3 f4 f5 ∧ Below w.heap.size w w' := by
  have HY := hide (fun h => put_yes (p := p) (key := key) (list := list) h)
  have HN := hide (fun h => put_not (p := p) (key := key) (list := list) h)
  have hSF : (shelfOf p.shelves key).length ≤ 1048576 := by
    rcases shelfOf_mem (l := p.shelves) (key := key) with e | ⟨x, hx, e⟩
    · rw [e]; exact Nat.zero_le _
    · rw [e]; exact (hp.i x hx).1
  unfold putOut at HY HN hq
  obtain ⟨S, eS⟩ : ∃ S, S = putS p key list := ⟨_, rfl⟩
  rw [← eS] at HY HN hq
  have hSK : S.key = key := by rw [eS]; rfl
  have hSI : S.items = merged (shelfOf p.shelves key) list := by rw [eS]; rfl
  clear eS
  generalize put p key list = R at *
  have HP := hide hp
  have HQ := hide hq
  have hs5 := hp.s
  obtain ⟨id, here, ahead, be, fi, sh⟩ := p
  dsimp only at h3 h4 h5 hs5 HY HN HQ hSF hSI
  unfold prV
  dsimp only
  have H3 := hide h3
  have H4 := hide h4
  have H5 := hide h5
  have HL := hide hvl
  obtain ⟨a3, c3, rfl, -⟩ := h3
  obtain ⟨a4, c4, rfl, -⟩ := h4
  obtain ⟨a5, c5, e5, -⟩ := h5.open_
  subst e5
  obtain ⟨al, cl, el, -⟩ := hvl.open_
  subst el
  have HSI := hide hSI
  have HSK := hide hSK
  clear h5 hvl hp hq hSI hSK
  obtain ⟨is, hh0, hh1, hh2, hh3⟩ := info_parts info_shelf
  have hb1 := (Below.refl w.heap.size w).alloc (Nat.le_refl _) (.cells #[.int .i64 id, .bool here, .int .i64 ahead, .slice a3 be.length c3, .slice a4 fi.length c4, .slice a5 sh.length c5] 37)
  have hb2 := hb1.alloc hb1.size (.cells #[.int .i64 0, .bool false, .int .i64 0, .slice none 0 0, .slice none 0 0, .slice none 0 0] 37)
  have A0 := Blk.new w #[.int .i64 id, .bool here, .int .i64 ahead, .slice a3 be.length c3, .slice a4 fi.length c4, .slice a5 sh.length c5] 37
  have A1 := Blk.new (w.alloc (.cells #[.int .i64 id, .bool here, .int .i64 ahead, .slice a3 be.length c3, .slice a4 fi.length c4, .slice a5 sh.length c5] 37)) #[.int .i64 0, .bool false, .int .i64 0, .slice none 0 0, .slice none 0 0, .slice none 0 0] 37
  have hn (wq : World) (o : Obj) : Below wq.heap.size wq (wq.alloc o) := (Below.refl _ _).alloc (Nat.le_refl _) o
  have A0' := (A0.below (hn _ (.cells #[.int .i64 0, .bool false, .int .i64 0, .slice none 0 0, .slice none 0 0, .slice none 0 0] 37)) A0.lt)
  have e1 : (w.alloc (.cells #[.int .i64 id, .bool here, .int .i64 ahead, .slice a3 be.length c3, .slice a4 fi.length c4, .slice a5 sh.length c5] 37)).heap.size = w.heap.size + 1 := by simp
  rw [e1] at A1
  have HB := hide hb2
  clear hb1 hb2 A0 hn e1
  go_enter Tryz.func106, Tryz.ntmps106
  go_upto_region 1 with fail
  obtain ⟨s, es⟩ : ∃ s, s = w.heap.size := ⟨_, rfl⟩
  rw [← es] at A0' A1 ⊢
  have HS : Hid (w.heap.size = s) := es.symm
  clear es
  generalize (w.alloc (.cells #[.int .i64 id, .bool here, .int .i64 ahead, .slice a3 be.length c3, .slice a4 fi.length c4, .slice a5 sh.length c5] 37)).alloc (.cells #[.int .i64 0, .bool false, .int .i64 0, .slice none 0 0, .slice none 0 0, .slice none 0 0] 37) = w1 at *
  have c0 := blk_free_cell A0' 0 rfl
  have c1 := blk_free_cell A0' 1 rfl
  have c2 := blk_free_cell A0' 2 rfl
  have c3' := blk_free_cell A0' 3 rfl
  have c4' := blk_free_cell A0' 4 rfl
  have c5' := blk_free_cell A0' 5 rfl
  have l0 := A0'.lt
  go_wp2_with fail
  refine (copyPeer_calls w1 ⟨id, here, ahead, be, fi, sh⟩ _ _ _ (H3.out.below HB.out (Nat.le_refl _)) (H4.out.below HB.out (Nat.le_refl _)) (H5.out.below HB.out (Nat.le_refl _)) HP.out).mono ?_
  rintro e wc ⟨v3, v4, v5, f3, f4, f5, rfl, ho, hbc⟩
  unfold prV
  dsimp only
  have hsh3 : ∃ b3 d3, v3 = .slice b3 be.length d3 := by
    obtain ⟨x, y, h, -⟩ := ints_of ho.o3.reads
    exact ⟨_, _, h⟩
  have hsh4 : ∃ b3 d3, v4 = .slice b3 fi.length d3 := by
    obtain ⟨x, y, h, -⟩ := ints_of ho.o4.reads
    exact ⟨_, _, h⟩
  have hsh5 : ∃ b3 d3, v5 = .slice b3 sh.length d3 := by
    obtain ⟨x, y, h, -⟩ := ShelvesAt.open_ ⟨_, ho.o5.reads⟩
    exact ⟨_, _, h⟩
  obtain ⟨b3, d3, rfl⟩ := hsh3
  obtain ⟨b4, d4, rfl⟩ := hsh4
  obtain ⟨b5, d5, rfl⟩ := hsh5
  clear c0 c1 c2 c3' c4' c5' l0
  go_upto_region 2 with fail
  have YO := Blk.new wc #[.int .i64 id, .bool here, .int .i64 ahead, .slice b3 be.length d3, .slice b4 fi.length d4, .slice b5 sh.length d5] 37
  have hbo := (Below.refl wc.heap.size wc).alloc (Nat.le_refl _) (.cells #[.int .i64 id, .bool here, .int .i64 ahead, .slice b3 be.length d3, .slice b4 fi.length d4, .slice b5 sh.length d5] 37)
  have hb13 := hbc.trans (hbo.mono hbc.size)
  have X0 := A0'.below hb13 A0'.lt
  have X1 := A1.below hb13 A1.lt
  have HB3 := hide (HB.out.trans (hb13.mono HB.out.size))
  have HO3 := hide (owns_below ho.o3 hbo)
  have HO4 := hide (owns_below ho.o4 hbo)
  have hl1 := A1.lt
  have hlt3 := ho.o3.lt
  have hlt4 := ho.o4.lt
  have h1c := hbc.size
  obtain ⟨bo, ebo⟩ : ∃ b, b = wc.heap.size := ⟨_, rfl⟩
  rw [← ebo] at YO hlt3 hlt4 h1c ⊢
  have HF3 : Hid (∀ q ∈ f3, s + 1 < q ∧ q < bo) := fun q hq => by
    have := ho.b3 q hq
    have := hlt3 q hq
    omega
  have HF4 : Hid (∀ q ∈ f4, s + 1 < q ∧ q < bo) := fun q hq => by
    have := ho.b4 q hq
    have := hlt4 q hq
    omega
  have hso : s + 1 < bo := by omega
  clear ebo hbo hb13 A0' A1 HB ho hbc hlt3 hlt4 hl1 h1c
  generalize wc.alloc (.cells #[.int .i64 id, .bool here, .int .i64 ahead, .slice b3 be.length d3, .slice b4 fi.length d4, .slice b5 sh.length d5] 37) = w3 at *
  have c0 := blk_free_cell X0 0 rfl
  have c1 := blk_free_cell X0 1 rfl
  have c2 := blk_free_cell X0 2 rfl
  have c3' := blk_free_cell X0 3 rfl
  have c4' := blk_free_cell X0 4 rfl
  have c5' := blk_free_cell X0 5 rfl
  have l0 := X0.lt
  have CSh := hide (specShelf_calls w3 ⟨id, here, ahead, be, fi, sh⟩ (.slice a3 be.length c3) (.slice a4 fi.length c4) (.slice a5 sh.length c5) key (H5.out.below HB3.out (Nat.le_refl _)) HP.out)
  unfold prV at CSh
  dsimp only at CSh
  go_wp2_with fail
  refine CSh.out.mono ?_
  rintro e w4 ⟨vs, rfl, hos, hb4⟩
  obtain ⟨fs, os, -⟩ := items_owned hos
  obtain ⟨as_, cs_, hsh⟩ := own_sh hos
  subst hsh
  have HB4 := hide (HB3.out.trans (hb4.mono HB3.out.size))
  have CMg := hide (specMerged_calls w4 (.slice as_ (shelfOf sh key).length cs_) (.slice al list.length cl) (shelfOf sh key) list ⟨T0, os.reads⟩ (HL.out.below HB4.out (Nat.le_refl _)) hSF hll)
  rw [← HSI.out] at CMg
  clear CSh os hos c0 c1 c2 c3' c4' c5' l0
  go_wp2_with fail
  refine CMg.out.mono ?_
  rintro e w5 ⟨vm, rfl, hom, hb5⟩
  obtain ⟨fm, om, gm⟩ := items_owned hom
  obtain ⟨am, cm, hsh⟩ := own_sh hom
  subst hsh
  clear CMg hom
  go_upto_region 3 with fail
  have hb45 := hb4.trans (hb5.mono hb4.size)
  have YS := Blk.new w5 #[.int .i64 key, .slice am S.items.length cm] 72
  have hbs := (Below.refl w5.heap.size w5).alloc (Nat.le_refl _) (.cells #[.int .i64 key, .slice am S.items.length cm] 72)
  have hb36 := hb45.trans (hbs.mono hb45.size)
  have Z0 := X0.below hb36 X0.lt
  have Z1 := X1.below hb36 X1.lt
  have ZO := YO.below hb36 YO.lt
  have HB6 := hide (HB3.out.trans (hb36.mono HB3.out.size))
  have HO3' := hide (owns_below HO3.out hb36)
  have HO4' := hide (owns_below HO4.out hb36)
  have HOM := hide (owns_below om hbs)
  have hbow3 := YO.lt
  have h45 := hb4.size
  have h55 := hb5.size
  have hszS : (w5.alloc (.cells #[.int .i64 key, .slice am S.items.length cm] 72)).heap.size = w5.heap.size + 1 := by simp
  obtain ⟨bs, ebs⟩ : ∃ b, b = w5.heap.size := ⟨_, rfl⟩
  rw [← ebs] at YS hszS h55 ⊢
  have HFM : Hid (∀ q ∈ fm, bo < q) := fun q hq => by
    have := gm q hq
    omega
  have hsb : bo < bs := by omega
  clear ebs hbs hb36 hb45 hb5 hb4 h45 h55 X0 X1 YO HB3 HO3 HO4 om gm hbow3 HB4
  generalize w5.alloc (.cells #[.int .i64 key, .slice am S.items.length cm] 72) = w6 at *
  have fr5 := ZO.free 5
  have k5 := ZO.cell 5
  have k2l := ZO.lt
  go_upto_region 4 with fail
  have eW : (w6.setCell ⟨bo, 5, none⟩ (.slice (some ⟨bs + 1, 0, none⟩) 0 0)).heap.size = bs + 1 := by simp [hszS]
  have Q9 := ZO.set 5 (.slice (some ⟨bs + 1, 0, none⟩) 0 0)
  simp only [List.set_cons_succ, List.set_cons_zero] at Q9
  have hO8 : Only [bo] w6 (w6.setCell ⟨bo, 5, none⟩ (.slice (some ⟨bs + 1, 0, none⟩) 0 0)) := (Only.refl [bo] w6).setCell (p := ⟨bo, 5, none⟩) (by simp) _
  have hR9 := (shelves_lit0 (w6.setCell ⟨bo, 5, none⟩ (.slice (some ⟨bs + 1, 0, none⟩) 0 0))).row
  rw [eW] at hR9
  have hba := (Below.refl (w6.setCell ⟨bo, 5, none⟩ (.slice (some ⟨bs + 1, 0, none⟩) 0 0)).heap.size (w6.setCell ⟨bo, 5, none⟩ (.slice (some ⟨bs + 1, 0, none⟩) 0 0))).alloc (Nat.le_refl _) (.cells #[] 72)
  have Q10 := hide (Q9.below hba Q9.lt)
  have HO9 := hide (hO8.trans (Only.of_below hba))
  have HR9 : Hid (((w6.setCell ⟨bo, 5, none⟩ (.slice (some ⟨bs + 1, 0, none⟩) 0 0)).alloc (.cells #[] 72)).ownsRow (bs + 1) 72 2 (.slice (some ⟨bs + 1, 0, none⟩) 0 0) ([] : List (Value × Shf)).length (cellsSh [])) := hR9
  have HZ0 := hide Z0
  have HZ1 := hide Z1
  have HYS := hide YS
  clear eW Q9 hO8 hR9 hba fr5 k5 k2l Z0 Z1 ZO YS
  generalize ((w6.setCell ⟨bo, 5, none⟩ (.slice (some ⟨bs + 1, 0, none⟩) 0 0)).alloc (.cells #[] 72)) = w9 at *
  go_wp2_with fail
  go_loopw [10, 11] (fun pv iv wr => ∃ (k : Nat) (rv : Value) (ps : List (Value × Shf)), k ≤ sh.length ∧ iv = .int .i64 k ∧ pv = .bool (putAll S (sh.take k)).2 ∧ Hid (ps.map (·.2) = (putAll S (sh.take k)).1) ∧ Hid (Src w (.slice am S.items.length cm) S ps) ∧ Hid (Blk wr bo [.int .i64 id, .bool here, .int .i64 ahead, .slice b3 be.length d3, .slice b4 fi.length d4, rv] 37) ∧ Hid (wr.ownsRow (bs + 1) 72 2 rv ps.length (cellsSh ps)) ∧ Hid (Only [bo] w6 wr)) (fun _ iv _ => sh.length - (intOf iv).toNat)
  case atStart => exact ⟨0, _, [], Nat.zero_le _, rfl, rfl, rfl, (fun q hq => by cases hq), Q10.out, HR9.out, HO9.out⟩
  case round =>
    clear Q10 HR9 HO9
    obtain ⟨k, rv, ps, hk, rfl, rfl, HM, HSr, HQ', HRr, HXr⟩ := hrel
    obtain ⟨ar, cr, hsh⟩ := own_sh HRr.out
    subst hsh
    have hzr := HXr.out.size
    rw [hszS] at hzr
    have hpl : ps.length ≤ 1048577 := by
      have h1 := putAll_len_take S sh k
      have h2 : ps.length = (ps.map (·.2)).length := by simp
      rw [h2, HM.out]
      omega
    have A0 := only_blk HXr.out HZ0.out (by simp; omega)
    have AS := only_blk HXr.out HYS.out (by simp; omega)
    have hBr : Below w.heap.size w wr := HB6.out.trans (HXr.out.below HB6.out.size (fun q hq => by have := HS.out; simp at hq; omega))
    have HBr := hide hBr
    by_cases hlt : k < sh.length
    · obtain ⟨ax, cx, hax, HA⟩ := (H5.out.below hBr (Nat.le_refl _)).open_
      cases hax
      obtain ⟨g, off, u, rfl, hg, f0, f1, hit⟩ := HA k hlt
      have HPS := hide (putAll_succ (s := S) hlt)
      obtain ⟨ax2, cx2, hax2, HA2⟩ := H5.out.open_
      cases hax2
      obtain ⟨g2, off2, u2, eg, hg2, f02, f12, hit2⟩ := HA2 k hlt
      cases eg
      have eu : u = u2 := by
        have := (hBr.cell (p := ⟨g, off + k * 2 + 1, none⟩) hg2).trans f12
        rw [f1] at this
        exact Option.some.inj this
      subst eu
      clear HA HA2 f1 hBr hit
      generalize sh[k] = x at *
      obtain ⟨xk, xi⟩ := x
      dsimp only at f0 f02 hit2
      obtain ⟨ai, ci, hsi, -⟩ := hit2.open_
      subst hsi
      have HF02 := hide f02
      have HF12 := hide f12
      have HIT := hide hit2
      have hgw := hg2
      clear f02 f12 hit2 hg2
      generalize putAll S (sh.take k) = PA at *
      obtain ⟨PL, pb⟩ := PA
      dsimp only at HM ⊢
      have c5' := blk_free_cell A0 5 rfl
      have l0 := A0.lt
      have q5 := blk_free_cell HQ'.out 5 rfl
      have qf5 := HQ'.out.free 5
      have ql := HQ'.out.lt
      have s0 := blk_free_cell AS 0 rfl
      have s1 := blk_free_cell AS 1 rfl
      have sl := AS.lt
      by_cases hE : pb = false ∧ xk = key
      · obtain ⟨rfl, heq⟩ := hE
        have hgd : decide (xk ≥ key) = true := decide_eq_true (by omega)
        have hek : (xk == key) = true := by simpa using heq
        have HTq : Hid (putAll S (sh.take (k + 1)) = (ps.map (·.2) ++ [S], true)) := by show _ = _; rw [HPS.out, putStep_here rfl (by rw [HSK.out]; show key ≤ xk; omega) (by rw [HSK.out]; exact heq), HM.out]
        clear HPS heq
        go_wp2_with (at_builtin; refine wpList_append_keep (cs := #[.int .i64 key, .slice am S.items.length cm]) hzr rfl (.tmp 43) (.tmp 45) 35 rfl 72 is (.agg #[.int .i64 0, .slice none 0 0]) 2 32 Tryz.underlying35 hh0 hh1 hh2 hh3 rfl (by decide) rfl (by simp [Value.oneCell']) (.slice ar ps.length cr) _ _ rfl HRr.out 1 rfl (by omega) (by omega) ?_)
        intro v6 wx hown hgrew
        obtain ⟨aq, cq, hsh⟩ := own_sh hown
        subst hsh
        have hrow : wx.ownsRow (bs + 1) 72 2 (.slice aq (ps.length + 1) cq) (ps.length + 1) (cellsSh (ps ++ [(.slice am S.items.length cm, S)])) := by rw [cellsSh_snoc, HSK.out]; exact hown
        have HSq := hide (HSr.out.snocS)
        obtain ⟨pq, epq⟩ : ∃ q, q = ps ++ [(.slice am S.items.length cm, S)] := ⟨_, rfl⟩
        have elen : ps.length + 1 = pq.length := by rw [epq]; simp
        have emap : pq.map (·.2) = ps.map (·.2) ++ [S] := by rw [epq]; simp
        rw [← epq, elen] at hrow
        rw [← epq] at HSq
        rw [elen] at hgrew ⊢
        have hb6 : ∀ q, (Value.slice ar ps.length cr).ownBlock = some q → bs + 1 ≤ q := fun q hq => (HRr.out.lt q hq).1
        have hQx := blk_grownR HQ'.out hgrew.by_ (fun e => by have := hb6 _ e; omega)
        have HXq := hide ((only_grown HXr.out hgrew.by_ (fun q hq => by have := hb6 q hq; omega)).setCell (p := ⟨bo, 5, none⟩) (by simp) (.slice aq pq.length cq))
        have HQq := hide (hQx.set 5 (.slice aq pq.length cq))
        have HRq := hide (ownsRow_setCell_other hrow (a := ⟨bo, 5, none⟩) (fun e => by have := (hrow.lt bo e).1; omega) (.slice aq pq.length cq))
        have q5 := blk_free_cell hQx 5 rfl
        have qf5 := hQx.free 5
        have ql := hQx.lt
        have hpq : pq.length ≤ 1048578 := by omega
        clear hown hgrew hrow hb6 hQx epq hpl HSr HQ' HRr HXr c5' l0 s0 s1 sl f0 A0 AS HBr hzr
        go_upto_region 10 with fail
        generalize wx.setCell ⟨bo, 5, none⟩ (.slice aq pq.length cq) = wq at *
        have A0 := only_blk HXq.out HZ0.out (by simp; omega)
        have hBq : Below w.heap.size w wq := HB6.out.trans (HXq.out.below HB6.out.size (fun q hq => by have := HS.out; simp at hq; omega))
        have c5' := blk_free_cell A0 5 rfl
        have l0 := A0.lt
        have f0 := (hBq.cell (p := ⟨g, off + k * 2, none⟩) hgw).trans HF02.out
        have hgq : g < wq.heap.size := by have := hBq.size; omega
        clear q5 qf5 ql hBq
        go_wp2
        go_roundw
        case rel => exact ⟨k + 1, _, pq, by omega, by go_num, by rw [HTq.out], (by show _ = _; rw [HTq.out, emap]), HSq.out, HQq.out, HRq.out, HXq.out⟩
        case measure => simp [intOf]; omega
      · have h3 : pb = true ∨ (pb = false ∧ xk < key) ∨ (pb = false ∧ key < xk) := by
          cases pb with
          | true => exact .inl rfl
          | false =>
            rcases Int.lt_trichotomy xk key with h | h | h
            · exact .inr (.inl ⟨rfl, h⟩)
            · exact absurd ⟨rfl, h⟩ hE
            · exact .inr (.inr ⟨rfl, h⟩)
        clear hE
        rcases h3 with h3 | h3 | h3
        case' inl =>
          subst h3
          have HTq : Hid (putAll S (sh.take (k + 1)) = (ps.map (·.2) ++ [⟨xk, xi⟩], true)) := by show _ = _; rw [HPS.out, putStep_not (.inl rfl), HM.out]
          clear HPS
          go_upto_region 12 with fail
          have HSq := HSr
          have HQq := HQ'
          have HRq := HRr
          have HXq := HXr
          have hpq : ps.length ≤ 1048578 := by omega
          clear hpl HSr HQ' HRr HXr c5' l0 s0 s1 sl f0 A0 AS HBr hzr q5 qf5 ql
          generalize wr = wq at *
          generalize ps = pq at *
          generalize ar = aq at *
          generalize cr = cq at *
        case' inr.inl =>
          obtain ⟨rfl, h3⟩ := h3
          have hgd : decide (xk ≥ key) = false := decide_eq_false (by omega)
          have HTq : Hid (putAll S (sh.take (k + 1)) = (ps.map (·.2) ++ [⟨xk, xi⟩], false)) := by show _ = _; rw [HPS.out, putStep_not (.inr (by rw [HSK.out]; exact h3)), HM.out]
          clear HPS h3
          go_upto_region 12 with fail
          have HSq := HSr
          have HQq := HQ'
          have HRq := HRr
          have HXq := HXr
          have hpq : ps.length ≤ 1048578 := by omega
          clear hpl HSr HQ' HRr HXr c5' l0 s0 s1 sl f0 A0 AS HBr hzr q5 qf5 ql
          generalize wr = wq at *
          generalize ps = pq at *
          generalize ar = aq at *
          generalize cr = cq at *
        case' inr.inr =>
          obtain ⟨rfl, h3⟩ := h3
          have hgd : decide (xk ≥ key) = true := decide_eq_true (by omega)
          have hek : (xk == key) = false := by simpa using (by omega : xk ≠ key)
          have HTq : Hid (putAll S (sh.take (k + 1)) = (ps.map (·.2) ++ [S] ++ [⟨xk, xi⟩], true)) := by show _ = _; rw [HPS.out, putStep_ahead rfl (by rw [HSK.out]; show key ≤ xk; omega) (by rw [HSK.out]; show xk ≠ key; omega), HM.out]
          clear HPS h3
          go_wp2_with (at_builtin; refine wpList_append_keep (cs := #[.int .i64 key, .slice am S.items.length cm]) hzr rfl (.tmp 43) (.tmp 45) 35 rfl 72 is (.agg #[.int .i64 0, .slice none 0 0]) 2 32 Tryz.underlying35 hh0 hh1 hh2 hh3 rfl (by decide) rfl (by simp [Value.oneCell']) (.slice ar ps.length cr) _ _ rfl HRr.out 1 rfl (by omega) (by omega) ?_)
          intro v6 wx hown hgrew
          obtain ⟨aq, cq, hsh⟩ := own_sh hown
          subst hsh
          have hrow : wx.ownsRow (bs + 1) 72 2 (.slice aq (ps.length + 1) cq) (ps.length + 1) (cellsSh (ps ++ [(.slice am S.items.length cm, S)])) := by rw [cellsSh_snoc, HSK.out]; exact hown
          have HSq := hide (HSr.out.snocS)
          obtain ⟨pq, epq⟩ : ∃ q, q = ps ++ [(.slice am S.items.length cm, S)] := ⟨_, rfl⟩
          have elen : ps.length + 1 = pq.length := by rw [epq]; simp
          have emap : pq.map (·.2) = ps.map (·.2) ++ [S] := by rw [epq]; simp
          rw [← epq, elen] at hrow
          rw [← epq] at HSq
          rw [elen] at hgrew ⊢
          have hb6 : ∀ q, (Value.slice ar ps.length cr).ownBlock = some q → bs + 1 ≤ q := fun q hq => (HRr.out.lt q hq).1
          have hQx := blk_grownR HQ'.out hgrew.by_ (fun e => by have := hb6 _ e; omega)
          have HXq := hide ((only_grown HXr.out hgrew.by_ (fun q hq => by have := hb6 q hq; omega)).setCell (p := ⟨bo, 5, none⟩) (by simp) (.slice aq pq.length cq))
          have HQq := hide (hQx.set 5 (.slice aq pq.length cq))
          have HRq := hide (ownsRow_setCell_other hrow (a := ⟨bo, 5, none⟩) (fun e => by have := (hrow.lt bo e).1; omega) (.slice aq pq.length cq))
          have q5 := blk_free_cell hQx 5 rfl
          have qf5 := hQx.free 5
          have ql := hQx.lt
          have hpq : pq.length ≤ 1048578 := by omega
          clear hown hgrew hrow hb6 hQx epq hpl HSr HQ' HRr HXr c5' l0 s0 s1 sl f0 A0 AS HBr hzr
          go_upto_region 10 with fail
          generalize wx.setCell ⟨bo, 5, none⟩ (.slice aq pq.length cq) = wq at *
          have A0 := only_blk HXq.out HZ0.out (by simp; omega)
          have hBq : Below w.heap.size w wq := HB6.out.trans (HXq.out.below HB6.out.size (fun q hq => by have := HS.out; simp at hq; omega))
          have c5' := blk_free_cell A0 5 rfl
          have l0 := A0.lt
          have f0 := (hBq.cell (p := ⟨g, off + k * 2, none⟩) hgw).trans HF02.out
          have hgq : g < wq.heap.size := by have := hBq.size; omega
          clear q5 qf5 ql hBq
          rw [← emap] at HTq
          go_upto_region 12 with fail
          clear emap c5' l0 f0 hgq A0 elen HM
        all_goals
          have hzq : bs + 1 ≤ wq.heap.size := by have := HXq.out.size; omega
          have A0 := only_blk HXq.out HZ0.out (by simp; omega)
          have hBq : Below w.heap.size w wq := HB6.out.trans (HXq.out.below HB6.out.size (fun q hq => by have := HS.out; simp at hq; omega))
          have f0 := (hBq.cell (p := ⟨g, off + k * 2, none⟩) hgw).trans HF02.out
          have f1 := (hBq.cell (p := ⟨g, off + k * 2 + 1, none⟩) hgw).trans HF12.out
          have hgq : g < wq.heap.size := by have := hBq.size; omega
          have n5 : ∀ p : Near wq.heap.size wq, p.w.cell? ⟨s, 5, none⟩ = some (.slice (some ⟨g, off, none⟩) sh.length c5) := fun p => blk_free_cell (A0.below p.h A0.lt) 5 rfl
          have n8 : ∀ p : Near wq.heap.size wq, p.w.cell? ⟨bo, 5, none⟩ = some (.slice aq pq.length cq) := fun p => blk_free_cell (HQq.out.below p.h HQq.out.lt) 5 rfl
          have nk : ∀ p : Near wq.heap.size wq, p.w.cell? ⟨g, off + k * 2, none⟩ = some (.int .i64 xk) := fun p => (p.h.cell (p := ⟨g, off + k * 2, none⟩) hgq).trans f0
          have nu : ∀ p : Near wq.heap.size wq, p.w.cell? ⟨g, off + k * 2 + 1, none⟩ = some (.slice ai xi.length ci) := fun p => (p.h.cell (p := ⟨g, off + k * 2 + 1, none⟩) hgq).trans f1
          have hnn := Near.some wq.heap.size wq
          clear f0 f1 A0 hBq
          refine wp_region_open (fun wd => ∃ p : Near wq.heap.size wq, wd = p.w) ⟨⟨_, (Below.refl _ _).drew⟩, rfl⟩ (by kernel_rfl) ?_
          rintro wd ⟨pd, rfl⟩
          refine wpAny_of_K (c := 8) (D := fun w' => ∃ p : Near wq.heap.size wq, w' = p.w) _ _ _ _ ?_
          refine wpAnyK_seg_lit4 0 7 8 4 rfl (by decide) (by decide) (by kernel_rfl) (by kernel_rfl) (by kernel_rfl) (by kernel_rfl) (fun _ _ _ _ _ h => h) ⟨pd, rfl⟩ ?_
          simp only [List.take_succ_cons, List.take_zero, List.drop_zero]
          repeat (go_big_quiet_step (fail))
          refine wpQuiet_nil ?_
          clear n5 n8 nk nu hnn
          have hps := pd.h.size
          refine wpAnyK_value (i := 7) (v := .slice (some ⟨pd.w.heap.size, 0, none⟩) 1 1) (w' := pd.w.alloc (.cells #[.int .i64 xk, .slice ai xi.length ci] 72)) (by kernel_rfl) rfl rfl (by simp [execOp, go_sem]) ⟨⟨_, pd.h.alloc hps _⟩, rfl⟩ ?_
          simp only [Act.put, List.setIfInBounds_toArray, List.set_cons_succ, List.set_cons_zero]
          refine wpAnyK_last (by kernel_rfl) (by decide) ?_
          refine wpAny_rest 8 rfl (by kernel_rfl) ?_
          simp only [List.drop_succ_cons, List.drop_zero]
          have HRp := hide (own_below HRq.out pd.h)
          have HQp := hide (HQq.out.below pd.h HQq.out.lt)
          have HXp := hide (HXq.out.trans (Only.of_below pd.h))
          have hzp : bs + 1 ≤ pd.w.heap.size := by omega
          clear HRq HQq HXq hps hzq hgq
          go_wp2_with (at_builtin; refine wpList_append_keep (cs := #[.int .i64 xk, .slice ai xi.length ci]) hzp rfl (.tmp 57) (.tmp 63) 35 rfl 72 is (.agg #[.int .i64 0, .slice none 0 0]) 2 32 Tryz.underlying35 hh0 hh1 hh2 hh3 rfl (by decide) rfl (by simp [Value.oneCell']) (.slice aq pq.length cq) _ _ rfl HRp.out 1 rfl (by omega) (by omega) ?_)
          intro vx wx hown hgrew
          obtain ⟨ax, cx', hsh⟩ := own_sh hown
          subst hsh
          have hrow : wx.ownsRow (bs + 1) 72 2 (.slice ax (pq.length + 1) cx') (pq.length + 1) (cellsSh (pq ++ [((Value.slice ai xi.length ci), (⟨xk, xi⟩ : Shf))])) := by rw [cellsSh_snoc]; exact hown
          have HSn := hide (HSq.out.snoc (x := ⟨xk, xi⟩) HIT.out)
          obtain ⟨pn, epn⟩ : ∃ q, q = pq ++ [((Value.slice ai xi.length ci), (⟨xk, xi⟩ : Shf))] := ⟨_, rfl⟩
          have elen : pq.length + 1 = pn.length := by rw [epn]; simp
          have EMN : Hid (pn.map (·.2) = pq.map (·.2) ++ [⟨xk, xi⟩]) := by show _ = _; rw [epn]; simp
          rw [← epn, elen] at hrow
          rw [← epn] at HSn
          rw [elen] at hown hgrew ⊢
          clear epn
          have hb6 : ∀ q, (Value.slice aq pq.length cq).ownBlock = some q → bs + 1 ≤ q := fun q hq => (HRp.out.lt q hq).1
          have hQx := blk_grownR HQp.out hgrew.by_ (fun e => by have := hb6 _ e; omega)
          have HXx := hide ((only_grown HXp.out hgrew.by_ (fun q hq => by have := hb6 q hq; omega)).setCell (p := ⟨bo, 5, none⟩) (by simp) (.slice ax pn.length cx'))
          have HQx := hide (hQx.set 5 (.slice ax pn.length cx'))
          have HRx := hide (ownsRow_setCell_other hrow (a := ⟨bo, 5, none⟩) (fun e => by have := (hown.lt bo e).1; omega) (.slice ax pn.length cx'))
          have q5 := blk_free_cell hQx 5 rfl
          have qf5 := hQx.free 5
          have ql := hQx.lt
          clear hown hgrew hrow hb6 hQx HRp HQp HXp
          go_wp2
          go_roundw
          case rel => exact ⟨k + 1, _, pn, by omega, by go_num, by rw [HTq.out], (by show _ = _; rw [HTq.out, EMN.out]), HSn.out, HQx.out, HRx.out, HXx.out⟩
          case measure => simp [intOf]; omega
    · obtain rfl : k = sh.length := by omega
      have HPE := hide (putShelves_of (s := S) (l := sh))
      generalize putAll S (sh.take sh.length) = PA at *
      obtain ⟨PL, pb⟩ := PA
      dsimp only at HM HPE ⊢
      have q5 := blk_free_cell HQ'.out 5 rfl
      have qf5 := HQ'.out.free 5
      have ql := HQ'.out.lt
      have c5' := blk_free_cell A0 5 rfl
      have l0 := A0.lt
      have s0 := blk_free_cell AS 0 rfl
      have s1 := blk_free_cell AS 1 rfl
      have sl := AS.lt
      rcases pb with _ | _
      case' true =>
        have HEND : Hid (ps.map (·.2) = putShelves S sh) := by show _ = _; rw [HPE.out, HM.out]; rfl
        clear HPE
        go_upto_region 15 with fail
        have HSq := HSr
        have HQq := HQ'
        have HRq := HRr
        have HXq := HXr
        clear hpl HSr HQ' HRr HXr s0 s1 sl A0 AS HBr hzr q5 qf5 ql HM hBr c5' l0
        generalize wr = wq at *
        generalize ps = pq at *
        generalize ar = aq at *
        generalize cr = cq at *
      case' false =>
        go_wp2_with (at_builtin; refine wpList_append_keep (cs := #[.int .i64 key, .slice am S.items.length cm]) hzr rfl (.tmp 69) (.tmp 71) 35 rfl 72 is (.agg #[.int .i64 0, .slice none 0 0]) 2 32 Tryz.underlying35 hh0 hh1 hh2 hh3 rfl (by decide) rfl (by simp [Value.oneCell']) (.slice ar ps.length cr) _ _ rfl HRr.out 1 rfl (by omega) (by omega) ?_)
        intro v6 wx hown hgrew
        obtain ⟨aq, cq, hsh⟩ := own_sh hown
        subst hsh
        have hrow : wx.ownsRow (bs + 1) 72 2 (.slice aq (ps.length + 1) cq) (ps.length + 1) (cellsSh (ps ++ [(.slice am S.items.length cm, S)])) := by rw [cellsSh_snoc, HSK.out]; exact hown
        have HSq := hide (HSr.out.snocS)
        obtain ⟨pq, epq⟩ : ∃ q, q = ps ++ [(.slice am S.items.length cm, S)] := ⟨_, rfl⟩
        have elen : ps.length + 1 = pq.length := by rw [epq]; simp
        have HEND : Hid (pq.map (·.2) = putShelves S sh) := by show _ = _; rw [epq, HPE.out, List.map_append, HM.out]; rfl
        rw [← epq, elen] at hrow
        rw [← epq] at HSq
        rw [elen] at hgrew ⊢
        have hb6 : ∀ q, (Value.slice ar ps.length cr).ownBlock = some q → bs + 1 ≤ q := fun q hq => (HRr.out.lt q hq).1
        have hQx := blk_grownR HQ'.out hgrew.by_ (fun e => by have := hb6 _ e; omega)
        have HXq := hide ((only_grown HXr.out hgrew.by_ (fun q hq => by have := hb6 q hq; omega)).setCell (p := ⟨bo, 5, none⟩) (by simp) (.slice aq pq.length cq))
        have HQq := hide (hQx.set 5 (.slice aq pq.length cq))
        have HRq := hide (ownsRow_setCell_other hrow (a := ⟨bo, 5, none⟩) (fun e => by have := (hrow.lt bo e).1; omega) (.slice aq pq.length cq))
        have q5 := blk_free_cell hQx 5 rfl
        have qf5 := hQx.free 5
        have ql := hQx.lt
        clear hown hgrew hrow hb6 hQx epq hpl HSr HQ' HRr HXr s0 s1 sl A0 AS HBr hzr HM HPE hBr
        go_upto_region 15 with fail
        generalize wx.setCell ⟨bo, 5, none⟩ (.slice aq pq.length cq) = wq at *
        clear q5 qf5 ql
        clear elen c5' l0
      all_goals
        have A0 := only_blk HXq.out HZ0.out (by simp; omega)
        have A1 := only_blk HXq.out HZ1.out (by simp; omega)
        have hBq : Below w.heap.size w wq := HB6.out.trans (HXq.out.below HB6.out.size (fun q hq => by have := HS.out; simp at hq; omega))
        have o3 := owns_only HO3'.out HXq.out (fun q hq => by have := HF3.out q hq; simp; omega)
        have o4 := owns_only HO4'.out HXq.out (fun q hq => by have := HF4.out q hq; simp; omega)
        have om := owns_only HOM.out HXq.out (fun q hq => by have := HFM.out q hq; simp; omega)
        have hsv := shelves_of HRq.out (HSq.out.at_ ⟨T0, om.reads⟩ hBq)
        rw [HEND.out] at hsv
        have HSV := hide hsv
        have HI3 := hide (ints_of o3.reads)
        have HI4 := hide (ints_of o4.reads)
        have CPk := hide (specPeerOk_calls wq ⟨id, here, ahead, be, fi, putShelves S sh⟩ (.slice b3 be.length d3) (.slice b4 fi.length d4) (.slice aq pq.length cq) HI3.out HI4.out hsv HQ.out)
        unfold prV at CPk
        dsimp only at CPk
        have q0 := blk_free_cell HQq.out 0 rfl
        have q1 := blk_free_cell HQq.out 1 rfl
        have q2 := blk_free_cell HQq.out 2 rfl
        have q3 := blk_free_cell HQq.out 3 rfl
        have q4 := blk_free_cell HQq.out 4 rfl
        have q5 := blk_free_cell HQq.out 5 rfl
        have ql := HQq.out.lt
        have HBq := hide hBq
        obtain ⟨ok, eok⟩ : ∃ b, b = peerOk ⟨id, here, ahead, be, fi, putShelves S sh⟩ := ⟨_, rfl⟩
        rw [← eok] at CPk HY HN
        have HEND2 := hide (show pq.length = (putShelves S sh).length by rw [← HEND.out, List.length_map])
        clear hsv o3 o4 om hBq HEND eok HRq HSq HXq
        go_wp2_with fail
        refine CPk.out.mono ?_
        rintro e wp ⟨rfl, hbp⟩
        have HBp := hide (HBq.out.trans (hbp.mono HBq.out.size))
        have A0p := A0.below hbp A0.lt
        have D1p := A1.below hbp A1.lt
        have HQp := HQq.out.below hbp HQq.out.lt
        clear CPk q0 q1 q2 q3 q4 q5 ql A0 A1 HQq HBq
        cases ok with
        | false =>
          have HR := hide (HN.out rfl)
          clear HY HN
          have c0 := blk_free_cell A0p 0 rfl
          have c1 := blk_free_cell A0p 1 rfl
          have c2 := blk_free_cell A0p 2 rfl
          have c3' := blk_free_cell A0p 3 rfl
          have c4' := blk_free_cell A0p 4 rfl
          have c5' := blk_free_cell A0p 5 rfl
          have l0 := A0p.lt
          have HC := hide (copyPeer_calls wp ⟨id, here, ahead, be, fi, sh⟩ _ _ _ (H3.out.below HBp.out (Nat.le_refl _)) (H4.out.below HBp.out (Nat.le_refl _)) (H5.out.below HBp.out (Nat.le_refl _)) HP.out)
          unfold prV at HC
          dsimp only at HC
          clear hbp
          go_wp2_with fail
          refine HC.out.mono ?_
          rintro e wv ⟨v3, v4, v5, g3, g4, g5, rfl, hov, hbv⟩
          have hsh3 : ∃ b3 d3, v3 = .slice b3 be.length d3 := by
            obtain ⟨x, y, h, -⟩ := ints_of hov.o3.reads
            exact ⟨_, _, h⟩
          have hsh4 : ∃ b3 d3, v4 = .slice b3 fi.length d3 := by
            obtain ⟨x, y, h, -⟩ := ints_of hov.o4.reads
            exact ⟨_, _, h⟩
          have hsh5 : ∃ b3 d3, v5 = .slice b3 sh.length d3 := by
            obtain ⟨x, y, h, -⟩ := ShelvesAt.open_ ⟨_, hov.o5.reads⟩
            exact ⟨_, _, h⟩
          obtain ⟨x3, e3, rfl⟩ := hsh3
          obtain ⟨x4, e4, rfl⟩ := hsh4
          obtain ⟨x5, e5, rfl⟩ := hsh5
          have HPO := hide hov
          have HBv := hide (HBp.out.trans (hbv.mono HBp.out.size))
          have D1 := D1p.below hbv D1p.lt
          have hlp := D1p.lt
          clear HC c0 c1 c2 c3' c4' c5' l0 hov hbv A0p HQp D1p
          have z0 := blk_free_cell D1 0 rfl
          have z1 := blk_free_cell D1 1 rfl
          have z2 := blk_free_cell D1 2 rfl
          have z3 := blk_free_cell D1 3 rfl
          have z4 := blk_free_cell D1 4 rfl
          have z5 := blk_free_cell D1 5 rfl
          have y0 := D1.free 0
          have y1 := D1.free 1
          have y2 := D1.free 2
          have y3 := D1.free 3
          have y4 := D1.free 4
          have y5 := D1.free 5
          have zl := D1.lt
          go_wp2_with fail
          have Rd := six_set D1 (.int .i64 id) (.bool here) (.int .i64 ahead) (.slice x3 be.length e3) (.slice x4 fi.length e4) (.slice x5 sh.length e5)
          have r0 := blk_free_cell Rd 0 rfl
          have r1 := blk_free_cell Rd 1 rfl
          have r2 := blk_free_cell Rd 2 rfl
          have r3 := blk_free_cell Rd 3 rfl
          have r4 := blk_free_cell Rd 4 rfl
          have r5 := blk_free_cell Rd 5 rfl
          have hws := HS.out
          refine bodyPost_ret (v := .tuple #[.agg #[.int .i64 id, .bool here, .int .i64 ahead, .slice x3 be.length e3, .slice x4 fi.length e4, .slice x5 sh.length e5], .bool false]) (by simp [results, Tryz.results106, go_sem, r0, r1, r2, r3, r4, r5]) rfl ?_
          rw [HR.out]
          exact ⟨_, _, _, g3, g4, g5, rfl, (HPO.out.six (by omega) _ _ _ _ _ _).mono (by omega), six_below HBv.out (by omega) _ _ _ _ _ _⟩
        | true =>
          have HR := hide (HY.out rfl)
          clear HY HN
          have c0 := blk_free_cell HQp 0 rfl
          have c1 := blk_free_cell HQp 1 rfl
          have c2 := blk_free_cell HQp 2 rfl
          have c3' := blk_free_cell HQp 3 rfl
          have c4' := blk_free_cell HQp 4 rfl
          have c5' := blk_free_cell HQp 5 rfl
          have l0 := HQp.lt
          have HC := hide (copyPeer_calls wp ⟨id, here, ahead, be, fi, putShelves S sh⟩ _ _ _ (HI3.out.below hbp (Nat.le_refl _)) (HI4.out.below hbp (Nat.le_refl _)) (HSV.out.below hbp (Nat.le_refl _)) HQ.out)
          unfold prV at HC
          dsimp only at HC
          clear hbp
          go_wp2_with fail
          refine HC.out.mono ?_
          rintro e wv ⟨v3, v4, v5, g3, g4, g5, rfl, hov, hbv⟩
          have hsh3 : ∃ b3 d3, v3 = .slice b3 be.length d3 := by
            obtain ⟨x, y, h, -⟩ := ints_of hov.o3.reads
            exact ⟨_, _, h⟩
          have hsh4 : ∃ b3 d3, v4 = .slice b3 fi.length d3 := by
            obtain ⟨x, y, h, -⟩ := ints_of hov.o4.reads
            exact ⟨_, _, h⟩
          have hsh5 : ∃ b3 d3, v5 = .slice b3 (putShelves S sh).length d3 := by
            obtain ⟨x, y, h, -⟩ := ShelvesAt.open_ ⟨_, hov.o5.reads⟩
            exact ⟨_, _, h⟩
          obtain ⟨x3, e3, rfl⟩ := hsh3
          obtain ⟨x4, e4, rfl⟩ := hsh4
          obtain ⟨x5, e5, rfl⟩ := hsh5
          have HPO := hide hov
          have HBv := hide (HBp.out.trans (hbv.mono HBp.out.size))
          have D1 := D1p.below hbv D1p.lt
          have hlp := D1p.lt
          clear HC c0 c1 c2 c3' c4' c5' l0 hov hbv A0p HQp D1p
          have z0 := blk_free_cell D1 0 rfl
          have z1 := blk_free_cell D1 1 rfl
          have z2 := blk_free_cell D1 2 rfl
          have z3 := blk_free_cell D1 3 rfl
          have z4 := blk_free_cell D1 4 rfl
          have z5 := blk_free_cell D1 5 rfl
          have y0 := D1.free 0
          have y1 := D1.free 1
          have y2 := D1.free 2
          have y3 := D1.free 3
          have y4 := D1.free 4
          have y5 := D1.free 5
          have zl := D1.lt
          go_wp2_with fail
          have Rd := six_set D1 (.int .i64 id) (.bool here) (.int .i64 ahead) (.slice x3 be.length e3) (.slice x4 fi.length e4) (.slice x5 (putShelves S sh).length e5)
          have r0 := blk_free_cell Rd 0 rfl
          have r1 := blk_free_cell Rd 1 rfl
          have r2 := blk_free_cell Rd 2 rfl
          have r3 := blk_free_cell Rd 3 rfl
          have r4 := blk_free_cell Rd 4 rfl
          have r5 := blk_free_cell Rd 5 rfl
          have hws := HS.out
          refine bodyPost_ret (v := .tuple #[.agg #[.int .i64 id, .bool here, .int .i64 ahead, .slice x3 be.length e3, .slice x4 fi.length e4, .slice x5 (putShelves S sh).length e5], .bool true]) (by simp [results, Tryz.results106, go_sem, r0, r1, r2, r3, r4, r5]) rfl ?_
          rw [HR.out]
          exact ⟨_, _, _, g3, g4, g5, rfl, (HPO.out.six (by omega) _ _ _ _ _ _).mono (by omega), six_below HBv.out (by omega) _ _ _ _ _ _⟩
end Go.Proofs.YteladljgnbfcnaaGreat.P9
namespace Go.Proofs.YteladljgnbfcnaaGreat.P9
open Go.RowKit P1 P8 Da Ap Rr Rc

theorem publish_none {l : List Pr} {by_ key : Int} {list : List It} (h : find l by_ key = none) : publish l by_ key list = ((l, 0), []) := by
  unfold publish
  rw [h]

theorem publish_some {l : List Pr} {by_ key : Int} {list : List It} {x : Int} {m : Nat} (h : find l by_ key = some (x, m)) : publish l by_ key list = (pubAll key list l (holdersOf l x), holdersOf l x) := by
  unfold publish
  rw [h]

theorem holdStep_at {l : List Pr} {out : List Int} {x : Int} (h : ∀ y ∈ out, 0 ≤ peerAt l y) : ∀ y ∈ holdStep l out x, 0 ≤ peerAt l y := by
  intro y hy
  unfold holdStep at hy
  split at hy
  · rename_i h1
    rcases List.mem_append.1 hy with hy | hy
    · exact h y hy
    · have e : y = x := by simpa using hy
      rw [e]
      exact h1.2.1
  · exact h y hy

theorem holdFold_at {l : List Pr} : ∀ (b out : List Int), (∀ y ∈ out, 0 ≤ peerAt l y) → ∀ y ∈ b.foldl (holdStep l) out, 0 ≤ peerAt l y
  | [], _, h => h
  | x :: b, out, h => by rw [List.foldl_cons]; exact holdFold_at b _ (holdStep_at h)

theorem holders_at {l : List Pr} {id : Int} : ∀ y ∈ holdersOf l id, 0 ≤ peerAt l y := by
  intro y hy
  unfold holdersOf at hy
  split at hy
  · cases hy
  · rename_i h
    unfold holdersFrom at hy
    exact holdFold_at _ [id] (fun z hz => by
      have e : z = id := by simpa using hz
      rw [e]; omega) y hy

theorem holdersOf_len (l : List Pr) (id : Int) : (holdersOf l id).length ≤ 3 := by
  unfold holdersOf
  split
  · exact Nat.zero_le _
  · exact holders_len _ _ _

theorem pubStep_no {key : Int} {list : List It} {s : List Pr × Nat} {x : Int} {i : Nat} (hi : i < s.1.length) (h : peerAt s.1 x = i) (hb : (put s.1[i] key list).2 = false) : pubStep key list s x = s := by
  unfold pubStep
  rw [h]
  simp only [Int.toNat_natCast, List.getElem?_eq_getElem hi]
  rw [if_neg (by rw [hb]; decide)]

theorem pubStep_yes {key : Int} {list : List It} {s : List Pr × Nat} {x : Int} {i : Nat} (hi : i < s.1.length) (h : peerAt s.1 x = i) (hb : (put s.1[i] key list).2 = true) : pubStep key list s x = (s.1.set i (put s.1[i] key list).1, s.2 + 1) := by
  unfold pubStep
  rw [h]
  simp only [Int.toNat_natCast, List.getElem?_eq_getElem hi]
  rw [if_pos hb]

theorem pubStep_n (key : Int) (list : List It) (s : List Pr × Nat) (x : Int) : (pubStep key list s x).2 ≤ s.2 + 1 := by
  unfold pubStep
  split
  · exact Nat.le_succ _
  · split
    · exact Nat.le_refl _
    · exact Nat.le_succ _

theorem pubFold_n (key : Int) (list : List It) : ∀ (hs : List Int) (s : List Pr × Nat), (hs.foldl (pubStep key list) s).2 ≤ s.2 + hs.length
  | [], s => Nat.le_refl _
  | x :: hs, s => by
    have h1 := pubFold_n key list hs (pubStep key list s x)
    have h2 := pubStep_n key list s x
    rw [List.foldl_cons, List.length_cons]
    omega

theorem pubAll_n (key : Int) (list : List It) (l : List Pr) (hs : List Int) : (pubAll key list l hs).2 ≤ hs.length := by
  have := pubFold_n key list hs (l, 0)
  unfold pubAll
  omega

theorem RingD.pubAll {l : List Pr} (h : RingD l) (key : Int) (list : List It) (hs : List Int) : RingD (pubAll key list l hs).1 := h.same (ids_who (who_all key list l hs)) (tiny_all h.tiny hs) (rok_pubAll hs (l, 0) h.rok)

theorem own_only {w w' : World} {B : Nat} {e : TypeId} {sz n : Nat} {v : Value} {X : List Value} {fs : List Nat} (h : w.ownsRow B e sz v n X) (ho : Only fs w w') (hn : ∀ q, v.ownBlock = some q → q ∉ fs) : w'.ownsRow B e sz v n X := by
  refine ⟨h.1, ?_⟩
  rcases h.2 with h1 | ⟨g, cap, cur, rfl, h2, h3, h4⟩
  · exact .inl h1
  · have hlt := (h.lt g rfl).2
    exact .inr ⟨g, cap, cur, rfl, h2, (ho.block g hlt (hn g rfl)).trans h3, h4⟩

theorem cells_of_peer {W : World} {g n c i : Nat} {l : List Pr} (h : PeersAt W (.slice (some ⟨g, 0, none⟩) n c) l) (hi : i < l.length) : ∃ u3 u4 u5, PeerCells W g (i * 6) l[i] u3 u4 u5 := by
  obtain ⟨a, cap, e, HA⟩ := h.open_
  cases e
  obtain ⟨g', off, u3, u4, u5, e, hg, hc⟩ := HA i hi
  cases e
  rw [Nat.zero_add] at hc
  exact ⟨u3, u4, u5, hc⟩
end Go.Proofs.YteladljgnbfcnaaGreat.P9
namespace Go.Proofs.YteladljgnbfcnaaGreat.P9
set_option maxRecDepth 8000
open Go.RowKit P1 P8 Da Ap Rr Rc

set_option maxRecDepth 100000 in
set_option maxHeartbeats 8000000 in
theorem specL12_calls (w0 w : World) (br g c : Nat) (l : List Pr) (by_ key : Int) (vl : Value) (list : List It) (fp : List Nat) (h0 : Below w0.heap.size w0 w) (hB : Blk w br [.slice (some ⟨g, 0, none⟩) l.length c] 28)
    (hO : Owns w (.slice (some ⟨g, 0, none⟩) l.length c) (peersD T0 l) fp) (hbr : w0.heap.size ≤ br ∧ br ∉ fp) (hfp : ∀ q ∈ fp, w0.heap.size ≤ q) (hvl : ItemsAt w0 vl list) (hll : list.length ≤ 300) (hlt : ∀ y ∈ list, y.t.length ≤ 600) (hR : RingX l) :
    Calls Tryz.prog 94 #[.pointer (some ⟨br, 0, none⟩), .int .i64 by_, .int .i64 key, vl] w fun e w' => ∃ v' fq, e = .returned (.tuple #[.int .i64 ((publish l by_ key list).1.2 : Nat), v']) ∧
      w'.ownsRow w.heap.size 3 1 v' (publish l by_ key list).2.length (cellsI (publish l by_ key list).2) ∧ Owns w' (.slice (some ⟨g, 0, none⟩) l.length c) (peersD T0 (publish l by_ key list).1.1) fq ∧ (∀ q ∈ fq, q ∈ fp ∨ w.heap.size ≤ q) ∧ Only [g] w w' := by
  have HP1 := hide (fun h => publish_none (l := l) (by_ := by_) (key := key) (list := list) h)
  have HP2 := hide (fun x m h => publish_some (l := l) (by_ := by_) (key := key) (list := list) (x := x) (m := m) h)
  generalize publish l by_ key list = R at *
  have hl4 := hR.least
  have hl8 := hR.most
  obtain ⟨⟨u0, k0⟩, q0, hgl, hgm⟩ := peer_cell hO (i := 0) (j := 0) (by omega) (by decide)
  have hbg : br ≠ g := fun e => hbr.2 (by rw [e]; exact hgm)
  have hg0 := hfp g hgm
  obtain ⟨al, cl, el, -⟩ := hvl.open_
  subst el
  have HL := hide hvl
  have H0 := hide h0
  have HB := hide hB
  have HO := hide hO
  have HFP := hide hfp
  have HRD := hide hR
  have HLT := hide hlt
  have HBF := hide hbr.2
  have hbr0 := hbr.1
  obtain ⟨i0, hi0, hz0, hz1, hz2⟩ := info_parts info_i64
  have c0 := blk_free_cell hB 0 rfl
  have l0 := hB.lt
  have CF := hide (specFind_calls w (.slice (some ⟨g, 0, none⟩) l.length c) l by_ key ⟨T0, hO.reads⟩ hR.len hR.small hR.ring)
  obtain ⟨x, n, b, esh, hbn, hbs⟩ := trip_shape (find l by_ key)
  rw [esh] at CF
  have HBN : Hid (b = false → R = ((l, 0), [])) := fun h => HP1.out (hbn h)
  have HBS : Hid (b = true → R = (pubAll key list l (holdersOf l x), holdersOf l x)) := fun h => by
    obtain ⟨m, hm⟩ := hbs h
    exact HP2.out x m hm
  clear HP1 HP2 esh hbn hbs k0 q0 hvl h0 hB hO hbr hfp hlt hR
  go_enter Tryz.func94, Tryz.ntmps94
  go_wp2_with fail
  refine CF.out.mono ?_
  rintro e wf ⟨rfl, hwf⟩
  clear CF c0 l0
  go_upto_region 2 with fail
  have YT := Blk.new wf #[.int .i64 x, .int .i64 n] 119
  have hbf := (Below.refl wf.heap.size wf).alloc (Nat.le_refl _) (.cells #[.int .i64 x, .int .i64 n] 119)
  have hwb := hwf.trans (hbf.mono hwf.size)
  have hsz := hwf.size
  obtain ⟨bt, ebt⟩ : ∃ b, b = wf.heap.size := ⟨_, rfl⟩
  rw [← ebt] at YT hsz ⊢
  clear ebt hbf hwf
  generalize wf.alloc (.cells #[.int .i64 x, .int .i64 n] 119) = w1 at *
  have HB1 := hide hwb
  have AB := HB.out.below hwb HB.out.lt
  have c0 := blk_free_cell AB 0 rfl
  have l0 := AB.lt
  have t0 := blk_free_cell YT 0 rfl
  have tl := YT.lt
  clear hwb
  cases b with
  | false =>
    have HR := hide (HBN.out rfl)
    have HOe := hide (owns_below HO.out HB1.out)
    have HS0 := hide (own_mono (own_lit0 w1) HB1.out.size)
    have HBl := (Below.refl w1.heap.size w1).alloc (Nat.le_refl _) (.cells #[] 3)
    have HOn := hide (owns_below HOe.out HBl)
    have HX := hide (Only.of_below (fp := [g]) (HB1.out.trans (HBl.mono HB1.out.size)))
    clear HBl HBN HBS
    go_wp2_with fail
    go_ret2
    exact ⟨.slice (some ⟨w1.heap.size, 0, none⟩) 0 0, by rw [HR.out]; rfl, by rw [HR.out]; exact HS0.out, fp, by rw [HR.out]; exact HOn.out, fun q hq => .inl hq, HX.out⟩
  | true =>
    have HR := hide (HBS.out rfl)
    clear HBN HBS
    have HOw := hide (owns_below HO.out HB1.out)
    have hz1' := HB1.out.size
    have n0 : ∀ p : Near w1.heap.size w1, p.w.cell? ⟨br, 0, none⟩ = some (.slice (some ⟨g, 0, none⟩) l.length c) := fun p => blk_free_cell (AB.below p.h AB.lt) 0 rfl
    have nt : ∀ p : Near w1.heap.size w1, p.w.cell? ⟨bt, 0, none⟩ = some (.int .i64 x) := fun p => blk_free_cell (YT.below p.h YT.lt) 0 rfl
    have hnn := Near.some w1.heap.size w1
    go_upto_region 5 with fail
    clear c0 l0 t0 tl
    refine wp_region_open (fun wd => ∃ p : Near w1.heap.size w1, wd = p.w) ⟨⟨_, (Below.refl _ _).drew⟩, rfl⟩ (by kernel_rfl) ?_
    rintro wd ⟨pd, rfl⟩
    refine wpAny_of_K (c := 6) (D := fun w' => ∃ p : Near w1.heap.size w1, w' = p.w) _ _ _ _ ?_
    refine wpAnyK_seg_lit4 0 5 8 2 rfl (by decide) (by decide) (by kernel_rfl) (by kernel_rfl) (by kernel_rfl) (by kernel_rfl) (fun _ _ _ _ _ h => h) ⟨pd, rfl⟩ ?_
    simp only [List.take_succ_cons, List.take_zero, List.drop_zero]
    repeat (go_big_quiet_step (fail))
    refine wpQuiet_nil ?_
    clear n0 nt hnn
    have HPH := hide (specHolders_calls pd.w (.slice (some ⟨g, 0, none⟩) l.length c) l x ⟨T0, (owns_below HOw.out pd.h).reads⟩ HRD.out.len (fun p hp => (HRD.out.small p hp).b))
    refine wpAnyK_call 5 (by kernel_rfl) rfl rfl 105 _ _ rfl (run_enter Tryz.func105 (by kernel_rfl) (by kernel_rfl)) #[.agg #[.slice (some ⟨g, 0, none⟩) l.length c], .int .i64 x] rfl (fun u' w' => pd.w.heap.size ≤ w'.heap.size ∧ w'.ownsRow pd.w.heap.size 3 1 u' (holdersOf l x).length (cellsI (holdersOf l x)) ∧ Below pd.w.heap.size pd.w w') (HPH.out.mono (fun e w' ⟨v', he, ho, hb⟩ => ⟨v', he, hb.size, ho, hb⟩)) ?_
    rintro u' w6 ⟨-, hoh, hb6⟩
    refine ⟨⟨⟨_, pd.h.trans (hb6.mono pd.h.size)⟩, rfl⟩, ?_⟩
    simp only [Act.put, List.setIfInBounds_toArray, List.set_cons_succ, List.set_cons_zero]
    refine wpAnyK_last (by kernel_rfl) (by decide) ?_
    refine wpAny_rest 6 rfl (by kernel_rfl) ?_
    simp only [List.drop_succ_cons, List.drop_zero]
    obtain ⟨ah, ch, hsh⟩ := own_sh hoh
    subst hsh
    have hw6 := pd.h.trans (hb6.mono pd.h.size)
    have hps := pd.h.size
    have h6s := hb6.size
    have HOH := hide hoh
    have HB6 := hide (HB1.out.trans (hw6.mono HB1.out.size))
    have HO6 := hide (owns_below HOw.out hw6)
    have HZ6 : Hid (pd.w.heap.size ≤ w6.heap.size) := h6s
    have hzw : w.heap.size ≤ w6.heap.size := HB6.out.size
    have HA6 := hide (AB.below hw6 AB.lt)
    have hpw : w.heap.size ≤ pd.w.heap.size := Nat.le_trans hz1' hps
    have HHA := hide (fun y hy => holders_at (l := l) (id := x) y hy)
    have hh3 := holdersOf_len l x
    clear HPH hoh hb6 hw6 HB HO HOw YT AB HB1
    obtain ⟨BH, eBH⟩ : ∃ b, b = pd.w.heap.size := ⟨_, rfl⟩
    rw [← eBH] at HOH hps h6s HZ6 hpw
    clear eBH
    generalize holdersOf l x = hs at *
    go_wp2_with fail
    go_loopw [12, 14] (fun nv iv wr => ∃ (k : Nat) (fq : List Nat), k ≤ hs.length ∧ iv = .int .i64 k ∧ nv = .int .i64 ((pubAll key list l (hs.take k)).2 : Nat) ∧ Hid (Owns wr (.slice (some ⟨g, 0, none⟩) l.length c) (peersD T0 (pubAll key list l (hs.take k)).1) fq) ∧ Hid (∀ q ∈ fq, q ∈ fp ∨ w.heap.size ≤ q) ∧ Hid (Only [g] w6 wr)) (fun _ iv _ => hs.length - (intOf iv).toNat)
    case atStart => exact ⟨0, fp, Nat.zero_le _, rfl, rfl, HO6.out, fun q hq => .inl hq, Only.refl _ _⟩
    case round =>
      clear HO6
      obtain ⟨k, fq, hk, rfl, rfl, HOr, HFr, HXr⟩ := hrel
      have hzr := HXr.out.size
      have HSC := hide (fun (h : k < hs.length) => pubAll_succ (key := key) (list := list) (l := l) h)
      have HRk := hide (HRD.out.pubAll key list (hs.take k))
      have HWk := hide (who_all key list l (hs.take k))
      have hnk := pubAll_n key list l (hs.take k)
      have hlen : (pubAll key list l (hs.take k)).1.length = l.length := len_ids (ids_who HWk.out)
      have htk : (hs.take k).length ≤ k := List.length_take_le _ _
      have HEN : Hid (k = hs.length → pubAll key list l hs = pubAll key list l (hs.take k)) := fun h => by rw [h, List.take_length]
      generalize pubAll key list l (hs.take k) = PA at *
      obtain ⟨lk, nk⟩ := PA
      dsimp only at hnk hlen HRk HWk HOr ⊢
      have hnk3 : nk ≤ 3 := by omega
      have hAr := only_blk HXr.out HA6.out (by simp; omega)
      have hoh := own_only HOH.out HXr.out (fun q hq => by have := (HOH.out.lt q hq).1; simp; omega)
      by_cases hlt : k < hs.length
      · have hsc := HSC.out hlt
        have hy := HHA.out hs[k] (List.getElem_mem hlt)
        obtain ⟨ai, ci, e, HI⟩ := IntsAt.of_own (l := hs) hoh
        cases e
        obtain ⟨gh, oh, rfl, hgh, hch⟩ := HI k hlt
        clear HI HSC HEN
        generalize hs[k] = y at *
        rw [← peerAt_who HWk.out] at hy
        obtain ⟨i, hi, hpi⟩ : ∃ i : Nat, ∃ _ : i < lk.length, peerAt lk y = i := (peerAt_lt lk y).resolve_left (by omega)
        have hil : i < l.length := by omega
        have n0 : ∀ p : Near wr.heap.size wr, p.w.cell? ⟨br, 0, none⟩ = some (.slice (some ⟨g, 0, none⟩) l.length c) := fun p => blk_free_cell (hAr.below p.h hAr.lt) 0 rfl
        have nh : ∀ p : Near wr.heap.size wr, p.w.cell? ⟨gh, oh + k, none⟩ = some (.int .i64 y) := fun p => (p.h.cell (p := ⟨gh, oh + k, none⟩) hgh).trans hch
        have hnn := Near.some wr.heap.size wr
        have HHo := hide hoh
        clear hoh hch
        go_upto_region 9 with fail
        refine wp_region_open (fun wd => ∃ p : Near wr.heap.size wr, wd = p.w) ⟨⟨_, (Below.refl _ _).drew⟩, rfl⟩ (by kernel_rfl) ?_
        rintro wd ⟨pd, rfl⟩
        refine wpAny_of_K (c := 8) (D := fun w' => ∃ p : Near wr.heap.size wr, w' = p.w) _ _ _ _ ?_
        refine wpAnyK_seg_lit4 0 7 8 2 rfl (by decide) (by decide) (by kernel_rfl) (by kernel_rfl) (by kernel_rfl) (by kernel_rfl) (fun _ _ _ _ _ h => h) ⟨pd, rfl⟩ ?_
        simp only [List.take_succ_cons, List.take_zero, List.drop_zero]
        repeat (go_big_quiet_step (fail))
        refine wpQuiet_nil ?_
        clear n0 nh hnn
        have HPP := hide (specPeerAt_calls pd.w (.slice (some ⟨g, 0, none⟩) l.length c) lk y ⟨T0, (owns_below HOr.out pd.h).reads⟩ (by omega))
        rw [hpi] at HPP
        refine wpAnyK_call 7 (by kernel_rfl) rfl rfl 15 _ _ rfl (run_enter Tryz.func15 (by kernel_rfl) (by kernel_rfl)) #[.agg #[.slice (some ⟨g, 0, none⟩) l.length c], .int .i64 y] rfl (fun u' w' => u' = .int .i64 (i : Int) ∧ Below pd.w.heap.size pd.w w') (HPP.out.mono (fun e w' ⟨he, hb⟩ => ⟨_, he, rfl, hb⟩)) ?_
        rintro u' w7 ⟨rfl, hb7⟩
        have hw7 := pd.h.trans (hb7.mono pd.h.size)
        refine ⟨⟨⟨_, hw7⟩, rfl⟩, ?_⟩
        simp only [Act.put, List.setIfInBounds_toArray, List.set_cons_succ, List.set_cons_zero]
        refine wpAnyK_last (by kernel_rfl) (by decide) ?_
        refine wpAny_rest 8 rfl (by kernel_rfl) ?_
        simp only [List.drop_succ_cons, List.drop_zero]
        have hO7 := owns_below HOr.out hw7
        have HX7 := hide (only_more HXr.out (hw7.mono hzr))
        have h7s := hw7.size
        have hA7 := hAr.below hw7 hAr.lt
        have hg7 : Below w0.heap.size w0 w7 := (H0.out.trans (HB6.out.mono H0.out.size)).trans (HX7.out.below (by have := H0.out.size; omega) (fun q hq => by simp at hq; omega))
        obtain ⟨u3, u4, u5, hc⟩ := cells_of_peer ⟨T0, hO7.reads⟩ hi
        obtain ⟨⟨_, -⟩, -, hgl7, -⟩ := peer_cell hO7 hi (j := 0) (by decide)
        have k0 := hc.id
        have k1 := hc.here
        have k2 := hc.ahead
        have k3 := hc.c3
        have k4 := hc.c4
        have k5 := hc.c5
        have HB3 := hide hc.behind
        have HB4 := hide hc.fingers
        have HB5 := hide hc.shelves
        obtain ⟨a3, c3, e3, -⟩ := hc.behind
        obtain ⟨a4, c4, e4, -⟩ := hc.fingers
        obtain ⟨a5, c5, e5, -⟩ := hc.shelves.open_
        subst e3 e4 e5
        have htp := HRk.out.tiny lk[i] (List.getElem_mem hi)
        have CP := hide (specPut_calls w7 lk[i] _ _ _ (.slice al list.length cl) key list HB3.out HB4.out HB5.out (HL.out.below hg7 (Nat.le_refl _)) htp.small (by omega) (putOut_small htp key hll HLT.out))
        have HNo : Hid ((put lk[i] key list).2 = false → pubAll key list l (hs.take (k + 1)) = (lk, nk)) := fun h => hsc.trans (pubStep_no (s := (lk, nk)) hi hpi h)
        have HYe : Hid ((put lk[i] key list).2 = true → pubAll key list l (hs.take (k + 1)) = (lk.set i (put lk[i] key list).1, nk + 1)) := fun h => hsc.trans (pubStep_yes (s := (lk, nk)) hi hpi h)
        have HO7 := hide hO7
        have HA7 := hide hA7
        have c0 := blk_free_cell hA7 0 rfl
        have l0 := hA7.lt
        unfold prV at CP
        clear HPP hsc hpi hy hb7 hw7 hO7 hA7 hg7 hc htp HOr HXr HHo hgh hAr HB3 HB4 HB5
        generalize put lk[i] key list = PQ at *
        generalize lk[i].behind.length = nb at *
        generalize lk[i].fingers.length = nf at *
        generalize lk[i].shelves.length = ns at *
        generalize lk[i].id = pid at *
        generalize lk[i].here = ph at *
        generalize lk[i].ahead = pa at *
        obtain ⟨⟨qid, qh, qa, qb, qf, qs⟩, ok⟩ := PQ
        dsimp only at HNo HYe CP
        go_wp2_with fail
        refine CP.out.mono ?_
        rintro e w8 ⟨v3, v4, v5, f3, f4, f5, rfl, hpo, hb8⟩
        have hsh3 : ∃ b3 m3 d3, v3 = .slice b3 m3 d3 := by
          obtain ⟨x, y, h, -⟩ := ints_of hpo.o3.reads
          exact ⟨_, _, _, h⟩
        have hsh4 : ∃ b3 m3 d3, v4 = .slice b3 m3 d3 := by
          obtain ⟨x, y, h, -⟩ := ints_of hpo.o4.reads
          exact ⟨_, _, _, h⟩
        have hsh5 : ∃ b3 m3 d3, v5 = .slice b3 m3 d3 := by
          obtain ⟨x, y, h, -⟩ := ShelvesAt.open_ ⟨_, hpo.o5.reads⟩
          exact ⟨_, _, _, h⟩
        obtain ⟨b3, m3, d3, rfl⟩ := hsh3
        obtain ⟨b4, m4, d4, rfl⟩ := hsh4
        obtain ⟨b5, m5, d5, rfl⟩ := hsh5
        clear CP c0 l0 k0 k1 k2 k3 k4 k5
        go_upto_region 11 with fail
        have YP := Blk.new w8 #[.int .i64 qid, .bool qh, .int .i64 qa, .slice b3 m3 d3, .slice b4 m4 d4, .slice b5 m5 d5] 37
        have hba := (Below.refl w8.heap.size w8).alloc (Nat.le_refl _) (.cells #[.int .i64 qid, .bool qh, .int .i64 qa, .slice b3 m3 d3, .slice b4 m4 d4, .slice b5 m5 d5] 37)
        have hb79 := hb8.trans (hba.mono hb8.size)
        have h8s := hb8.size
        have HO9 := hide (owns_below HO7.out hb79)
        have HA9 := HA7.out.below hb79 HA7.out.lt
        have HX9 := hide (only_more HX7.out (hb79.mono (Nat.le_trans hzr h7s)))
        have O3 := hide (owns_below hpo.o3 hba)
        have O4 := hide (owns_below hpo.o4 hba)
        have O5 := hide (owns_below hpo.o5 hba)
        have HF3 := hide hpo.b3
        have HF4 := hide hpo.b4
        have HF5 := hide hpo.b5
        have D34 := hide hpo.d34
        have D35 := hide hpo.d35
        have D45 := hide hpo.d45
        have HQL := hide HO7.out.lt
        obtain ⟨bp, ebp⟩ : ∃ b, b = w8.heap.size := ⟨_, rfl⟩
        rw [← ebp] at YP h8s ⊢
        clear ebp hba hb79 hb8 hpo HO7 HA7 HX7
        generalize w8.alloc (.cells #[.int .i64 qid, .bool qh, .int .i64 qa, .slice b3 m3 d3, .slice b4 m4 d4, .slice b5 m5 d5] 37) = w9 at *
        cases ok with
        | false =>
          have HN := hide (HNo.out rfl)
          clear HNo HYe
          go_wp2
          go_roundw
          case rel => exact ⟨k + 1, fq, by omega, by go_num, by rw [HN.out], by show Owns _ _ _ _; rw [HN.out]; exact HO9.out, HFr.out, HX9.out⟩
          case measure => simp [intOf]; omega
        | true =>
          have HY := hide (HYe.out rfl)
          clear HNo HYe
          have n0 : ∀ p : Near w9.heap.size w9, p.w.cell? ⟨br, 0, none⟩ = some (.slice (some ⟨g, 0, none⟩) l.length c) := fun p => blk_free_cell (HA9.below p.h HA9.lt) 0 rfl
          have e0 : ∀ p : Near w9.heap.size w9, p.w.cell? ⟨bp, 0, none⟩ = some (.int .i64 qid) := fun p => blk_free_cell (YP.below p.h YP.lt) 0 rfl
          have e1 : ∀ p : Near w9.heap.size w9, p.w.cell? ⟨bp, 1, none⟩ = some (.bool qh) := fun p => blk_free_cell (YP.below p.h YP.lt) 1 rfl
          have e2 : ∀ p : Near w9.heap.size w9, p.w.cell? ⟨bp, 2, none⟩ = some (.int .i64 qa) := fun p => blk_free_cell (YP.below p.h YP.lt) 2 rfl
          have e3 : ∀ p : Near w9.heap.size w9, p.w.cell? ⟨bp, 3, none⟩ = some (.slice b3 m3 d3) := fun p => blk_free_cell (YP.below p.h YP.lt) 3 rfl
          have e4 : ∀ p : Near w9.heap.size w9, p.w.cell? ⟨bp, 4, none⟩ = some (.slice b4 m4 d4) := fun p => blk_free_cell (YP.below p.h YP.lt) 4 rfl
          have e5 : ∀ p : Near w9.heap.size w9, p.w.cell? ⟨bp, 5, none⟩ = some (.slice b5 m5 d5) := fun p => blk_free_cell (YP.below p.h YP.lt) 5 rfl
          have hnn := Near.some w9.heap.size w9
          go_upto_region 12 with fail
          refine wp_region_open (fun wd => ∃ p : Near w9.heap.size w9, wd = p.w) ⟨⟨_, (Below.refl _ _).drew⟩, rfl⟩ (by kernel_rfl) ?_
          rintro wd ⟨pe, rfl⟩
          refine wpAny_of_K (c := 7) (D := fun w' => ∃ p : Near w9.heap.size w9, w' = p.w) _ _ _ _ ?_
          refine wpAnyK_seg_lit4 0 7 8 1 rfl (by decide) (by decide) (by kernel_rfl) (by kernel_rfl) (by kernel_rfl) (by kernel_rfl) (fun _ _ _ _ _ h => h) ⟨pe, rfl⟩ ?_
          simp only [List.take_succ_cons, List.take_zero, List.drop_zero]
          repeat (go_big_quiet_step (fail))
          refine wpQuiet_nil ?_
          clear n0 e0 e1 e2 e3 e4 e5 hnn
          refine wpAnyK_last (by kernel_rfl) (by decide) ?_
          refine wpAny_rest 7 rfl (by kernel_rfl) ?_
          simp only [List.drop_succ_cons, List.drop_zero]
          have hP := owns_below HO9.out pe.h
          obtain ⟨⟨s0, k0⟩, q0, hlg, hmem⟩ := peer_cell hP hi (j := 0) (by decide)
          obtain ⟨⟨s1, k1⟩, q1, -, -⟩ := peer_cell hP hi (j := 1) (by decide)
          obtain ⟨⟨s2, k2⟩, q2, -, -⟩ := peer_cell hP hi (j := 2) (by decide)
          obtain ⟨⟨s3, k3⟩, q3, -, -⟩ := peer_cell hP hi (j := 3) (by decide)
          obtain ⟨⟨s4, k4⟩, q4, -, -⟩ := peer_cell hP hi (j := 4) (by decide)
          obtain ⟨⟨s5, k5⟩, q5, -, -⟩ := peer_cell hP hi (j := 5) (by decide)
          simp only [Nat.add_zero] at k0 q0
          obtain ⟨fn, HPn, hfn⟩ := put_peer hP hi ⟨qid, qh, qa, qb, qf, qs⟩ (owns_below O3.out pe.h) (owns_below O4.out pe.h) (owns_below O5.out pe.h) (fun q hq h => by have := HF3.out q hq; have := HQL.out q h; omega) (fun q hq h => by have := HF4.out q hq; have := HQL.out q h; omega) (fun q hq h => by have := HF5.out q hq; have := HQL.out q h; omega) D34.out D35.out D45.out
          dsimp only at HPn
          have hXp := only_more HX9.out (pe.h.mono (by have := HX9.out.size; omega))
          have HXn := hide ((((((hXp.setCell (p := ⟨g, i * 6, none⟩) (by simp) (.int .i64 qid)).setCell (p := ⟨g, i * 6 + 1, none⟩) (by simp) (.bool qh)).setCell (p := ⟨g, i * 6 + 2, none⟩) (by simp) (.int .i64 qa)).setCell (p := ⟨g, i * 6 + 3, none⟩) (by simp) (.slice b3 m3 d3)).setCell (p := ⟨g, i * 6 + 4, none⟩) (by simp) (.slice b4 m4 d4)).setCell (p := ⟨g, i * 6 + 5, none⟩) (by simp) (.slice b5 m5 d5))
          have hw7z : w.heap.size ≤ w7.heap.size := by omega
          have HFn : Hid (∀ q ∈ fn, q ∈ fp ∨ w.heap.size ≤ q) := fun q hq => by
            rcases hfn q hq with h | h | h | h
            · exact HFr.out q h
            · exact .inr (Nat.le_trans hw7z (HF3.out q h))
            · exact .inr (Nat.le_trans hw7z (HF4.out q h))
            · exact .inr (Nat.le_trans hw7z (HF5.out q h))
          have HOn := hide HPn
          clear hP HPn hfn hXp HO9 HX9 O3 O4 O5 HF3 HF4 HF5 D34 D35 D45 HQL HA9 YP
          go_upto_region 13 with fail
          generalize ((((((pe.w.setCell ⟨g, i * 6, none⟩ (.int .i64 qid)).setCell ⟨g, i * 6 + 1, none⟩ (.bool qh)).setCell ⟨g, i * 6 + 2, none⟩ (.int .i64 qa)).setCell ⟨g, i * 6 + 3, none⟩ (.slice b3 m3 d3)).setCell ⟨g, i * 6 + 4, none⟩ (.slice b4 m4 d4)).setCell ⟨g, i * 6 + 5, none⟩ (.slice b5 m5 d5)) = wn at *
          clear k0 k1 k2 k3 k4 k5 q0 q1 q2 q3 q4 q5 hlg
          go_wp2
          go_roundw
          case rel => exact ⟨k + 1, fn, by omega, by go_num, by rw [HY.out]; simp, by show Owns _ _ _ _; rw [HY.out]; exact HOn.out, HFn.out, HXn.out⟩
          case measure => simp [intOf]; omega
      · have HRE := hide (HR.out.trans (by rw [HEN.out (by omega)]))
        have HHo := hide (own_mono hoh hpw)
        have HXf := hide (((Only.of_below (fp := [g]) HB6.out)).trans HXr.out)
        clear HSC HEN
        go_wp2_with fail
        go_ret2
        exact ⟨.slice ah hs.length ch, fq, by rw [HRE.out]; rfl, by rw [HRE.out]; exact HHo.out, by rw [HRE.out]; exact HOr.out, HFr.out, HXf.out⟩
end Go.Proofs.YteladljgnbfcnaaGreat.P9
namespace Go.Proofs.YteladljgnbfcnaaGreat.P9
set_option maxRecDepth 8000
open Go.RowKit P1 P8 Da Ap Rr Rc

set_option maxRecDepth 100000 in
set_option maxHeartbeats 8000000 in
theorem specPublish_calls (w : World) (v vl : Value) (l : List Pr) (by_ key : Int) (list : List It) (hv : PeersAt w v l) (hRD : RingX l) (hvl : ItemsAt w vl list) (hll : list.length ≤ 300) (hlt : ∀ y ∈ list, y.t.length ≤ 600) :
    Calls Tryz.prog 74 #[.agg #[v], .int .i64 by_, .int .i64 key, vl] w fun e w' => ∃ v' fp, e = .returned (.tuple #[.agg #[v'], .int .i64 ((publish l by_ key list).1.2 : Nat)]) ∧ Owns w' v' (peersD T0 (publish l by_ key list).1.1) fp ∧ (∀ q ∈ fp, w.heap.size ≤ q) ∧ Below w.heap.size w w' := by
  obtain ⟨R, eR⟩ : ∃ R, R = publish l by_ key list := ⟨_, rfl⟩
  rw [← eR]
  have HRR := hide eR
  clear eR
  have hl := hRD.len
  have hsm := hRD.small
  have HRD := hide hRD
  have HVL := hide hvl
  have hl4 := hRD.least
  have HLT := hide hlt
  obtain ⟨al, cl, el, -⟩ := hvl.open_
  subst el
  clear hRD hvl hlt
  have HSM := hide hsm
  have HBL : Hid (∀ p ∈ l, p.behind.length ≤ 1048576) := fun p hp => (hsm p hp).b
  have hb1 := (Below.refl w.heap.size w).alloc (Nat.le_refl _) (.cells #[v] 28)
  have hb2 := hb1.alloc hb1.size (.cells #[.slice none 0 0] 28)
  have HV1 := hide (hv.below hb2 (Nat.le_refl _))
  have HV := hide hv
  obtain ⟨a, cap, rfl, -⟩ := hv.open_
  have A0 := Blk.new w #[.slice a l.length cap] 28
  have A1 := Blk.new (w.alloc (.cells #[.slice a l.length cap] 28)) #[.slice none 0 0] 28
  have hba := (Below.refl (w.alloc (.cells #[.slice a l.length cap] 28)).heap.size (w.alloc (.cells #[.slice a l.length cap] 28))).alloc (Nat.le_refl _) (.cells #[.slice none 0 0] 28)
  have A0' := A0.below hba A0.lt
  have e1 : (w.alloc (.cells #[.slice a l.length cap] 28)).heap.size = w.heap.size + 1 := by simp
  rw [e1] at A1
  have HB1 := hide hb2
  clear hv hsm hb1 hb2 hba A0 e1
  go_enter Tryz.func74, Tryz.ntmps74
  go_upto_region 1 with fail
  obtain ⟨s, es⟩ : ∃ s, s = w.heap.size := ⟨_, rfl⟩
  rw [← es] at A0' A1 ⊢
  have HS : Hid (w.heap.size = s) := es.symm
  clear es
  generalize (w.alloc (.cells #[.slice a l.length cap] 28)).alloc (.cells #[.slice none 0 0] 28) = w1 at *
  have c0 := blk_free_cell A0' 0 rfl
  have l0 := A0'.lt
  go_wp2_with fail
  refine (copyRing_calls w1 _ l HV1.out hl HSM.out).mono ?_
  rintro e wc ⟨v', fp, rfl, ho, hfp, hbc⟩
  obtain ⟨ao, co, rfl⟩ := peers_sl ho
  clear c0 l0
  go_upto_region 2 with fail
  have XO := Blk.new wc #[.slice ao l.length co] 28
  have hbo := (Below.refl wc.heap.size wc).alloc (Nat.le_refl _) (.cells #[.slice ao l.length co] 28)
  have hb13 := hbc.trans (hbo.mono hbc.size)
  have X0 := A0'.below hb13 A0'.lt
  have X1 := A1.below hb13 A1.lt
  have HB3 := hide (HB1.out.trans (hb13.mono HB1.out.size))
  have HO3 := hide (owns_below ho hbo)
  have hl1 := A1.lt
  have hlt := ho.lt
  obtain ⟨bo, ebo⟩ : ∃ b, b = wc.heap.size := ⟨_, rfl⟩
  rw [← ebo] at XO hlt ⊢
  have HFP : Hid (∀ q ∈ fp, s + 1 < q ∧ q < bo) := fun q hq => by
    have := hfp q hq
    have := hlt q hq
    omega
  have hso : s + 1 < bo := by have := hbc.size; omega
  clear ebo hbo hb13 A0' A1 HB1 HV1 ho hfp hbc hlt hl1
  generalize wc.alloc (.cells #[.slice ao l.length co] 28) = w3 at *
  have HC0 : Hid (∀ wx, Below w3.heap.size w3 wx → wx.cell? ⟨s, 0, none⟩ = some (.slice a l.length cap) ∧ s < wx.heap.size) := fun wx hb => ⟨blk_free_cell (X0.below hb X0.lt) 0 rfl, (X0.below hb X0.lt).lt⟩
  have HZ0 : Hid (∀ wx, Below w3.heap.size w3 wx → Blk wx s [.slice a l.length cap] 28) := fun wx hb => X0.below hb X0.lt
  have HZO : Hid (∀ wx, Below w3.heap.size w3 wx → Blk wx bo [.slice ao l.length co] 28) := fun wx hb => XO.below hb XO.lt
  have HX1 : Hid (∀ wx, Below w3.heap.size w3 wx → Blk wx (s + 1) [.slice none 0 0] 28) := fun wx hb => X1.below hb X1.lt
  have HVx : Hid (∀ wx, Below w3.heap.size w3 wx → PeersAt wx (.slice a l.length cap) l) := fun wx hb => HV.out.below (HB3.out.trans (hb.mono HB3.out.size)) (Nat.le_refl _)
  have HOx : Hid (∀ wx, Below w3.heap.size w3 wx → Owns wx (.slice ao l.length co) (peersD T0 l) fp) := fun wx hb => owns_below HO3.out hb
  have HBx : Hid (∀ wx, Below w3.heap.size w3 wx → Below w.heap.size w wx) := fun wx hb => HB3.out.trans (hb.mono HB3.out.size)
  clear X0 X1 XO HO3
  have hw3 := Below.refl w3.heap.size w3
  have YO := HZO.out w3 hw3
  obtain ⟨go, co', esh⟩ := peers_shape (HOx.out w3 hw3) (by omega)
  cases esh
  have hw0 := HS.out
  have hmem := (peer_cell (HOx.out w3 hw3) (i := 0) (j := 0) (by omega) (by decide)).2.2.2
  have hgo := HFP.out go hmem
  have CP := hide (specL12_calls w w3 bo go co l by_ key (.slice al list.length cl) list fp (HBx.out w3 hw3) YO (HOx.out w3 hw3) ⟨by omega, fun h => by have := HFP.out bo h; omega⟩ (fun q hq => by have := HFP.out q hq; omega) HVL.out hll HLT.out HRD.out)
  have HY1 := hide (HX1.out w3 hw3)
  have HYO := hide YO
  have HBw := hide (HBx.out w3 hw3)
  clear HC0 HZ0 HZO HX1 HVx HOx HBx hw3 YO
  rw [← HRR.out] at CP
  go_wp2_with fail
  refine CP.out.mono ?_
  rintro e w5 ⟨v', fq, rfl, -, hO, hfq, hX⟩
  have YO := only_blk hX HYO.out (by simp; omega)
  have Y1 := only_blk hX HY1.out (by simp; omega)
  have hB := HBw.out.trans (hX.below HBw.out.size (fun q hq => by simp at hq; omega))
  have HE := hide hB
  have HOO := hide hO
  have HFQ := hide hfq
  have cO := blk_free_cell YO 0 rfl
  have lO := YO.lt
  have y0 := blk_free_cell Y1 0 rfl
  have yf := Y1.free 0
  have yl := Y1.lt
  have h3z := HBw.out.size
  have hlw3 := HYO.out.lt
  clear CP hX hB hO hfq
  go_wp2_with fail
  have Rd := Y1.set 0 (.slice (some ⟨go, 0, none⟩) l.length co)
  have x0 := blk_free_cell Rd 0 rfl
  have hFQ : ∀ q ∈ fq, s + 1 < q := fun q hq => by
    rcases HFQ.out q hq with h | h
    · have := HFP.out q h; omega
    · omega
  refine bodyPost_ret (v := .tuple #[.agg #[.slice (some ⟨go, 0, none⟩) l.length co], .int .i64 (R.1.2 : Nat)]) (by simp [results, Tryz.results74, go_sem, x0]) rfl ⟨_, fq, rfl, owns_set (b := s + 1) (i := 0) HOO.out (fun q hq => by have := hFQ q hq; omega) _, fun q hq => by have := hFQ q hq; omega, HE.out.setCell (p := ⟨s + 1, 0, none⟩) (by show _ ≤ s + 1; omega) _⟩
end Go.Proofs.YteladljgnbfcnaaGreat.P9
