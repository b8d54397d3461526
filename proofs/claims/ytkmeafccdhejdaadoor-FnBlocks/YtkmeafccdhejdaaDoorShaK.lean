/- The contract of spec.ShaBlock; condition: at most 2^20 numbers, and as many bytes. -/
import Derived.Test.YtkmeafccdhejdaaDoorShaS
import Derived.Test.YtkmeafccdhejdaaDoorCur
import Derived.Deep.RegionWith
namespace Go.Proofs.YtkmeafccdhejdaaDoor.P3
open Go.RowKit P1

/-- Eight ints as a state. -/
def stOf (l : List Int) : St := ⟨(l.getD 0 0).toNat, (l.getD 1 0).toNat, (l.getD 2 0).toNat, (l.getD 3 0).toNat, (l.getD 4 0).toNat, (l.getD 5 0).toNat, (l.getD 6 0).toNat, (l.getD 7 0).toNat⟩

/-- Whether a state and a block are right. -/
def shaOk (l : List Int) (b : List UInt8) : Prop := l.length = 8 ∧ b.length = 64 ∧ ∀ x ∈ l, 0 ≤ x ∧ x ≤ 4294967295

instance (l : List Int) (b : List UInt8) : Decidable (shaOk l b) := by unfold shaOk; infer_instance

/-- What ShaBlock answers. -/
def shaV (l : List Int) (b : List UInt8) : List Int := if shaOk l b then intsOf (block (stOf l) b).list else l

theorem in_calls (x a b : Int) (w : World) :
    Calls Tryd.prog 41 #[.int .i64 x, .int .i64 a, .int .i64 b] w fun e w' => e = .returned (.bool (decide (a ≤ x ∧ x ≤ b))) ∧ w' = w := by
  by_cases h1 : a ≤ x <;> by_cases h2 : x ≤ b <;>
  · go_enter Tryd.func41, Tryd.ntmps41
    go_wp2
    go_ret
    exact ⟨by simp [h1, h2], rfl⟩

theorem wordsV_list (s : St) : wordsV s.list = #[.int .u32 (s.a : Nat), .int .u32 (s.b : Nat), .int .u32 (s.c : Nat), .int .u32 (s.d : Nat), .int .u32 (s.e : Nat), .int .u32 (s.f : Nat), .int .u32 (s.g : Nat), .int .u32 (s.h : Nat)] := rfl

theorem eight {w : World} {b : Nat} {s : St} (h : Arr w b s.list) : w.cell? ⟨b, 0, none⟩ = some (.int .u32 (s.a : Nat)) ∧ w.cell? ⟨b, 1, none⟩ = some (.int .u32 (s.b : Nat)) ∧ w.cell? ⟨b, 2, none⟩ = some (.int .u32 (s.c : Nat)) ∧ w.cell? ⟨b, 3, none⟩ = some (.int .u32 (s.d : Nat)) ∧
    w.cell? ⟨b, 4, none⟩ = some (.int .u32 (s.e : Nat)) ∧ w.cell? ⟨b, 5, none⟩ = some (.int .u32 (s.f : Nat)) ∧ w.cell? ⟨b, 6, none⟩ = some (.int .u32 (s.g : Nat)) ∧ w.cell? ⟨b, 7, none⟩ = some (.int .u32 (s.h : Nat)) :=
  ⟨h.cell 0 (by show 0 < 8; omega), h.cell 1 (by show 1 < 8; omega), h.cell 2 (by show 2 < 8; omega), h.cell 3 (by show 3 < 8; omega), h.cell 4 (by show 4 < 8; omega), h.cell 5 (by show 5 < 8; omega), h.cell 6 (by show 6 < 8; omega), h.cell 7 (by show 7 < 8; omega)⟩

theorem set_own {w : World} {B : Nat} {e : TypeId} {go n cap g i : Nat} {u : Value} {xs : List Value} (hne : g ≠ go) (h : w.ownsRow B e 1 (.slice (some ⟨go, 0, none⟩) n cap) n xs) : (w.setCell ⟨g, i, none⟩ u).ownsRow B e 1 (.slice (some ⟨go, 0, none⟩) n cap) n xs :=
  h.kept (Cu.grown_set _ g i _) (.inr (by simp [Value.ownBlock]; omega))

set_option maxHeartbeats 1000000 in
theorem specBlock_calls (w : World) (v : Value) (l : List Int) (b : List UInt8) (hv : IntsAt w v l) (hl : l.length ≤ 1048576) :
    Calls Tryd.prog 20 #[v, .string ⟨b.toArray⟩] w fun e w' => ∃ v', e = .returned v' ∧ w'.ownsRow w.heap.size 3 1 v' (shaV l b).length (cellsI (shaV l b)) ∧ Below w.heap.size w w' := by
  obtain ⟨a, ca, rfl, HA⟩ := hv
  replace HA := hide HA
  obtain ⟨i0, hi, hz0, hz1, hz2⟩ := info_parts info_i64
  by_cases hemp : l = []
  · subst hemp
    have hs : shaV [] b = [] := by unfold shaV shaOk; simp
    rw [hs]
    clear HA hs
    cases a with
    | none =>
      go_enter Tryd.func20, Tryd.ntmps20
      go_wp2
      go_ret
      exact ⟨_, rfl, World.ownsRow_lit _ _ 0 (Nat.le_refl _) (by decide) rfl, (Below.refl _ _).alloc (Nat.le_refl _) _⟩
    | some a =>
      go_enter Tryd.func20, Tryd.ntmps20
      go_wp2
      go_ret
      exact ⟨_, rfl, World.ownsRow_lit _ _ 0 (Nat.le_refl _) (by decide) rfl, (Below.refl _ _).alloc (Nat.le_refl _) _⟩
  · have hpos : 0 < l.length := List.length_pos_iff.2 hemp
    obtain ⟨g, off, rfl, hglt, hg0⟩ := HA.out 0 hpos
    have hcells : ∀ j (hj : j < l.length), w.cell? ⟨g, off + j, none⟩ = some (.int .i64 l[j]) := by
      intro j hj
      obtain ⟨g', off', e1, _, e3⟩ := HA.out j hj
      cases e1
      exact e3
    have HC := hide hcells
    clear HA hg0 hcells
    go_enter Tryd.func20, Tryd.ntmps20
    have hnews : ∀ j u, (cellsI l)[j]? = some u → (w.alloc (.cells #[] 3)).cell? ((⟨g, off, none⟩ : Addr).add j) = some u := by
      intro j u hj
      have hj' : j < l.length := by have := (List.getElem?_eq_some_iff.1 hj).1; simpa [cellsI] using this
      rw [Go.WideShapes.add_plain, World.cell?_alloc_lt _ _ _ hglt, HC.out j hj']
      simpa [cellsI, hj'] using hj
    have hone : ∀ u ∈ cellsI l, u.oneCell' = true := by
      intro u hu
      simp [cellsI] at hu
      obtain ⟨n, _, rfl⟩ := hu
      rfl
    have HNW := hide hnews
    have HON := hide hone
    clear hnews hone
    go_wp2_with (at_builtin; refine wpList_append_own _ rfl (.tmp 9) (.tmp 10) 24 rfl w.heap.size 3 i0 (.int .i64 0) 1 8 Tryd.underlying24 hi hz0 hz1 hz2 rfl (by decide) _ 0 [] rfl (World.ownsRow_lit _ _ 0 (Nat.le_refl _) (by decide) rfl) ⟨g, off, none⟩ l.length ca (cellsI l) rfl (by rw [cellsI_length]; omega) HNW.out HON.out (by unfold maxLen; omega) (by omega) (by simp) ?_)
    intro v' w1 hown hgr _
    have hb1 : Below w.heap.size w w1 := ((Below.refl _ _).alloc (Nat.le_refl _) _).grown hgr (by simp) (fun k hk => by simp [Value.ownBlock] at hk; omega)
    have HO := hide hown
    have HB := hide hb1
    clear hgr hown hb1 HNW HON
    by_cases hbad : l.length ≠ 8 ∨ b.length ≠ 64
    · have hsv : shaV l b = l := by unfold shaV; rw [if_neg]; rintro ⟨h1, h2, _⟩; rcases hbad with h | h <;> omega
      have HSV := hide hsv
      clear hsv
      have hd : (((l.length : Int) != 8) || ((b.length : Int) != 64)) = true := by
        rcases hbad with h | h
        · simp; omega
        · simp; omega
      rcases Bool.eq_false_or_eq_true ((l.length : Int) != 8) with h8 | h8
      · go_wp2
        go_ret
        exact ⟨_, rfl, by rw [HSV.out]; exact HO.out, HB.out⟩
      · have h64 : ((b.length : Int) != 64) = true := by rw [h8] at hd; simpa using hd
        go_wp2
        go_ret
        exact ⟨_, rfl, by rw [HSV.out]; exact HO.out, HB.out⟩
    · have hl8 : l.length = 8 := by omega
      have hb64 : b.length = 64 := by omega
      have h8 : ((l.length : Int) != 8) = false := by simp; omega
      have h64 : ((b.length : Int) != 64) = false := by simp; omega
      go_wp2
      clear h8 h64
      have hA := Arr.new w1 49 nil8 #[.int .u32 0, .int .u32 0, .int .u32 0, .int .u32 0, .int .u32 0, .int .u32 0, .int .u32 0, .int .u32 0] rfl
      have hO2 := HO.out.alloc (.cells #[.int .u32 0, .int .u32 0, .int .u32 0, .int .u32 0, .int .u32 0, .int .u32 0, .int .u32 0, .int .u32 0] 49)
      have hB2 : Below w.heap.size w (w1.alloc (.cells #[.int .u32 0, .int .u32 0, .int .u32 0, .int .u32 0, .int .u32 0, .int .u32 0, .int .u32 0, .int .u32 0] 49)) := HB.out.alloc HB.out.size _
      obtain ⟨go, cp, hv', hgo1, hgo2, hcp, -, -⟩ := own_at HO.out (by omega)
      have hbh : w.heap.size ≤ w1.heap.size := HB.out.size
      obtain ⟨bH, hbH⟩ : ∃ bH, bH = w1.heap.size := ⟨_, rfl⟩
      obtain ⟨w2, hw2⟩ : ∃ w2, w2 = w1.alloc (.cells #[.int .u32 0, .int .u32 0, .int .u32 0, .int .u32 0, .int .u32 0, .int .u32 0, .int .u32 0, .int .u32 0] 49) := ⟨_, rfl⟩
      rw [← hw2] at hA hO2 hB2 ⊢
      rw [← hbH] at hA hgo2 hbh ⊢
      rw [hl8] at hO2 hv'
      subst hv'
      rw [hl8]
      clear HO HB hw2 hbH
      have HA := hide hA
      have HO := hide hO2
      have HB := hide hB2
      clear hA hO2 hB2
      go_loopw [7] (fun i wr => ∃ k : Nat, ∃ xs : List Nat, k ≤ 8 ∧ i = .int .i64 k ∧ xs.length = 8 ∧ (∀ j, j < k → (0 ≤ l.getD j 0 ∧ l.getD j 0 ≤ 4294967295) ∧ xs.getD j 0 = (l.getD j 0).toNat) ∧ Arr wr bH xs ∧ wr.ownsRow w.heap.size 3 1 (.slice (some ⟨go, 0, none⟩) 8 cp) 8 (cellsI l) ∧ Below w.heap.size w wr) (fun i _ => 8 - (intOf i).toNat)
      case atStart => exact ⟨0, nil8, by omega, rfl, rfl, fun j hj => by omega, HA.out, HO.out, HB.out⟩
      case round =>
        clear HA HO HB
        obtain ⟨k, xs, hk, rfl, hxl, hxs, hA, hO, hB⟩ := hrel
        have HA := hide hA
        have HO := hide hO
        have HB := hide hB
        have HX := hide hxs
        clear hA hO hB hxs
        by_cases hlt : k < 8
        · have ck := HB.out.cell (p := ⟨g, off + k, none⟩) hglt
          rw [HC.out k (by omega)] at ck
          have hgd : l.getD k 0 = l[k] := by simp [List.getD_eq_getElem?_getD, show k < l.length by omega]
          have hmem : l[k] ∈ l := List.getElem_mem _
          obtain ⟨x, hx⟩ : ∃ x, x = l[k] := ⟨_, rfl⟩
          rw [← hx] at ck hgd hmem
          have HGD := hide hgd
          have HME := hide hmem
          clear hx hgd hmem
          by_cases hr : 0 ≤ x ∧ x ≤ 4294967295
          · have hin : decide (0 ≤ x ∧ x ≤ 4294967295) = true := by simpa using hr
            obtain ⟨n, rfl⟩ := Int.eq_ofNat_of_zero_le hr.1
            have hn : n ≤ 4294967295 := by omega
            have hcx := HA.out.cell k (by omega)
            have hfx := HA.out.free k
            have hne : bH ≠ go := by omega
            go_wp2_with fail
            refine (in_calls _ _ _ _).mono ?_
            rintro e w3 ⟨rfl, rfl⟩
            rw [hin]
            clear hin
            go_wp2
            go_roundw
            case rel =>
              refine ⟨k + 1, xs.set k n, by omega, by go_num, by simpa using hxl, ?_, HA.out.set n, ?_, HB.out.setCell hbh _⟩
              · intro j hj
                by_cases e : k = j
                · subst e
                  rw [P1.getD_set_eq _ _ _ (by omega), HGD.out]
                  exact ⟨hr, by simp⟩
                · rw [P1.getD_set_ne _ _ _ _ e]
                  exact HX.out j (by omega)
              · exact HO.out.kept (Cu.grown_set _ bH k _) (.inr (by simp [Value.ownBlock]; omega))
            case measure => simp [intOf]; omega
          · have hin : decide (0 ≤ x ∧ x ≤ 4294967295) = false := by simpa using hr
            have HSV : Hid (shaV l b = l) := by
              show shaV l b = l
              unfold shaV
              rw [if_neg]
              rintro ⟨_, _, h⟩
              exact hr (h x HME.out)
            clear hr
            go_wp2_with fail
            refine (in_calls _ _ _ _).mono ?_
            rintro e w3 ⟨rfl, rfl⟩
            rw [hin]
            clear hin
            go_wp2
            go_ret
            exact ⟨_, rfl, by rw [HSV.out, hl8]; exact HO.out, HB.out⟩
        · have hk8 : k = 8 := by omega
          have HOK : Hid (shaOk l b) := ⟨hl8, hb64, fun x hx => by
            obtain ⟨j, hj, rfl⟩ := List.getElem_of_mem hx
            have := (HX.out j (by omega)).1
            simpa [List.getD_eq_getElem?_getD, hj] using this⟩
          have hxe : xs = (stOf l).list := by
            have h := fun j (hj : j < 8) => (HX.out j (by omega)).2
            match xs, hxl with
            | [x0, x1, x2, x3, x4, x5, x6, x7], _ =>
              have e0 := h 0 (by omega)
              have e1 := h 1 (by omega)
              have e2 := h 2 (by omega)
              have e3 := h 3 (by omega)
              have e4 := h 4 (by omega)
              have e5 := h 5 (by omega)
              have e6 := h 6 (by omega)
              have e7 := h 7 (by omega)
              simp only [List.getD_cons_zero, List.getD_cons_succ] at e0 e1 e2 e3 e4 e5 e6 e7
              rw [e0, e1, e2, e3, e4, e5, e6, e7]
              rfl
          have hok : (stOf l).ok := by
            have h := fun j (hj : j < 8) => (HX.out j (by omega)).1
            have h0 := h 0 (by omega)
            have h1 := h 1 (by omega)
            have h2 := h 2 (by omega)
            have h3 := h 3 (by omega)
            have h4 := h 4 (by omega)
            have h5 := h 5 (by omega)
            have h6 := h 6 (by omega)
            have h7 := h 7 (by omega)
            unfold St.ok stOf
            dsimp only
            omega
          rw [hxe] at HA
          have HSV : Hid (shaV l b = intsOf (block (stOf l) b).list) := by
            show shaV l b = _
            unfold shaV
            rw [if_pos HOK.out]
          obtain ⟨st, Est⟩ : ∃ st, Hid (st = stOf l) := ⟨_, rfl⟩
          rw [← Est.out] at HA HSV hok
          have HCB := hide (fun wx => block_calls st hok keys keys_length keys_lt b hb64 wx)
          have EQ2 : Hid (block st b = st.plus (roundsN keys (sched b) 64 st)) := rfl
          simp only [← EQ2.out] at HCB
          obtain ⟨R, ER⟩ : ∃ R, Hid (R = block st b) := ⟨_, rfl⟩
          simp only [← ER.out] at HCB
          rw [← ER.out] at HSV
          have hRok : R.ok := by rw [ER.out, EQ2.out]; exact plus_ok _ _
          obtain ⟨KV, EK⟩ : ∃ KV, Hid (KV = wordsV keys) := ⟨_, rfl⟩
          have HK := hide keys_calls
          simp only [← EK.out, wordsV_list] at HCB
          simp only [← EK.out] at HK
          clear hxe HX hk8 HOK Est EQ2 ER hok
          have hcs := (eight HA.out)
          obtain ⟨c0, c1, c2, c3, c4, c5, c6, c7⟩ := hcs
          have hlw := HA.out.lt
          go_wp2
          go_region_with (first
            | (go_at_call 38; refine (HK.out _).mono ?_; rintro e w4 ⟨rfl, hb4⟩; have HA4 := hide (HA.out.drew.below hb4 hlw); have HO4 := hide (own_below HO.out.drew hb4); have HB4 := hide (HB.out.drew.trans (hb4.mono HB.out.size)); have hcs4 := (eight HA4.out); obtain ⟨d0, d1, d2, d3, d4, d5, d6, d7⟩ := hcs4; clear hb4)
            | (go_at_call 40; refine (HCB.out _).mono ?_; rintro e w5 ⟨rfl, hb5⟩; have HA5 := hide (HA4.out.below hb5 HA4.out.lt); have HO5 := hide (own_below HO4.out hb5); have HB5 := hide (HB4.out.trans (hb5.mono HB4.out.size)); have hcs5 := (eight HA5.out); obtain ⟨e0, e1, e2, e3, e4, e5, e6, e7⟩ := hcs5; have hf5 := HA5.out.free; clear hb5))
          all_goals
            have hA6 := ((((((((HA5.out.set (i := 0) R.a).set (i := 1) R.b).set (i := 2) R.c).set (i := 3) R.d).set (i := 4) R.e).set (i := 5) R.f).set (i := 6) R.g).set (i := 7) R.h)
            have hO6 := set_own (by omega) (set_own (by omega) (set_own (by omega) (set_own (by omega) (set_own (by omega) (set_own (by omega) (set_own (by omega) (set_own (by omega) HO5.out (i := 0) (g := bH) (u := .int .u32 (R.a : Nat))) (i := 1) (g := bH) (u := .int .u32 (R.b : Nat))) (i := 2) (g := bH) (u := .int .u32 (R.c : Nat))) (i := 3) (g := bH) (u := .int .u32 (R.d : Nat))) (i := 4) (g := bH) (u := .int .u32 (R.e : Nat))) (i := 5) (g := bH) (u := .int .u32 (R.f : Nat))) (i := 6) (g := bH) (u := .int .u32 (R.g : Nat))) (i := 7) (g := bH) (u := .int .u32 (R.h : Nat))
            have hB6 := (((((((HB5.out.setCell (p := ⟨bH, 0, none⟩) hbh (.int .u32 (R.a : Nat))).setCell (p := ⟨bH, 1, none⟩) hbh (.int .u32 (R.b : Nat))).setCell (p := ⟨bH, 2, none⟩) hbh (.int .u32 (R.c : Nat))).setCell (p := ⟨bH, 3, none⟩) hbh (.int .u32 (R.d : Nat))).setCell (p := ⟨bH, 4, none⟩) hbh (.int .u32 (R.e : Nat))).setCell (p := ⟨bH, 5, none⟩) hbh (.int .u32 (R.f : Nat))).setCell (p := ⟨bH, 6, none⟩) hbh (.int .u32 (R.g : Nat))).setCell (p := ⟨bH, 7, none⟩) hbh (.int .u32 (R.h : Nat))
            obtain ⟨w6, hw6⟩ : ∃ w6, w6 = (((((((w5.setCell ⟨bH, 0, none⟩ (.int .u32 (R.a : Nat))).setCell ⟨bH, 1, none⟩ (.int .u32 (R.b : Nat))).setCell ⟨bH, 2, none⟩ (.int .u32 (R.c : Nat))).setCell ⟨bH, 3, none⟩ (.int .u32 (R.d : Nat))).setCell ⟨bH, 4, none⟩ (.int .u32 (R.e : Nat))).setCell ⟨bH, 5, none⟩ (.int .u32 (R.f : Nat))).setCell ⟨bH, 6, none⟩ (.int .u32 (R.g : Nat))).setCell ⟨bH, 7, none⟩ (.int .u32 (R.h : Nat)) := ⟨_, rfl⟩
            rw [← hw6] at hA6 hO6 hB6 ⊢
            have hA7 : Arr w6 bH R.list := hA6
            have HA7 := hide hA7
            have HO7 := hide hO6
            have HB7 := hide hB6
            clear hA6 hO6 hB6 hA7 hw6 HA5 HO5 HB5 HA4 HO4 HB4 HA HO HB e0 e1 e2 e3 e4 e5 e6 e7 hf5 c0 c1 c2 c3 c4 c5 c6 c7 HCB HK hlt
            go_wp2
            go_loopw [8] (fun i wr => ∃ k : Nat, ∃ L : List Int, k ≤ 8 ∧ i = .int .i64 k ∧ L.length = 8 ∧ (∀ j, j < k → L.getD j 0 = ((R.list.getD j 0 : Nat) : Int)) ∧ wr.ownsRow w.heap.size 3 1 (.slice (some ⟨go, 0, none⟩) 8 cp) 8 (cellsI L) ∧ Arr wr bH R.list ∧ Below w.heap.size w wr) (fun i _ => 8 - (intOf i).toNat)
            case atStart => exact ⟨0, l, by omega, rfl, hl8, fun j hj => by omega, HO7.out, HA7.out, HB7.out⟩
            case round =>
              clear HA7 HO7 HB7
              obtain ⟨k, L, hk, rfl, hL8, hL, hO, hA, hB⟩ := hrel
              have HA := hide hA
              have HO := hide hO
              have HB := hide hB
              have HL := hide hL
              clear hA hO hB hL
              by_cases hlt : k < 8
              · have ck := HA.out.cell k (by show k < 8; omega)
                have hx := list_lt R hRok k hlt
                obtain ⟨x, hxe⟩ : ∃ x, x = R.list.getD k 0 := ⟨_, rfl⟩
                rw [← hxe] at ck hx
                have EX := hide hxe
                clear hxe
                have hc2 : ∃ y, wr.cell? ⟨go, k, none⟩ = some y := by rw [HO.out.cellAt k (by omega)]; exact ⟨_, List.getElem?_eq_getElem (by rw [cellsI_length]; omega)⟩
                obtain ⟨y, hc2⟩ := hc2
                have hf2 := HO.out.frozenAt k
                have hgo : w.heap.size ≤ go := by omega
                have hne2 : go ≠ bH := by omega
                go_wp2
                go_roundw
                case rel =>
                  have h1 := (HO.out.stored k (.int .i64 (x : Int))).1
                  rw [cellsI_set] at h1
                  refine ⟨k + 1, L.set k (x : Int), by omega, by go_num, by simpa using hL8, ?_, h1, HA.out.other hne2 _, HB.out.setCell hgo _⟩
                  intro j hj
                  by_cases e : k = j
                  · subst e
                    rw [← EX.out]
                    simp [List.getD_eq_getElem?_getD, show k < L.length by omega]
                  · have := HL.out j (by omega)
                    rw [← this]
                    simp [List.getD_eq_getElem?_getD, List.getElem?_set_ne e]
                case measure => simp [intOf]; omega
              · have hLe : L = intsOf R.list := by
                  apply List.ext_getElem
                  · rw [hL8]; rfl
                  · intro j h1 h2
                    have := HL.out j (by omega)
                    have hj8 : j < R.list.length := by show j < 8; omega
                    simp only [List.getD_eq_getElem?_getD, List.getElem?_eq_getElem h1, List.getElem?_eq_getElem hj8, Option.getD_some] at this
                    rw [this]
                    simp [intsOf]
                have hO := HO.out
                rw [hLe] at hO
                have HOe := hide hO
                clear hO hLe
                go_wp2
                go_ret
                exact ⟨_, rfl, by rw [HSV.out]; exact HOe.out, HB.out⟩
end Go.Proofs.YtkmeafccdhejdaaDoor.P3
