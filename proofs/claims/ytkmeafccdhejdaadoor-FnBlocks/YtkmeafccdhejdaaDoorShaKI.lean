/- The contract of impl.ShaBlock; conditions: at most 2^20 numbers, the listed table holds what its text lays. -/
import Derived.Test.YtkmeafccdhejdaaDoorShaK
import Derived.Test.YtkmeafccdhejdaaDoorShaI5
namespace Go.Proofs.YtkmeafccdhejdaaDoor.P3
open Go.RowKit P1

/-- Eight numbers, each of 32 bits. -/
def stateOk (l : List Int) : Prop := l.length = 8 ∧ ∀ x ∈ l, 0 ≤ x ∧ x ≤ 4294967295

theorem built8 : Tryd.prog.built 50 [] = some (wordsV nil8) := by kernel_rfl

theorem results_cell_tmp {fn : Func} {p q : Tmp} {ty : TypeId} (h : fn.results = #[.cell p ty, .tmp q]) {tmps : Array Value} {P : Program} {w : World} {b : Nat} {xs : List Nat} (hp : tmps.getD p undef = .pointer (some ⟨b, 0, none⟩))
    (hagg : ∀ w, (isAgg ty).run P w = .ok true w) (hsz : ∀ w, (sizeOf ty).run P w = .ok xs.length w) (hA : Arr w b xs) : (results fn tmps).run P w = .ok (.tuple #[.agg (wordsV xs), tmps.getD q undef]) w := by
  have hl := hA.load (P := P) xs.length rfl
  have hp' : tmps[p]?.getD undef = .pointer (some ⟨b, 0, none⟩) := by simpa using hp
  simp [results, h, hp', asAddr, loadVar, loadCells, hagg, hsz, hl]

set_option maxHeartbeats 1000000 in
theorem numbersOf_calls (w : World) (v : Value) (l : List Int) (hv : IntsAt w v l) :
    Calls Tryd.prog 33 #[v] w fun e w' => ((stateOk l ∧ e = .returned (.tuple #[.agg (wordsV (stOf l).list), .bool true])) ∨ (¬ stateOk l ∧ e = .returned (.tuple #[.agg (wordsV nil8), .bool false]))) ∧ Below w.heap.size w w' := by
  obtain ⟨a, ca, rfl, HA⟩ := hv
  replace HA := hide HA
  have hz8 := (zero_of_info zeroN8).1
  obtain ⟨Z, hZ⟩ : ∃ Z, Z = wordsV nil8 := ⟨_, rfl⟩
  have hbn := built8
  rw [← hZ] at hz8 hbn
  have z8 : Z.size = 8 := by rw [hZ]; rfl
  have one : Z.all (·.oneCell') = true := by rw [hZ]; exact wordsV_one _
  have HZ := hide hZ
  have Hz := hide hz8
  have Hbn := hide hbn
  clear hZ hz8 hbn
  have z1 : (w.alloc (.cells Z 50)).heap.size = w.heap.size + 1 := by simp
  have a0 := Arr.new w 50 nil8 Z HZ.out
  have a1 := Arr.new (w.alloc (.cells Z 50)) 50 nil8 Z HZ.out
  have k1 : Below (w.alloc (.cells Z 50)).heap.size (w.alloc (.cells Z 50)) ((w.alloc (.cells Z 50)).alloc (.cells Z 50)) := (Below.refl _ _).alloc (Nat.le_refl _) _
  have a0' := a0.below k1 (by rw [z1]; omega)
  have hb : Below w.heap.size w ((w.alloc (.cells Z 50)).alloc (.cells Z 50)) := ((Below.refl _ _).alloc (Nat.le_refl _) _).trans (k1.mono (by rw [z1]; omega))
  rw [z1] at a1
  have HA0 := hide a0'
  have HA1 := hide a1
  have HB := hide hb
  clear a0 a1 a0' k1 hb z1
  by_cases h8 : l.length = 8
  · obtain ⟨g, off, rfl, hglt, hg0⟩ := HA.out 0 (by omega)
    have hcells : ∀ j (hj : j < l.length), w.cell? ⟨g, off + j, none⟩ = some (.int .i64 l[j]) := by
      intro j hj
      obtain ⟨g', off', e1, _, e3⟩ := HA.out j hj
      cases e1
      exact e3
    have HC := hide hcells
    clear HA hg0 hcells
    rw [h8]
    go_enter Tryd.func33, Tryd.ntmps33
    go_wp2_with (refine wpList_alloc_agg rfl 50 rfl Z Hz.out ?_)
    obtain ⟨w1, hw1⟩ : ∃ w1, w1 = (w.alloc (.cells Z 50)).alloc (.cells Z 50) := ⟨_, rfl⟩
    obtain ⟨b0, hb0⟩ : ∃ b0, b0 = w.heap.size := ⟨_, rfl⟩
    have ho : w.heap.size ≤ b0 := by omega
    have hgb : g < b0 := by omega
    have HA0' : Hid (Arr w1 b0 nil8) := by rw [hw1, hb0]; exact HA0.out
    have HA1' : Hid (Arr w1 (b0 + 1) nil8) := by rw [hw1, hb0]; exact HA1.out
    have HB' : Hid (Below w.heap.size w w1) := by rw [hw1]; exact HB.out
    rw [← hw1, ← hb0]
    clear hw1 hb0 HA0 HA1 HB Hz
    go_loopw [13] (fun i wr => ∃ k : Nat, ∃ xs : List Nat, k ≤ 8 ∧ i = .int .i64 k ∧ xs.length = 8 ∧ (∀ j, j < k → (0 ≤ l.getD j 0 ∧ l.getD j 0 ≤ 4294967295) ∧ xs.getD j 0 = (l.getD j 0).toNat) ∧ Arr wr (b0 + 1) xs ∧ Arr wr b0 nil8 ∧ Below w.heap.size w wr) (fun i _ => 8 - (intOf i).toNat)
    case atStart => exact ⟨0, nil8, by omega, rfl, rfl, fun j hj => by omega, HA1'.out, HA0'.out, HB'.out⟩
    case round =>
      clear HA1' HA0' HB'
      obtain ⟨k, xs, hk, rfl, hxl, hxs, hA, hA0, hB⟩ := hrel
      have HA := hide hA
      have HA0 := hide hA0
      have HB := hide hB
      have HX := hide hxs
      clear hA hA0 hB hxs
      by_cases hlt : k < 8
      · have ck := HB.out.cell (p := ⟨g, off + k, none⟩) hglt
        rw [HC.out k (by omega)] at ck
        have hgd : l.getD k 0 = l[k] := by simp [List.getD_eq_getElem?_getD, show k < l.length by omega]
        have hmem : l[k] ∈ l := List.getElem_mem _
        obtain ⟨x, hx⟩ : ∃ x, x = l[k] := ⟨_, rfl⟩
        rw [← hx] at ck hgd hmem
        have HGD := hide hgd
        have HME := hide hmem
        clear hx hgd hmem
        by_cases hr : 0 ≤ x ∧ x ≤ 4294967295
        · have hd1 : decide (x < 0) = false := by simp; omega
          have hd2 : decide (4294967295 < x) = false := by simp; omega
          obtain ⟨n, rfl⟩ := Int.eq_ofNat_of_zero_le hr.1
          have hn : n ≤ 4294967295 := by omega
          have hcx := HA.out.cell k (by omega)
          have hfx := HA.out.free k
          go_wp2_with fail
          go_roundw
          case rel =>
            refine ⟨k + 1, xs.set k n, by omega, by go_num, by simpa using hxl, ?_, HA.out.set n, HA0.out.other (by omega) _, HB.out.setCell (by show w.heap.size ≤ b0 + 1; omega) _⟩
            intro j hj
            by_cases e : k = j
            · subst e
              rw [P1.getD_set_eq _ _ _ (by omega), HGD.out]
              exact ⟨hr, by simp⟩
            · rw [P1.getD_set_ne _ _ _ _ e]
              exact HX.out j (by omega)
          case measure => simp [intOf]; omega
        · have HNO : Hid (¬ stateOk l) := fun h => hr (h.2 x HME.out)
          have hth := HA0.out.there 8 rfl
          by_cases hx0 : x < 0
          · have hd1 : decide (x < 0) = true := by simpa using hx0
            clear hr hx0
            go_wp2_with (first | (refine wpList_build_nil rfl 50 rfl Z Hbn.out ?_) | (refine wpList_store_mid rfl 50 (.tmp 2) (.tmp 24) rfl b0 0 Z rfl rfl (by rw [z8]; exact hth) (by rw [z8]; exact sizeN8) one ?_))
            rw [HZ.out]
            exact bodyPost_ret (results_cell_tmp (xs := nil8) rfl rfl Tryd.isAgg50 Tryd.sizeOf50 (HA0.out.setAll nil8 rfl)) rfl ⟨.inr ⟨HNO.out, rfl⟩, below_setCells ho _ _ _ HB.out⟩
          · have hd1 : decide (x < 0) = false := by simpa using hx0
            have hd2 : decide (4294967295 < x) = true := by simp; omega
            clear hr hx0
            go_wp2_with (first | (refine wpList_build_nil rfl 50 rfl Z Hbn.out ?_) | (refine wpList_store_mid rfl 50 (.tmp 2) (.tmp 24) rfl b0 0 Z rfl rfl (by rw [z8]; exact hth) (by rw [z8]; exact sizeN8) one ?_))
            rw [HZ.out]
            exact bodyPost_ret (results_cell_tmp (xs := nil8) rfl rfl Tryd.isAgg50 Tryd.sizeOf50 (HA0.out.setAll nil8 rfl)) rfl ⟨.inr ⟨HNO.out, rfl⟩, below_setCells ho _ _ _ HB.out⟩
      · have hk8 : k = 8 := by omega
        have HOK : Hid (stateOk l) := ⟨h8, fun x hx => by
          obtain ⟨j, hj, rfl⟩ := List.getElem_of_mem hx
          have := (HX.out j (by omega)).1
          simpa [List.getD_eq_getElem?_getD, hj] using this⟩
        have hxe : xs = (stOf l).list := by
          have h := fun j (hj : j < 8) => (HX.out j (by omega)).2
          match xs, hxl with
          | [x0, x1, x2, x3, x4, x5, x6, x7], _ =>
            have e0 := h 0 (by omega)
            have e1 := h 1 (by omega)
            have e2 := h 2 (by omega)
            have e3 := h 3 (by omega)
            have e4 := h 4 (by omega)
            have e5 := h 5 (by omega)
            have e6 := h 6 (by omega)
            have e7 := h 7 (by omega)
            simp only [List.getD_cons_zero, List.getD_cons_succ] at e0 e1 e2 e3 e4 e5 e6 e7
            rw [e0, e1, e2, e3, e4, e5, e6, e7]
            rfl
        have HXE := hide hxe
        have hld := HA.out.load (P := Tryd.prog) 8 hxl
        obtain ⟨V, EV⟩ : ∃ V, Hid (V = wordsV xs) := ⟨_, rfl⟩
        rw [← EV.out] at hld
        have v8 : V.size = 8 := by rw [EV.out, wordsV_size, hxl]
        have vone : V.all (·.oneCell') = true := by rw [EV.out]; exact wordsV_one _
        have HLD := hide hld
        have HTH := hide (HA0.out.there 8 rfl)
        clear hld hxe HX hk8
        go_wp2_with (first | (refine wpList_load_agg rfl 50 (.tmp 4) rfl (b0 + 1) rfl 8 Tryd.isAgg50 Tryd.sizeOf50 V HLD.out ?_) | (refine wpList_store_mid rfl 50 (.tmp 2) (.tmp 30) rfl b0 0 V rfl rfl (by rw [v8]; exact HTH.out) (by rw [v8]; exact sizeN8) vone ?_))
        rw [EV.out]
        have hsx : ∀ w, (sizeOf 50).run Tryd.prog w = .ok xs.length w := by rw [hxl]; exact Tryd.sizeOf50
        exact bodyPost_ret (results_cell_tmp rfl rfl Tryd.isAgg50 hsx (HA0.out.setAll xs hxl)) rfl ⟨.inl ⟨HOK.out, by rw [HXE.out]; rfl⟩, below_setCells ho _ _ _ HB.out⟩
  · have HNO : Hid (¬ stateOk l) := fun h => h8 h.1
    have hd : ((l.length : Int) != 8) = true := by simp; omega
    go_enter Tryd.func33, Tryd.ntmps33
    have hld := HA1.out.load (P := Tryd.prog) 8 rfl
    rw [← HZ.out] at hld
    have HLD := hide hld
    have HTH := hide (HA0.out.there 8 rfl)
    clear hld HA
    go_wp2_with (first | (refine wpList_alloc_agg rfl 50 rfl Z Hz.out ?_) | (refine wpList_load_agg rfl 50 (.tmp 4) rfl (w.heap.size + 1) rfl 8 Tryd.isAgg50 Tryd.sizeOf50 Z HLD.out ?_) | (refine wpList_store_mid rfl 50 (.tmp 2) (.tmp 10) rfl w.heap.size 0 Z rfl rfl (by rw [z8]; exact HTH.out) (by rw [z8]; exact sizeN8) one ?_))
    rw [HZ.out] at HA0 HB ⊢
    exact bodyPost_ret (results_cell_tmp (xs := nil8) rfl rfl Tryd.isAgg50 Tryd.sizeOf50 (HA0.out.setAll nil8 rfl)) rfl ⟨.inr ⟨HNO.out, rfl⟩, below_setCells (Nat.le_refl _) _ _ _ HB.out⟩

theorem stOf_ok (l : List Int) (h : stateOk l) : (stOf l).ok := by
  obtain ⟨h8, hall⟩ := h
  have hg : ∀ j, j < 8 → 0 ≤ l.getD j 0 ∧ l.getD j 0 ≤ 4294967295 := fun j hj => by
    have := hall l[j] (List.getElem_mem (by omega))
    simpa [List.getD_eq_getElem?_getD, show j < l.length by omega] using this
  have h0 := hg 0 (by omega)
  have h1 := hg 1 (by omega)
  have h2 := hg 2 (by omega)
  have h3 := hg 3 (by omega)
  have h4 := hg 4 (by omega)
  have h5 := hg 5 (by omega)
  have h6 := hg 6 (by omega)
  have h7 := hg 7 (by omega)
  unfold St.ok stOf
  dsimp only
  omega

theorem shaV_ok (l : List Int) (b : List UInt8) (h : stateOk l) (hb : b.length = 64) : shaV l b = intsOf (block (stOf l) b).list := by
  unfold shaV
  rw [if_pos ⟨h.1, hb, h.2⟩]

theorem shaV_no (l : List Int) (b : List UInt8) (h : ¬ (stateOk l ∧ b.length = 64)) : shaV l b = l := by
  unfold shaV
  rw [if_neg]
  rintro ⟨h1, h2, h3⟩
  exact h ⟨⟨h1, h3⟩, h2⟩

set_option maxHeartbeats 1000000 in
theorem implBlock_calls (w : World) (v : Value) (l : List Int) (b : List UInt8) (hv : IntsAt w v l) (hl : l.length ≤ 1048576) (hK : KeyT w) :
    Calls Tryd.prog 14 #[v, .string ⟨b.toArray⟩] w fun e w' => ∃ v', e = .returned v' ∧ w'.ownsRow w.heap.size 3 1 v' (shaV l b).length (cellsI (shaV l b)) ∧ Below w.heap.size w w' := by
  have hz8 := (zero_of_info zeroN8).1
  obtain ⟨Z, hZ⟩ : ∃ Z, Z = wordsV nil8 := ⟨_, rfl⟩
  rw [← hZ] at hz8
  have z8 : Z.size = 8 := by rw [hZ]; rfl
  have HZ := hide hZ
  have Hz := hide hz8
  have HV := hide hv
  have HK := hide hK
  have HN := hide (numbersOf_calls w v l hv)
  clear hZ hz8 hv hK
  obtain ⟨i0, hi, hz0, hz1, hz2⟩ := info_parts info_i64
  go_enter Tryd.func14, Tryd.ntmps14
  go_wp2_with fail
  refine HN.out.mono ?_
  rintro e w1 ⟨hor, hb1⟩
  have HB1 := hide hb1
  clear hb1 HN
  by_cases hgood : stateOk l ∧ b.length = 64
  · have he : e = .returned (.tuple #[.agg (wordsV (stOf l).list), .bool true]) := by
      rcases hor with ⟨_, h⟩ | ⟨h, _⟩
      · exact h
      · exact absurd hgood.1 h
    subst he
    have HSV := hide (shaV_ok l b hgood.1 hgood.2)
    have hok := stOf_ok l hgood.1
    have hb64 := hgood.2
    clear hor hgood
    obtain ⟨st, Est⟩ : ∃ st, Hid (st = stOf l) := ⟨_, rfl⟩
    rw [← Est.out] at hok HSV ⊢
    obtain ⟨U, EU⟩ : ∃ U, Hid (U = wordsV st.list) := ⟨_, rfl⟩
    rw [← EU.out]
    have u8 : U.size = 8 := by rw [EU.out]; rfl
    have uone : U.all (·.oneCell') = true := by rw [EU.out]; exact wordsV_one _
    have hd : ((b.length : Int) != 64) = false := by simp; omega
    have hRok : (block st b).ok := plus_ok _ _
    clear Est
    go_wp2_with (first | (refine wpList_alloc_agg rfl 50 rfl Z Hz.out ?_) | (refine wpList_store_last rfl 50 (.tmp 5) (.tmp 10) rfl Z U rfl rfl (by rw [u8]; exact sizeN8) (by rw [z8, u8]) uone ?_))
    have hA := Arr.new w1 50 st.list U EU.out
    have hbA : Below w1.heap.size w1 (w1.alloc (.cells U 50)) := (Below.refl _ _).alloc (Nat.le_refl _) _
    have hKA := (HK.out.below HB1.out HK.out.lt).below (hbA.mono HB1.out.size) HK.out.lt
    have hkb : 1 < w1.heap.size := Nat.lt_of_lt_of_le HK.out.lt HB1.out.size
    have hBA := HB1.out.trans (hbA.mono HB1.out.size)
    have hwb := HB1.out.size
    refine (takeBlock_calls _ st hok b hb64 _ hA hKA hkb).mono ?_
    rintro e w3 ⟨⟨v3, rfl⟩, hA3, hg3⟩
    have hB3 := hBA.trans (Cu.below_of_grown hg3 hwb hBA.size)
    have HA3 := hide hA3
    have HB3 := hide hB3
    clear hA hbA hKA hBA hA3 hg3 hB3
    generalize w1.heap.size = bn at *
    obtain ⟨R, ER⟩ : ∃ R, Hid (R = block st b) := ⟨_, rfl⟩
    rw [← ER.out] at HA3 HSV hRok
    clear ER HB1
    go_wp2_with fail
    refine (list_calls bn R hRok _ HA3.out).mono ?_
    rintro e w4 ⟨v4, rfl, hown, hb4⟩
    have HO := hide (own_mono hown HB3.out.size)
    have HB4 := hide (HB3.out.trans (hb4.mono HB3.out.size))
    clear hown hb4
    go_wp2_with fail
    go_ret
    exact ⟨_, rfl, by rw [HSV.out]; exact HO.out, HB4.out⟩
  · have HSV := hide (shaV_no l b hgood)
    obtain ⟨X, okb, he, hX8, hbb⟩ : ∃ (X : List Nat) (okb : Bool), e = .returned (.tuple #[.agg (wordsV X), .bool okb]) ∧ X.length = 8 ∧ (okb = true → b.length ≠ 64) := by
      rcases hor with ⟨h1, h2⟩ | ⟨h1, h2⟩
      · exact ⟨(stOf l).list, true, h2, rfl, fun _ h => hgood ⟨h1, h⟩⟩
      · exact ⟨nil8, false, h2, rfl, fun h => by cases h⟩
    subst he
    clear hor hgood
    have hcond : okb = false ∨ (okb = true ∧ ((b.length : Int) != 64) = true) := by
      cases okb with
      | false => exact .inl rfl
      | true => exact .inr ⟨rfl, by have := hbb rfl; simp; omega⟩
    obtain ⟨U, EU⟩ : ∃ U, Hid (U = wordsV X) := ⟨_, rfl⟩
    rw [← EU.out]
    have u8 : U.size = 8 := by rw [EU.out, wordsV_size, hX8]
    have uone : U.all (·.oneCell') = true := by rw [EU.out]; exact wordsV_one _
    have hbA : Below w1.heap.size w1 (w1.alloc (.cells U 50)) := (Below.refl _ _).alloc (Nat.le_refl _) _
    have hB2 := HB1.out.trans (hbA.mono HB1.out.size)
    have hz1w : (w1.alloc (.cells U 50)).heap.size = w1.heap.size + 1 := by simp
    have hown0 : ((w1.alloc (.cells U 50)).alloc (.cells #[] 3)).ownsRow w.heap.size 3 1 (.slice (some ⟨w1.heap.size + 1, 0, none⟩) 0 0) 0 [] := by
      have h0 := World.ownsRow_lit (base := w.heap.size) (e := 3) (size := 1) (w1.alloc (.cells U 50)) #[] 0 hB2.size (by decide) rfl
      rw [hz1w] at h0
      exact h0
    have HO0 := hide hown0
    have hsw := hB2.size
    rw [hz1w] at hsw
    obtain ⟨a, ca, rfl, HAv⟩ := HV.out
    clear hown0 hbA hbb EU HV HK
    by_cases hemp : l = []
    · subst hemp
      clear HAv
      have HB2 := hide hB2
      clear hB2
      rcases hcond with rfl | ⟨rfl, hd⟩
      all_goals
        cases a with
        | none =>
          go_wp2_with (first | (refine wpList_alloc_agg rfl 50 rfl Z Hz.out ?_) | (refine wpList_store_last rfl 50 (.tmp 5) (.tmp 10) rfl Z U rfl rfl (by rw [u8]; exact sizeN8) (by rw [z8, u8]) uone ?_))
          go_ret
          exact ⟨_, rfl, by rw [HSV.out]; exact HO0.out, HB2.out.alloc HB2.out.size _⟩
        | some a =>
          go_wp2_with (first | (refine wpList_alloc_agg rfl 50 rfl Z Hz.out ?_) | (refine wpList_store_last rfl 50 (.tmp 5) (.tmp 10) rfl Z U rfl rfl (by rw [u8]; exact sizeN8) (by rw [z8, u8]) uone ?_))
          go_ret
          exact ⟨_, rfl, by rw [HSV.out]; exact HO0.out, HB2.out.alloc HB2.out.size _⟩
    · have hpos : 0 < l.length := List.length_pos_iff.2 hemp
      obtain ⟨g, off, rfl, hglt, hg0⟩ := HAv 0 hpos
      have hcells : ∀ j (hj : j < l.length), (w1.alloc (.cells U 50)).cell? ⟨g, off + j, none⟩ = some (.int .i64 l[j]) := by
        intro j hj
        obtain ⟨g', off', e1, _, e3⟩ := HAv j hj
        cases e1
        rw [hB2.cell (p := ⟨g, off + j, none⟩) hglt]
        exact e3
      have hg2 : g < (w1.alloc (.cells U 50)).heap.size := Nat.lt_of_lt_of_le hglt hB2.size
      have hnews : ∀ j u, (cellsI l)[j]? = some u → ((w1.alloc (.cells U 50)).alloc (.cells #[] 3)).cell? ((⟨g, off, none⟩ : Addr).add j) = some u := by
        intro j u hj
        have hj' : j < l.length := by have := (List.getElem?_eq_some_iff.1 hj).1; simpa [cellsI] using this
        rw [Go.WideShapes.add_plain, World.cell?_alloc_lt _ _ _ hg2, hcells j hj']
        simpa [cellsI, hj'] using hj
      have hone : ∀ u ∈ cellsI l, u.oneCell' = true := by
        intro u hu
        simp [cellsI] at hu
        obtain ⟨n, _, rfl⟩ := hu
        rfl
      have HNW := hide hnews
      have HON := hide hone
      have HB2 := hide hB2
      clear hnews hone hcells hg0 HAv hg2 hB2
      rcases hcond with rfl | ⟨rfl, hd⟩
      all_goals
        go_wp2_with (first | (refine wpList_alloc_agg rfl 50 rfl Z Hz.out ?_) | (refine wpList_store_last rfl 50 (.tmp 5) (.tmp 10) rfl Z U rfl rfl (by rw [u8]; exact sizeN8) (by rw [z8, u8]) uone ?_) | (at_builtin; refine wpList_append_own _ rfl (.tmp 19) (.tmp 20) 24 rfl w.heap.size 3 i0 (.int .i64 0) 1 8 Tryd.underlying24 hi hz0 hz1 hz2 rfl (by decide) _ 0 [] rfl HO0.out ⟨g, off, none⟩ l.length ca (cellsI l) rfl (by rw [cellsI_length]; omega) HNW.out HON.out (by unfold maxLen; omega) (by omega) (by simp; omega) ?_))
        intro v' w3 hown hgr _
        have hb3 : Below w.heap.size w w3 := (HB2.out.alloc HB2.out.size _).grown hgr (by simp; omega) (fun k hk => by simp [Value.ownBlock] at hk; omega)
        have HO := hide hown
        have HB3 := hide hb3
        clear hgr hown hb3 HNW HON
        go_wp2_with fail
        go_ret
        exact ⟨_, rfl, by rw [HSV.out]; first | exact HO.out | simpa using HO.out, HB3.out⟩
end Go.Proofs.YtkmeafccdhejdaaDoor.P3
