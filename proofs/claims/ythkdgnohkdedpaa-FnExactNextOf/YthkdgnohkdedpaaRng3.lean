/- The specification's l08Has, OrderedFrom; condition: at most 2^20 ids. -/
import Derived.Test.YthkdgnohkdedpaaRng2
import Derived.Test.YthkdgnohkdedpaaDraw
namespace Go.Proofs.Ythkdgnohkdedpaa.P8
set_option maxRecDepth 8000
open Go.RowKit P1

set_option maxHeartbeats 400000 in
theorem specHas_calls (w : World) (v : Value) (l : List Int) (n : Int) (hv : IntsAt w v l) (hl : l.length ≤ 1048576) :
    Calls Try.prog 59 #[v, .int .i64 n] w fun e w' => e = .returned (.bool (decide (n ∈ l))) ∧ w' = w := by
  obtain ⟨a, ca, rfl, HA⟩ := hv
  replace HA := hide HA
  go_enter Try.func59, Try.ntmps59
  go_wp2
  go_loopw [5] (fun i wr => ∃ k : Nat, k ≤ l.length ∧ i = .int .i64 k ∧ Hid (n ∉ l.take k) ∧ wr = w) (fun i _ => l.length - (intOf i).toNat)
  case atStart => exact ⟨0, Nat.zero_le _, rfl, by show n ∉ _; simp, rfl⟩
  case round =>
    obtain ⟨k, hk, rfl, HN, rfl⟩ := hrel
    by_cases hlt : k < l.length
    · obtain ⟨ga, oa, rfl, ha2, ha3⟩ := HA.out k hlt
      by_cases he : l[k] = n
      · have HE : Hid (decide (n ∈ l) = true) := decide_eq_true (by rw [← he]; exact List.getElem_mem hlt)
        subst he
        go_wp2
        go_ret
        exact ⟨by rw [HE.out]; rfl, rfl⟩
      · have hne : (l[k] == n) = false := by simpa using he
        have HN' : Hid (n ∉ l.take (k + 1)) := by
          show n ∉ l.take (k + 1)
          rw [List.take_succ_eq_append_getElem hlt, List.mem_append, List.mem_singleton]
          rintro (h | h)
          · exact HN.out h
          · exact he h.symm
        clear he HN
        generalize l[k] = x at *
        go_wp2
        go_roundw
        case rel => exact ⟨k + 1, by omega, by go_num, HN'.out, trivial⟩
        case measure => simp [intOf]; omega
    · have HE : Hid (decide (n ∈ l) = false) := decide_eq_false (by
        have := HN.out
        rwa [List.take_of_length_le (by omega)] at this)
      clear HN
      go_wp2
      go_ret
      exact ⟨by rw [HE.out]; rfl, rfl⟩

theorem ins_snoc (a x z : Int) : ∀ l : List Int, (∃ y ∈ l, ahd a x < ahd a y) → ins a x (l ++ [z]) = ins a x l ++ [z] := by
  intro l
  induction l with
  | nil => rintro ⟨y, hy, _⟩; cases hy
  | cons y l ih =>
    intro h
    show (if ahd a x < ahd a y then _ else y :: ins a x (l ++ [z])) = (if ahd a x < ahd a y then _ else _) ++ [z]
    by_cases hy : ahd a x < ahd a y
    · rw [if_pos hy, if_pos hy]; rfl
    · rw [if_neg hy, if_neg hy, ih]
      · rfl
      · obtain ⟨u, hu, hlt⟩ := h
        rcases List.mem_cons.1 hu with rfl | hu
        · exact absurd hlt hy
        · exact ⟨u, hu, hlt⟩

/-- How far the putting in has come. -/
def Part (a x : Int) (out : List Int) (k : Nat) (nx : List Int) (put : Bool) : Prop :=
  (put = false ∧ nx = out.take k ∧ ∀ y ∈ out.take k, ahd a y ≤ ahd a x) ∨ (put = true ∧ nx = ins a x (out.take k) ∧ ∃ y ∈ out.take k, ahd a x < ahd a y)

theorem Part.start (a x : Int) (out : List Int) : Part a x out 0 [] false := .inl ⟨rfl, rfl, by simp⟩

theorem Part.put {a x : Int} {out nx : List Int} {k : Nat} (h : Part a x out k nx true) (hk : k < out.length) : Part a x out (k + 1) (nx ++ [out[k]]) true := by
  rcases h with ⟨h, _⟩ | ⟨_, rfl, h⟩
  · cases h
  · refine .inr ⟨rfl, ?_, ?_⟩
    · rw [List.take_succ_eq_append_getElem hk, ins_snoc _ _ _ _ h]
    · rw [List.take_succ_eq_append_getElem hk]
      obtain ⟨y, hy, hlt⟩ := h
      exact ⟨y, List.mem_append_left _ hy, hlt⟩

theorem Part.now {a x : Int} {out nx : List Int} {k : Nat} (h : Part a x out k nx false) (hk : k < out.length) (hlt : ahd a x < ahd a out[k]) : Part a x out (k + 1) ((nx ++ [x]) ++ [out[k]]) true := by
  rcases h with ⟨_, rfl, h⟩ | ⟨h, _⟩
  · refine .inr ⟨rfl, ?_, ?_⟩
    · rw [List.take_succ_eq_append_getElem hk, ins_skip _ _ _ _ h, ins_head _ _ _ (by simpa using hlt)]
      simp
    · rw [List.take_succ_eq_append_getElem hk]
      exact ⟨out[k], List.mem_append_right _ (List.mem_singleton.2 rfl), hlt⟩
  · cases h

theorem Part.not {a x : Int} {out nx : List Int} {k : Nat} (h : Part a x out k nx false) (hk : k < out.length) (hlt : ¬ ahd a x < ahd a out[k]) : Part a x out (k + 1) (nx ++ [out[k]]) false := by
  rcases h with ⟨_, rfl, h⟩ | ⟨h, _⟩
  · refine .inl ⟨rfl, ?_, ?_⟩
    · rw [List.take_succ_eq_append_getElem hk]
    · rw [List.take_succ_eq_append_getElem hk]
      intro y hy
      rcases List.mem_append.1 hy with hy | hy
      · exact h y hy
      · simp only [List.mem_singleton] at hy
        subst hy
        omega
  · cases h

theorem Part.len {a x : Int} {out nx : List Int} {k : Nat} {put : Bool} (h : Part a x out k nx put) : nx.length ≤ k + 1 := by
  rcases h with ⟨_, rfl, _⟩ | ⟨_, rfl, _⟩
  · rw [List.length_take]; omega
  · rw [ins_length, List.length_take]; omega

theorem Part.endF {a x : Int} {out nx : List Int} (h : Part a x out out.length nx false) : nx ++ [x] = ins a x out := by
  rcases h with ⟨_, rfl, h⟩ | ⟨h, _⟩
  · rw [List.take_length] at h ⊢
    have := ins_skip a x out [] h
    rw [List.append_nil] at this
    rw [this]
    rfl
  · cases h

theorem Part.endT {a x : Int} {out nx : List Int} (h : Part a x out out.length nx true) : nx = ins a x out := by
  rcases h with ⟨h, _⟩ | ⟨_, rfl, _⟩
  · cases h
  · rw [List.take_length]

theorem own_lit0 (w : World) : (w.alloc (.cells #[] 3)).ownsRow w.heap.size 3 1 (.slice (some ⟨w.heap.size, 0, none⟩) 0 0) ([] : List Int).length (cellsI []) :=
  World.ownsRow_lit (base := w.heap.size) (e := 3) (size := 1) w #[] 0 (Nat.le_refl _) (by decide) rfl

theorem own_sh {w : World} {B : Nat} {e : TypeId} {size : Nat} {v : Value} {n : Nat} {xs : List Value} (h : w.ownsRow B e size v n xs) : ∃ a c, v = .slice a n c := by
  rcases h.2 with ⟨rfl, hn⟩ | ⟨g, cap, cur, rfl, _⟩
  · exact ⟨none, 0, by rw [hn]⟩
  · exact ⟨_, _, rfl⟩

set_option maxHeartbeats 4000000 in
theorem specOrdered_calls (w : World) (v : Value) (l : List Int) (a : Int) (hv : IntsAt w v l) (hl : l.length ≤ 1048576) :
    Calls Try.prog 24 #[v, .int .i64 a] w fun e w' => ∃ v', e = .returned v' ∧ w'.ownsRow w.heap.size 3 1 v' (ordered a l).length (cellsI (ordered a l)) ∧ Below w.heap.size w w' := by
  have HV := hide hv
  obtain ⟨av, cv, rfl, -⟩ := hv
  obtain ⟨i0, hi, hz0, hz1, hz2⟩ := info_parts info_i64
  obtain ⟨O, HO0, HOs, HOl, HOe⟩ : ∃ O : Nat → List Int, Hid (O 0 = []) ∧ Hid (∀ k (hk : k < l.length), O (k + 1) = ordStep a (O k) l[k]) ∧ Hid (∀ k, (O k).length ≤ 1048576) ∧ Hid (O l.length = ordered a l) := by
    refine ⟨fun k => ordered a (l.take k), rfl, fun k hk => ?_, fun k => ?_, ?_⟩
    · show ordered a (l.take (k + 1)) = _
      rw [List.take_succ_eq_append_getElem hk, ordered_snoc]
    · refine Nat.le_trans (ordered_length _ _) ?_
      rw [List.length_take]
      omega
    · show ordered a (l.take l.length) = _
      rw [List.take_length]
  have HS0 := hide (own_lit0 w)
  have HB0 := hide ((Below.refl w.heap.size w).alloc (Nat.le_refl _) (.cells #[] 3))
  go_enter Try.func24, Try.ntmps24
  go_wp2
  obtain ⟨B, eB⟩ : ∃ B, B = w.heap.size := ⟨_, rfl⟩
  rw [← eB] at HS0 HB0 ⊢
  have hwB : w.heap.size ≤ B := by omega
  have HBw : Hid (B ≤ w.heap.size) := by show _ ≤ _; omega
  clear eB
  generalize w.alloc (.cells #[] 3) = w0 at *
  go_loopw [5, 6] (fun vo i wr => ∃ k : Nat, k ≤ l.length ∧ i = .int .i64 k ∧ Hid (wr.ownsRow B 3 1 vo (O k).length (cellsI (O k))) ∧ Hid (Below B w wr)) (fun _ i _ => l.length - (intOf i).toNat)
  case atStart => exact ⟨0, Nat.zero_le _, rfl, by show World.ownsRow _ _ _ _ _ _ _; rw [HO0.out]; exact HS0.out, HB0.out⟩
  case round =>
    clear HS0 HB0
    obtain ⟨k, hk, rfl, HO, HB⟩ := hrel
    by_cases hlt : k < l.length
    · have hs := HOs.out k hlt
      have hol := HOl.out k
      have hBr : B ≤ wr.heap.size := by have := HB.out.size; have := HBw.out; omega
      obtain ⟨av2, cv2, hsh, HA⟩ := HV.out.below HB.out hwB
      cases hsh
      obtain ⟨ga, oa, rfl, ha2, ha3⟩ := HA k hlt
      clear HA
      have HS := hide hs
      clear hs
      obtain ⟨ao, co, hsh⟩ := own_sh HO.out
      subst hsh
      have HI := hide (IntsAt.of_own HO.out)
      obtain ⟨out, EO⟩ : ∃ out, out = O k := ⟨_, rfl⟩
      obtain ⟨x, EX⟩ : ∃ x, x = l[k] := ⟨_, rfl⟩
      rw [← EX] at ha3
      rw [← EO, ← EX] at HS
      rw [← EO] at HO HI hol ⊢
      clear EO EX
      obtain ⟨wo, ewo⟩ : ∃ wo, wo = wr := ⟨_, rfl⟩
      subst ewo
      have HH := hide (specHas_calls wo _ out x HI.out hol)
      by_cases hxa : x = a
      · have HN : Hid (O (k + 1) = out) := by show _ = _; rw [HS.out]; unfold ordStep; rw [if_pos (.inl hxa)]
        subst hxa
        clear HH HI HS
        go_wp2
        go_roundw
        case rel => exact ⟨k + 1, by omega, by go_num, by show World.ownsRow _ _ _ _ _ _ _; rw [HN.out]; exact HO.out, HB.out⟩
        case measure => simp [intOf]; omega
      · have hxd : (x == a) = false := by simpa using hxa
        have HXA := hide hxa
        clear hxa
        go_wp2_with fail
        refine HH.out.mono ?_
        rintro e w1 ⟨rfl, rfl⟩
        clear HH
        by_cases hm : x ∈ out
        · have HN : Hid (O (k + 1) = out) := by show _ = _; rw [HS.out]; unfold ordStep; rw [if_pos (.inr hm)]
          rw [decide_eq_true hm]
          clear HI HS hm
          go_wp2
          go_roundw
          case rel => exact ⟨k + 1, by omega, by go_num, by show World.ownsRow _ _ _ _ _ _ _; rw [HN.out]; exact HO.out, HB.out⟩
          case measure => simp [intOf]; omega
        · have HN : Hid (O (k + 1) = ins a x out) := by show _ = _; rw [HS.out]; unfold ordStep; rw [if_neg (fun h => h.elim HXA.out hm)]
          rw [decide_eq_false hm]
          clear HS hm
          have HS0 := hide (own_lit0 w1)
          have HB0 := hide ((Below.refl w1.heap.size w1).alloc (Nat.le_refl _) (.cells #[] 3))
          go_wp2
          obtain ⟨B2, eB⟩ : ∃ B, B = w1.heap.size := ⟨_, rfl⟩
          rw [← eB] at HS0 HB0 ⊢
          have HB2 := hide eB
          have hB2 : B ≤ B2 := by omega
          have hga2 : ga < B2 := by omega
          clear eB
          generalize w1.alloc (.cells #[] 3) = w3 at *
          go_loopw [7, 8, 9] (fun vn pb i wx => ∃ (j : Nat) (nx : List Int) (put : Bool), j ≤ out.length ∧ i = .int .i64 j ∧ pb = .bool put ∧ Hid (Part a x out j nx put) ∧ Hid (wx.ownsRow B2 3 1 vn nx.length (cellsI nx)) ∧ Hid (Below B2 w1 wx)) (fun _ _ i _ => out.length - (intOf i).toNat)
          case atStart => exact ⟨0, [], false, Nat.zero_le _, rfl, rfl, Part.start a x out, HS0.out, HB0.out⟩
          case round =>
            clear HS0 HB0
            obtain ⟨j, nx, put, hj, rfl, rfl, HP, HX, HBx⟩ := hrel
            have hBx : B2 ≤ wr.heap.size := by have := HBx.out.size; have := HB2.out; omega
            have hnx := HP.out.len
            have hx3 : wr.cell? ⟨ga, oa + k, none⟩ = some (.int .i64 x) := by rw [HBx.out.cell (p := ⟨ga, oa + k, none⟩) hga2]; exact ha3
            have hx2 : ga < wr.heap.size := by omega
            obtain ⟨an, cn, hsn⟩ := own_sh HX.out
            subst hsn
            by_cases hjl : j < out.length
            · obtain ⟨ax, cx, hax, HAx⟩ := HI.out.below HBx.out (by have := HB2.out; omega)
              cases hax
              obtain ⟨gb, ob, rfl, hb2, hb3⟩ := HAx j hjl
              have hgb2 : gb < B2 := by
                have h := HB2.out
                obtain ⟨ax, cx, hax, HAy⟩ := HI.out
                cases hax
                obtain ⟨g', o', e', hl', _⟩ := HAy j hjl
                cases e'
                omega
              clear HAx
              cases put with
              | true =>
                have HPn := hide (HP.out.put hjl)
                clear HP
                generalize out[j] = y at *
                go_wp2
                go_quiet (fail)
                have HX5 : Hid ((wr.drewN nq).ownsRow B2 3 1 (.slice an nx.length cn) nx.length (cellsI nx)) := HX.out
                have HB5 : Hid (Below B2 w1 (wr.drewN nq)) := below_drewN HBx.out nq
                have hB5 : B2 ≤ (wr.drewN nq).heap.size := hBx
                have hy3 : (wr.drewN nq).cell? ⟨gb, ob + j, none⟩ = some (.int .i64 y) := hb3
                have hy2 : gb < (wr.drewN nq).heap.size := hb2
                have hx5 : (wr.drewN nq).cell? ⟨ga, oa + k, none⟩ = some (.int .i64 x) := hx3
                have hx6 : ga < (wr.drewN nq).heap.size := hx2
                clear HX HBx hBx hb3 hb2 hx3 hx2
                generalize wr.drewN nq = w5 at *
                go_wp2_with (at_builtin; refine wpList_append_one (cs := #[.int .i64 y]) (Below.refl B2 w5) hB5 rfl (.tmp 62) (.tmp 67) 24 rfl 3 i0 (.int .i64 0) 1 8 Try.underlying24 hi hz0 hz1 hz2 rfl (by decide) rfl (by simp [Value.oneCell']) _ _ _ rfl HX5.out 1 rfl (by omega) (by omega) ?_)
                intro v6 w6 hown hb
                have HX6 := hide (own_snocI hown)
                have HB6 := hide (HB5.out.trans hb)
                clear hown hb
                go_wp2
                go_roundw
                case rel => exact ⟨j + 1, _, true, by omega, by go_num, rfl, HPn.out, HX6.out, HB6.out⟩
                case measure => simp [intOf]; omega
              | false =>
                have hnow := HP.out.now hjl
                have hnot := HP.out.not hjl
                have C1 := hide (fun wx => specAhead_calls a x wx)
                have C2 := hide (fun wx => specAhead_calls a out[j] wx)
                clear HP
                generalize out[j] = y at *
                by_cases hq : ahd a x < ahd a y
                · have HPn := hide (hnow hq)
                  have hqd : decide (((ahd a x : Nat) : Int) < ((ahd a y : Nat) : Int)) = true := decide_eq_true (by omega)
                  clear hnow hnot
                  generalize ahd a x = p at *
                  generalize ahd a y = q at *
                  go_wp2
                  refine wp_region_quiet_lit (by kernel_rfl) (by kernel_rfl) ?_
                  repeat (go_big_quiet_step (fail))
                  go_big_quiet_step (exact Calls.quiet_of_same (C1.out _))
                  repeat (go_big_quiet_step (fail))
                  go_big_quiet_step (exact Calls.quiet_of_same (C2.out _))
                  repeat (go_big_quiet_step (fail))
                  refine wpQuiet_nil ?_
                  rintro _ ⟨nq, rfl⟩
                  have HX5 : Hid ((wr.drewN nq).ownsRow B2 3 1 (.slice an nx.length cn) nx.length (cellsI nx)) := HX.out
                  have HB5 : Hid (Below B2 w1 (wr.drewN nq)) := below_drewN HBx.out nq
                  have hB5 : B2 ≤ (wr.drewN nq).heap.size := hBx
                  have hy3 : (wr.drewN nq).cell? ⟨gb, ob + j, none⟩ = some (.int .i64 y) := hb3
                  have hy2 : gb < (wr.drewN nq).heap.size := hb2
                  have hx5 : (wr.drewN nq).cell? ⟨ga, oa + k, none⟩ = some (.int .i64 x) := hx3
                  have hx6 : ga < (wr.drewN nq).heap.size := hx2
                  clear HX HBx hBx hb3 hb2 hx3 hx2
                  generalize wr.drewN nq = w5 at *
                  go_wp2_with (at_builtin; refine wpList_append_one (cs := #[.int .i64 x]) (Below.refl B2 w5) hB5 rfl (.tmp 55) (.tmp 60) 24 rfl 3 i0 (.int .i64 0) 1 8 Try.underlying24 hi hz0 hz1 hz2 rfl (by decide) rfl (by simp [Value.oneCell']) _ _ _ rfl HX5.out 1 rfl (by omega) (by omega) ?_)
                  intro v6 w6 hown hb
                  have HX6 := hide (own_snocI hown)
                  have HB6 := hide (HB5.out.trans hb)
                  have hB6 : B2 ≤ w6.heap.size := Nat.le_trans hB5 hb.size
                  have hyb : gb < B2 := hgb2
                  have hy6 : w6.cell? ⟨gb, ob + j, none⟩ = some (.int .i64 y) := by rw [hb.cell (p := ⟨gb, ob + j, none⟩) hyb]; exact hy3
                  have hy7 : gb < w6.heap.size := by omega
                  have hnl : (nx ++ [x]).length ≤ 1048577 := by simp; omega
                  obtain ⟨a6, c6, hs6⟩ := own_sh HX6.out
                  subst hs6
                  clear hown hb hy3 hy2 hx5 hx6 HX5 HB5 hB5
                  generalize nx ++ [x] = nx6 at *
                  go_wp2_with (at_builtin; refine wpList_append_one (cs := #[.int .i64 y]) (Below.refl B2 w6) hB6 rfl (.tmp 62) (.tmp 67) 24 rfl 3 i0 (.int .i64 0) 1 8 Try.underlying24 hi hz0 hz1 hz2 rfl (by decide) rfl (by simp [Value.oneCell']) _ _ _ rfl HX6.out 1 rfl (by omega) (by omega) ?_)
                  intro v7 w7 hown hb
                  have HX7 := hide (own_snocI hown)
                  have HB7 := hide (HB6.out.trans hb)
                  clear hown hb
                  go_wp2
                  go_roundw
                  case rel => exact ⟨j + 1, _, true, by omega, by go_num, rfl, HPn.out, HX7.out, HB7.out⟩
                  case measure => simp [intOf]; omega
                · have HPn := hide (hnot hq)
                  have hq2 : ahd a y ≤ ahd a x := by omega
                  have hqd : decide (((ahd a x : Nat) : Int) < ((ahd a y : Nat) : Int)) = false := decide_eq_false (by omega)
                  clear hnow hnot
                  generalize ahd a x = p at *
                  generalize ahd a y = q at *
                  go_wp2
                  refine wp_region_quiet_lit (by kernel_rfl) (by kernel_rfl) ?_
                  repeat (go_big_quiet_step (fail))
                  go_big_quiet_step (exact Calls.quiet_of_same (C1.out _))
                  repeat (go_big_quiet_step (fail))
                  go_big_quiet_step (exact Calls.quiet_of_same (C2.out _))
                  repeat (go_big_quiet_step (fail))
                  refine wpQuiet_nil ?_
                  rintro _ ⟨nq, rfl⟩
                  have HX5 : Hid ((wr.drewN nq).ownsRow B2 3 1 (.slice an nx.length cn) nx.length (cellsI nx)) := HX.out
                  have HB5 : Hid (Below B2 w1 (wr.drewN nq)) := below_drewN HBx.out nq
                  have hB5 : B2 ≤ (wr.drewN nq).heap.size := hBx
                  have hy3 : (wr.drewN nq).cell? ⟨gb, ob + j, none⟩ = some (.int .i64 y) := hb3
                  have hy2 : gb < (wr.drewN nq).heap.size := hb2
                  have hx5 : (wr.drewN nq).cell? ⟨ga, oa + k, none⟩ = some (.int .i64 x) := hx3
                  have hx6 : ga < (wr.drewN nq).heap.size := hx2
                  clear HX HBx hBx hb3 hb2 hx3 hx2
                  generalize wr.drewN nq = w5 at *
                  go_wp2_with (at_builtin; refine wpList_append_one (cs := #[.int .i64 y]) (Below.refl B2 w5) hB5 rfl (.tmp 62) (.tmp 67) 24 rfl 3 i0 (.int .i64 0) 1 8 Try.underlying24 hi hz0 hz1 hz2 rfl (by decide) rfl (by simp [Value.oneCell']) _ _ _ rfl HX5.out 1 rfl (by omega) (by omega) ?_)
                  intro v6 w6 hown hb
                  have HX6 := hide (own_snocI hown)
                  have HB6 := hide (HB5.out.trans hb)
                  clear hown hb
                  go_wp2
                  go_roundw
                  case rel => exact ⟨j + 1, _, false, by omega, by go_num, rfl, HPn.out, HX6.out, HB6.out⟩
                  case measure => simp [intOf]; omega
            · obtain rfl : j = out.length := by omega
              cases put with
              | true =>
                have HE := hide (HP.out.endT)
                have HX' : Hid (wr.ownsRow B 3 1 (.slice an nx.length cn) (O (k + 1)).length (cellsI (O (k + 1)))) := by
                  show World.ownsRow _ _ _ _ _ _ _
                  rw [HN.out, ← HE.out]
                  exact own_mono HX.out hB2
                have HBr := hide (HB.out.trans (HBx.out.mono hB2))
                clear HX HBx HP hnx
                go_wp2
                go_roundw
                case rel => exact ⟨k + 1, by omega, by go_num, HX'.out, HBr.out⟩
                case measure => simp [intOf]; omega
              | false =>
                have HE := hide (HP.out.endF)
                clear HP
                go_wp2_with (at_builtin; refine wpList_append_one (cs := #[.int .i64 x]) (Below.refl B2 wr) hBx rfl (.tmp 71) (.tmp 76) 24 rfl 3 i0 (.int .i64 0) 1 8 Try.underlying24 hi hz0 hz1 hz2 rfl (by decide) rfl (by simp [Value.oneCell']) _ _ _ rfl HX.out 1 rfl (by omega) (by omega) ?_)
                intro v6 w6 hown hb
                have HX6 : Hid (w6.ownsRow B 3 1 v6 (O (k + 1)).length (cellsI (O (k + 1)))) := by
                  show World.ownsRow _ _ _ _ _ _ _
                  rw [HN.out, ← HE.out]
                  exact own_mono (own_snocI hown) hB2
                have HBr := hide ((HB.out.trans (HBx.out.mono hB2)).trans (hb.mono hB2))
                clear hown hb
                go_wp2
                go_roundw
                case rel => exact ⟨k + 1, by omega, by go_num, HX6.out, HBr.out⟩
                case measure => simp [intOf]; omega
    · have hkl : k = l.length := by omega
      subst hkl
      rw [HOe.out] at HO
      go_wp2
      go_ret
      exact ⟨_, rfl, own_mono HO.out hwB, HB.out.mono hwB⟩
end Go.Proofs.Ythkdgnohkdedpaa.P8
