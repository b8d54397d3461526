/- The program's OrderedFrom; condition: at most 2^20 ids. -/
import Derived.Test.YthkdgnohkdedpaaRng7
namespace Go.Proofs.Ythkdgnohkdedpaa.P8
open Go.RowKit Go.Shelf P1 Mp Rc Rf

attribute [local go_sem] Oper.semAt_some

theorem rows_zero : ∃ Z : Array Value, Z.toList = (List.range 256).map (fun _ => Value.slice none 0 0) ∧ ∀ wx : World, (zeroValue 72).run Try.prog wx = .ok (.agg Z) wx :=
  ⟨Array.replicate 256 (.slice none 0 0), by rw [Array.toList_replicate, List.map_const', List.length_range], fun wx => by kernel_rfl⟩

set_option maxRecDepth 100000 in
set_option maxHeartbeats 4000000 in
theorem implOrdered_calls (w : World) (v : Value) (ids : List Int) (a : Int) (hv : IntsAt w v ids) (hl : ids.length ≤ 1048576) :
    Calls Try.prog 16 #[v, .int .i64 a] w fun e w' => ∃ v', e = .returned v' ∧ w'.ownsRow w.heap.size 3 1 v' (ordered a ids).length (cellsI (ordered a ids)) ∧ Below w.heap.size w w' := by
  refine (callsIn_wide (n := 9)).1 ?_
  have HV := hide hv
  obtain ⟨av, cv, rfl, -⟩ := hv
  obtain ⟨Z, hZ, hz⟩ := rows_zero
  obtain ⟨i0, hi, hz0, hz1, hz2⟩ := info_parts info_i64
  have HZ := hide hZ
  clear hZ
  refine callsIn_of_wp_marks Try.func16 rfl trivial ?_ rfl
  simp only [Try.ntmps16, List.size_toArray, List.length_cons, List.length_nil, Nat.reduceAdd, Nat.reduceSub, Array.replicate_succ, Array.replicate_zero, List.push_toArray, List.append_toArray, List.nil_append, List.cons_append]
  gi_wp2
  refine ⟨trivial, ?_⟩
  refine (callsIn_wide.2 (behind_calls _ av ids.length cv a _ rfl)).mono ?_
  rintro e w' ⟨rfl, rfl⟩
  have bA := ((Boxed.new w 3 (.int .i64 a)).alloc (.cells Z 72))
  have bR := Blk.new (w.alloc (.cells #[.int .i64 a] 3)) Z 72
  rw [HZ.out] at bR
  have z1 : (w.alloc (.cells #[.int .i64 a] 3)).heap.size = w.heap.size + 1 := by simp
  have z2 : ((w.alloc (.cells #[.int .i64 a] 3)).alloc (.cells Z 72)).heap.size = w.heap.size + 2 := by simp
  rw [z1] at bR
  have hB0 : Below w.heap.size w ((w.alloc (.cells #[.int .i64 a] 3)).alloc (.cells Z 72)) := ((Below.refl _ w).alloc (Nat.le_refl _) _).alloc (by simp) _
  clear z1 hz HZ
  generalize (w.alloc (.cells #[.int .i64 a] 3)).alloc (.cells Z 72) = w1 at *
  have bI := ((Boxed.new w1 24 (.slice av ids.length cv)).alloc (.cells #[.int .i64 a] 3))
  have bF := Boxed.new (w1.alloc (.cells #[.slice av ids.length cv] 24)) 3 (.int .i64 a)
  have z3 : (w1.alloc (.cells #[.slice av ids.length cv] 24)).heap.size = w.heap.size + 3 := by simp; omega
  have z4 : ((w1.alloc (.cells #[.slice av ids.length cv] 24)).alloc (.cells #[.int .i64 a] 3)).heap.size = w.heap.size + 4 := by simp; omega
  rw [z3] at bF
  rw [z2] at bI ⊢
  have hb2 : Below w1.heap.size w1 ((w1.alloc (.cells #[.slice av ids.length cv] 24)).alloc (.cells #[.int .i64 a] 3)) := ((Below.refl w1.heap.size w1).alloc (Nat.le_refl _) _).alloc (by simp) _
  have hB1 : Below w.heap.size w ((w1.alloc (.cells #[.slice av ids.length cv] 24)).alloc (.cells #[.int .i64 a] 3)) := hB0.trans (hb2.mono (by omega))
  replace bA := (bA.alloc (.cells #[.slice av ids.length cv] 24)).alloc (.cells #[.int .i64 a] 3)
  replace bR := bR.below hb2 (by omega)
  clear z3 hb2
  generalize (w1.alloc (.cells #[.slice av ids.length cv] 24)).alloc (.cells #[.int .i64 a] 3) = w2 at *
  have hV2 : IntsLow w.heap.size w2 (.slice av ids.length cv) ids := (IntsLow.of HV.out).below hB1
  clear HV hB0 z2
  have hR0 : RowsAt w.heap.size (w.heap.size + 1) a [] (fun _ => .slice none 0 0) w2 := ⟨bR, fun d _ => ⟨⟨rfl, .inl ⟨rfl, rfl⟩⟩, .inl rfl⟩⟩
  gi_wp2
  refine range_tells (gf := 83) (lb := #[.pointer (some ⟨w.heap.size + 2, 0, none⟩), .pointer (some ⟨w.heap.size + 2 + 1, 0, none⟩)]) rfl (enters_of Try.func83 (by kernel_rfl) rfl)
    (behind_tells (w.heap.size + 2) (w.heap.size + 3) w.heap.size a _ ids hl w2 bI.cell bF.cell hV2 (by omega)) (fun h k => h.trans k) (kp_b (by omega) (by omega)) (Below.refl _ _) (fun _ => rfl)
    (fun pre W => ((∃ V, RowsAt w.heap.size (w.heap.size + 1) a pre V W) ∧ (Boxed W w.heap.size 3 (.int .i64 a) ∧ Boxed W (w.heap.size + 3) 3 (.int .i64 a))) ∧ Below w.heap.size w W)
    (fun _ _ _ => False)
    (OwnFrom.and (OwnFrom.and (Own.from (rowsAt_own _ _ _) _) (OwnFrom.and (Own.from (boxed_cells _ _ (fun _ => Value.int .i64 a)) _) (Own.from (boxed_cells _ _ (fun _ => Value.int .i64 a)) _))) (ownFrom_below (Nat.le_refl _) (by omega)))
    (fun _ _ _ _ _ hs _ _ => hs)
    ⟨⟨⟨_, hR0⟩, bA, bF⟩, hB1⟩
    (fun x => { tmps := #[.slice av ids.length cv, .int .i64 a, undef, .pointer (some ⟨w.heap.size, 0, none⟩), .slice none 0 0, .pointer (some ⟨w.heap.size + 1, 0, none⟩), .int .i64 x, .int .i64 ((ahd a x : Nat) : Int), .slice av ids.length cv, .int .i64 a, .func (.func 83) #[] #[.pointer (some ⟨w.heap.size + 2, 0, none⟩), .pointer (some ⟨w.heap.size + 2 + 1, 0, none⟩)], .int .i64 x, .int .i64 ((ahd a x : Nat) : Int), undef, undef, undef, undef, undef, undef, undef, undef, undef, undef, undef, undef, undef], defers := [] }) ?assign ?body ?done ?stop
  case assign =>
    intro m l x W K hK
    gi_wp2
    exact hK
  case body =>
    rintro m l pre x W ⟨⟨⟨V, hR⟩, hA, hF⟩, hB⟩ hlt
    have c1 := hA.cell
    have l1 := hA.lt
    have hd := ahd_lt a x
    by_cases hx : x = a
    · subst hx
      gi_wp2
      refine ⟨KeepsFrom.refl _ _, Kp.refl _ _ _, ⟨⟨V, ?_⟩, hA, hF⟩, hB⟩
      refine ⟨hR.1, fun d hd' => ?_⟩
      rw [row_snoc, if_neg (fun h => h.1 rfl)]
      exact hR.2 d hd'
    · have hxd : (x != a) = true := by simpa using hx
      obtain ⟨hod, hnd⟩ := hR.2 _ hd
      obtain ⟨ad, cd, hsh⟩ := own_sh hod
      have c2 : W.cell? ⟨w.heap.size + 1, ahd a x, none⟩ = some (V (ahd a x)) := by rw [hR.1.cell]; simp [hd]
      have l2 := hR.1.lt
      rw [hsh] at c2
      have hlen := row_length a pre (ahd a x)
      rw [hsh] at hod
      have HM := hide (fun w1 v' (h1 : w1.ownsRow w.heap.size 3 1 v' ((row a pre (ahd a x)).length + 1) (cellsI (row a pre (ahd a x)) ++ [.int .i64 x])) (h2 : (W.alloc (.cells #[.int .i64 x] 3)).grownBy w1 (Value.slice ad (row a pre (ahd a x)).length cd).ownBlock) => hR.more hx hB.size (Nat.le_succ _) hF.cell h1 (by rw [hsh]; exact h2))
      have c3 : ((List.range 256).map V)[ahd a x]? = some (V (ahd a x)) := by simp [hd]
      have hsz := hB.size
      have HA := hide hA
      have HF := hide hF
      have HB := hide hB
      have HN : Hid (w.heap.size + 3 ≠ w.heap.size + 1) := by show _ ≠ _; omega
      clear hnd hR hF hB hA
      gi_wp2_with (gi_at_builtin; refine wpListIn_append_own _ rfl _ _ 24 rfl w.heap.size 3 i0 (.int .i64 0) 1 8 Try.underlying24 hi hz0 hz1 hz2 rfl (by decide) _ _ _ rfl (hod.alloc _) ⟨W.heap.size, 0, none⟩ 1 1 [.int .i64 x] rfl rfl (cell_one_new _ _ _) (by simp [Value.oneCell']) (by unfold maxLen; omega) (by omega) (by simp; omega) ?_; intro v' w1 hown' hgrow _; obtain ⟨hb1, hr1, hk1, hp1, hx1⟩ := HM.out w1 v' hown' hgrow; obtain ⟨g', cap', rfl⟩ := ownsRow_succ hown'; have hc1 := hb1.cell (ahd a x); rw [c3] at hc1; have hf1 := hb1.free (ahd a x); have hl1 := hb1.lt)
      exact ⟨hk1.from _, hp1, ⟨⟨_, hr1⟩, (hx1 _ HA.out.cell (by omega)).trans HA.out, (hx1 _ HF.out.cell HN.out).trans HF.out⟩, HB.out.trans hp1.1⟩
  case done =>
    rintro D ys W hD rfl ⟨⟨⟨V, hR⟩, hA, hF⟩, hB⟩ hK
    have e : upTo (row a (nub ids)) 256 = ordered a ids := rows_ordered a ids
    have hle := ordered_length a ids
    have hC := concat_calls W (w.heap.size + 1) V (row a (nub ids)) w.heap.size (fun d hd => ⟨by rw [hR.1.cell]; simp [hd], (hR.2 d hd).1⟩) hR.1.lt (by rw [e]; omega)
    rw [e] at hC
    have HC := hide hC
    have hDl : D < W.heap.size := (Array.getElem?_eq_some_iff.1 hK).1
    clear e hC
    gi_wp2
    refine ⟨trivial, ?_⟩
    refine (callsIn_wide.2 HC.out).mono ?_
    rintro e w5 ⟨v5, rfl, ho5, hb5⟩
    have hK5 : w5.heap[D]? = some (.deferred (some [])) := (hb5.block D hDl).trans hK
    gi_wp2
    refine ⟨by simp, .inl ⟨_, _, rfl, run_takeDeferred hK5, ?_⟩⟩
    refine ⟨_, results_tmp rfl _ _ _, v5, rfl, own_mono (ownsRow_putObj ho5 _ hK5 rfl) hB.size, ?_⟩
    exact (hB.trans (hb5.mono hB.size)).trans (belowK_b (w := w) (Nat.le_refl _) w5 D _ _ (by omega) hK5 rfl rfl)
  case stop =>
    rintro D c pre W _ _ h _
    exact h.elim
end Go.Proofs.Ythkdgnohkdedpaa.P8
