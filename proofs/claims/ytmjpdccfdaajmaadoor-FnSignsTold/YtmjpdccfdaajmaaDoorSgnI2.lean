/- The contracts of the program's quartersOf and QuadsOf; conditions: the text is at most 2^20 bytes long (and one), the listed tables hold what their text lays. -/
import Derived.Test.YtmjpdccfdaajmaaDoorSgn2
import Derived.Test.YtmjpdccfdaajmaaDoorSgnI1
namespace Go.Proofs.YtmjpdccfdaajmaaDoor.P4
set_option maxRecDepth 8000
open Go.RowKit P1 P3

/-- The last c figures of n to the base of four, the highest first. -/
def qt : Nat → Nat → List Nat
  | 0, _ => []
  | c + 1, n => qt c (n / 4) ++ [n % 4]

theorem qt_length (c : Nat) : ∀ n, (qt c n).length = c := by
  induction c with
  | zero => intro n; rfl
  | succ c ih => intro n; rw [qt, List.length_append, ih]; rfl

theorem qt8 (d : List UInt8) : qt 8 ((d.getD 0 0).toNat * 256 + (d.getD 1 0).toNat) = quad8 d := by
  have h0 := (d.getD 0 0).toNat_lt
  have h1 := (d.getD 1 0).toNat_lt
  unfold quad8
  generalize (d.getD 0 0).toNat = x at *
  generalize (d.getD 1 0).toNat = y at *
  simp only [qt, List.nil_append, List.cons_append, List.cons.injEq, and_true]
  omega

theorem qt3 (m : Nat) (h : m ≤ 24) : qt 3 m = [m / 16, m / 4 % 4, m % 4] := by
  simp only [qt, List.nil_append, List.cons_append, List.cons.injEq, and_true]
  omega

theorem rep_set (j x : Nat) (R : List Nat) : (ints (List.replicate (j + 1) 0 ++ R)).set j (x : Int) = ints (List.replicate j 0 ++ x :: R) := by
  have h : List.replicate (j + 1) (0 : Nat) ++ R = List.replicate j 0 ++ (0 :: R) := by
    rw [List.replicate_succ']
    simp
  rw [h]
  simp only [ints, List.map_append, List.map_cons]
  rw [List.set_append_right _ _ (by simp)]
  simp

theorem zeros_ints (c : Nat) : List.replicate c (0 : Int) = ints (List.replicate c 0) := by simp [ints]

set_option maxHeartbeats 1000000 in
theorem quarters_calls (n c : Nat) (hn : n ≤ 1000000) (hc : c ≤ 1000) (w : World) :
    Calls Tryd.prog 54 #[.int .i64 (n : Int), .int .i64 (c : Int)] w fun e w' => ∃ v, e = .returned v ∧ w'.ownsRow w.heap.size 3 1 v c (cellsI (ints (qt c n))) ∧ Below w.heap.size w w' := by
  obtain ⟨i0, hi, hz0, hz1, hz2⟩ := info_parts info_i64
  go_enter Tryd.func54, Tryd.ntmps54
  go_wp2_with (at_make; refine wpList_make_full _ rfl (.tmp 7) (.tmp 7) 24 rfl w.heap.size 3 i0 (.int .i64 0) 1 Tryd.underlying24 hi hz0 hz1 .i64 .i64 _ _ c rfl rfl (by omega) (by omega) (by rw [hz2]; omega) (by unfold maxLen; omega) (Nat.le_refl _) ?_)
  intro w2 hown2 hgr2
  rw [cellsI_zeros, zeros_ints] at hown2
  have hb2 : Below w.heap.size w w2 := (Below.refl _ _).grown hgr2 (Nat.le_refl _) (by intro k hk; cases hk)
  have HO2 := hide hown2
  have HB2 := hide hb2
  clear hown2 hgr2 hb2
  obtain ⟨g, hg⟩ : ∃ g, g = w.heap.size := ⟨_, rfl⟩
  go_wp2_with fail
  rw [← hg]
  have hgw : w.heap.size ≤ g := by omega
  have HG := hide hg
  clear hg
  go_loopw [0, 6] (fun x i wr => ∃ (j m : Nat) (R : List Nat), j ≤ c ∧ m ≤ 1000000 ∧ i = .int .i64 ((j : Int) - 1) ∧ x = .int .i64 (m : Int) ∧ qt c n = qt j m ++ R ∧ wr.ownsRow w.heap.size 3 1 (.slice (some ⟨g, 0, none⟩) c c) c (cellsI (ints (List.replicate j 0 ++ R))) ∧ Below w.heap.size w wr) (fun _ i _ => (intOf i + 1).toNat)
  case atStart => exact ⟨c, n, [], Nat.le_refl _, hn, rfl, rfl, by simp, by rw [HG.out, List.append_nil]; exact HO2.out, HB2.out⟩
  case round =>
    clear HO2 HB2
    obtain ⟨j, m, R, hj, hm, rfl, rfl, hq, hown, hbel⟩ := hrel
    have HO := hide hown
    have HB := hide hbel
    have HQ := hide hq
    clear hown hbel hq
    cases j with
    | zero =>
      have hq0 : qt c n = R := by rw [HQ.out]; simp [qt]
      have HO0 := hide HO.out
      rw [List.replicate_zero, List.nil_append, ← hq0] at HO0
      clear HO HQ hq0
      go_wp2_with fail
      go_ret
      exact ⟨_, rfl, HO0.out, HB.out⟩
    | succ j =>
      have hc2 : ∃ x, wr.cell? ⟨g, j, none⟩ = some x := by
        rw [HO.out.cellAt j (by omega)]
        refine ⟨_, List.getElem?_eq_getElem ?_⟩
        rw [cellsI_length, ints_length, List.length_append, List.length_replicate]
        omega
      obtain ⟨x0, hc2⟩ := hc2
      have hf2 := HO.out.frozenAt j
      have e1 : ((j + 1 : Nat) : Int) - 1 = (j : Int) := by omega
      rw [e1]
      have HS := hide (rep_set j (m % 4) R)
      have HQ2 : Hid (qt c n = qt j (m / 4) ++ (m % 4 :: R)) := by show qt c n = _; rw [HQ.out, qt]; simp
      clear HQ e1
      go_wp2_with fail
      go_roundw
      case rel =>
        refine ⟨j, m / 4, m % 4 :: R, by omega, by omega, by go_num, by go_num, HQ2.out, ?_, HB.out.setCell hgw _⟩
        have h1 := (HO.out.stored j (.int .i64 ((m % 4 : Nat) : Int))).1
        rw [cellsI_set, HS.out] at h1
        exact h1
      case measure => simp [intOf]

set_option maxHeartbeats 1000000 in
theorem implQuads_calls (t : List UInt8) (ht : t.length ≤ 1048577) (w : World) (hG : Glo w) :
    Calls Tryd.prog 16 #[.string ⟨t.toArray⟩] w fun e w' => ∃ v, e = .returned v ∧ w'.ownsRow w.heap.size 3 1 v 11 (cellsI (quads t)) ∧ Below w.heap.size w w' := by
  have HD := hide (implDigest_calls t ht w hG.s hG.k)
  have hdl := digest_length t
  have HQ : Hid (quads t = ints (quad8 (digest t) ++ [miss (digest t) / 16, miss (digest t) / 4 % 4, miss (digest t) % 4])) := rfl
  obtain ⟨qs, Eq⟩ : ∃ qs, Hid (qs = quads t) := ⟨_, rfl⟩
  rw [← Eq.out] at HQ ⊢
  obtain ⟨d, Ed⟩ : ∃ d, Hid (d = digest t) := ⟨_, rfl⟩
  rw [← Ed.out] at HQ hdl HD
  clear Ed Eq hG
  have hms := miss_le d
  have HQL := hide (fun x hx => quad8_lt d x hx)
  have HSM : Hid (miss d = 24 - (quad8 d).sum) := rfl
  have HS24 := hide (quad8_sum d)
  have HQ8 := hide (qt8 d)
  obtain ⟨q8, E8⟩ : ∃ q8, Hid (q8 = quad8 d) := ⟨_, rfl⟩
  obtain ⟨ms, Em⟩ : ∃ ms, Hid (ms = miss d) := ⟨_, rfl⟩
  have h8 : q8.length = 8 := by rw [E8.out]; rfl
  rw [← E8.out, ← Em.out] at HQ
  rw [← E8.out] at HQL HS24 HQ8
  rw [← E8.out, ← Em.out] at HSM
  rw [← Em.out] at hms
  clear E8 Em
  have i0x := index_byte d 0 0 rfl (by omega)
  have i1x := index_byte d 1 1 rfl (by omega)
  have b0 := (d.getD 0 0).toNat_lt
  have b1 := (d.getD 1 0).toNat_lt
  generalize (d.getD 0 0).toNat = x at *
  generalize (d.getD 1 0).toNat = y at *
  have HQ3 := hide (qt3 ms hms)
  have HN1 := hide (fun wx => quarters_calls (x * 256 + y) 8 (by omega) (by omega) wx)
  have HN2 := hide (fun wx => quarters_calls ms 3 (by omega) (by omega) wx)
  simp only [HQ8.out] at HN1
  simp only [HQ3.out] at HN2
  have ex : ((x * 256 + y : Nat) : Int) = (x : Int) * 256 + (y : Int) := by omega
  simp only [ex] at HN1
  have hq8l : ints q8 = ints q8 := rfl
  clear hq8l ex HQ8 HQ3
  obtain ⟨i0, hi, hz0, hz1, hz2⟩ := info_parts info_i64
  go_enter Tryd.func16, Tryd.ntmps16
  go_wp2_with fail
  refine HD.out.mono ?_
  rintro e w1 ⟨rfl, hb1⟩
  have HB1 := hide hb1
  clear hb1 HD
  go_wp2_with fail
  refine wp_region_tail 8 (fun wd => Below w.heap.size w wd) HB1.out.drew (by kernel_rfl) (by kernel_rfl) ?_
  clear HB1
  intro wd hbd
  have HBD := hide hbd
  clear hbd
  simp only [List.take_succ_cons, List.take_zero, List.drop_succ_cons, List.drop_zero]
  repeat (go_big_quiet_step (fail))
  refine wpQuiet_nil ?_
  go_wp2_with fail
  refine (HN1.out _).mono ?_
  rintro e w2 ⟨v1, rfl, ho1, hb2⟩
  have HB2 := hide (HBD.out.trans (hb2.mono HBD.out.size))
  have HO := hide (own_mono ho1 HBD.out.size)
  obtain ⟨g1, c1, hv1, hg1, hg1s, hc1, hcell1, -⟩ := own_at ho1 (by omega)
  subst hv1
  have HC1 : Hid (∀ j, j < 8 → w2.cell? ⟨g1, j, none⟩ = some (.int .i64 (q8.getD j 0 : Nat))) := by
    intro j hj
    rw [hcell1 j (by omega)]
    simp [cellsI, ints, List.getD_eq_getElem?_getD, show j < q8.length by omega]
  clear hb2 ho1 hcell1 HN1 i0x i1x HBD
  go_wp2_with fail
  go_loop [5, 21] (fun s i => ∃ k : Nat, k ≤ 8 ∧ i = .int .i64 k ∧ s = .int .i64 (24 - ((q8.take k).sum : Nat))) (fun _ i => 8 - (intOf i).toNat)
  case atStart => exact ⟨0, by omega, rfl, rfl⟩
  case round =>
    obtain ⟨k, hk, rfl, rfl⟩ := hrel
    by_cases hlt : k < 8
    · have hc := HC1.out k hlt
      have HT := hide (take_next q8 k (by omega))
      have hsl : (q8.take (k + 1)).sum ≤ 24 := by
        have : q8.sum = (q8.take (k + 1)).sum + (q8.drop (k + 1)).sum := by rw [← List.sum_append, List.take_append_drop]
        have := HS24.out
        omega
      rw [HT.out] at hsl
      have HSN : Hid ((q8.take (k + 1)).sum = (q8.take k).sum + q8.getD k 0) := by show _ = _; rw [HT.out]; simp
      rw [← HT.out, HSN.out] at hsl
      generalize q8.getD k 0 = z at *
      generalize (q8.take k).sum = S at *
      clear HT
      go_wp2_with fail
      go_round
      case rel => exact ⟨k + 1, by omega, by go_num, by rw [HSN.out]; go_num⟩
      case measure => simp [intOf]; omega
    · have hk8 : k = 8 := by omega
      have hS : (q8.take k).sum = q8.sum := by rw [hk8, List.take_of_length_le (by omega)]
      have hm : (24 - ((q8.take k).sum : Int)) = (ms : Int) := by
        have := HS24.out
        rw [hS, HSM.out]
        omega
      rw [hm]
      clear hm hS hk8
      go_wp2_with fail
      refine (HN2.out _).mono ?_
      rintro e w3 ⟨v2, rfl, ho2, hb3⟩
      have HB3 := hide (HB2.out.trans (hb3.mono HB2.out.size))
      have HO3 := hide (own_below HO.out hb3)
      obtain ⟨g2, c2, hv2, hg2, hg2s, hc2, hcell2, -⟩ := own_at ho2 (by omega)
      subst hv2
      have HC2 := hide hcell2
      clear hb3 ho2 hcell2 HN2
      have hw3 : w.heap.size ≤ w3.heap.size := HB3.out.size
      go_wp2_with (at_builtin; refine wpList_append_own _ rfl (.tmp 29) (.tmp 31) 24 rfl w.heap.size 3 i0 (.int .i64 0) 1 8 Tryd.underlying24 hi hz0 hz1 hz2 rfl (by decide) _ 8 _ rfl HO3.out ⟨g2, 0, none⟩ 3 c2 (cellsI (ints [ms / 16, ms / 4 % 4, ms % 4])) rfl rfl ?_ (by intro u hu; simp [cellsI, ints] at hu; rcases hu with rfl | rfl | rfl <;> rfl) (by unfold maxLen; omega) (by omega) hw3 ?_)
      · intro j u hj
        have hj3 : j < 3 := by
          have := (List.getElem?_eq_some_iff.1 hj).1
          simpa [cellsI_length, ints_length] using this
        simp only [Go.WideShapes.add_plain, Nat.zero_add]
        rw [HC2.out j (by omega)]
        exact hj
      · intro v' w4 hown4 hgr4 _
        have hq : cellsI (ints q8) ++ cellsI (ints [ms / 16, ms / 4 % 4, ms % 4]) = cellsI qs := by rw [HQ.out]; simp [cellsI, ints]
        rw [hq] at hown4
        have HO4 := hide hown4
        have HB4 := hide (HB3.out.grown hgr4 hw3 (fun k hk => (HO3.out.lt k hk).1))
        clear hown4 hgr4 hq
        go_wp2_with fail
        go_ret
        exact ⟨_, rfl, HO4.out, HB4.out⟩
end Go.Proofs.YtmjpdccfdaajmaaDoor.P4
