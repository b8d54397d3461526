/- The contracts of the program's numbers, cred, varsText, CredText and CredLess; no condition. -/
import Derived.Test.YtflicklgmhgpiaaDoorCrdI1
import Derived.Test.YtflicklgmhgpiaaDoorCrdQ
import Derived.Test.YtflicklgmhgpiaaDoorIntS
import Derived.Test.YtflicklgmhgpiaaDoorVar
namespace Go.Proofs.YtflicklgmhgpiaaDoor.P5
set_option maxRecDepth 8000
open Go.RowKit P1

theorem Below.two (w : World) (x y : Obj) : Below w.heap.size w ((w.alloc x).alloc y) := by
  have h1 := (Below.refl w.heap.size w).alloc (Nat.le_refl _) x
  exact h1.alloc h1.size y

set_option maxHeartbeats 400000 in
theorem numbers_calls (c : Cr) (w : World) :
    Calls Tryd.prog 26 #[credV c] w fun e w' => e = .returned (credV c) ∧ Below w.heap.size w w' := by
  obtain ⟨k, ow, on, wh, aw, an, bw, bn, u, n⟩ := c
  simp only [credV]
  go_enter Tryd.func26, Tryd.ntmps26
  go_wp2_with fail
  refine bodyPost_ret (v := .agg #[.int .i64 k, .int .i64 ow, .int .i64 on, .int .i64 wh, .int .i64 aw, .int .i64 an, .int .i64 bw, .int .i64 bn, .int .i64 u, .int .i64 n]) (by simp [results, Tryd.results26, go_sem]) rfl ⟨rfl, Below.two _ _ _⟩

set_option maxHeartbeats 400000 in
theorem cred_calls (c : Cr) (w : World) :
    Calls Tryd.prog 29 #[credV c] w fun e w' => e = .returned (credV c) ∧ Below w.heap.size w w' := by
  obtain ⟨k, ow, on, wh, aw, an, bw, bn, u, n⟩ := c
  simp only [credV]
  go_enter Tryd.func29, Tryd.ntmps29
  go_wp2_with fail
  refine bodyPost_ret (v := .agg #[.int .i64 k, .int .i64 ow, .int .i64 on, .int .i64 wh, .int .i64 aw, .int .i64 an, .int .i64 bw, .int .i64 bn, .int .i64 u, .int .i64 n]) (by simp [results, Tryd.results29, go_sem]) rfl ⟨rfl, Below.two _ _ _⟩

theorem rowB_le (l : List Nat) : (rowB l).length ≤ 5 * l.length := by
  induction l with
  | nil => simp [rowB]
  | cons n r ih =>
    have := (varB_length 4 n).2
    simp only [rowB, List.length_append, List.length_cons]
    omega

/-- Numbers as ints. -/
def intsOf (l : List Nat) : List Int := l.map fun (n : Nat) => (n : Int)

theorem intsOf_length (l : List Nat) : (intsOf l).length = l.length := by simp [intsOf]

theorem rowB_take (l : List Nat) (k : Nat) (h : k < l.length) : rowB (l.take (k + 1)) = rowB (l.take k) ++ varB 4 l[k] := by
  rw [List.take_succ_eq_append_getElem h, rowB_append]
  simp [rowB]

set_option maxHeartbeats 400000 in
theorem varsText_calls (w : World) (v : Value) (l : List Nat) (hv : IntsAt w v (intsOf l)) (hl : l.length ≤ 1000) (hx : ∀ x ∈ l, x ≤ 1000000000) :
    Calls Tryd.prog 27 #[v] w fun e w' => e = .returned (.string ⟨(rowB l).toArray⟩) ∧ Below w.heap.size w w' := by
  obtain ⟨a, ca, rfl, HA⟩ := hv
  replace HA := hide HA
  have HX := hide hx
  clear hx
  rw [intsOf_length]
  go_enter Tryd.func27, Tryd.ntmps27
  go_wp2
  go_loopw [3, 10] (fun s i wr => ∃ k : Nat, k ≤ l.length ∧ i = .int .i64 k ∧ s = .string ⟨(rowB (l.take k)).toArray⟩ ∧ Below w.heap.size w wr) (fun _ i _ => l.length - (intOf i).toNat)
  case atStart => exact ⟨0, Nat.zero_le _, rfl, rfl, Below.refl _ _⟩
  case round =>
    obtain ⟨k, hk, rfl, rfl, hb⟩ := hrel
    have HB := hide hb
    by_cases hlt : k < l.length
    · obtain ⟨g, off, rfl, hg, hc⟩ := HA.out k (by rw [intsOf_length]; exact hlt)
      have hc2 : wr.cell? ⟨g, off + k, none⟩ = some (.int .i64 (l[k] : Nat)) := by
        rw [hb.cell (p := ⟨g, off + k, none⟩) hg, hc]
        simp [intsOf]
      have hg2 : g < wr.heap.size := Nat.lt_of_lt_of_le hg hb.size
      have hxk := HX.out l[k] (List.getElem_mem _)
      have HN := hide (rowB_take l k hlt)
      have l1 := rowB_le (l.take k)
      have l2 := (varB_length 4 l[k]).2
      have l3 : (l.take k).length ≤ l.length := by rw [List.length_take]; omega
      have HV := hide (fun wx => implVarText_calls (l[k] : Nat) wx)
      have hvt : varText (l[k] : Nat) = (varB 4 l[k], true) := by
        unfold varText
        rw [if_pos ⟨by omega, by omega⟩]
        simp
      rw [hvt] at HV
      clear hvt hb hc
      obtain ⟨N, EN⟩ : ∃ N, N = rowB (l.take (k + 1)) := ⟨_, rfl⟩
      rw [← EN] at HN
      have HEN := hide EN
      clear EN
      have l4 : (rowB (l.take k)).length ≤ 5000 := by omega
      clear l1 l3
      generalize rowB (l.take k) = T at *
      generalize varB 4 l[k] = U at *
      generalize l[k] = x at *
      go_wp2_with fail
      refine (HV.out _).mono ?_
      rintro e w1 ⟨rfl, hb1⟩
      have HB1 := hide (HB.out.trans (hb1.mono HB.out.size))
      clear hb1 hc2 HV
      go_wp2
      go_roundw
      case rel =>
        refine ⟨k + 1, by omega, by go_num, ?_, HB1.out⟩
        rw [← HEN.out, HN.out, ← ByteArray.mk_append_mk]
      case measure => simp [intOf]; omega
    · have hkl : k = l.length := by omega
      have HN : Hid (rowB (l.take k) = rowB l) := by show rowB (l.take k) = rowB l; rw [hkl, List.take_length]
      clear hb
      go_wp2
      go_ret
      exact ⟨by rw [← HN.out]; rfl, HB.out⟩

theorem credB_rowB (c : Cr) : credB c = rowB [c.k.toNat, c.ow.toNat, c.on.toNat, c.wh.toNat, c.aw.toNat, c.an.toNat, c.bw.toNat, c.bn.toNat, c.u.toNat, c.n.toNat] := by
  simp [credB, rowB, List.append_assoc]

set_option maxHeartbeats 1000000 in
theorem implCredText_calls (c : Cr) (w : World) :
    Calls Tryd.prog 7 #[credV c] w fun e w' => e = .returned (.string ⟨(credT c).toArray⟩) ∧ Below w.heap.size w w' := by
  have HRO := hide (fun wx => implCredOk_calls c wx)
  have HNU := hide (fun wx => numbers_calls c wx)
  have Hs := hide (fun h : credOk c => h.small)
  obtain ⟨T, ET⟩ : ∃ T, Hid (T = credT c) := ⟨_, rfl⟩
  rw [← ET.out]
  obtain ⟨k, ow, on, wh, aw, an, bw, bn, u, n⟩ := c
  simp only [credV] at HRO HNU ⊢
  have HB : Hid (Below w.heap.size w (w.alloc (.cells #[.int .i64 k, .int .i64 ow, .int .i64 on, .int .i64 wh, .int .i64 aw, .int .i64 an, .int .i64 bw, .int .i64 bn, .int .i64 u, .int .i64 n] 27))) := (Below.refl _ _).alloc (Nat.le_refl _) _
  have HA := hide (Blk.new w #[.int .i64 k, .int .i64 ow, .int .i64 on, .int .i64 wh, .int .i64 aw, .int .i64 an, .int .i64 bw, .int .i64 bn, .int .i64 u, .int .i64 n] 27)
  by_cases h1 : credOk ⟨k, ow, on, wh, aw, an, bw, bn, u, n⟩
  · simp only [decide_eq_true h1] at HRO
    have hs := Hs.out h1
    have hT : T = credB ⟨k, ow, on, wh, aw, an, bw, bn, u, n⟩ := by rw [ET.out, credT, if_pos h1]
    rw [credB_rowB] at hT
    have HT := hide hT
    unfold Cr.small at hs
    have HS := hide hs
    clear ET Hs h1 hT hs
    go_enter Tryd.func7, Tryd.ntmps7
    go_wp2_with fail
    obtain ⟨b1, hb1⟩ : ∃ b, b = w.heap.size := ⟨_, rfl⟩
    rw [← hb1] at HA ⊢
    clear hb1
    generalize w.alloc (.cells #[.int .i64 k, .int .i64 ow, .int .i64 on, .int .i64 wh, .int .i64 aw, .int .i64 an, .int .i64 bw, .int .i64 bn, .int .i64 u, .int .i64 n] 27) = w1 at *
    refine (HRO.out _).mono ?_
    rintro e w2 ⟨rfl, hb2⟩
    have HA2 := hide (HA.out.below hb2 HA.out.lt)
    have HB2 := hide (HB.out.trans (hb2.mono HB.out.size))
    clear hb2 HA HB HRO
    have c0 : w2.cell? ⟨b1, 0, none⟩ = some (.int .i64 k) := by rw [HA2.out.cell 0]; rfl
    have c1 : w2.cell? ⟨b1, 1, none⟩ = some (.int .i64 ow) := by rw [HA2.out.cell 1]; rfl
    have c2 : w2.cell? ⟨b1, 2, none⟩ = some (.int .i64 on) := by rw [HA2.out.cell 2]; rfl
    have c3 : w2.cell? ⟨b1, 3, none⟩ = some (.int .i64 wh) := by rw [HA2.out.cell 3]; rfl
    have c4 : w2.cell? ⟨b1, 4, none⟩ = some (.int .i64 aw) := by rw [HA2.out.cell 4]; rfl
    have c5 : w2.cell? ⟨b1, 5, none⟩ = some (.int .i64 an) := by rw [HA2.out.cell 5]; rfl
    have c6 : w2.cell? ⟨b1, 6, none⟩ = some (.int .i64 bw) := by rw [HA2.out.cell 6]; rfl
    have c7 : w2.cell? ⟨b1, 7, none⟩ = some (.int .i64 bn) := by rw [HA2.out.cell 7]; rfl
    have c8 : w2.cell? ⟨b1, 8, none⟩ = some (.int .i64 u) := by rw [HA2.out.cell 8]; rfl
    have c9 : w2.cell? ⟨b1, 9, none⟩ = some (.int .i64 n) := by rw [HA2.out.cell 9]; rfl
    have l1 := HA2.out.lt
    go_wp2_with fail
    clear c0 c1 c2 c3 c4 c5 c6 c7 c8 c9 l1
    refine (HNU.out _).mono ?_
    rintro e w3 ⟨rfl, hb3⟩
    have HB3 := hide (HB2.out.trans (hb3.mono HB2.out.size))
    clear hb3 HNU HA2
    have HB4 := hide (HB3.out.alloc HB3.out.size (.cells #[.int .i64 k, .int .i64 ow, .int .i64 on, .int .i64 wh, .int .i64 aw, .int .i64 an, .int .i64 bw, .int .i64 bn, .int .i64 u, .int .i64 n] 47))
    have HA4 := hide (Blk.new w3 #[.int .i64 k, .int .i64 ow, .int .i64 on, .int .i64 wh, .int .i64 aw, .int .i64 an, .int .i64 bw, .int .i64 bn, .int .i64 u, .int .i64 n] 47)
    go_wp2_with fail
    obtain ⟨b3, hb3⟩ : ∃ b, b = w3.heap.size := ⟨_, rfl⟩
    rw [← hb3] at HA4 ⊢
    clear hb3
    generalize w3.alloc (.cells #[.int .i64 k, .int .i64 ow, .int .i64 on, .int .i64 wh, .int .i64 aw, .int .i64 an, .int .i64 bw, .int .i64 bn, .int .i64 u, .int .i64 n] 47) = w4 at *
    have hI : IntsAt w4 (.slice (some ⟨b3, 0, none⟩) 10 10) (intsOf [k.toNat, ow.toNat, on.toNat, wh.toNat, aw.toNat, an.toNat, bw.toNat, bn.toNat, u.toNat, n.toNat]) := by
      have hs := HS.out
      refine ⟨_, _, rfl, fun j hj => ⟨b3, 0, rfl, HA4.out.lt, ?_⟩⟩
      rw [Nat.zero_add, HA4.out.cell j]
      have hj' : j < 10 := hj
      match j, hj' with
      | 0, _ => show some (Value.int .i64 k) = some (.int .i64 (k.toNat : Nat)); congr 2; omega
      | 1, _ => show some (Value.int .i64 ow) = some (.int .i64 (ow.toNat : Nat)); congr 2; omega
      | 2, _ => show some (Value.int .i64 on) = some (.int .i64 (on.toNat : Nat)); congr 2; omega
      | 3, _ => show some (Value.int .i64 wh) = some (.int .i64 (wh.toNat : Nat)); congr 2; omega
      | 4, _ => show some (Value.int .i64 aw) = some (.int .i64 (aw.toNat : Nat)); congr 2; omega
      | 5, _ => show some (Value.int .i64 an) = some (.int .i64 (an.toNat : Nat)); congr 2; omega
      | 6, _ => show some (Value.int .i64 bw) = some (.int .i64 (bw.toNat : Nat)); congr 2; omega
      | 7, _ => show some (Value.int .i64 bn) = some (.int .i64 (bn.toNat : Nat)); congr 2; omega
      | 8, _ => show some (Value.int .i64 u) = some (.int .i64 (u.toNat : Nat)); congr 2; omega
      | 9, _ => show some (Value.int .i64 n) = some (.int .i64 (n.toNat : Nat)); congr 2; omega
    refine (varsText_calls _ _ _ hI (by simp) (by
      have hs := HS.out
      simp
      omega)).mono ?_
    rintro e w5 ⟨rfl, hb5⟩
    have HB5 := hide (HB4.out.trans (hb5.mono HB4.out.size))
    rw [← HT.out]
    clear hb5 hI HT
    go_wp2_with fail
    go_ret
    exact ⟨rfl, HB5.out⟩
  · simp only [decide_eq_false h1] at HRO
    have HT : Hid (T = []) := by
      show T = []
      rw [ET.out, credT, if_neg h1]
    clear ET Hs h1
    go_enter Tryd.func7, Tryd.ntmps7
    go_wp2_with fail
    generalize w.alloc (.cells #[.int .i64 k, .int .i64 ow, .int .i64 on, .int .i64 wh, .int .i64 aw, .int .i64 an, .int .i64 bw, .int .i64 bn, .int .i64 u, .int .i64 n] 27) = w1 at *
    refine (HRO.out _).mono ?_
    rintro e w2 ⟨rfl, hb2⟩
    have HB2 := hide (HB.out.trans (hb2.mono HB.out.size))
    clear hb2 HA HB HRO
    go_wp2_with fail
    go_ret
    exact ⟨by rw [HT.out]; rfl, HB2.out⟩

set_option maxHeartbeats 400000 in
theorem implCredLess_calls (c d : Cr) (w : World) :
    Calls Tryd.prog 18 #[credV c, credV d] w fun e w' => e = .returned (.bool (Op.bytesLess (credT c) (credT d))) ∧ Below w.heap.size w w' := by
  have H1 := hide (fun wx => implCredText_calls c wx)
  have H2 := hide (fun wx => implCredText_calls d wx)
  have l1 := credT_le c
  have l2 := credT_le d
  generalize credT c = s at *
  generalize credT d = t at *
  obtain ⟨k, ow, on, wh, aw, an, bw, bn, u, n⟩ := c
  obtain ⟨k', ow', on', wh', aw', an', bw', bn', u', n'⟩ := d
  simp only [credV] at H1 H2 ⊢
  have hb1 := (Below.refl w.heap.size w).alloc (Nat.le_refl _) (.cells #[.int .i64 k, .int .i64 ow, .int .i64 on, .int .i64 wh, .int .i64 aw, .int .i64 an, .int .i64 bw, .int .i64 bn, .int .i64 u, .int .i64 n] 27)
  have HA := Blk.new w #[.int .i64 k, .int .i64 ow, .int .i64 on, .int .i64 wh, .int .i64 aw, .int .i64 an, .int .i64 bw, .int .i64 bn, .int .i64 u, .int .i64 n] 27
  have hb2 := hb1.alloc hb1.size (.cells #[.int .i64 k', .int .i64 ow', .int .i64 on', .int .i64 wh', .int .i64 aw', .int .i64 an', .int .i64 bw', .int .i64 bn', .int .i64 u', .int .i64 n'] 27)
  have HD := Blk.new (w.alloc (.cells #[.int .i64 k, .int .i64 ow, .int .i64 on, .int .i64 wh, .int .i64 aw, .int .i64 an, .int .i64 bw, .int .i64 bn, .int .i64 u, .int .i64 n] 27)) #[.int .i64 k', .int .i64 ow', .int .i64 on', .int .i64 wh', .int .i64 aw', .int .i64 an', .int .i64 bw', .int .i64 bn', .int .i64 u', .int .i64 n'] 27
  have HA := HA.below ((Below.refl _ (w.alloc (.cells #[.int .i64 k, .int .i64 ow, .int .i64 on, .int .i64 wh, .int .i64 aw, .int .i64 an, .int .i64 bw, .int .i64 bn, .int .i64 u, .int .i64 n] 27))).alloc (Nat.le_refl _) (.cells #[.int .i64 k', .int .i64 ow', .int .i64 on', .int .i64 wh', .int .i64 aw', .int .i64 an', .int .i64 bw', .int .i64 bn', .int .i64 u', .int .i64 n'] 27)) HA.lt
  have HB2 := hide hb2
  clear hb1 hb2
  go_enter Tryd.func18, Tryd.ntmps18
  go_wp2_with fail
  rw [show (w.alloc (.cells #[.int .i64 k, .int .i64 ow, .int .i64 on, .int .i64 wh, .int .i64 aw, .int .i64 an, .int .i64 bw, .int .i64 bn, .int .i64 u, .int .i64 n] 27)).heap.size = w.heap.size + 1 from by simp [go_sem]] at HD
  obtain ⟨b1, e1⟩ : ∃ b, b = w.heap.size + 1 := ⟨_, rfl⟩
  rw [← e1] at HD ⊢
  clear e1
  obtain ⟨b0, e0⟩ : ∃ b, b = w.heap.size := ⟨_, rfl⟩
  rw [← e0] at HA ⊢
  clear e0
  generalize (w.alloc (.cells #[.int .i64 k, .int .i64 ow, .int .i64 on, .int .i64 wh, .int .i64 aw, .int .i64 an, .int .i64 bw, .int .i64 bn, .int .i64 u, .int .i64 n] 27)).alloc (.cells #[.int .i64 k', .int .i64 ow', .int .i64 on', .int .i64 wh', .int .i64 aw', .int .i64 an', .int .i64 bw', .int .i64 bn', .int .i64 u', .int .i64 n'] 27) = w1 at *
  have n0 : ∀ p : Near w1.heap.size w1, p.w.cell? ⟨b0, 0, none⟩ = some (.int .i64 k) := fun p => by rw [(HA.below p.h HA.lt).cell 0]; rfl
  have n1 : ∀ p : Near w1.heap.size w1, p.w.cell? ⟨b0, 1, none⟩ = some (.int .i64 ow) := fun p => by rw [(HA.below p.h HA.lt).cell 1]; rfl
  have n2 : ∀ p : Near w1.heap.size w1, p.w.cell? ⟨b0, 2, none⟩ = some (.int .i64 on) := fun p => by rw [(HA.below p.h HA.lt).cell 2]; rfl
  have n3 : ∀ p : Near w1.heap.size w1, p.w.cell? ⟨b0, 3, none⟩ = some (.int .i64 wh) := fun p => by rw [(HA.below p.h HA.lt).cell 3]; rfl
  have n4 : ∀ p : Near w1.heap.size w1, p.w.cell? ⟨b0, 4, none⟩ = some (.int .i64 aw) := fun p => by rw [(HA.below p.h HA.lt).cell 4]; rfl
  have n5 : ∀ p : Near w1.heap.size w1, p.w.cell? ⟨b0, 5, none⟩ = some (.int .i64 an) := fun p => by rw [(HA.below p.h HA.lt).cell 5]; rfl
  have n6 : ∀ p : Near w1.heap.size w1, p.w.cell? ⟨b0, 6, none⟩ = some (.int .i64 bw) := fun p => by rw [(HA.below p.h HA.lt).cell 6]; rfl
  have n7 : ∀ p : Near w1.heap.size w1, p.w.cell? ⟨b0, 7, none⟩ = some (.int .i64 bn) := fun p => by rw [(HA.below p.h HA.lt).cell 7]; rfl
  have n8 : ∀ p : Near w1.heap.size w1, p.w.cell? ⟨b0, 8, none⟩ = some (.int .i64 u) := fun p => by rw [(HA.below p.h HA.lt).cell 8]; rfl
  have n9 : ∀ p : Near w1.heap.size w1, p.w.cell? ⟨b0, 9, none⟩ = some (.int .i64 n) := fun p => by rw [(HA.below p.h HA.lt).cell 9]; rfl
  have m0 : ∀ p : Near w1.heap.size w1, p.w.cell? ⟨b1, 0, none⟩ = some (.int .i64 k') := fun p => by rw [(HD.below p.h HD.lt).cell 0]; rfl
  have m1 : ∀ p : Near w1.heap.size w1, p.w.cell? ⟨b1, 1, none⟩ = some (.int .i64 ow') := fun p => by rw [(HD.below p.h HD.lt).cell 1]; rfl
  have m2 : ∀ p : Near w1.heap.size w1, p.w.cell? ⟨b1, 2, none⟩ = some (.int .i64 on') := fun p => by rw [(HD.below p.h HD.lt).cell 2]; rfl
  have m3 : ∀ p : Near w1.heap.size w1, p.w.cell? ⟨b1, 3, none⟩ = some (.int .i64 wh') := fun p => by rw [(HD.below p.h HD.lt).cell 3]; rfl
  have m4 : ∀ p : Near w1.heap.size w1, p.w.cell? ⟨b1, 4, none⟩ = some (.int .i64 aw') := fun p => by rw [(HD.below p.h HD.lt).cell 4]; rfl
  have m5 : ∀ p : Near w1.heap.size w1, p.w.cell? ⟨b1, 5, none⟩ = some (.int .i64 an') := fun p => by rw [(HD.below p.h HD.lt).cell 5]; rfl
  have m6 : ∀ p : Near w1.heap.size w1, p.w.cell? ⟨b1, 6, none⟩ = some (.int .i64 bw') := fun p => by rw [(HD.below p.h HD.lt).cell 6]; rfl
  have m7 : ∀ p : Near w1.heap.size w1, p.w.cell? ⟨b1, 7, none⟩ = some (.int .i64 bn') := fun p => by rw [(HD.below p.h HD.lt).cell 7]; rfl
  have m8 : ∀ p : Near w1.heap.size w1, p.w.cell? ⟨b1, 8, none⟩ = some (.int .i64 u') := fun p => by rw [(HD.below p.h HD.lt).cell 8]; rfl
  have m9 : ∀ p : Near w1.heap.size w1, p.w.cell? ⟨b1, 9, none⟩ = some (.int .i64 n') := fun p => by rw [(HD.below p.h HD.lt).cell 9]; rfl
  clear HA HD
  have hnn := Near.some w1.heap.size w1
  refine wp_region_near w1.heap.size w1 (Below.refl _ _) (by kernel_rfl) (by kernel_rfl) ?_
  repeat (go_big_quiet_step (fail))
  go_big_quiet_step (exact calls_near (Nat.le_refl _) (H1.out _))
  repeat (go_big_quiet_step (fail))
  go_big_quiet_step (exact calls_near (Nat.le_refl _) (H2.out _))
  repeat (go_big_quiet_step (fail))
  refine wpQuiet_nil ?_
  rintro w3 ⟨pq, rfl⟩
  have hqb := pq.h
  obtain ⟨w3, hq⟩ := pq
  simp only at hqb ⊢
  clear hq hnn n0 n1 n2 n3 n4 n5 n6 n7 n8 n9 m0 m1 m2 m3 m4 m5 m6 m7 m8 m9 H1 H2
  go_wp2_with fail
  go_ret
  exact ⟨rfl, HB2.out.trans (hqb.mono HB2.out.size)⟩
end Go.Proofs.YtflicklgmhgpiaaDoor.P5
