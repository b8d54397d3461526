/- The contracts of the program's ChainOf, SecretOf and nodeOf; conditions: a text is at most 2^20 bytes long, numbers are ints, the listed tables hold what their text lays.
The contracts of the program's quartersOf and QuadsOf; conditions: the text is at most 2^20 bytes long (and one), the listed tables hold what their text lays.
Function values that answer the same in every world that is as it was: the program's closures over chains: secretsOf, further, list, leafKey; conditions: texts of at most 2^20 bytes, the listed tables hold what their text lays.
The contracts of the program's list and leafKey over chains; conditions: as of the function values handed in.
The contracts of the program's leafKey, LeafKey; conditions: the listed tables hold what their text lays.
The contracts of the program's treeRows and KeyOf; conditions: numbers are ints, the listed tables hold what their text lays.
The contracts of the program's leafOk, wayOf and SignText; conditions: the text is at most 2^20 bytes long, the listed tables hold what their text lays.
The contracts of the program's keysOk and SignedBy; conditions: texts and lists of at most 2^20, the listed tables hold what their text lays.
The contract of the program's SignedBy; conditions: texts and lists of at most 2^20, the listed tables hold what their text lays.
Chapter 4's promise as mathematics: what is signed is signed by its key; no condition. -/
import Derived.Test.YtmjpdccfdaajmaaDoorZP
import Derived.Test.YtmjpdccfdaajmaaDoorZE
import Derived.Test.YtmjpdccfdaajmaaDoorZF
import Derived.Test.YtmjpdccfdaajmaaDoorZC
import Derived.Test.YtmjpdccfdaajmaaDoorZL
import Derived.Test.YtmjpdccfdaajmaaDoorZD
import Derived.Test.YtmjpdccfdaajmaaDoorZA
namespace Go.Proofs.YtmjpdccfdaajmaaDoor.P4
set_option maxRecDepth 8000
open Go.RowKit P1 P3

/-- impl.CutDigest at eight. -/
theorem icut_calls (t : List UInt8) (ht : t.length ≤ 1048577) (w : World) (hG : Glo w) :
    Calls Tryd.prog 57 #[.string ⟨t.toArray⟩, .int .i64 8] w fun e w' => e = .returned (.string ⟨(cut8 t).toArray⟩) ∧ Below w.heap.size w w' := by
  have h := implCut_calls t ht 8 w hG
  rw [cutV8] at h
  exact h

set_option maxHeartbeats 1000000 in
theorem implChain_calls (t : List UInt8) (ht : t.length ≤ 1048576) (n : Int) (w : World) (hG : Glo w) :
    Calls Tryd.prog 31 #[.string ⟨t.toArray⟩, .int .i64 n] w fun e w' => e = .returned (.string ⟨(chainV t n).toArray⟩) ∧ Below w.heap.size w w' := by
  obtain ⟨m, hm⟩ : ∃ m : Nat, m = min 3 n.toNat := ⟨_, rfl⟩
  have HC : Hid (chainV t n = chain m t) := by show chainV t n = _; rw [hm]; rfl
  rw [HC.out]
  clear HC
  have hm3 : m ≤ 3 := by omega
  have hmin : min (max n 0) 3 = (m : Int) := by omega
  have HMN := hide hmin
  have HG := hide hG
  have hsz : (⟨t.toArray⟩ : ByteArray).size ≤ 281474976710656 := by show t.length ≤ _; omega
  have HCL := hide (fun wx => clone_calls ⟨t.toArray⟩ wx hsz)
  clear hG hm hmin hsz
  go_enter Tryd.func31, Tryd.ntmps31
  go_wp2_with fail
  refine (HCL.out _).mono ?_
  rintro e w1 ⟨rfl, hb1⟩
  have HG1 := hide (HG.out.below hb1)
  have HB1 := hide hb1
  clear hb1 HCL HG
  go_wp2_with fail
  rw [HMN.out]
  go_loopw [5, 11] (fun v i wr => ∃ k : Nat, k ≤ m ∧ i = .int .i64 k ∧ v = .string ⟨(chain k t).toArray⟩ ∧ Glo wr ∧ Below w.heap.size w wr) (fun _ i _ => m - (intOf i).toNat)
  case atStart => exact ⟨0, by omega, rfl, rfl, HG1.out, HB1.out⟩
  case round =>
    clear HG1 HB1 HMN
    obtain ⟨k, hk, rfl, rfl, hg, hb⟩ := hrel
    have HB := hide hb
    have HG := hide hg
    clear hb hg
    have hlen := chain_le k t
    by_cases hlt : k < m
    · have hd1 : decide ((k : Int) < (m : Int)) = true := by simp; omega
      have HC := hide (fun wx hg => icut_calls (99 :: chain k t) (by rw [List.length_cons]; omega) wx hg)
      have HN : Hid (chain (k + 1) t = cut8 (99 :: chain k t)) := rfl
      rw [← HN.out] at HC
      have hcat : (⟨#[99]⟩ : ByteArray) ++ ⟨(chain k t).toArray⟩ = ⟨(99 :: chain k t).toArray⟩ := ByteArray.mk_append_mk [99] (chain k t)
      obtain ⟨c1, E1⟩ : ∃ c1, Hid (c1 = chain (k + 1) t) := ⟨_, rfl⟩
      obtain ⟨c2, E2⟩ : ∃ c2, Hid (c2 = 99 :: chain k t) := ⟨_, rfl⟩
      obtain ⟨c0, E0⟩ : ∃ c0, Hid (c0 = chain k t) := ⟨_, rfl⟩
      rw [← E1.out, ← E2.out] at HC
      rw [← E2.out, ← E0.out] at hcat
      rw [← E0.out] at hlen ⊢
      clear HN E0 E2
      go_wp2_with fail
      refine (HC.out _ HG.out).mono ?_
      rintro e w2 ⟨rfl, hb2⟩
      have HB2 := hide (HB.out.trans (hb2.mono HB.out.size))
      have HG2 := hide (HG.out.below hb2)
      clear hb2 HG
      go_wp2_with fail
      go_roundw
      case rel => exact ⟨k + 1, by omega, by go_num, by rw [E1.out], HG2.out, HB2.out⟩
      case measure => simp [intOf]; omega
    · have hd1 : decide ((k : Int) < (m : Int)) = false := by simp; omega
      have HKM : Hid (k = m) := by show k = m; omega
      go_wp2_with fail
      go_ret
      exact ⟨by rw [← HKM.out]; rfl, HB.out⟩

theorem varText_few (n : Int) (h : few n) : varText n = (varB 4 n.toNat, true) := by
  unfold varText
  rw [if_pos ⟨h.1, by have := h.2; omega⟩]

/-- A secret's text behind so many numbers. -/
def secText (l : List Int) : Nat → List UInt8
  | 0 => [115]
  | k + 1 => secText l k ++ varB 4 (l.getD k 0).toNat

theorem secText_le (l : List Int) (k : Nat) : (secText l k).length ≤ 1 + 5 * k := by
  induction k with
  | zero => simp [secText]
  | succ k ih =>
    have := (varB_length 4 (l.getD k 0).toNat).2
    rw [secText, List.length_append]
    omega

theorem secret_yes (a b c : Int) (h : ∀ k, k < 3 → few ([a, b, c].getD k 0)) : secret a b c = cut8 (secText [a, b, c] 3) := by
  unfold secret
  rw [if_pos ⟨h 0 (by omega), h 1 (by omega), h 2 (by omega)⟩]
  simp [secText]

theorem secret_no (a b c : Int) (k : Nat) (hk : k < 3) (h : ¬ few ([a, b, c].getD k 0)) : secret a b c = [] := by
  unfold secret
  rw [if_neg]
  rintro ⟨h0, h1, h2⟩
  have hk' : k = 0 ∨ k = 1 ∨ k = 2 := by omega
  rcases hk' with rfl | rfl | rfl
  · exact h h0
  · exact h h1
  · exact h h2

theorem arrI3 : Tryd.prog.underlying 73 = some (.array 3 3) := by kernel_rfl

theorem index_three (a b c : Int) (k : Nat) (hk : k < 3) (wx : World) : (Instr.index 73 (.agg #[.int .i64 a, .int .i64 b, .int .i64 c]) (.int .i64 k)).run Tryd.prog wx = .ok (.int .i64 ([a, b, c].getD k 0)) wx := by
  have hk' : k = 0 ∨ k = 1 ∨ k = 2 := by omega
  unfold Instr.index
  simp [asIntOf, run_underlying arrI3, Tryd.sizeOf3]
  rw [if_pos hk]
  unfold part
  rcases hk' with rfl | rfl | rfl <;> simp [Tryd.isAgg3]

set_option maxHeartbeats 1000000 in
theorem implSecret_calls (a b c : Int) (w : World) (hG : Glo w) :
    Calls Tryd.prog 18 #[.int .i64 a, .int .i64 b, .int .i64 c] w fun e w' => e = .returned (.string ⟨(secret a b c).toArray⟩) ∧ Below w.heap.size w w' := by
  have HIX := hide (fun k hk wx => index_three a b c k hk wx)
  have HY := hide (fun h => secret_yes a b c h)
  have HNO := hide (fun k hk h => secret_no a b c k hk h)
  obtain ⟨l, El⟩ : ∃ l, Hid (l = [a, b, c]) := ⟨_, rfl⟩
  simp only [← El.out] at HIX HY HNO
  obtain ⟨sv, Es⟩ : ∃ sv, Hid (sv = secret a b c) := ⟨_, rfl⟩
  simp only [← Es.out] at HY HNO ⊢
  have HG := hide hG
  clear El Es hG
  go_enter Tryd.func18, Tryd.ntmps18
  go_wp2_with fail
  go_loopw [7, 16] (fun v i wr => ∃ k : Nat, k ≤ 3 ∧ i = .int .i64 k ∧ v = .string ⟨(secText l k).toArray⟩ ∧ (∀ j, j < k → few (l.getD j 0)) ∧ Glo wr ∧ Below w.heap.size w wr) (fun _ i _ => 3 - (intOf i).toNat)
  case atStart => exact ⟨0, by omega, rfl, rfl, fun j hj => by omega, HG.out, Below.refl _ _⟩
  case round =>
    clear HG
    obtain ⟨k, hk, rfl, rfl, hf, hg, hb⟩ := hrel
    have HB := hide hb
    have HG := hide hg
    have HF := hide hf
    clear hb hg hf
    have hlen := secText_le l k
    by_cases hlt : k < 3
    · have hd1 : decide ((k : Int) < 3) = true := by simp; omega
      have hix := HIX.out k hlt
      have HSN : Hid (secText l (k + 1) = secText l k ++ varB 4 (l.getD k 0).toNat) := rfl
      have HNK := hide (HNO.out k hlt)
      have HFN : Hid (few (l.getD k 0) → ∀ j, j < k + 1 → few (l.getD j 0)) := fun h j hj => by
        by_cases hjk : j = k
        · rw [hjk]; exact h
        · exact HF.out j (by omega)
      obtain ⟨x, Ex⟩ : ∃ x, Hid (x = l.getD k 0) := ⟨_, rfl⟩
      simp only [← Ex.out] at hix HSN HNK HFN
      clear Ex HF
      by_cases hx : few x
      · have h0 : ¬ x < 0 := by have := hx.1; omega
        have h1 : ¬ 1000000 < x := by have := hx.2; omega
        have HV := hide (fun wx => implVarText_calls x wx)
        rw [varText_few x hx] at HV
        have HFF := hide (HFN.out hx)
        have lv := (varB_length 4 x.toNat).2
        generalize varB 4 x.toNat = vx at *
        obtain ⟨c1, E1⟩ : ∃ c1, Hid (c1 = secText l (k + 1)) := ⟨_, rfl⟩
        obtain ⟨c0, E0⟩ : ∃ c0, Hid (c0 = secText l k) := ⟨_, rfl⟩
        rw [← E1.out, ← E0.out] at HSN
        rw [← E0.out] at hlen ⊢
        have hcat : (⟨c0.toArray⟩ : ByteArray) ++ ⟨vx.toArray⟩ = ⟨c1.toArray⟩ := by rw [ByteArray.mk_append_mk, HSN.out]
        have hl1 : c1.length = c0.length + vx.length := by rw [HSN.out, List.length_append]
        clear HSN E0 hx HNK HFN
        go_wp2_with fail
        refine (HV.out _).mono ?_
        rintro e w2 ⟨rfl, hb2⟩
        have HB2 := hide (HB.out.trans (hb2.mono HB.out.size))
        have HG2 := hide (HG.out.below hb2)
        clear hb2 HG hix
        go_wp2_with fail
        go_roundw
        case rel => exact ⟨k + 1, by omega, by go_num, by rw [E1.out], HFF.out, HG2.out, HB2.out⟩
        case measure => simp [intOf]; omega
      · have HS0 := hide (HNK.out hx)
        have hor : x < 0 ∨ 1000000 < x := by unfold few at hx; omega
        clear hx HNK HFN HSN
        rcases hor with h0 | h0
        · go_wp2_with fail
          go_ret
          exact ⟨by rw [HS0.out]; rfl, HB.out⟩
        · have h1 : ¬ x < 0 := by omega
          go_wp2_with fail
          go_ret
          exact ⟨by rw [HS0.out]; rfl, HB.out⟩
    · have hk3 : k = 3 := by omega
      have hd1 : decide ((k : Int) < 3) = false := by simp; omega
      rw [hk3] at HF hlen ⊢
      have HS := hide (HY.out HF.out)
      have HC := hide (fun wx hg => icut_calls (secText l 3) (by omega) wx hg)
      rw [← HS.out] at HC
      generalize secText l 3 = tt at *
      clear HF HS hk3
      go_wp2_with fail
      refine (HC.out _ HG.out).mono ?_
      rintro e w2 ⟨rfl, hb2⟩
      have HB2 := hide (HB.out.trans (hb2.mono HB.out.size))
      clear hb2
      go_wp2_with fail
      go_ret
      exact ⟨rfl, HB2.out⟩

set_option maxHeartbeats 400000 in
theorem node_calls (x y : List UInt8) (hx : x.length ≤ 1000) (hy : y.length ≤ 1000) (w : World) (hG : Glo w) :
    Calls Tryd.prog 62 #[.string ⟨x.toArray⟩, .string ⟨y.toArray⟩] w fun e w' => e = .returned (.string ⟨(node x y).toArray⟩) ∧ Below w.heap.size w w' := by
  have HCT := hide (icut_calls (110 :: (x ++ y)) (by simp; omega) w hG)
  have e1 : (⟨#[110]⟩ : ByteArray) ++ ⟨x.toArray⟩ = ⟨(110 :: x).toArray⟩ := ByteArray.mk_append_mk [110] _
  have e2 : (⟨(110 :: x).toArray⟩ : ByteArray) ++ ⟨y.toArray⟩ = ⟨(110 :: (x ++ y)).toArray⟩ := by rw [ByteArray.mk_append_mk]; simp
  have s1 : (110 :: x).length = x.length + 1 := by simp
  have s2 : (110 :: (x ++ y)).length = x.length + y.length + 1 := by simp
  rw [show cut8 (110 :: (x ++ y)) = node x y from rfl] at HCT
  generalize node x y = c1 at *
  generalize 110 :: (x ++ y) = t2 at *
  generalize 110 :: x = t1 at *
  clear hG
  go_enter Tryd.func62, Tryd.ntmps62
  go_wp2_with fail
  refine HCT.out.mono ?_
  rintro e w5 ⟨rfl, hb5⟩
  go_wp2_with fail
  go_ret
  exact ⟨rfl, hb5⟩
end Go.Proofs.YtmjpdccfdaajmaaDoor.P4
namespace Go.Proofs.YtmjpdccfdaajmaaDoor.P4
set_option maxRecDepth 8000
open Go.RowKit P1 P3

/-- The last c figures of n to the base of four, the highest first. -/
def qt : Nat → Nat → List Nat
  | 0, _ => []
  | c + 1, n => qt c (n / 4) ++ [n % 4]

theorem qt_length (c : Nat) : ∀ n, (qt c n).length = c := by
  induction c with
  | zero => intro n; rfl
  | succ c ih => intro n; rw [qt, List.length_append, ih]; rfl

theorem qt8 (d : List UInt8) : qt 8 ((d.getD 0 0).toNat * 256 + (d.getD 1 0).toNat) = quad8 d := by
  have h0 := (d.getD 0 0).toNat_lt
  have h1 := (d.getD 1 0).toNat_lt
  unfold quad8
  generalize (d.getD 0 0).toNat = x at *
  generalize (d.getD 1 0).toNat = y at *
  simp only [qt, List.nil_append, List.cons_append, List.cons.injEq, and_true]
  omega

theorem qt3 (m : Nat) (h : m ≤ 24) : qt 3 m = [m / 16, m / 4 % 4, m % 4] := by
  simp only [qt, List.nil_append, List.cons_append, List.cons.injEq, and_true]
  omega

theorem rep_set (j x : Nat) (R : List Nat) : (ints (List.replicate (j + 1) 0 ++ R)).set j (x : Int) = ints (List.replicate j 0 ++ x :: R) := by
  have h : List.replicate (j + 1) (0 : Nat) ++ R = List.replicate j 0 ++ (0 :: R) := by
    rw [List.replicate_succ']
    simp
  rw [h]
  simp only [ints, List.map_append, List.map_cons]
  rw [List.set_append_right _ _ (by simp)]
  simp

theorem zeros_ints (c : Nat) : List.replicate c (0 : Int) = ints (List.replicate c 0) := by simp [ints]

set_option maxHeartbeats 1000000 in
theorem quarters_calls (n c : Nat) (hn : n ≤ 1000000) (hc : c ≤ 1000) (w : World) :
    Calls Tryd.prog 54 #[.int .i64 (n : Int), .int .i64 (c : Int)] w fun e w' => ∃ v, e = .returned v ∧ w'.ownsRow w.heap.size 3 1 v c (cellsI (ints (qt c n))) ∧ Below w.heap.size w w' := by
  obtain ⟨i0, hi, hz0, hz1, hz2⟩ := info_parts info_i64
  go_enter Tryd.func54, Tryd.ntmps54
  go_wp2_with (at_make; refine wpList_make_full _ rfl (.tmp 7) (.tmp 7) 24 rfl w.heap.size 3 i0 (.int .i64 0) 1 Tryd.underlying24 hi hz0 hz1 .i64 .i64 _ _ c rfl rfl (by omega) (by omega) (by rw [hz2]; omega) (by unfold maxLen; omega) (Nat.le_refl _) ?_)
  intro w2 hown2 hgr2
  rw [cellsI_zeros, zeros_ints] at hown2
  have hb2 : Below w.heap.size w w2 := (Below.refl _ _).grown hgr2 (Nat.le_refl _) (by intro k hk; cases hk)
  have HO2 := hide hown2
  have HB2 := hide hb2
  clear hown2 hgr2 hb2
  obtain ⟨g, hg⟩ : ∃ g, g = w.heap.size := ⟨_, rfl⟩
  go_wp2_with fail
  rw [← hg]
  have hgw : w.heap.size ≤ g := by omega
  have HG := hide hg
  clear hg
  go_loopw [0, 6] (fun x i wr => ∃ (j m : Nat) (R : List Nat), j ≤ c ∧ m ≤ 1000000 ∧ i = .int .i64 ((j : Int) - 1) ∧ x = .int .i64 (m : Int) ∧ qt c n = qt j m ++ R ∧ wr.ownsRow w.heap.size 3 1 (.slice (some ⟨g, 0, none⟩) c c) c (cellsI (ints (List.replicate j 0 ++ R))) ∧ Below w.heap.size w wr) (fun _ i _ => (intOf i + 1).toNat)
  case atStart => exact ⟨c, n, [], Nat.le_refl _, hn, rfl, rfl, by simp, by rw [HG.out, List.append_nil]; exact HO2.out, HB2.out⟩
  case round =>
    clear HO2 HB2
    obtain ⟨j, m, R, hj, hm, rfl, rfl, hq, hown, hbel⟩ := hrel
    have HO := hide hown
    have HB := hide hbel
    have HQ := hide hq
    clear hown hbel hq
    cases j with
    | zero =>
      have hq0 : qt c n = R := by rw [HQ.out]; simp [qt]
      have HO0 := hide HO.out
      rw [List.replicate_zero, List.nil_append, ← hq0] at HO0
      clear HO HQ hq0
      go_wp2_with fail
      go_ret
      exact ⟨_, rfl, HO0.out, HB.out⟩
    | succ j =>
      have hc2 : ∃ x, wr.cell? ⟨g, j, none⟩ = some x := by
        rw [HO.out.cellAt j (by omega)]
        refine ⟨_, List.getElem?_eq_getElem ?_⟩
        rw [cellsI_length, ints_length, List.length_append, List.length_replicate]
        omega
      obtain ⟨x0, hc2⟩ := hc2
      have hf2 := HO.out.frozenAt j
      have e1 : ((j + 1 : Nat) : Int) - 1 = (j : Int) := by omega
      rw [e1]
      have HS := hide (rep_set j (m % 4) R)
      have HQ2 : Hid (qt c n = qt j (m / 4) ++ (m % 4 :: R)) := by show qt c n = _; rw [HQ.out, qt]; simp
      clear HQ e1
      go_wp2_with fail
      go_roundw
      case rel =>
        refine ⟨j, m / 4, m % 4 :: R, by omega, by omega, by go_num, by go_num, HQ2.out, ?_, HB.out.setCell hgw _⟩
        have h1 := (HO.out.stored j (.int .i64 ((m % 4 : Nat) : Int))).1
        rw [cellsI_set, HS.out] at h1
        exact h1
      case measure => simp [intOf]

set_option maxHeartbeats 1000000 in
theorem implQuads_calls (t : List UInt8) (ht : t.length ≤ 1048577) (w : World) (hG : Glo w) :
    Calls Tryd.prog 16 #[.string ⟨t.toArray⟩] w fun e w' => ∃ v, e = .returned v ∧ w'.ownsRow w.heap.size 3 1 v 11 (cellsI (quads t)) ∧ Below w.heap.size w w' := by
  have HD := hide (implDigest_calls t ht w hG.s hG.k)
  have hdl := digest_length t
  have HQ : Hid (quads t = ints (quad8 (digest t) ++ [miss (digest t) / 16, miss (digest t) / 4 % 4, miss (digest t) % 4])) := rfl
  obtain ⟨qs, Eq⟩ : ∃ qs, Hid (qs = quads t) := ⟨_, rfl⟩
  rw [← Eq.out] at HQ ⊢
  obtain ⟨d, Ed⟩ : ∃ d, Hid (d = digest t) := ⟨_, rfl⟩
  rw [← Ed.out] at HQ hdl HD
  clear Ed Eq hG
  have hms := miss_le d
  have HQL := hide (fun x hx => quad8_lt d x hx)
  have HSM : Hid (miss d = 24 - (quad8 d).sum) := rfl
  have HS24 := hide (quad8_sum d)
  have HQ8 := hide (qt8 d)
  obtain ⟨q8, E8⟩ : ∃ q8, Hid (q8 = quad8 d) := ⟨_, rfl⟩
  obtain ⟨ms, Em⟩ : ∃ ms, Hid (ms = miss d) := ⟨_, rfl⟩
  have h8 : q8.length = 8 := by rw [E8.out]; rfl
  rw [← E8.out, ← Em.out] at HQ
  rw [← E8.out] at HQL HS24 HQ8
  rw [← E8.out, ← Em.out] at HSM
  rw [← Em.out] at hms
  clear E8 Em
  have i0x := index_byte d 0 0 rfl (by omega)
  have i1x := index_byte d 1 1 rfl (by omega)
  have b0 := (d.getD 0 0).toNat_lt
  have b1 := (d.getD 1 0).toNat_lt
  generalize (d.getD 0 0).toNat = x at *
  generalize (d.getD 1 0).toNat = y at *
  have HQ3 := hide (qt3 ms hms)
  have HN1 := hide (fun wx => quarters_calls (x * 256 + y) 8 (by omega) (by omega) wx)
  have HN2 := hide (fun wx => quarters_calls ms 3 (by omega) (by omega) wx)
  simp only [HQ8.out] at HN1
  simp only [HQ3.out] at HN2
  have ex : ((x * 256 + y : Nat) : Int) = (x : Int) * 256 + (y : Int) := by omega
  simp only [ex] at HN1
  have hq8l : ints q8 = ints q8 := rfl
  clear hq8l ex HQ8 HQ3
  obtain ⟨i0, hi, hz0, hz1, hz2⟩ := info_parts info_i64
  go_enter Tryd.func16, Tryd.ntmps16
  go_wp2_with fail
  refine HD.out.mono ?_
  rintro e w1 ⟨rfl, hb1⟩
  have HB1 := hide hb1
  clear hb1 HD
  go_wp2_with fail
  refine wp_region_tail 8 (fun wd => Below w.heap.size w wd) HB1.out.drew (by kernel_rfl) (by kernel_rfl) ?_
  clear HB1
  intro wd hbd
  have HBD := hide hbd
  clear hbd
  simp only [List.take_succ_cons, List.take_zero, List.drop_succ_cons, List.drop_zero]
  repeat (go_big_quiet_step (fail))
  refine wpQuiet_nil ?_
  go_wp2_with fail
  refine (HN1.out _).mono ?_
  rintro e w2 ⟨v1, rfl, ho1, hb2⟩
  have HB2 := hide (HBD.out.trans (hb2.mono HBD.out.size))
  have HO := hide (own_mono ho1 HBD.out.size)
  obtain ⟨g1, c1, hv1, hg1, hg1s, hc1, hcell1, -⟩ := own_at ho1 (by omega)
  subst hv1
  have HC1 : Hid (∀ j, j < 8 → w2.cell? ⟨g1, j, none⟩ = some (.int .i64 (q8.getD j 0 : Nat))) := by
    intro j hj
    rw [hcell1 j (by omega)]
    simp [cellsI, ints, List.getD_eq_getElem?_getD, show j < q8.length by omega]
  clear hb2 ho1 hcell1 HN1 i0x i1x HBD
  go_wp2_with fail
  go_loop [5, 21] (fun s i => ∃ k : Nat, k ≤ 8 ∧ i = .int .i64 k ∧ s = .int .i64 (24 - ((q8.take k).sum : Nat))) (fun _ i => 8 - (intOf i).toNat)
  case atStart => exact ⟨0, by omega, rfl, rfl⟩
  case round =>
    obtain ⟨k, hk, rfl, rfl⟩ := hrel
    by_cases hlt : k < 8
    · have hc := HC1.out k hlt
      have HT := hide (take_next q8 k (by omega))
      have hsl : (q8.take (k + 1)).sum ≤ 24 := by
        have : q8.sum = (q8.take (k + 1)).sum + (q8.drop (k + 1)).sum := by rw [← List.sum_append, List.take_append_drop]
        have := HS24.out
        omega
      rw [HT.out] at hsl
      have HSN : Hid ((q8.take (k + 1)).sum = (q8.take k).sum + q8.getD k 0) := by show _ = _; rw [HT.out]; simp
      rw [← HT.out, HSN.out] at hsl
      generalize q8.getD k 0 = z at *
      generalize (q8.take k).sum = S at *
      clear HT
      go_wp2_with fail
      go_round
      case rel => exact ⟨k + 1, by omega, by go_num, by rw [HSN.out]; go_num⟩
      case measure => simp [intOf]; omega
    · have hk8 : k = 8 := by omega
      have hS : (q8.take k).sum = q8.sum := by rw [hk8, List.take_of_length_le (by omega)]
      have hm : (24 - ((q8.take k).sum : Int)) = (ms : Int) := by
        have := HS24.out
        rw [hS, HSM.out]
        omega
      rw [hm]
      clear hm hS hk8
      go_wp2_with fail
      refine (HN2.out _).mono ?_
      rintro e w3 ⟨v2, rfl, ho2, hb3⟩
      have HB3 := hide (HB2.out.trans (hb3.mono HB2.out.size))
      have HO3 := hide (own_below HO.out hb3)
      obtain ⟨g2, c2, hv2, hg2, hg2s, hc2, hcell2, -⟩ := own_at ho2 (by omega)
      subst hv2
      have HC2 := hide hcell2
      clear hb3 ho2 hcell2 HN2
      have hw3 : w.heap.size ≤ w3.heap.size := HB3.out.size
      go_wp2_with (at_builtin; refine wpList_append_own _ rfl (.tmp 29) (.tmp 31) 24 rfl w.heap.size 3 i0 (.int .i64 0) 1 8 Tryd.underlying24 hi hz0 hz1 hz2 rfl (by decide) _ 8 _ rfl HO3.out ⟨g2, 0, none⟩ 3 c2 (cellsI (ints [ms / 16, ms / 4 % 4, ms % 4])) rfl rfl ?_ (by intro u hu; simp [cellsI, ints] at hu; rcases hu with rfl | rfl | rfl <;> rfl) (by unfold maxLen; omega) (by omega) hw3 ?_)
      · intro j u hj
        have hj3 : j < 3 := by
          have := (List.getElem?_eq_some_iff.1 hj).1
          simpa [cellsI_length, ints_length] using this
        simp only [Go.WideShapes.add_plain, Nat.zero_add]
        rw [HC2.out j (by omega)]
        exact hj
      · intro v' w4 hown4 hgr4 _
        have hq : cellsI (ints q8) ++ cellsI (ints [ms / 16, ms / 4 % 4, ms % 4]) = cellsI qs := by rw [HQ.out]; simp [cellsI, ints]
        rw [hq] at hown4
        have HO4 := hide hown4
        have HB4 := hide (HB3.out.grown hgr4 hw3 (fun k hk => (HO3.out.lt k hk).1))
        clear hown4 hgr4 hq
        go_wp2_with fail
        go_ret
        exact ⟨_, rfl, HO4.out, HB4.out⟩
end Go.Proofs.YtmjpdccfdaajmaaDoor.P4
namespace Go.Proofs.YtmjpdccfdaajmaaDoor.P4
set_option maxRecDepth 8000
open Go.RowKit P1 P3

/-- v is a function value that answers R i at each i below 11, in every world that is as W was. -/
def FnAt (W : World) (v : Value) (R : Nat → Value) : Prop :=
  ∃ fid caps, v = .func (.func fid) #[] caps ∧ (∀ args w, (callFunc fid args).run Tryd.prog w = .ok (.enter fid args) w) ∧
    ∀ w, Below W.heap.size W w → ∀ i : Nat, i < 11 → Calls Tryd.prog fid (#[.int .i64 i] ++ caps) w fun e w' => e = .returned (R i) ∧ Below w.heap.size w w'

theorem FnAt.below {W W' : World} {v : Value} {R : Nat → Value} (h : FnAt W v R) (hb : Below W.heap.size W W') : FnAt W' v R := by
  obtain ⟨fid, caps, h1, h2, h3⟩ := h
  exact ⟨fid, caps, h1, h2, fun w hw i hi => h3 w (hb.trans (hw.mono hb.size)) i hi⟩

set_option maxHeartbeats 400000 in
theorem secrets1_calls (seed leaf : Int) (i : Nat) (b0 b1 : Nat) (w : World) (hG : Glo w) (h0 : w.cell? ⟨b0, 0, none⟩ = some (.int .i64 seed)) (h1 : w.cell? ⟨b1, 0, none⟩ = some (.int .i64 leaf)) :
    Calls Tryd.prog 82 #[.int .i64 i, .pointer (some ⟨b0, 0, none⟩), .pointer (some ⟨b1, 0, none⟩)] w fun e w' => e = .returned (.string ⟨(secret seed leaf i).toArray⟩) ∧ Below w.heap.size w w' := by
  have H := hide (implSecret_calls seed leaf i w hG)
  generalize secret seed leaf i = c at *
  clear hG
  go_enter Tryd.func82, Tryd.ntmps82
  go_wp2_with fail
  refine H.out.mono ?_
  rintro e w5 ⟨rfl, hb5⟩
  go_wp2_with fail
  go_ret
  exact ⟨rfl, hb5⟩

set_option maxHeartbeats 400000 in
theorem secrets_calls (seed leaf : Int) (w : World) (hG : Glo w) :
    Calls Tryd.prog 48 #[.int .i64 seed, .int .i64 leaf] w fun e w' => ∃ v, e = .returned v ∧ FnAt w' v (fun i => .string ⟨(secret seed leaf i).toArray⟩) ∧ Below w.heap.size w w' := by
  have HG := hide hG
  clear hG
  go_enter Tryd.func48, Tryd.ntmps48
  go_wp2_with fail
  go_ret
  have hb : Below w.heap.size w ((w.alloc (.cells #[.int .i64 seed] 3)).alloc (.cells #[.int .i64 leaf] 3)) := ((Below.refl _ _).alloc (Nat.le_refl _) _).alloc (by simp) _
  refine ⟨_, rfl, ⟨_, _, rfl, run_enter Tryd.func82 (by kernel_rfl) (by kernel_rfl), fun w1 hw1 i hi => ?_⟩, hb⟩
  have hz : ((w.alloc (.cells #[.int .i64 seed] 3)).alloc (.cells #[.int .i64 leaf] 3)).heap.size = w.heap.size + 2 := by simp
  refine secrets1_calls seed leaf i _ _ w1 ((HG.out.below hb).below hw1) ?_ ?_
  · rw [hw1.cell (p := ⟨w.heap.size, 0, none⟩) (by rw [hz]; show w.heap.size < _; omega)]
    simp [go_sem]
  · rw [hw1.cell (p := ⟨w.heap.size + 1, 0, none⟩) (by rw [hz]; show w.heap.size + 1 < _; omega)]
    simp [go_sem]

set_option maxHeartbeats 400000 in
theorem further1_calls (f : Nat → List UInt8) (g : Nat → Int) (told steps : Value) (W w : World) (hb : Below W.heap.size W w) (ht : FnAt W told (fun i => .string ⟨(f i).toArray⟩)) (hs : FnAt W steps (fun i => .int .i64 (g i))) (hG : Glo W)
    (i : Nat) (hi : i < 11) (hf : (f i).length ≤ 1048576) (b0 b1 : Nat) (hl0 : b0 < W.heap.size) (hl1 : b1 < W.heap.size) (h0 : W.cell? ⟨b0, 0, none⟩ = some told) (h1 : W.cell? ⟨b1, 0, none⟩ = some steps) :
    Calls Tryd.prog 83 #[.int .i64 i, .pointer (some ⟨b0, 0, none⟩), .pointer (some ⟨b1, 0, none⟩)] w fun e w' => e = .returned (.string ⟨(chainV (f i) (g i)).toArray⟩) ∧ Below w.heap.size w w' := by
  obtain ⟨f1, c1, rfl, r1, k1⟩ := ht
  obtain ⟨f2, c2, rfl, r2, k2⟩ := hs
  simp only at k1 k2
  have K1 := hide (fun (p : Near w.heap.size w) => k1 p.w (hb.trans (p.h.mono hb.size)) i hi)
  have K2 := hide (fun (p : Near w.heap.size w) => k2 p.w (hb.trans (p.h.mono hb.size)) i hi)
  have K3 := hide (fun (p : Near w.heap.size w) => implChain_calls (f i) hf (g i) p.w (hG.below (hb.trans (p.h.mono hb.size))))
  generalize chainV (f i) (g i) = c at *
  generalize f i = fi at *
  generalize g i = gi at *
  have n0 : ∀ p : Near w.heap.size w, p.w.cell? ⟨b0, 0, none⟩ = some (.func (.func f1) #[] c1) := fun p => ((hb.trans (p.h.mono hb.size)).cell (p := ⟨b0, 0, none⟩) hl0).trans h0
  have n1 : ∀ p : Near w.heap.size w, p.w.cell? ⟨b1, 0, none⟩ = some (.func (.func f2) #[] c2) := fun p => ((hb.trans (p.h.mono hb.size)).cell (p := ⟨b1, 0, none⟩) hl1).trans h1
  have hnn := Near.some w.heap.size w
  clear hG k1 k2 h0 h1
  go_enter Tryd.func83, Tryd.ntmps83
  go_wp2_with fail
  refine wp_region_near w.heap.size w (Below.refl _ _) (by kernel_rfl) (by kernel_rfl) ?_
  repeat (go_big_quiet_step (fail))
  go_big_quiet_step (exact calls_near (Nat.le_refl _) (K1.out _))
  repeat (go_big_quiet_step (fail))
  go_big_quiet_step (exact calls_near (Nat.le_refl _) (K2.out _))
  repeat (go_big_quiet_step (fail))
  go_big_quiet_step (exact calls_near (Nat.le_refl _) (K3.out _))
  repeat (go_big_quiet_step (fail))
  refine wpQuiet_nil ?_
  rintro w3 ⟨pq, rfl⟩
  have hqb := pq.h
  obtain ⟨w3, hq⟩ := pq
  simp only at hqb ⊢
  clear hq n0 n1 hnn
  go_wp2_with fail
  go_ret
  exact ⟨rfl, hqb⟩

set_option maxHeartbeats 400000 in
theorem further_calls (f : Nat → List UInt8) (g : Nat → Int) (told steps : Value) (w : World) (ht : FnAt w told (fun i => .string ⟨(f i).toArray⟩)) (hs : FnAt w steps (fun i => .int .i64 (g i))) (hG : Glo w) (hf : ∀ i, i < 11 → (f i).length ≤ 1048576) :
    Calls Tryd.prog 49 #[told, steps] w fun e w' => ∃ v, e = .returned v ∧ FnAt w' v (fun i => .string ⟨(chainV (f i) (g i)).toArray⟩) ∧ Below w.heap.size w w' := by
  have HG := hide hG
  have HT := hide ht
  have HS := hide hs
  clear hG
  obtain ⟨f1, c1, e1, -⟩ := ht
  obtain ⟨f2, c2, e2, -⟩ := hs
  subst e1 e2
  have hb : Below w.heap.size w ((w.alloc (.cells #[.func (.func f1) #[] c1] 65)).alloc (.cells #[.func (.func f2) #[] c2] 68)) := ((Below.refl _ _).alloc (Nat.le_refl _) _).alloc (by simp) _
  have hz : ((w.alloc (.cells #[.func (.func f1) #[] c1] 65)).alloc (.cells #[.func (.func f2) #[] c2] 68)).heap.size = w.heap.size + 2 := by simp
  have q0 : ((w.alloc (.cells #[.func (.func f1) #[] c1] 65)).alloc (.cells #[.func (.func f2) #[] c2] 68)).cell? ⟨w.heap.size, 0, none⟩ = some (.func (.func f1) #[] c1) := by simp [go_sem]
  have q1 : ((w.alloc (.cells #[.func (.func f1) #[] c1] 65)).alloc (.cells #[.func (.func f2) #[] c2] 68)).cell? ⟨w.heap.size + 1, 0, none⟩ = some (.func (.func f2) #[] c2) := by simp [go_sem]
  have HB := hide hb
  have HZ := hide hz
  have Q0 := hide q0
  have Q1 := hide q1
  have HF := hide hf
  clear hb hz q0 q1 hf
  go_enter Tryd.func49, Tryd.ntmps49
  go_wp2_with fail
  go_ret
  refine ⟨_, rfl, ⟨_, _, rfl, run_enter Tryd.func83 (by kernel_rfl) (by kernel_rfl), fun w1 hw1 i hi => ?_⟩, HB.out⟩
  exact further1_calls f g _ _ _ w1 hw1 (HT.out.below HB.out) (HS.out.below HB.out) (HG.out.below HB.out) i hi (HF.out i hi) _ _ (by rw [HZ.out]; omega) (by rw [HZ.out]; omega) Q0.out Q1.out
end Go.Proofs.YtmjpdccfdaajmaaDoor.P4
namespace Go.Proofs.YtmjpdccfdaajmaaDoor.P4
set_option maxRecDepth 8000
open Go.RowKit P1 P3 Sr

/-- What is told, as a list. -/
def lst (f : Nat → List UInt8) : List (List UInt8) := (List.range 11).map f

theorem lst_length (f : Nat → List UInt8) : (lst f).length = 11 := by simp [lst]

theorem lst_get (f : Nat → List UInt8) (k : Nat) (h : k < (lst f).length) : (lst f)[k] = f k := by simp [lst]

set_option maxHeartbeats 400000 in
theorem list_calls (f : Nat → List UInt8) (told : Value) (w : World) (ht : FnAt w told (fun i => .string ⟨(f i).toArray⟩)) :
    Calls Tryd.prog 51 #[told] w fun e w' => ∃ v, e = .returned v ∧ w'.ownsRow w.heap.size 9 1 v 11 (cellsS (lst f)) ∧ Below w.heap.size w w' := by
  obtain ⟨f1, c1, rfl, r1, k1⟩ := ht
  simp only at k1
  have K1 := hide k1
  clear k1
  have hll := lst_length f
  have HGET := hide (fun k h => lst_get f k h)
  obtain ⟨l, El⟩ : ∃ l, Hid (l = lst f) := ⟨_, rfl⟩
  simp only [← El.out] at hll HGET ⊢
  obtain ⟨i0, hi, hz0, hz1, hz2⟩ := info_parts info_str
  go_enter Tryd.func51, Tryd.ntmps51
  go_wp2_with (at_make; refine wpList_make_full _ rfl (.const (.int .i64 11)) (.const (.int .i64 11)) 27 rfl w.heap.size 9 i0 (.string ⟨#[]⟩) 1 Tryd.underlying27 hi hz0 hz1 .i64 .i64 _ _ 11 rfl rfl (by omega) (by omega) (by rw [hz2]; omega) (by unfold maxLen; omega) (Nat.le_refl _) ?_)
  intro w2 hown2 hgr2
  rw [cellsS_zeros] at hown2
  have hb2 : Below w.heap.size w w2 := (Below.refl _ _).grown hgr2 (Nat.le_refl _) (by intro k hk; cases hk)
  have HO2 := hide hown2
  have HB2 := hide hb2
  clear hown2 hgr2 hb2
  obtain ⟨g, hg⟩ : ∃ g, g = w.heap.size := ⟨_, rfl⟩
  go_wp2_with fail
  rw [← hg]
  have hgw : w.heap.size ≤ g := by omega
  have HG := hide hg
  clear hg
  go_loopw [8] (fun i wr => ∃ k : Nat, k ≤ 11 ∧ i = .int .i64 k ∧ wr.ownsRow w.heap.size 9 1 (.slice (some ⟨g, 0, none⟩) 11 11) 11 (cellsS (halfS l k)) ∧ Below w.heap.size w wr) (fun i _ => 11 - (intOf i).toNat)
  case atStart => exact ⟨0, Nat.zero_le _, rfl, by rw [HG.out]; simpa [halfS, hll] using HO2.out, HB2.out⟩
  case round =>
    clear HO2 HB2
    obtain ⟨k, hk, rfl, hown, hbel⟩ := hrel
    have HO := hide hown
    have HB := hide hbel
    clear hown hbel
    by_cases hlt : k < 11
    · have KC := hide (K1.out wr HB.out k hlt)
      have HS := hide (halfS_set l k (by omega))
      rw [HGET.out k (by omega)] at HS
      generalize f k = z at *
      have hd : decide ((k : Int) < 11) = true := by simp; omega
      go_wp2_with fail
      refine KC.out.mono ?_
      rintro e w3 ⟨rfl, hb3⟩
      have HO3 := hide (own_below HO.out hb3)
      have HB3 := hide (HB.out.trans (hb3.mono HB.out.size))
      clear hb3 HO HB KC
      have hc2 : ∃ x, w3.cell? ⟨g, k, none⟩ = some x := by rw [HO3.out.cellAt k (by omega)]; exact ⟨_, List.getElem?_eq_getElem (by rw [cellsS_length, halfS_length l k (by omega)]; omega)⟩
      obtain ⟨x0, hc2⟩ := hc2
      have hf2 := HO3.out.frozenAt k
      go_wp2_with fail
      go_roundw
      case rel =>
        refine ⟨k + 1, by omega, by go_num, ?_, HB3.out.setCell hgw _⟩
        have h1 := (HO3.out.stored k (.string ⟨z.toArray⟩)).1
        rw [cellsS_put, HS.out] at h1
        exact h1
      case measure => simp [intOf]; omega
    · have hd : decide ((k : Int) < 11) = false := by simp; omega
      have HE := hide (halfS_all l k (by omega))
      rw [HE.out] at HO
      go_wp2_with fail
      go_ret
      exact ⟨_, rfl, HO.out, HB.out⟩
end Go.Proofs.YtmjpdccfdaajmaaDoor.P4
namespace Go.Proofs.YtmjpdccfdaajmaaDoor.P4
set_option maxRecDepth 8000
open Go.RowKit P1 P3 Sr

theorem join_flat (xs : List (List UInt8)) : Lib.join xs [] = xs.flatten := by
  cases xs with
  | nil => rfl
  | cons x r =>
    rw [Lib.join_cons, List.flatten_cons]
    congr 1
    simp [Lib.joinTail]

theorem flatten_le (l : List (List UInt8)) (h : ∀ x ∈ l, x.length ≤ 1000) : l.flatten.length ≤ 1000 * l.length := by
  induction l with
  | nil => simp
  | cons x r ih =>
    have h1 := h x (by simp)
    have h2 := ih (fun y hy => h y (by simp [hy]))
    rw [List.flatten_cons, List.length_append, List.length_cons]
    omega

theorem joined_calls (l : List (List UInt8)) (hl : l.length = 11) (hx : ∀ x ∈ l, x.length ≤ 1000) (B : Nat) (v : Value) (w : World) (hv : w.ownsRow B 9 1 v 11 (cellsS l)) :
    Calls Tryd.prog 87 #[v, .string ⟨#[]⟩] w fun e w' => e = .returned (.string ⟨l.flatten.toArray⟩) ∧ Below w.heap.size w w' := by
  obtain ⟨g, c, rfl, h1, h2, h3, h4, -⟩ := own_at hv (by omega)
  have hd : (l.map fun b => (⟨b.toArray⟩ : ByteArray)).map (·.data.toList) = l := by
    rw [List.map_map]
    exact List.map_id'' (fun x => rfl) l
  have hlen := flatten_le l hx
  have h := Tryd.strings_Join g 0 c (l.map fun b => ⟨b.toArray⟩) ⟨#[]⟩ w (fun j x hj => ?_) h2 (by simp [hl]) (by simp [hl]; omega) (by rw [hd]; show (Lib.join l []).length ≤ _; rw [join_flat]; omega)
  · rw [hd] at h
    simp only [List.length_map, hl] at h
    rw [join_flat] at h
    exact h
  · have hj2 : j < 11 := by
      have := (List.getElem?_eq_some_iff.1 hj).1
      simpa [hl] using this
    rw [Nat.zero_add, h4 j (by omega)]
    simp only [cellsS, List.getElem?_map] at hj ⊢
    cases hlj : l[j]? with
    | none => rw [hlj] at hj; cases hj
    | some y => rw [hlj] at hj; simp at hj; simp [hj]

set_option maxHeartbeats 400000 in
theorem leafKeyOf_calls (f : Nat → List UInt8) (told : Value) (w : World) (ht : FnAt w told (fun i => .string ⟨(f i).toArray⟩)) (hG : Glo w) (hf : ∀ i, i < 11 → (f i).length ≤ 1000) :
    Calls Tryd.prog 61 #[told] w fun e w' => e = .returned (.string ⟨(cut8 (108 :: (lst f).flatten)).toArray⟩) ∧ Below w.heap.size w w' := by
  have H1 := hide (list_calls f told w ht)
  obtain ⟨f1, c1, rfl, -⟩ := ht
  have hll := lst_length f
  have hx : ∀ x ∈ lst f, x.length ≤ 1000 := by
    intro x hx
    simp only [lst, List.mem_map, List.mem_range] at hx
    obtain ⟨i, hi, rfl⟩ := hx
    exact hf i hi
  have hfl := flatten_le (lst f) hx
  generalize lst f = l at *
  have H2 := hide (fun B v wx hv => joined_calls l hll hx B v wx hv)
  have H3 := hide (fun wx hg => icut_calls (108 :: l.flatten) (by simp only [List.length_cons]; omega) wx hg)
  have e1 : (⟨#[108]⟩ : ByteArray) ++ ⟨l.flatten.toArray⟩ = ⟨(108 :: l.flatten).toArray⟩ := ByteArray.mk_append_mk [108] _
  have s1 : (108 :: l.flatten).length = l.flatten.length + 1 := rfl
  generalize cut8 (108 :: l.flatten) = c at *
  generalize 108 :: l.flatten = t1 at *
  generalize l.flatten = t0 at *
  have HG := hide hG
  clear hG hf hx
  go_enter Tryd.func61, Tryd.ntmps61
  go_wp2_with fail
  refine H1.out.mono ?_
  rintro e w1 ⟨v, rfl, hov, hb1⟩
  have HJ := hide (H2.out _ _ _ hov)
  obtain ⟨g, cp, hv, -⟩ := own_at hov (by omega)
  subst hv
  have HB1 := hide hb1
  clear hov hb1
  go_wp2_with fail
  refine HJ.out.mono ?_
  rintro e w2 ⟨rfl, hb2⟩
  have HB2 := hide (HB1.out.trans (hb2.mono HB1.out.size))
  clear hb2
  go_wp2_with fail
  refine (H3.out _ (HG.out.below HB2.out)).mono ?_
  rintro e w3 ⟨rfl, hb3⟩
  go_wp2_with fail
  go_ret
  exact ⟨rfl, HB2.out.trans (hb3.mono HB2.out.size)⟩

theorem whole_calls (i : Int) (w : World) : Calls Tryd.prog 65 #[.int .i64 i] w fun e w' => e = .returned (.int .i64 3) ∧ Below w.heap.size w w' := by
  go_enter Tryd.func65, Tryd.ntmps65
  go_wp2
  go_ret
  exact ⟨rfl, Below.refl _ _⟩

theorem leafText_flat (seed leaf : Int) (k : Nat) : leafText seed leaf k = 108 :: ((List.range k).map fun (i : Nat) => chain 3 (secret seed leaf i)).flatten := by
  induction k with
  | zero => rfl
  | succ k ih => rw [leafText, ih, List.range_succ]; simp

theorem chainV_nat (t : List UInt8) (n : Nat) (h : n ≤ 3) : chainV t (n : Int) = chain n t := by
  unfold chainV
  congr 1
  omega

set_option maxHeartbeats 400000 in
theorem implLeafKey_calls (seed leaf : Int) (w : World) (hG : Glo w) :
    Calls Tryd.prog 22 #[.int .i64 seed, .int .i64 leaf] w fun e w' => e = .returned (.string ⟨(leafKey seed leaf).toArray⟩) ∧ Below w.heap.size w w' := by
  have hc3 : (fun i : Nat => chainV (secret seed leaf i) 3) = fun i : Nat => chain 3 (secret seed leaf i) := by
    funext i
    exact chainV_nat _ 3 (by omega)
  have HL : Hid (leafKey seed leaf = cut8 (108 :: (lst (fun i : Nat => chainV (secret seed leaf i) 3)).flatten)) := by
    show leafKey seed leaf = _
    rw [hc3, leafKey, leafText_flat]
    rfl
  have H1 := hide (secrets_calls seed leaf w hG)
  have H2 := hide (fun told wx (ht : FnAt wx told (fun i => .string ⟨(secret seed leaf i).toArray⟩)) (hs : FnAt wx (.func (.func 65) #[] #[]) (fun _ => .int .i64 3)) (hg : Glo wx) => further_calls (fun i => secret seed leaf i) (fun _ => 3) told _ wx ht hs hg (fun i _ => Nat.le_trans (secret_length seed leaf i) (by omega)))
  have H3 := hide (fun told wx (ht : FnAt wx told (fun i : Nat => .string ⟨(chainV (secret seed leaf i) 3).toArray⟩)) (hg : Glo wx) => leafKeyOf_calls (fun i : Nat => chainV (secret seed leaf i) 3) told wx ht hg (fun i _ => by rw [show chainV (secret seed leaf i) 3 = chain 3 (secret seed leaf i) from chainV_nat _ 3 (by omega), chain_length _ _ (by omega)]; omega))
  rw [← HL.out] at H3
  generalize leafKey seed leaf = c at *
  have HS := hide (fun (wx : World) => (⟨65, #[], rfl, run_enter Tryd.func65 (by kernel_rfl) (by kernel_rfl), fun w1 _ i _ => whole_calls i w1⟩ : FnAt wx (.func (.func 65) #[] #[]) (fun _ => .int .i64 3)))
  have HG := hide hG
  clear hG HL hc3
  go_enter Tryd.func22, Tryd.ntmps22
  go_wp2_with fail
  refine H1.out.mono ?_
  rintro e w1 ⟨v, rfl, hv, hb1⟩
  have HV := hide hv
  have HB1 := hide hb1
  obtain ⟨f1, c1, e1, -⟩ := hv
  subst e1
  clear hb1
  go_wp2_with fail
  refine (H2.out _ _ HV.out (HS.out _) (HG.out.below HB1.out)).mono ?_
  rintro e w2 ⟨v2, rfl, hv2, hb2⟩
  have HV2 := hide hv2
  have HB2 := hide (HB1.out.trans (hb2.mono HB1.out.size))
  obtain ⟨f2, c2, e2, -⟩ := hv2
  subst e2
  clear hb2
  go_wp2_with fail
  refine (H3.out _ _ HV2.out (HG.out.below HB2.out)).mono ?_
  rintro e w3 ⟨rfl, hb3⟩
  go_wp2_with fail
  go_ret
  exact ⟨rfl, HB2.out.trans (hb3.mono HB2.out.size)⟩
end Go.Proofs.YtmjpdccfdaajmaaDoor.P4
namespace Go.Proofs.YtmjpdccfdaajmaaDoor.P4
set_option maxRecDepth 8000
open Go.RowKit P1 P3 Sr

theorem levLen_next (s : Nat) (hs : s < 2) : (levLen s = 4 ∧ levLen (s + 1) = 2) ∨ (levLen s = 2 ∧ levLen (s + 1) = 1) := by
  have : s = 0 ∨ s = 1 := by omega
  rcases this with rfl | rfl
  · exact .inl ⟨rfl, rfl⟩
  · exact .inr ⟨rfl, rfl⟩

theorem lev_up (seed : Int) (s j : Nat) (hs : s < 2) (hj : j < (lev seed (s + 1)).length) (hj' : 2 * j + 1 < levLen s) :
    (lev seed (s + 1))[j] = node ((lev seed s).getD (2 * j) []) ((lev seed s).getD (2 * j + 1) []) := by
  have hs' : s = 0 ∨ s = 1 := by omega
  rcases hs' with rfl | rfl
  · have hj2 : j = 0 ∨ j = 1 := by simp [levLen] at hj'; omega
    rcases hj2 with rfl | rfl <;> rfl
  · have hj2 : j = 0 := by simp [levLen] at hj'; omega
    subst hj2
    rfl

theorem lev0_get (seed : Int) (k : Nat) (hk : k < (lev0 seed).length) : (lev0 seed)[k] = leafKey seed k := by
  have hk4 : k < 4 := hk
  have hk' : k = 0 ∨ k = 1 ∨ k = 2 ∨ k = 3 := by omega
  rcases hk' with rfl | rfl | rfl | rfl <;> rfl

set_option maxHeartbeats 2000000 in
theorem tree_calls (seed : Int) (w : World) (hG : Glo w) :
    Calls Tryd.prog 63 #[.int .i64 seed] w fun e w' => ∃ v, e = .returned v ∧ RowsAt w' v seed ∧ Below w.heap.size w w' := by
  obtain ⟨i0, hi, hz0, hz1, hz2⟩ := info_parts info_str
  obtain ⟨i1, hi1, hy0, hy1, hy2⟩ := info_parts info_strs
  have HG := hide hG
  clear hG
  go_enter Tryd.func63, Tryd.ntmps63
  go_wp2_with (at_make; refine wpList_make_full _ rfl (.const (.int .i64 4)) (.const (.int .i64 4)) 27 rfl w.heap.size 9 i0 (.string ⟨#[]⟩) 1 Tryd.underlying27 hi hz0 hz1 .i64 .i64 _ _ 4 rfl rfl (by omega) (by omega) (by rw [hz2]; omega) (by unfold maxLen; omega) (Nat.le_refl _) ?_)
  intro w2 hown2 hgr2
  rw [cellsS_zeros] at hown2
  have hb2 : Below w.heap.size w w2 := (Below.refl _ _).grown hgr2 (Nat.le_refl _) (by intro k hk; cases hk)
  have HO2 := hide hown2
  have HB2 := hide hb2
  clear hown2 hgr2 hb2
  obtain ⟨g, hg⟩ : ∃ g, g = w.heap.size := ⟨_, rfl⟩
  go_wp2_with fail
  rw [← hg]
  have hgw : w.heap.size ≤ g := by omega
  have HGE := hide hg
  clear hg
  have hl4 : (lev0 seed).length = 4 := rfl
  go_loopw [11] (fun i wr => ∃ k : Nat, k ≤ 4 ∧ i = .int .i64 k ∧ wr.ownsRow w.heap.size 9 1 (.slice (some ⟨g, 0, none⟩) 4 4) 4 (cellsS (halfS (lev0 seed) k)) ∧ Below w.heap.size w wr) (fun i _ => 4 - (intOf i).toNat)
  case atStart => exact ⟨0, Nat.zero_le _, rfl, by rw [HGE.out]; simpa [halfS, hl4] using HO2.out, HB2.out⟩
  case round =>
    clear HO2 HB2
    obtain ⟨k, hk, rfl, hown, hbel⟩ := hrel
    have HO := hide hown
    have HB := hide hbel
    clear hown hbel
    by_cases hlt : k < 4
    · have HK := hide (implLeafKey_calls seed k wr (HG.out.below HB.out))
      have HS := hide (halfS_set (lev0 seed) k (by omega))
      rw [lev0_get seed k (by omega)] at HS
      generalize leafKey seed k = z at *
      have hd : decide ((k : Int) < 4) = true := by simp; omega
      go_wp2_with fail
      refine HK.out.mono ?_
      rintro e w3 ⟨rfl, hb3⟩
      have HO3 := hide (own_below HO.out hb3)
      have HB3 := hide (HB.out.trans (hb3.mono HB.out.size))
      clear hb3 HO HB HK
      have hc2 : ∃ x, w3.cell? ⟨g, k, none⟩ = some x := by rw [HO3.out.cellAt k (by omega)]; exact ⟨_, List.getElem?_eq_getElem (by rw [cellsS_length, halfS_length (lev0 seed) k (by omega)]; omega)⟩
      obtain ⟨x0, hc2⟩ := hc2
      have hf2 := HO3.out.frozenAt k
      go_wp2_with fail
      go_roundw
      case rel =>
        refine ⟨k + 1, by omega, by go_num, ?_, HB3.out.setCell hgw _⟩
        have h1 := (HO3.out.stored k (.string ⟨z.toArray⟩)).1
        rw [cellsS_put, HS.out] at h1
        exact h1
      case measure => simp [intOf]; omega
    · have hd4 : decide ((k : Int) < 4) = false := by simp; omega
      have HE := hide (halfS_all (lev0 seed) k (by omega))
      rw [HE.out] at HO
      obtain ⟨g1, hg1, htx, hob⟩ := TextsG.of_own (l := lev0 seed) HO.out (by show 0 < 4; omega)
      have HBw := hide HB.out
      have HTX := hide htx
      obtain ⟨cap1, hu3, -, -⟩ := htx
      have hlw : g1 < wr.heap.size := by obtain ⟨_, _, h, _⟩ := HTX.out; exact h
      simp only [Value.slice.injEq, Option.some.injEq, Addr.mk.injEq, and_true] at hu3
      obtain ⟨hu3, -, rfl⟩ := hu3
      subst hu3
      clear HO HB hob HE
      go_wp2_with fail
      have hown0 : (wr.alloc (.cells #[.slice (some ⟨g, 0, none⟩) 4 4] 27)).ownsRow wr.heap.size 27 1 (.slice (some ⟨wr.heap.size, 0, none⟩) 1 1) 1 [.slice (some ⟨g, 0, none⟩) 4 4] := World.ownsRow_lit _ _ 1 (Nat.le_refl _) (by decide) rfl
      have hbA : Below wr.heap.size wr (wr.alloc (.cells #[.slice (some ⟨g, 0, none⟩) 4 4] 27)) := (Below.refl _ _).alloc (Nat.le_refl _) _
      have hrm : RM (wr.alloc (.cells #[.slice (some ⟨g, 0, none⟩) 4 4] 27)) seed 0 wr.heap.size (.slice (some ⟨wr.heap.size, 0, none⟩) 1 1) [.slice (some ⟨g, 0, none⟩) 4 4] [g] := by
        refine ⟨by omega, rfl, rfl, fun i h1 h2 => ?_, hown0⟩
        obtain rfl : i = 0 := by simp at h1; omega
        exact HTX.out.below hbA
      have HRM := hide hrm
      have HBA := hide hbA
      clear hown0 hbA hrm HTX
      obtain ⟨BW, hBW⟩ : ∃ BW, BW = wr.heap.size := ⟨_, rfl⟩
      rw [← hBW] at HRM HBA hlw ⊢
      generalize wr.alloc (.cells #[.slice (some ⟨g, 0, none⟩) 4 4] 27) = w1 at HRM HBA ⊢
      clear hd4 hlt hk
      have HB1 := hide (HBw.out.trans (HBA.out.mono (by have := HBw.out.size; omega)))
      have hBWw : w.heap.size ≤ BW := by have := HBw.out.size; omega
      clear HBA HBw hBW
      go_loopw [3, 5, 23] (fun row out c wx => ∃ (s : Nat) (vs : List Value) (gs : List Nat), c = .int .i64 s ∧ row = vs.getD s undef ∧ RM wx seed s BW out vs gs ∧ Below w.heap.size w wx) (fun _ _ c _ => 2 - (intOf c).toNat)
      case atStart => exact ⟨0, _, _, rfl, rfl, HRM.out, HB1.out⟩
      case round =>
        clear HRM HB1
        obtain ⟨s, vs, gs, rfl, hrow, hm, hb⟩ := hrel
        have hs2 := hm.le
        have hvl := hm.lv
        have hgl := hm.lg
        have hvs : vs.getD s undef = vs[s] := by simp [List.getD_eq_getElem?_getD, show s < vs.length by omega]
        have htx := hm.txt s (by omega) (by omega)
        obtain ⟨cap, hv, hglt, hcells⟩ := htx
        rw [lev_length seed s hs2] at hv
        rw [hvs, hv] at hrow
        subst hrow
        have HM := hide hm
        have HB := hide hb
        have HCL := hide hcells
        have HVL := hide hvl
        have HGL := hide hgl
        generalize gs[s] = gr at *
        clear hm hb hvs hcells hvl hgl hv
        by_cases hlt2 : s < 2
        · have hn := levLen_next s hlt2
          have hd2 : decide ((s : Int) < 2) = true := by simp; omega
          obtain ⟨hg1', hg2'⟩ := HM.out.lt
          have HGS := hide hg1'
          have HOB := hide hg2'
          clear hg1' hg2'
          have hwB : w.heap.size ≤ wr.heap.size := HB.out.size
          go_wp2_with (at_make; refine wpList_make_full _ rfl (.tmp 27) (.tmp 27) 27 rfl wr.heap.size 9 i0 (.string ⟨#[]⟩) 1 Tryd.underlying27 hi hz0 hz1 .i64 .i64 _ _ (levLen (s + 1)) rfl rfl (by omega) (by omega) (by rw [hz2]; omega) (by unfold maxLen; omega) (Nat.le_refl _) ?_)
          intro w3 hown3 hgr3
          rw [cellsS_zeros] at hown3
          have hbA : Below wr.heap.size wr w3 := (Below.refl _ _).grown hgr3 (Nat.le_refl _) (by intro k hk; cases hk)
          have HM3 := hide (HM.out.below hbA)
          have HB3 := hide (HB.out.trans (hbA.mono HB.out.size))
          have hz3 : wr.heap.size ≤ w3.heap.size := hbA.size
          have hcl3 : ∀ j (hj : j < (lev seed s).length), w3.cell? ⟨gr, j, none⟩ = some (.string ⟨((lev seed s)[j]).toArray⟩) := fun j hj => by rw [hbA.cell (p := ⟨gr, j, none⟩) hglt]; exact HCL.out j hj
          have HCL3 := hide hcl3
          obtain ⟨B1, hB1⟩ : ∃ B1, B1 = wr.heap.size := ⟨_, rfl⟩
          rw [← hB1] at hown3 hglt hz3 hwB HGS HOB
          have HO3 := hide hown3
          clear hown3 hbA hcl3 HM HB HCL hgr3
          go_wp2_with fail
          rw [← hB1]
          clear hB1
          have hle1 := lev_length seed (s + 1) (by omega)
          have HLE1 := hide hle1
          clear hle1
          go_loopw [31] (fun i wz => ∃ j : Nat, j ≤ levLen (s + 1) ∧ i = .int .i64 (j : Int) ∧ wz.ownsRow B1 9 1 (.slice (some ⟨B1, 0, none⟩) (levLen (s + 1)) (levLen (s + 1))) (levLen (s + 1)) (cellsS (halfS (lev seed (s + 1)) j)) ∧ RM wz seed s BW u5 vs gs ∧ Below w.heap.size w wz ∧ B1 ≤ wz.heap.size ∧ ∀ j (hj : j < (lev seed s).length), wz.cell? ⟨gr, j, none⟩ = some (.string ⟨((lev seed s)[j]).toArray⟩)) (fun i _ => levLen (s + 1) - (intOf i).toNat)
          case atStart => exact ⟨0, by omega, rfl, by simpa [halfS, HLE1.out] using HO3.out, HM3.out, HB3.out, hz3, HCL3.out⟩
          case round =>
            clear HM3 HB3 HCL3 hz3 HO3
            obtain ⟨j, hj, rfl, hown, hm, hb, hz, hcl⟩ := hrel
            have HO := hide hown
            have HM := hide hm
            have HB := hide hb
            have HCL := hide hcl
            clear hown hm hb hcl
            by_cases hlt3 : j < levLen (s + 1)
            · have hd : decide ((j : Int) < ((levLen (s + 1) : Nat) : Int)) = true := by simp; omega
              have hle := lev_length seed s hs2
              have HS := hide (halfS_set (lev seed (s + 1)) j (by rw [HLE1.out]; omega))
              rw [lev_up seed s j hlt2 (by rw [HLE1.out]; omega) (by omega)] at HS
              have k0 : (lev seed s).getD (2 * j) [] = (lev seed s)[2 * j] := by simp [List.getD_eq_getElem?_getD, show 2 * j < (lev seed s).length by omega]
              have k1 : (lev seed s).getD (2 * j + 1) [] = (lev seed s)[2 * j + 1] := by simp [List.getD_eq_getElem?_getD, show 2 * j + 1 < (lev seed s).length by omega]
              have c0 := HCL.out (2 * j) (by omega)
              have c1 := HCL.out (2 * j + 1) (by omega)
              have l0 := lev_eight seed s hs2 _ (List.getElem_mem (show 2 * j < (lev seed s).length by omega))
              have l1 := lev_eight seed s hs2 _ (List.getElem_mem (show 2 * j + 1 < (lev seed s).length by omega))
              rw [k0, k1] at HS
              generalize (lev seed s)[2 * j] = x0 at *
              generalize (lev seed s)[2 * j + 1] = x1 at *
              have grl : gr < wr.heap.size := by omega
              have n0 : ∀ p : Near wr.heap.size wr, p.w.cell? ⟨gr, 2 * j, none⟩ = some (.string ⟨x0.toArray⟩) := fun p => (p.h.cell (p := ⟨gr, 2 * j, none⟩) grl).trans c0
              have n1 : ∀ p : Near wr.heap.size wr, p.w.cell? ⟨gr, 2 * j + 1, none⟩ = some (.string ⟨x1.toArray⟩) := fun p => (p.h.cell (p := ⟨gr, 2 * j + 1, none⟩) grl).trans c1
              have HN := hide (fun (p : Near wr.heap.size wr) => node_calls x0 x1 (by omega) (by omega) p.w (HG.out.below (HB.out.trans (p.h.mono HB.out.size))))
              generalize node x0 x1 = nd at *
              have hnn := Near.some wr.heap.size wr
              clear k0 k1 c0 c1
              go_wp2_with fail
              refine wp_region_cut_seq 15 6 (fun w' => ∃ p : Near wr.heap.size wr, w' = p.w) ⟨⟨_, (Below.refl _ _).drew⟩, rfl⟩ (by kernel_rfl) (by kernel_rfl) (by kernel_rfl) (by kernel_rfl) ?_
              simp only [List.take_succ_cons, List.take_zero, List.drop_succ_cons, List.drop_zero]
              repeat (go_big_quiet_step (fail))
              go_big_quiet_step (exact calls_near (Nat.le_refl _) (HN.out _))
              repeat (go_big_quiet_step (fail))
              refine wpQuiet_nil ?_
              rintro w5 ⟨pq, rfl⟩
              have hqb := pq.h
              obtain ⟨w5, hq⟩ := pq
              simp only at hqb ⊢
              have HBT := hide hqb
              have hz5 : B1 ≤ w5.heap.size := Nat.le_trans hz hqb.size
              have HO5 := hide (own_below HO.out hqb)
              clear hq hqb n0 n1 hnn HN
              have hc2 : ∃ x, w5.cell? ⟨B1, j, none⟩ = some x := by rw [HO5.out.cellAt j (by omega)]; exact ⟨_, List.getElem?_eq_getElem (by rw [cellsS_length, halfS_length (lev seed (s + 1)) j (by rw [HLE1.out]; omega), HLE1.out]; omega)⟩
              obtain ⟨y0, hc2⟩ := hc2
              have hf2 := HO5.out.frozenAt j
              go_wp2_with fail
              have hb6 : Below B1 w5 (w5.setCell ⟨B1, j, none⟩ (.string ⟨nd.toArray⟩)) := (Below.refl B1 w5).setCell (p := ⟨B1, j, none⟩) (Nat.le_refl _) _
              have hst := (HO5.out.stored j (.string ⟨nd.toArray⟩)).1
              rw [cellsS_put, HS.out] at hst
              have HO6 := hide hst
              have HM6 := hide ((HM.out.below HBT.out).belowB hb6 HGS.out HOB.out)
              have hbw := HB.out.trans (HBT.out.mono HB.out.size)
              have HB6 := hide (hbw.trans (hb6.mono hwB))
              have hz6 : B1 ≤ (w5.setCell ⟨B1, j, none⟩ (.string ⟨nd.toArray⟩)).heap.size := Nat.le_trans hz5 hb6.size
              have hcl6 : ∀ j' (hj : j' < (lev seed s).length), (w5.setCell ⟨B1, j, none⟩ (.string ⟨nd.toArray⟩)).cell? ⟨gr, j', none⟩ = some (.string ⟨((lev seed s)[j']).toArray⟩) := fun j' hj => by rw [hb6.cell (p := ⟨gr, j', none⟩) hglt, HBT.out.cell (p := ⟨gr, j', none⟩) grl]; exact HCL.out j' hj
              have HCL6 := hide hcl6
              clear hst hb6 hbw hcl6 HBT HO5 HM HB HCL HO hc2 hf2
              generalize w5.setCell ⟨B1, j, none⟩ (.string ⟨nd.toArray⟩) = w6 at *
              go_roundw
              case rel => exact ⟨j + 1, by omega, by go_num, HO6.out, HM6.out, HB6.out, hz6, HCL6.out⟩
              case measure => simp [intOf]; omega
            · have hd : decide ((j : Int) < ((levLen (s + 1) : Nat) : Int)) = false := by simp; omega
              have hpos := lev_pos seed (s + 1) (by omega)
              have HE := hide (halfS_all (lev seed (s + 1)) j (by rw [HLE1.out]; omega))
              rw [HE.out] at HO
              obtain ⟨gn, hgn, htn, hobn⟩ := TextsG.of_own (l := lev seed (s + 1)) (by rw [HLE1.out]; exact HO.out) hpos
              have HTN := hide htn
              obtain ⟨cn, hnx, hgnl, -⟩ := htn
              simp only [Value.slice.injEq, Option.some.injEq, Addr.mk.injEq, and_true] at hnx
              obtain ⟨rfl, -, -⟩ := hnx
              clear HO HE hobn
              have hbA : Below wr.heap.size wr (wr.alloc (.cells #[.slice (some ⟨B1, 0, none⟩) (levLen (s + 1)) (levLen (s + 1))] 27)) := (Below.refl _ _).alloc (Nat.le_refl _) _
              have HMA := hide (HM.out.below hbA)
              have HTA := hide (HTN.out.below hbA)
              have HBA := hide (HB.out.trans (hbA.mono HB.out.size))
              have hBWr : BW ≤ wr.heap.size := by
                rcases HM.out.own.2 with ⟨_, h0⟩ | ⟨g, _, _, _, h1, h2, -⟩
                · omega
                · exact Nat.le_trans h1 (Nat.le_of_lt (Array.getElem?_eq_some_iff.1 h2).1)
              have hnw : ∀ j u, [Value.slice (some ⟨B1, 0, none⟩) (levLen (s + 1)) (levLen (s + 1))][j]? = some u → (wr.alloc (.cells #[.slice (some ⟨B1, 0, none⟩) (levLen (s + 1)) (levLen (s + 1))] 27)).cell? ((⟨wr.heap.size, 0, none⟩ : Addr).add j) = some u := by
                intro j u hju
                match j, hju with
                | 0, hju => simp at hju; subst hju; simp [Addr.add]
              have HNW := hide hnw
              have HOA := hide HMA.out.own
              clear hbA hnw HM HB HTN
              go_wp2_with (at_builtin; refine wpList_append_own _ rfl (.tmp 51) (.tmp 53) 79 rfl BW 27 i1 (.slice none 0 0) 1 24 Tryd.underlying79 hi1 hy0 hy1 hy2 rfl (by decide) _ (s + 1) vs rfl HOA.out ⟨wr.heap.size, 0, none⟩ 1 1 [.slice (some ⟨B1, 0, none⟩) (levLen (s + 1)) (levLen (s + 1))] rfl rfl HNW.out (by simp [Value.oneCell']) (by unfold maxLen; omega) (by omega) (by simp; omega) ?_)
              intro v' w6 hown6 hgr6 _
              have hrm : RM w6 seed (s + 1) BW v' (vs ++ [.slice (some ⟨B1, 0, none⟩) (levLen (s + 1)) (levLen (s + 1))]) (gs ++ [B1]) := by
                refine ⟨by omega, by rw [List.length_append, HVL.out]; rfl, by rw [List.length_append, HGL.out]; rfl, fun i h1 h2 => ?_, hown6⟩
                have hvl := HVL.out
                have hgl := HGL.out
                by_cases hi : i < s + 1
                · rw [List.getElem_append_left (by omega), List.getElem_append_left (by omega)]
                  exact (HMA.out.txt i (by omega) (by omega)).grown hgr6 (HMA.out.apart i (by omega))
                · have hi2 : i = s + 1 := by rw [List.length_append, HVL.out] at h1; simp at h1; omega
                  subst hi2
                  rw [List.getElem_append_right (by omega), List.getElem_append_right (by omega)]
                  simp only [hvl, hgl, Nat.sub_self, List.getElem_cons_zero]
                  refine HTA.out.grown hgr6 (fun e => ?_)
                  have := HOB.out B1 e
                  omega
              have HRM := hide hrm
              have HB6 := hide (HBA.out.grown hgr6 HBA.out.size (fun k hk => Nat.le_trans hBWw (HOA.out.lt k hk).1))
              have hslv : (vs ++ [Value.slice (some ⟨B1, 0, none⟩) (levLen (s + 1)) (levLen (s + 1))]).getD (s + 1) undef = .slice (some ⟨B1, 0, none⟩) (levLen (s + 1)) (levLen (s + 1)) := by
                rw [List.getD_eq_getElem?_getD, List.getElem?_append_right (by rw [HVL.out]; omega), HVL.out, Nat.sub_self]
                rfl
              have HSL := hide hslv
              clear hown6 hgr6 hrm hslv HMA HTA HBA HNW HOA
              go_wp2_with fail
              go_roundw
              case rel => exact ⟨s + 1, _, _, by go_num, HSL.out.symm, HRM.out, HB6.out⟩
              case measure => simp [intOf]; omega
        · have hs : s = 2 := by omega
          subst hs
          have hvl := HVL.out
          have hgl := HGL.out
          obtain ⟨go, co, hgo, hgo1, hgo2, hco, hcs, -⟩ := own_at HM.out.own (by omega)
          subst hgo
          have hra : RowsAt wr (.slice (some ⟨go, 0, none⟩) 3 co) seed := by
            refine ⟨vs[0], vs[1], vs[2], go, co, rfl, ?_, ?_, ?_, (HM.out.txt 0 (by omega) (by omega)).at_, (HM.out.txt 1 (by omega) (by omega)).at_, (HM.out.txt 2 (by omega) (by omega)).at_⟩
            · rw [hcs 0 (by omega)]; exact List.getElem?_eq_getElem (by omega)
            · rw [hcs 1 (by omega)]; exact List.getElem?_eq_getElem (by omega)
            · rw [hcs 2 (by omega)]; exact List.getElem?_eq_getElem (by omega)
          have HRA := hide hra
          clear hra hcs HM HCL
          go_wp2_with fail
          go_ret
          exact ⟨_, rfl, HRA.out, HB.out⟩

set_option maxHeartbeats 400000 in
theorem implKey_calls (seed : Int) (w : World) (hG : Glo w) :
    Calls Tryd.prog 20 #[.int .i64 seed] w fun e w' => e = .returned (.string ⟨(key seed).toArray⟩) ∧ Below w.heap.size w w' := by
  obtain ⟨ks, Ek⟩ : ∃ ks, Hid (ks = key seed) := ⟨_, rfl⟩
  rw [← Ek.out]
  have HG := hide hG
  clear hG
  go_enter Tryd.func20, Tryd.ntmps20
  go_wp2_with fail
  refine (tree_calls seed _ HG.out).mono ?_
  rintro e w1 ⟨v, rfl, ⟨v0, v1, v2, g, cap, rfl, c0, c1, c2, t0, t1, t2⟩, hb⟩
  obtain ⟨a2, p2, rfl, h2⟩ := t2
  obtain ⟨g2, o2, rfl, hl2, k2⟩ := h2 0 (by show 0 < 1; omega)
  have hk : (lev seed 2)[0]'(by show 0 < 1; omega) = ks := by rw [Ek.out]; rfl
  rw [hk, Nat.add_zero] at k2
  have hl1 : (lev seed 2).length = 1 := rfl
  rw [hl1] at c2
  clear Ek hk hl1 t0 t1 h2 c0 c1
  go_wp2_with fail
  go_ret
  exact ⟨rfl, hb⟩
end Go.Proofs.YtmjpdccfdaajmaaDoor.P4
namespace Go.Proofs.YtmjpdccfdaajmaaDoor.P4
set_option maxRecDepth 8000
open Go.RowKit P1 P3 Sr

theorem leafOk_calls (leaf : Int) (w : World) : Calls Tryd.prog 47 #[.int .i64 leaf] w fun e w' => e = .returned (.bool (decide (0 ≤ leaf ∧ leaf ≤ 3))) ∧ w' = w := by
  by_cases h1 : 0 ≤ leaf
  · by_cases h2 : leaf ≤ 3
    · have h3 : leaf < 4 := by omega
      rw [decide_eq_true ⟨h1, h2⟩]
      go_enter Tryd.func47, Tryd.ntmps47
      go_wp2_with fail
      go_ret
      exact ⟨rfl, rfl⟩
    · have h3 : ¬ leaf < 4 := by omega
      rw [decide_eq_false (fun h => h2 h.2)]
      go_enter Tryd.func47, Tryd.ntmps47
      go_wp2_with fail
      go_ret
      exact ⟨rfl, rfl⟩
  · rw [decide_eq_false (fun h => h1 h.1)]
    go_enter Tryd.func47, Tryd.ntmps47
    go_wp2_with fail
    go_ret
    exact ⟨rfl, rfl⟩

theorem wayN_get (seed : Int) (n k : Nat) (hk : k < (wayN seed n 2).length) : (wayN seed n 2)[k] = (lev seed k).getD ((n / 2 ^ k) ^^^ 1) [] := by simp [wayN]

set_option maxHeartbeats 1000000 in
theorem way_calls (seed : Int) (n : Nat) (hn3 : n ≤ 3) (w : World) (hG : Glo w) :
    Calls Tryd.prog 52 #[.int .i64 seed, .int .i64 (n : Int)] w fun e w' => ∃ v, e = .returned v ∧ w'.ownsRow w.heap.size 9 1 v 2 (cellsS (wayN seed n 2)) ∧ Below w.heap.size w w' := by
  have HG := hide hG
  clear hG
  obtain ⟨i0, hi, hz0, hz1, hz2⟩ := info_parts info_str
  have hll := wayN_length seed n 2
  have HGET := hide (fun k h => wayN_get seed n k h)
  obtain ⟨l, El⟩ : ∃ l, Hid (l = wayN seed n 2) := ⟨_, rfl⟩
  simp only [← El.out] at hll HGET ⊢
  go_enter Tryd.func52, Tryd.ntmps52
  go_wp2_with fail
  refine (tree_calls seed _ HG.out).mono ?_
  rintro e w1 ⟨vr, rfl, ⟨v0, v1, v2, g, cap, rfl, c0, c1, c2, t0, t1, t2⟩, hb1⟩
  have hg1 : g < w1.heap.size := cell_lt' c0
  have HB1 := hide hb1
  have HT0 := hide t0
  have HT1 := hide t1
  have HC0 := hide c0
  have HC1 := hide c1
  have hwB : w.heap.size ≤ w1.heap.size := hb1.size
  clear hb1 t0 t1 t2 c0 c1 c2
  go_wp2_with (at_make; refine wpList_make_full _ rfl (.const (.int .i64 2)) (.const (.int .i64 2)) 27 rfl w1.heap.size 9 i0 (.string ⟨#[]⟩) 1 Tryd.underlying27 hi hz0 hz1 .i64 .i64 _ _ 2 rfl rfl (by omega) (by omega) (by rw [hz2]; omega) (by unfold maxLen; omega) (Nat.le_refl _) ?_)
  intro w2 hown2 hgr2
  rw [cellsS_zeros] at hown2
  have hb2 : Below w1.heap.size w1 w2 := (Below.refl _ _).grown hgr2 (Nat.le_refl _) (by intro k hk; cases hk)
  have HO2 := hide hown2
  have HB2 := hide hb2
  clear hown2 hgr2 hb2
  obtain ⟨gW, hgW⟩ : ∃ gW, gW = w1.heap.size := ⟨_, rfl⟩
  go_wp2_with fail
  rw [← hgW]
  have hgw : w1.heap.size ≤ gW := by omega
  have HGE := hide hgW
  clear hgW
  go_loopw [7, 15] (fun pl i wr => ∃ k : Nat, k ≤ 2 ∧ i = .int .i64 k ∧ pl = .int .i64 ((n / 2 ^ k : Nat) : Int) ∧ wr.ownsRow w1.heap.size 9 1 (.slice (some ⟨gW, 0, none⟩) 2 2) 2 (cellsS (halfS l k)) ∧ Below w1.heap.size w1 wr) (fun _ i _ => 2 - (intOf i).toNat)
  case atStart => exact ⟨0, Nat.zero_le _, rfl, by simp, by rw [HGE.out]; simpa [halfS, hll] using HO2.out, HB2.out⟩
  case round =>
    clear HO2 HB2
    obtain ⟨k, hk, rfl, rfl, hown, hbel⟩ := hrel
    have HO := hide hown
    have HB := hide hbel
    clear hown hbel
    by_cases hlt : k < 2
    · have hd : decide ((k : Int) < 2) = true := by simp; omega
      obtain ⟨vk, hck, hTk⟩ : ∃ vk, wr.cell? ⟨g, k, none⟩ = some vk ∧ TextsAt wr vk (lev seed k) := by
        have hk' : k = 0 ∨ k = 1 := by omega
        rcases hk' with rfl | rfl
        · exact ⟨v0, (HB.out.cell (p := ⟨g, 0, none⟩) hg1).trans HC0.out, HT0.out.below HB.out (Nat.le_refl _)⟩
        · exact ⟨v1, (HB.out.cell (p := ⟨g, 1, none⟩) hg1).trans HC1.out, HT1.out.below HB.out (Nat.le_refl _)⟩
      have hle := lev_length seed k (by omega)
      have hxl := xor_lt n k hn3 hlt
      have hm3 : n / 2 ^ k ≤ 3 := Nat.le_trans (Nat.div_le_self _ _) hn3
      have hxo := xor1 (n / 2 ^ k) hm3
      have HS := hide (halfS_set l k (by omega))
      rw [HGET.out k (by omega)] at HS
      have HDV : Hid (n / 2 ^ (k + 1) = n / 2 ^ k / 2) := by show _ = _; rw [Nat.pow_succ, Nat.div_div_eq_div_mul]
      obtain ⟨idx, hidx⟩ : ∃ idx, idx = (n / 2 ^ k) ^^^ 1 := ⟨_, rfl⟩
      rw [← hidx] at hxl hxo HS
      have hgd : (lev seed k).getD idx [] = (lev seed k)[idx]'(by omega) := by simp [List.getD_eq_getElem?_getD, show idx < (lev seed k).length by omega]
      rw [hgd] at HS
      obtain ⟨ak, pk, hvk, htk⟩ := hTk
      obtain ⟨gk, ok, hak, hgkl, hkc⟩ := htk idx (by omega)
      subst hak hvk
      rw [hle] at hck
      generalize (lev seed k)[idx] = c at *
      generalize n / 2 ^ k = m at *
      have hll4 : levLen k ≤ 4 := by
        have hk' : k = 0 ∨ k = 1 := by omega
        rcases hk' with rfl | rfl <;> decide
      have hc2 : ∃ x, wr.cell? ⟨gW, k, none⟩ = some x := by rw [HO.out.cellAt k (by omega)]; exact ⟨_, List.getElem?_eq_getElem (by rw [cellsS_length, halfS_length l k (by omega)]; omega)⟩
      obtain ⟨x0, hc2⟩ := hc2
      have hf2 := HO.out.frozenAt k
      clear hgd hidx htk hle
      go_wp2_with fail
      go_roundw
      case rel =>
        refine ⟨k + 1, by omega, by go_num, by rw [HDV.out]; go_num, ?_, HB.out.setCell hgw _⟩
        have h1 := (HO.out.stored k (.string ⟨c.toArray⟩)).1
        rw [cellsS_put, HS.out] at h1
        exact h1
      case measure => simp [intOf]; omega
    · have hd : decide ((k : Int) < 2) = false := by simp; omega
      have HE := hide (halfS_all l k (by omega))
      rw [HE.out] at HO
      go_wp2_with fail
      go_ret
      exact ⟨_, rfl, own_mono HO.out hwB, HB1.out.trans (HB.out.mono hwB)⟩

set_option maxHeartbeats 400000 in
theorem sign1_calls (i : Nat) (hi : i < 11) (q : Nat) (bQ gq cq : Nat) (w : World) (h0 : w.cell? ⟨bQ, 0, none⟩ = some (.slice (some ⟨gq, 0, none⟩) 11 cq)) (h1 : w.cell? ⟨gq, i, none⟩ = some (.int .i64 q)) :
    Calls Tryd.prog 50 #[.int .i64 i, .pointer (some ⟨bQ, 0, none⟩)] w fun e w' => e = .returned (.int .i64 q) ∧ Below w.heap.size w w' := by
  go_enter Tryd.func50, Tryd.ntmps50
  go_wp2_with fail
  go_ret
  exact ⟨rfl, Below.refl _ _⟩

theorem endN_lst (seed leaf : Int) (t : List UInt8) : lst (fun i : Nat => chainV (secret seed leaf i) ((quadsN t).getD i 0 : Nat)) = endN seed leaf t 11 := by
  unfold lst endN
  refine List.map_congr_left (fun i hi => ?_)
  have hi' := List.mem_range.1 hi
  refine chainV_nat _ _ ?_
  have h11 := quadsN_length t
  have := quadsN_lt t ((quadsN t).getD i 0) (by rw [List.getD_eq_getElem?_getD, List.getElem?_eq_getElem (by omega)]; exact List.getElem_mem _)
  omega

set_option maxHeartbeats 2000000 in
theorem implSign_calls (seed leaf : Int) (t : List UInt8) (ht : t.length ≤ 1048576) (w : World) (hG : Glo w) :
    Calls Tryd.prog 15 #[.int .i64 seed, .int .i64 leaf, .string ⟨t.toArray⟩] w fun e w' => ∃ v, e = .returned (.tuple #[v, .bool (decide (sOk seed leaf))]) ∧ SigOwn w.heap.size w' v (sLeaf seed leaf) (sEnds seed leaf t) (sWay seed leaf) ∧ Below w.heap.size w w' := by
  have HG := hide hG
  clear hG
  by_cases h1 : 0 ≤ leaf ∧ leaf ≤ 3
  · have HIN := hide (fun (wx : World) => leafOk_calls leaf wx)
    simp only [decide_eq_true h1] at HIN
    by_cases h2 : few seed
    · have hs0 : ¬ seed < 0 := by have := h2.1; omega
      have hs1 : ¬ 1000000 < seed := by have := h2.2; omega
      obtain ⟨n, rfl⟩ := Int.eq_ofNat_of_zero_le h1.1
      have hn3 : n ≤ 3 := by have := h1.2; omega
      have HOK : Hid (decide (sOk seed n) = true ∧ sLeaf seed n = n ∧ sEnds seed n t = endN seed n t 11 ∧ sWay seed n = wayN seed n 2) := by
        have hok : sOk seed n := ⟨h1, h2⟩
        refine ⟨decide_eq_true hok, ?_, ?_, ?_⟩
        · unfold sLeaf; rw [if_pos hok]
        · unfold sEnds; rw [if_pos hok]
        · unfold sWay; rw [if_pos hok]; rfl
      clear h1 h2
      have HQ := hide (fun wx hg => implQuads_calls t (by omega) wx hg)
      have hq11 := quadsN_length t
      go_enter Tryd.func15, Tryd.ntmps15
      go_wp2_with fail
      refine (HIN.out _).mono ?_
      rintro e w1 ⟨rfl, rfl⟩
      go_wp2_with fail
      have hb1 : Below w.heap.size w (w.alloc (.cells #[.int .i64 0, .slice none 0 0, .slice none 0 0] 29)) := (Below.refl _ _).alloc (Nat.le_refl _) _
      have hR1 := Blk.new w #[.int .i64 0, .slice none 0 0, .slice none 0 0] 29
      have HB1 := hide hb1
      have HR1 := hide hR1
      have HG1 := hide (HG.out.below hb1)
      clear hb1 hR1
      generalize w.alloc (.cells #[.int .i64 0, .slice none 0 0, .slice none 0 0] 29) = w1 at *
      refine (HQ.out _ HG1.out).mono ?_
      rintro e w2 ⟨vq, rfl, hoq, hb2⟩
      obtain ⟨gq, cq, hvq, hgq1, hgq2, hcq, hqc, -⟩ := own_at hoq (by omega)
      subst hvq
      have hqq : ∀ j, j < 11 → w2.cell? ⟨gq, j, none⟩ = some (.int .i64 ((quadsN t).getD j 0 : Nat)) := by
        intro j hj
        rw [hqc j (by omega), show quads t = ints (quadsN t) from rfl]
        simp [cellsI, ints, List.getD_eq_getElem?_getD, show j < (quadsN t).length by omega]
      have HQC := hide hqq
      have HB2 := hide (HB1.out.trans (hb2.mono HB1.out.size))
      have HR2 := hide (HR1.out.below hb2 HR1.out.lt)
      clear hb2 hoq hqc hqq HB1 HR1 HG1 HQ
      go_wp2_with fail
      have hb3 : Below w2.heap.size w2 (w2.alloc (.cells #[.slice (some ⟨gq, 0, none⟩) 11 cq] 24)) := (Below.refl _ _).alloc (Nat.le_refl _) _
      have hc3 := (Blk.new w2 #[.slice (some ⟨gq, 0, none⟩) 11 cq] 24).cell 0
      have HC3 : Hid ((w2.alloc (.cells #[.slice (some ⟨gq, 0, none⟩) 11 cq] 24)).cell? ⟨w2.heap.size, 0, none⟩ = some (.slice (some ⟨gq, 0, none⟩) 11 cq)) := hc3
      have hz3 : (w2.alloc (.cells #[.slice (some ⟨gq, 0, none⟩) 11 cq] 24)).heap.size = w2.heap.size + 1 := by simp
      have HQ3 : Hid (∀ j, j < 11 → (w2.alloc (.cells #[.slice (some ⟨gq, 0, none⟩) 11 cq] 24)).cell? ⟨gq, j, none⟩ = some (.int .i64 ((quadsN t).getD j 0 : Nat))) := fun j hj => by
        rw [hb3.cell (p := ⟨gq, j, none⟩) hgq2]
        exact HQC.out j hj
      have HB3 := hide (HB2.out.trans (hb3.mono HB2.out.size))
      have HR3 := hide (HR2.out.below hb3 HR2.out.lt)
      obtain ⟨bQ, hbQ⟩ : ∃ bQ, bQ = w2.heap.size := ⟨_, rfl⟩
      rw [← hbQ] at HC3 hz3 ⊢
      generalize w2.alloc (.cells #[.slice (some ⟨gq, 0, none⟩) 11 cq] 24) = w3 at *
      have hgq3 : gq < w3.heap.size := by omega
      have hbQ3 : bQ < w3.heap.size := by omega
      clear hb3 hc3 HQC HB2 HR2 hbQ hz3
      have hwR : w.heap.size < w3.heap.size := HR3.out.lt
      refine (secrets_calls seed n _ (HG.out.below HB3.out)).mono ?_
      rintro e w4 ⟨v1, rfl, hF4, hb4⟩
      have HF4 := hide hF4
      obtain ⟨f1, k1, e1, -⟩ := hF4
      subst e1
      have HSP : Hid (FnAt w4 (.func (.func 50) #[] #[.pointer (some ⟨bQ, 0, none⟩)]) (fun i => .int .i64 ((quadsN t).getD i 0 : Nat))) := by
        refine ⟨_, _, rfl, run_enter Tryd.func50 (by kernel_rfl) (by kernel_rfl), fun wx hwx i hi => ?_⟩
        have hbx := hb4.trans (hwx.mono hb4.size)
        exact sign1_calls i hi _ bQ gq cq wx ((hbx.cell (p := ⟨bQ, 0, none⟩) hbQ3).trans HC3.out) ((hbx.cell (p := ⟨gq, i, none⟩) hgq3).trans (HQ3.out i hi))
      have HB4 := hide (HB3.out.trans (hb4.mono HB3.out.size))
      have HR4 := hide (HR3.out.below hb4 HR3.out.lt)
      clear hb4 HB3 HR3 HQ3 HC3
      go_wp2_with fail
      refine (further_calls (fun i : Nat => secret seed n i) (fun i : Nat => ((quadsN t).getD i 0 : Nat)) _ _ _ HF4.out HSP.out (HG.out.below HB4.out) (fun i _ => Nat.le_trans (secret_length seed n i) (by omega))).mono ?_
      rintro e w5 ⟨v2, rfl, hF5, hb5⟩
      have HL5 := hide (list_calls (fun i : Nat => chainV (secret seed n i) ((quadsN t).getD i 0 : Nat)) v2 w5 hF5)
      rw [endN_lst] at HL5
      obtain ⟨f2, k2, e2, -⟩ := hF5
      subst e2
      have HB5 := hide (HB4.out.trans (hb5.mono HB4.out.size))
      have HR5 := hide (HR4.out.below hb5 HR4.out.lt)
      clear hb5 HB4 HR4 HF4 HSP
      go_wp2_with fail
      refine HL5.out.mono ?_
      rintro e w6 ⟨v3, rfl, ho6, hb6⟩
      obtain ⟨gE, cE, hv3, hgE1, hgE2, hcE, -, -⟩ := own_at ho6 (by omega)
      subst hv3
      have HO6 := hide ho6
      have HB6 := hide (HB5.out.trans (hb6.mono HB5.out.size))
      have HR6 := hide (HR5.out.below hb6 HR5.out.lt)
      have hR5l := HR5.out.lt
      have hz56 := hb6.size
      clear ho6 hb6 HB5 HR5 HL5
      go_wp2_with fail
      refine (way_calls seed n hn3 _ (HG.out.below HB6.out)).mono ?_
      rintro e w7 ⟨v4, rfl, ho7, hb7⟩
      obtain ⟨gW, cW, hv4, hgW1, hgW2, hcW, -, -⟩ := own_at ho7 (by omega)
      subst hv4
      have HO7 := hide ho7
      have HE7 := hide (own_below HO6.out hb7)
      have HB7 := hide (HB6.out.trans (hb7.mono HB6.out.size))
      have HR7 := hide (HR6.out.below hb7 HR6.out.lt)
      clear ho7 hb7 HB6 HR6 HO6
      obtain ⟨bR, hbR⟩ : ∃ bR, bR = w.heap.size := ⟨_, rfl⟩
      have hRw : w.heap.size ≤ bR := by omega
      have hRE : bR ≠ gE := by omega
      have hRW : bR ≠ gW := by omega
      have hEW : gE ≠ gW := by omega
      rw [← hbR] at HR7 ⊢
      clear hbR
      have r0 : w7.cell? ⟨bR, 0, none⟩ = some (.int .i64 0) := by rw [HR7.out.cell 0]; rfl
      have r1 : w7.cell? ⟨bR, 1, none⟩ = some (.slice none 0 0) := by rw [HR7.out.cell 1]; rfl
      have r2 : w7.cell? ⟨bR, 2, none⟩ = some (.slice none 0 0) := by rw [HR7.out.cell 2]; rfl
      have f0 := HR7.out.free 0
      have f1 := HR7.out.free 1
      have f2 := HR7.out.free 2
      go_wp2_with fail
      have hRF := ((HR7.out.set 0 (.int .i64 (n : Int))).set 1 (.slice (some ⟨gE, 0, none⟩) 11 cE)).set 2 (.slice (some ⟨gW, 0, none⟩) 2 cW)
      have hOE := ownsRow_setCell_other (ownsRow_setCell_other (ownsRow_setCell_other HE7.out (a := ⟨bR, 0, none⟩) (fun e => hRE (by simpa [Value.ownBlock] using e.symm)) (.int .i64 (n : Int))) (a := ⟨bR, 1, none⟩) (fun e => hRE (by simpa [Value.ownBlock] using e.symm)) (.slice (some ⟨gE, 0, none⟩) 11 cE)) (a := ⟨bR, 2, none⟩) (fun e => hRE (by simpa [Value.ownBlock] using e.symm)) (.slice (some ⟨gW, 0, none⟩) 2 cW)
      have hOW := ownsRow_setCell_other (ownsRow_setCell_other (ownsRow_setCell_other HO7.out (a := ⟨bR, 0, none⟩) (fun e => hRW (by simpa [Value.ownBlock] using e.symm)) (.int .i64 (n : Int))) (a := ⟨bR, 1, none⟩) (fun e => hRW (by simpa [Value.ownBlock] using e.symm)) (.slice (some ⟨gE, 0, none⟩) 11 cE)) (a := ⟨bR, 2, none⟩) (fun e => hRW (by simpa [Value.ownBlock] using e.symm)) (.slice (some ⟨gW, 0, none⟩) 2 cW)
      have hBF := ((HB7.out.setCell (p := ⟨bR, 0, none⟩) hRw (.int .i64 (n : Int))).setCell (p := ⟨bR, 1, none⟩) hRw (.slice (some ⟨gE, 0, none⟩) 11 cE)).setCell (p := ⟨bR, 2, none⟩) hRw (.slice (some ⟨gW, 0, none⟩) 2 cW)
      have hap : (Value.slice (some ⟨gE, 0, none⟩) 11 cE).ownBlock ≠ (Value.slice (some ⟨gW, 0, none⟩) 2 cW).ownBlock := fun e => hEW (by simpa [Value.ownBlock] using e)
      clear r0 r1 r2 f0 f1 f2 HE7 HO7 HB7 HR7
      generalize ((w7.setCell ⟨bR, 0, none⟩ (.int .i64 (n : Int))).setCell ⟨bR, 1, none⟩ (.slice (some ⟨gE, 0, none⟩) 11 cE)).setCell ⟨bR, 2, none⟩ (.slice (some ⟨gW, 0, none⟩) 2 cW) = wF at *
      have x0 : wF.cell? ⟨bR, 0, none⟩ = some (.int .i64 (n : Int)) := by rw [hRF.cell 0]; rfl
      have x1 : wF.cell? ⟨bR, 1, none⟩ = some (.slice (some ⟨gE, 0, none⟩) 11 cE) := by rw [hRF.cell 1]; rfl
      have x2 : wF.cell? ⟨bR, 2, none⟩ = some (.slice (some ⟨gW, 0, none⟩) 2 cW) := by rw [hRF.cell 2]; rfl
      refine bodyPost_ret (v := .tuple #[.agg #[.int .i64 (n : Int), .slice (some ⟨gE, 0, none⟩) 11 cE, .slice (some ⟨gW, 0, none⟩) 2 cW], .bool true]) (by simp [results, Tryd.results15, go_sem, x0, x1, x2]) rfl ?_
      obtain ⟨k1, k2, k3, k4⟩ := HOK.out
      rw [k1, k2, k3, k4]
      exact ⟨_, rfl, ⟨_, _, rfl, by rw [endN_length]; exact own_mono hOE (by omega), by rw [wayN_length]; exact own_mono hOW (by omega), .inr hap⟩, hBF⟩
    · have HOK : Hid (decide (sOk seed leaf) = false ∧ sLeaf seed leaf = 0 ∧ sEnds seed leaf t = [] ∧ sWay seed leaf = []) := by
        have hok : ¬ sOk seed leaf := fun h => h2 h.2
        refine ⟨decide_eq_false hok, ?_, ?_, ?_⟩
        · unfold sLeaf; rw [if_neg hok]
        · unfold sEnds; rw [if_neg hok]
        · unfold sWay; rw [if_neg hok]
      have hor : seed < 0 ∨ 1000000 < seed := by unfold few at h2; omega
      clear h1 h2
      have hRF := Blk.new w #[.int .i64 0, .slice none 0 0, .slice none 0 0] 29
      have hBF : Below w.heap.size w (w.alloc (.cells #[.int .i64 0, .slice none 0 0, .slice none 0 0] 29)) := (Below.refl _ _).alloc (Nat.le_refl _) _
      have HRF := hide hRF
      have HBF := hide hBF
      clear hRF hBF
      have hd : (decide (seed < 0) || decide (1000000 < seed)) = true := by
        rcases hor with h | h
        · simp [h]
        · simp [h]
      rcases hor with h0 | h0
      · go_enter Tryd.func15, Tryd.ntmps15
        go_wp2_with fail
        refine (HIN.out _).mono ?_
        rintro e w1 ⟨rfl, rfl⟩
        go_wp2_with fail
        generalize w.alloc (.cells #[.int .i64 0, .slice none 0 0, .slice none 0 0] 29) = wF at *
        have x0 : wF.cell? ⟨w.heap.size, 0, none⟩ = some (.int .i64 0) := by rw [HRF.out.cell 0]; rfl
        have x1 : wF.cell? ⟨w.heap.size, 1, none⟩ = some (.slice none 0 0) := by rw [HRF.out.cell 1]; rfl
        have x2 : wF.cell? ⟨w.heap.size, 2, none⟩ = some (.slice none 0 0) := by rw [HRF.out.cell 2]; rfl
        refine bodyPost_ret (v := .tuple #[.agg #[.int .i64 0, .slice none 0 0, .slice none 0 0], .bool false]) (by simp [results, Tryd.results15, go_sem, x0, x1, x2]) rfl ?_
        obtain ⟨k1, k2, k3, k4⟩ := HOK.out
        rw [k1, k2, k3, k4]
        exact ⟨_, rfl, ⟨_, _, rfl, World.ownsRow_nil _ _ _ _, World.ownsRow_nil _ _ _ _, .inl rfl⟩, HBF.out⟩
      · have h1 : ¬ seed < 0 := by omega
        go_enter Tryd.func15, Tryd.ntmps15
        go_wp2_with fail
        refine (HIN.out _).mono ?_
        rintro e w1 ⟨rfl, rfl⟩
        go_wp2_with fail
        generalize w.alloc (.cells #[.int .i64 0, .slice none 0 0, .slice none 0 0] 29) = wF at *
        have x0 : wF.cell? ⟨w.heap.size, 0, none⟩ = some (.int .i64 0) := by rw [HRF.out.cell 0]; rfl
        have x1 : wF.cell? ⟨w.heap.size, 1, none⟩ = some (.slice none 0 0) := by rw [HRF.out.cell 1]; rfl
        have x2 : wF.cell? ⟨w.heap.size, 2, none⟩ = some (.slice none 0 0) := by rw [HRF.out.cell 2]; rfl
        refine bodyPost_ret (v := .tuple #[.agg #[.int .i64 0, .slice none 0 0, .slice none 0 0], .bool false]) (by simp [results, Tryd.results15, go_sem, x0, x1, x2]) rfl ?_
        obtain ⟨k1, k2, k3, k4⟩ := HOK.out
        rw [k1, k2, k3, k4]
        exact ⟨_, rfl, ⟨_, _, rfl, World.ownsRow_nil _ _ _ _, World.ownsRow_nil _ _ _ _, .inl rfl⟩, HBF.out⟩
  · have HIN := hide (fun (wx : World) => leafOk_calls leaf wx)
    simp only [decide_eq_false h1] at HIN
    have HOK : Hid (decide (sOk seed leaf) = false ∧ sLeaf seed leaf = 0 ∧ sEnds seed leaf t = [] ∧ sWay seed leaf = []) := by
      have hok : ¬ sOk seed leaf := fun h => h1 h.1
      refine ⟨decide_eq_false hok, ?_, ?_, ?_⟩
      · unfold sLeaf; rw [if_neg hok]
      · unfold sEnds; rw [if_neg hok]
      · unfold sWay; rw [if_neg hok]
    clear h1
    have hRF := Blk.new w #[.int .i64 0, .slice none 0 0, .slice none 0 0] 29
    have hBF : Below w.heap.size w (w.alloc (.cells #[.int .i64 0, .slice none 0 0, .slice none 0 0] 29)) := (Below.refl _ _).alloc (Nat.le_refl _) _
    have HRF := hide hRF
    have HBF := hide hBF
    clear hRF hBF
    go_enter Tryd.func15, Tryd.ntmps15
    go_wp2_with fail
    refine (HIN.out _).mono ?_
    rintro e w1 ⟨rfl, rfl⟩
    go_wp2_with fail
    generalize w.alloc (.cells #[.int .i64 0, .slice none 0 0, .slice none 0 0] 29) = wF at *
    have x0 : wF.cell? ⟨w.heap.size, 0, none⟩ = some (.int .i64 0) := by rw [HRF.out.cell 0]; rfl
    have x1 : wF.cell? ⟨w.heap.size, 1, none⟩ = some (.slice none 0 0) := by rw [HRF.out.cell 1]; rfl
    have x2 : wF.cell? ⟨w.heap.size, 2, none⟩ = some (.slice none 0 0) := by rw [HRF.out.cell 2]; rfl
    refine bodyPost_ret (v := .tuple #[.agg #[.int .i64 0, .slice none 0 0, .slice none 0 0], .bool false]) (by simp [results, Tryd.results15, go_sem, x0, x1, x2]) rfl ?_
    obtain ⟨k1, k2, k3, k4⟩ := HOK.out
    rw [k1, k2, k3, k4]
    exact ⟨_, rfl, ⟨_, _, rfl, World.ownsRow_nil _ _ _ _, World.ownsRow_nil _ _ _ _, .inl rfl⟩, HBF.out⟩
end Go.Proofs.YtmjpdccfdaajmaaDoor.P4
namespace Go.Proofs.YtmjpdccfdaajmaaDoor.P4
set_option maxRecDepth 8000
open Go.RowKit P1 P3 Sr

set_option maxHeartbeats 400000 in
theorem keysOk_calls (w : World) (v : Value) (l : List (List UInt8)) (c : Nat) (ci : Int) (hci : ci = (c : Int)) (hv : TextsAt w v l) (hl : l.length ≤ 1073741824) (hx : ∀ x ∈ l, x.length ≤ 1073741824) :
    Calls Tryd.prog 58 #[v, .int .i64 ci] w fun e w' => e = .returned (.bool (decide (l.length = c ∧ allEight l))) ∧ w' = w := by
  subst hci
  obtain ⟨a, ca, rfl, HA⟩ := hv
  replace HA := hide HA
  have HX := hide hx
  clear hx
  by_cases hc : l.length = c
  · have hne : ((l.length : Int) != (c : Int)) = false := by simp; omega
    have HD : Hid (decide (l.length = c ∧ allEight l) = decide (allEight l)) := by
      show _ = _
      by_cases h : allEight l
      · rw [decide_eq_true h, decide_eq_true ⟨hc, h⟩]
      · rw [decide_eq_false h, decide_eq_false (fun h' => h h'.2)]
    rw [HD.out]
    have hcc : (c : Int) = (l.length : Int) := by omega
    rw [hcc] at hne ⊢
    clear hc hcc
    go_enter Tryd.func58, Tryd.ntmps58
    go_wp2_with fail
    go_loop [13] (fun i => ∃ k : Nat, k ≤ l.length ∧ i = .int .i64 k ∧ ∀ x ∈ l.take k, x.length = 8) (fun i => l.length - (intOf i).toNat)
    case atStart => exact ⟨0, Nat.zero_le _, rfl, by simp⟩
    case round =>
      obtain ⟨k, hk, rfl, htk⟩ := hrel
      have HT := hide htk
      clear htk
      by_cases hlt : k < l.length
      · obtain ⟨ga, oa, rfl, ha2, ha3⟩ := HA.out k hlt
        have hb := HX.out l[k] (List.getElem_mem hlt)
        by_cases h8 : (l[k]).length = 8
        · have hne8 : (((l[k]).length : Int) != 8) = false := by simp; omega
          have HN : Hid (∀ x ∈ l.take (k + 1), x.length = 8) := by
            show ∀ x ∈ l.take (k + 1), x.length = 8
            rw [List.take_succ_eq_append_getElem hlt]
            intro x hx
            rcases List.mem_append.1 hx with h | h
            · exact HT.out x h
            · simp at h; rw [h]; exact h8
          clear h8 HT
          generalize l[k] = x at *
          go_wp2_with fail
          go_round
          case rel => exact ⟨k + 1, by omega, by go_num, HN.out⟩
          case measure => simp [intOf]; omega
        · have hne8 : (((l[k]).length : Int) != 8) = true := by simp; omega
          have HE : Hid (decide (allEight l) = false) := by
            show decide (allEight l) = false
            rw [decide_eq_false_iff_not]
            exact fun h => h8 (h _ (List.getElem_mem hlt))
          clear h8 HT
          generalize l[k] = x at *
          go_wp2_with fail
          go_ret
          exact ⟨by rw [HE.out]; rfl, rfl⟩
      · have HE : Hid (decide (allEight l) = true) := by
          show decide (allEight l) = true
          rw [decide_eq_true_iff]
          intro x hx
          refine HT.out x ?_
          rw [List.take_of_length_le (by omega)]
          exact hx
        go_wp2_with fail
        go_ret
        exact ⟨by rw [HE.out]; rfl, rfl⟩
  · have hne : ((l.length : Int) != (c : Int)) = true := by simp; omega
    have HD : Hid (decide (l.length = c ∧ allEight l) = false) := decide_eq_false (fun h => hc h.1)
    clear hc
    go_enter Tryd.func58, Tryd.ntmps58
    go_wp2_with fail
    go_ret
    exact ⟨by rw [HD.out]; rfl, rfl⟩

set_option maxHeartbeats 400000 in
theorem signed1_calls (i : Nat) (hi : i < 11) (x : List UInt8) (bS gE oE cE : Nat) (w : World) (h0 : w.cell? ⟨bS, 1, none⟩ = some (.slice (some ⟨gE, oE, none⟩) 11 cE)) (h1 : w.cell? ⟨gE, oE + i, none⟩ = some (.string ⟨x.toArray⟩)) :
    Calls Tryd.prog 59 #[.int .i64 i, .pointer (some ⟨bS, 0, none⟩)] w fun e w' => e = .returned (.string ⟨x.toArray⟩) ∧ Below w.heap.size w w' := by
  go_enter Tryd.func59, Tryd.ntmps59
  go_wp2_with fail
  go_ret
  exact ⟨rfl, Below.refl _ _⟩

set_option maxHeartbeats 400000 in
theorem signed2_calls (i : Nat) (hi : i < 11) (q : Nat) (hq : q < 4) (bQ gq cq : Nat) (w : World) (h0 : w.cell? ⟨bQ, 0, none⟩ = some (.slice (some ⟨gq, 0, none⟩) 11 cq)) (h1 : w.cell? ⟨gq, i, none⟩ = some (.int .i64 q)) :
    Calls Tryd.prog 60 #[.int .i64 i, .pointer (some ⟨bQ, 0, none⟩)] w fun e w' => e = .returned (.int .i64 (3 - (q : Int))) ∧ Below w.heap.size w w' := by
  go_enter Tryd.func60, Tryd.ntmps60
  go_wp2_with fail
  go_ret
  exact ⟨rfl, Below.refl _ _⟩

theorem sgnText_flat (t : List UInt8) (E : List (List UInt8)) (k : Nat) : sgnText t E k = 108 :: ((List.range k).map fun (i : Nat) => chain (3 - (quadsN t).getD i 0) (E.getD i [])).flatten := by
  induction k with
  | zero => rfl
  | succ k ih => rw [sgnText, ih, List.range_succ]; simp

theorem sgn_lst (t : List UInt8) (E : List (List UInt8)) : 108 :: (lst (fun i : Nat => chainV (E.getD i []) (3 - ((quadsN t).getD i 0 : Nat)))).flatten = sgnText t E 11 := by
  rw [sgnText_flat]
  unfold lst
  congr 2
  refine List.map_congr_left (fun i hi => ?_)
  have hi' := List.mem_range.1 hi
  have h11 := quadsN_length t
  have := quadsN_lt t ((quadsN t).getD i 0) (by rw [List.getD_eq_getElem?_getD, List.getElem?_eq_getElem (by omega)]; exact List.getElem_mem _)
  unfold chainV
  congr 1
  omega
end Go.Proofs.YtmjpdccfdaajmaaDoor.P4
namespace Go.Proofs.YtmjpdccfdaajmaaDoor.P4
set_option maxRecDepth 8000
open Go.RowKit P1 P3 Sr

theorem enterF : ∀ args w, (callFunc 49 args).run Tryd.prog w = .ok (.enter 49 args) w := run_enter Tryd.func49 (by kernel_rfl) (by kernel_rfl)
theorem enterL : ∀ args w, (callFunc 61 args).run Tryd.prog w = .ok (.enter 61 args) w := run_enter Tryd.func61 (by kernel_rfl) (by kernel_rfl)

set_option maxHeartbeats 2000000 in
theorem implSigned_calls (k t : List UInt8) (ht : t.length ≤ 1048576) (w : World) (v : Value) (leaf : Int) (E W : List (List UInt8)) (hv : SigAt w v leaf E W) (hG : Glo w) :
    Calls Tryd.prog 19 #[.string ⟨k.toArray⟩, .string ⟨t.toArray⟩, v] w fun e w' => e = .returned (.bool (decide (signedV k t leaf E W))) ∧ Below w.heap.size w w' := by
  obtain ⟨⟨vE, vW, rfl, tE, tW⟩, lE, lW, xE, xW⟩ := hv
  have hbA : Below w.heap.size w (w.alloc (.cells #[.int .i64 leaf, vE, vW] 29)) := (Below.refl _ _).alloc (Nat.le_refl _) _
  have TE := hide (tE.below hbA (Nat.le_refl _))
  have TW := hide (tW.below hbA (Nat.le_refl _))
  have hSB := Blk.new w #[.int .i64 leaf, vE, vW] 29
  have hG1 := hG.below hbA
  obtain ⟨aE, cE, hE⟩ := texts_len tE
  obtain ⟨aW, cW, hW⟩ := texts_len tW
  have XE := hide (fun x hx => Nat.le_trans (xE x hx) (by decide : 1048576 ≤ 1073741824))
  have XW := hide (fun x hx => Nat.le_trans (xW x hx) (by decide : 1048576 ≤ 1073741824))
  subst hE hW
  have HLE := hide (fun (wx : World) (h : TextsAt wx (.slice aE E.length cE) E) => keysOk_calls wx _ E 11 11 rfl h (by omega) XE.out)
  have HLW := hide (fun (wx : World) (h : TextsAt wx (.slice aW W.length cW) W) => keysOk_calls wx _ W 2 2 rfl h (by omega) XW.out)
  have HIN := hide (fun (wx : World) => leafOk_calls leaf wx)
  have HB := hide hbA
  have HSB := hide hSB
  have HG := hide hG1
  clear tE tW hbA xE xW hSB hG1 hG
  have q0 : (w.alloc (.cells #[.int .i64 leaf, .slice aE E.length cE, .slice aW W.length cW] 29)).cell? ⟨w.heap.size, 0, none⟩ = some (.int .i64 leaf) := by rw [HSB.out.cell 0]; rfl
  have q1 : (w.alloc (.cells #[.int .i64 leaf, .slice aE E.length cE, .slice aW W.length cW] 29)).cell? ⟨w.heap.size, 1, none⟩ = some (.slice aE E.length cE) := by rw [HSB.out.cell 1]; rfl
  have q2 : (w.alloc (.cells #[.int .i64 leaf, .slice aE E.length cE, .slice aW W.length cW] 29)).cell? ⟨w.heap.size, 2, none⟩ = some (.slice aW W.length cW) := by rw [HSB.out.cell 2]; rfl
  obtain ⟨r, Er⟩ : ∃ r, Hid (r = decide (signedV k t leaf E W)) := ⟨_, rfl⟩
  rw [← Er.out]
  by_cases h1 : 0 ≤ leaf ∧ leaf ≤ 3
  · simp only [decide_eq_true h1] at HIN
    by_cases h2 : E.length = 11 ∧ allEight E
    · simp only [decide_eq_true h2] at HLE
      by_cases h3 : W.length = 2 ∧ allEight W
      · simp only [decide_eq_true h3] at HLW
        have hf : formOk leaf E W := ⟨h1, h2.1, h3.1, h2.2, h3.2⟩
        obtain ⟨n, rfl⟩ := Int.eq_ofNat_of_zero_le h1.1
        have hn3 : n ≤ 3 := by have := h1.2; omega
        have hr : r = decide (climb (cut8 (sgnText t E 11)) n W 2 = k) := by rw [Er.out]; exact signedV_form k t n E W hf
        have HR := hide hr
        have hE11 := h2.1
        have hW2 := h3.1
        have H8E := hide h2.2
        have H8W := hide h3.2
        clear hr Er hf h1 h2 h3
        simp only [hE11, hW2] at HLE HLW TE TW q0 q1 q2 HSB HB HG ⊢
        have HE11 := hide hE11
        have HW2 := hide hW2
        clear hE11 hW2
        go_enter Tryd.func19, Tryd.ntmps19
        go_wp2_with fail
        refine (HIN.out _).mono ?_
        rintro e w1 ⟨rfl, rfl⟩
        go_wp2_with fail
        refine (HLE.out _ TE.out).mono ?_
        rintro e w1 ⟨rfl, rfl⟩
        go_wp2_with fail
        refine (HLW.out _ TW.out).mono ?_
        rintro e w1 ⟨rfl, rfl⟩
        go_wp2_with fail
        obtain ⟨bS, hbS⟩ : ∃ bS, bS = w.heap.size := ⟨_, rfl⟩
        rw [← hbS] at HSB ⊢
        clear q0 q1 q2 hbS
        generalize w.alloc (.cells #[.int .i64 (n : Int), .slice aE 11 cE, .slice aW 2 cW] 29) = w1 at *
        have HQ := hide (fun wx hg => implQuads_calls t (by omega) wx hg)
        have HQL := hide (fun x hx => quadsN_lt t x hx)
        have hq11 := quadsN_length t
        refine (HQ.out _ HG.out).mono ?_
        rintro e w2 ⟨vq, rfl, hoq, hb2⟩
        obtain ⟨gq, cq, hvq, hgq1, hgq2, hcq, hqc, -⟩ := own_at hoq (by omega)
        subst hvq
        have hqq : ∀ j, j < 11 → w2.cell? ⟨gq, j, none⟩ = some (.int .i64 ((quadsN t).getD j 0 : Nat)) := by
          intro j hj
          rw [hqc j (by omega), show quads t = ints (quadsN t) from rfl]
          simp [cellsI, ints, List.getD_eq_getElem?_getD, show j < (quadsN t).length by omega]
        have HQC := hide hqq
        have HB2 := hide (HB.out.trans (hb2.mono HB.out.size))
        have HS2 := hide (HSB.out.below hb2 HSB.out.lt)
        have TE2 := hide (TE.out.below hb2 (Nat.le_refl _))
        have TW2 := hide (TW.out.below hb2 (Nat.le_refl _))
        have HG2 := hide (HG.out.below hb2)
        clear hb2 hoq hqc hqq HB HSB TE TW HG HQ
        go_wp2_with fail
        have hb3 : Below w2.heap.size w2 (w2.alloc (.cells #[.slice (some ⟨gq, 0, none⟩) 11 cq] 24)) := (Below.refl _ _).alloc (Nat.le_refl _) _
        have HC3 : Hid ((w2.alloc (.cells #[.slice (some ⟨gq, 0, none⟩) 11 cq] 24)).cell? ⟨w2.heap.size, 0, none⟩ = some (.slice (some ⟨gq, 0, none⟩) 11 cq)) := (Blk.new w2 #[.slice (some ⟨gq, 0, none⟩) 11 cq] 24).cell 0
        have hz3 : (w2.alloc (.cells #[.slice (some ⟨gq, 0, none⟩) 11 cq] 24)).heap.size = w2.heap.size + 1 := by simp
        have HQ3 : Hid (∀ j, j < 11 → (w2.alloc (.cells #[.slice (some ⟨gq, 0, none⟩) 11 cq] 24)).cell? ⟨gq, j, none⟩ = some (.int .i64 ((quadsN t).getD j 0 : Nat))) := fun j hj => by
          rw [hb3.cell (p := ⟨gq, j, none⟩) hgq2]
          exact HQC.out j hj
        have HB3 := hide (HB2.out.trans (hb3.mono HB2.out.size))
        have HS3 := hide (HS2.out.below hb3 HS2.out.lt)
        have TE3 := hide (TE2.out.below hb3 (Nat.le_refl _))
        have TW3 := hide (TW2.out.below hb3 (Nat.le_refl _))
        have HG3 := hide (HG2.out.below hb3)
        obtain ⟨bQ, hbQ⟩ : ∃ bQ, bQ = w2.heap.size := ⟨_, rfl⟩
        rw [← hbQ] at HC3 hz3 ⊢
        generalize w2.alloc (.cells #[.slice (some ⟨gq, 0, none⟩) 11 cq] 24) = w3 at *
        have hgq3 : gq < w3.heap.size := by omega
        have hbQ3 : bQ < w3.heap.size := by omega
        have hbS3 := HS3.out.lt
        clear hb3 HQC HB2 HS2 TE2 TW2 HG2 hbQ hz3
        obtain ⟨aE', cE', hvE, hEc⟩ := TE3.out
        obtain ⟨gE, oE, haE, hgE, -⟩ := hEc 0 (by have := HE11.out; omega)
        subst haE
        simp only [Value.slice.injEq] at hvE
        obtain ⟨rfl, -, rfl⟩ := hvE
        have HEC : Hid (∀ j, j < 11 → w3.cell? ⟨gE, oE + j, none⟩ = some (.string ⟨(E.getD j []).toArray⟩)) := fun j hj => by
          obtain ⟨g', o', e1, _, e3⟩ := hEc j (by have := HE11.out; omega)
          cases e1
          rw [e3]
          simp [List.getD_eq_getElem?_getD, show j < E.length by have := HE11.out; omega]
        obtain ⟨aW', cW', hvW, hWc⟩ := TW3.out
        obtain ⟨gW, oW, haW, hgW, -⟩ := hWc 0 (by have := HW2.out; omega)
        subst haW
        simp only [Value.slice.injEq] at hvW
        obtain ⟨rfl, -, rfl⟩ := hvW
        have HWC : Hid (∀ j, j < 2 → w3.cell? ⟨gW, oW + j, none⟩ = some (.string ⟨(W.getD j []).toArray⟩)) := fun j hj => by
          obtain ⟨g', o', e1, _, e3⟩ := hWc j (by have := HW2.out; omega)
          cases e1
          rw [e3]
          simp [List.getD_eq_getElem?_getD, show j < W.length by have := HW2.out; omega]
        clear hEc hWc TE3 TW3
        have hS1 : w3.cell? ⟨bS, 1, none⟩ = some (.slice (some ⟨gE, oE, none⟩) 11 cE) := by rw [HS3.out.cell 1]; rfl
        have HF1 : Hid (FnAt w3 (.func (.func 59) #[] #[.pointer (some ⟨bS, 0, none⟩)]) (fun i => .string ⟨(E.getD i []).toArray⟩)) := by
          refine ⟨_, _, rfl, run_enter Tryd.func59 (by kernel_rfl) (by kernel_rfl), fun wx hwx i hi => ?_⟩
          exact signed1_calls i hi _ bS gE oE cE wx ((hwx.cell (p := ⟨bS, 1, none⟩) hbS3).trans hS1) ((hwx.cell (p := ⟨gE, oE + i, none⟩) hgE).trans (HEC.out i hi))
        have HF2 : Hid (FnAt w3 (.func (.func 60) #[] #[.pointer (some ⟨bQ, 0, none⟩)]) (fun i => .int .i64 (3 - ((quadsN t).getD i 0 : Nat)))) := by
          refine ⟨_, _, rfl, run_enter Tryd.func60 (by kernel_rfl) (by kernel_rfl), fun wx hwx i hi => ?_⟩
          exact signed2_calls i hi _ (HQL.out _ (by rw [List.getD_eq_getElem?_getD, List.getElem?_eq_getElem (by omega)]; exact List.getElem_mem _)) bQ gq cq wx ((hwx.cell (p := ⟨bQ, 0, none⟩) hbQ3).trans HC3.out) ((hwx.cell (p := ⟨gq, i, none⟩) hgq3).trans (HQ3.out i hi))
        have HE8 : Hid (∀ i, i < 11 → (E.getD i []).length = 8) := fun i hi => by
          rw [show E.getD i [] = E[i]'(by have := HE11.out; omega) by simp [List.getD_eq_getElem?_getD, show i < E.length by have := HE11.out; omega]]
          exact H8E.out _ (List.getElem_mem _)
        have HW8 : Hid (∀ i, i < 2 → (W.getD i []).length = 8) := fun i hi => by
          rw [show W.getD i [] = W[i]'(by have := HW2.out; omega) by simp [List.getD_eq_getElem?_getD, show i < W.length by have := HW2.out; omega]]
          exact H8W.out _ (List.getElem_mem _)
        have n0 : ∀ p : Near w3.heap.size w3, p.w.cell? ⟨bS, 0, none⟩ = some (.int .i64 (n : Int)) := fun p => by rw [(HS3.out.below p.h hbS3).cell 0]; rfl
        have hnn := Near.some w3.heap.size w3
        clear hS1 HEC HQ3 HC3 H8E H8W HQL
        go_wp2_with fail
        refine wp_region_open (fun wd => ∃ p : Near w3.heap.size w3, wd = p.w) ⟨⟨_, (Below.refl _ _).drew⟩, rfl⟩ (by kernel_rfl) ?_
        rintro wd ⟨pd, rfl⟩
        refine wpAny_seg_lit 0 2 6 rfl (by decide) (by kernel_rfl) (by kernel_rfl) (fun _ _ _ _ _ h => h) ?_
        simp only [List.take_succ_cons, List.take_zero, List.drop_zero]
        repeat (go_big_quiet_step (fail))
        refine wpQuiet_nil ?_
        refine wpAny_seg_lit 4 1 5 rfl (by decide) (by kernel_rfl) (by kernel_rfl) (fun _ _ _ _ _ h => h) ?_
        simp only [List.take_succ_cons, List.take_zero, List.drop_succ_cons, List.drop_zero]
        repeat (go_big_quiet_step (fail))
        refine wpQuiet_nil ?_
        refine wpAny_of_K (c := 7) (D := fun w' => ∃ p : Near w3.heap.size w3, w' = p.w) _ _ _ _ ?_
        refine wpAnyK_load 5 (by kernel_rfl) (by kernel_rfl) (by kernel_rfl) (by kernel_rfl) (by kernel_rfl) (by kernel_rfl) (by decide) (fun _ _ _ _ _ h => h) ⟨pd, rfl⟩ ?_
        simp only [List.take_succ_cons, List.take_zero, List.drop_succ_cons, List.drop_zero]
        go_big_quiet_step (fail)
        refine wpQuiet_nil ?_
        refine wpAnyK_call 2 (by kernel_rfl) rfl rfl 49 _ _ rfl enterF #[.func (.func 59) #[] #[.pointer (some ⟨bS, 0, none⟩)], .func (.func 60) #[] #[.pointer (some ⟨bQ, 0, none⟩)]] rfl
          (fun u w' => FnAt w' u (fun i : Nat => .string ⟨(chainV (E.getD i []) (3 - ((quadsN t).getD i 0 : Nat))).toArray⟩) ∧ Below w3.heap.size w3 w') ((further_calls (fun i : Nat => E.getD i []) (fun i : Nat => (3 - ((quadsN t).getD i 0 : Nat) : Int)) _ _ pd.w (HF1.out.below pd.h) (HF2.out.below pd.h) (HG3.out.below pd.h) (fun i hi => by have := HE8.out i hi; omega)).mono (fun e w' ⟨u, h1, h2, h3⟩ => ⟨u, h1, h2, pd.h.trans (h3.mono pd.h.size)⟩)) ?_
        rintro u w4 ⟨hF4, hb4⟩
        refine ⟨⟨⟨_, hb4⟩, rfl⟩, ?_⟩
        have hlk := leafKeyOf_calls (fun i : Nat => chainV (E.getD i []) (3 - ((quadsN t).getD i 0 : Nat))) u w4 hF4 (HG3.out.below hb4) (fun i hi => by
          have h8 := HE8.out i hi
          unfold chainV
          rw [chain8 _ _ h8]
          omega)
        rw [sgn_lst] at hlk
        have hcl := cut8_length (sgnText t E 11)
        obtain ⟨C, EC⟩ : ∃ C, Hid (C = cut8 (sgnText t E 11)) := ⟨_, rfl⟩
        rw [← EC.out] at hlk hcl HR
        clear EC
        refine wpAnyK_call 3 (by kernel_rfl) rfl rfl 61 _ _ rfl enterL #[u] rfl (fun u' w' => u' = .string ⟨C.toArray⟩ ∧ Below w3.heap.size w3 w') (hlk.mono (fun e w' ⟨h1, h2⟩ => ⟨_, h1, rfl, hb4.trans (h2.mono hb4.size)⟩)) ?_
        rintro u' w5 ⟨rfl, hb5⟩
        refine ⟨⟨⟨_, hb5⟩, rfl⟩, ?_⟩
        refine wpAnyK_value (i := 6) (v := .string ⟨C.toArray⟩) (w' := w5) (by kernel_rfl) rfl rfl rfl ⟨⟨_, hb5⟩, rfl⟩ ?_
        refine wpAnyK_last (by kernel_rfl) (by decide) ?_
        refine wpAny_rest 7 rfl (by kernel_rfl) ?_
        simp only [List.drop_succ_cons, List.drop_zero]
        have n2 : w5.cell? ⟨bS, 2, none⟩ = some (.slice (some ⟨gW, oW, none⟩) 2 cW) := by rw [(HS3.out.below hb5 hbS3).cell 2]; rfl
        have HB5 := hide hb5
        clear hlk hF4 hb4 hb5 n0 hnn HF1 HF2
        go_wp2_with fail
        clear n2
        go_loopw [10, 11, 43] (fun v a i wr => ∃ j : Nat, j ≤ 2 ∧ i = .int .i64 j ∧ a = .int .i64 ((n / 2 ^ j : Nat) : Int) ∧ v = .string ⟨(climb C n W j).toArray⟩ ∧ Below w3.heap.size w3 wr) (fun _ _ i _ => 2 - (intOf i).toNat)
        case atStart => exact ⟨0, by omega, rfl, by simp, rfl, HB5.out⟩
        case round =>
          clear HB5
          obtain ⟨j, hj, rfl, rfl, rfl, hb⟩ := hrel
          have lc := climb_length C n W hcl j
          by_cases hlt : j < 2
          · have hd : decide ((j : Int) < 2) = true := by simp; omega
            have n4 : wr.cell? ⟨gW, oW + j, none⟩ = some (.string ⟨(W.getD j []).toArray⟩) := (hb.cell (p := ⟨gW, oW + j, none⟩) hgW).trans (HWC.out j hlt)
            have l8 := HW8.out j hlt
            have HGr := hide (HG3.out.below hb)
            have HB := hide hb
            clear hb
            obtain ⟨m, Em⟩ : ∃ m, Hid (m = n / 2 ^ j) := ⟨_, rfl⟩
            have hm3 : m ≤ 3 := by rw [Em.out]; exact Nat.le_trans (Nat.div_le_self _ _) hn3
            rw [← Em.out]
            have HNx : Hid (climb C n W (j + 1) = if (n / 2 ^ j) % 2 = 0 then node (climb C n W j) (W.getD j []) else node (W.getD j []) (climb C n W j)) := rfl
            generalize W.getD j [] = x at *
            obtain ⟨c0, E0⟩ : ∃ c0, Hid (c0 = climb C n W j) := ⟨_, rfl⟩
            rw [← E0.out] at lc HNx ⊢
            by_cases hev : (n / 2 ^ j) % 2 = 0
            · have hb2 : (((m : Nat) : Int) % 2 == 0) = true := by rw [← Em.out] at hev; simp; omega
              rw [if_pos hev] at HNx
              have HCT := hide (fun wx hg => node_calls c0 x (by omega) (by omega) wx hg)
              rw [← HNx.out] at HCT
              obtain ⟨c1, E1⟩ : ∃ c1, Hid (c1 = climb C n W (j + 1)) := ⟨_, rfl⟩
              rw [← E1.out] at HCT
              clear HNx hev
              go_wp2_with fail
              refine (HCT.out _ HGr.out).mono ?_
              rintro e w6 ⟨rfl, hb6⟩
              have HB6 := hide (HB.out.trans (hb6.mono HB.out.size))
              clear hb6 n4
              go_wp2_with fail
              go_roundw
              case rel => exact ⟨j + 1, by omega, by go_num, by rw [Nat.pow_succ, ← Nat.div_div_eq_div_mul, ← Em.out]; go_num, by rw [← E1.out], HB6.out⟩
              case measure => simp [intOf]; omega
            · have hb2 : (((m : Nat) : Int) % 2 == 0) = false := by rw [← Em.out] at hev; simp; omega
              rw [if_neg hev] at HNx
              have HCT := hide (fun wx hg => node_calls x c0 (by omega) (by omega) wx hg)
              rw [← HNx.out] at HCT
              obtain ⟨c1, E1⟩ : ∃ c1, Hid (c1 = climb C n W (j + 1)) := ⟨_, rfl⟩
              rw [← E1.out] at HCT
              clear HNx hev
              go_wp2_with fail
              refine (HCT.out _ HGr.out).mono ?_
              rintro e w6 ⟨rfl, hb6⟩
              have HB6 := hide (HB.out.trans (hb6.mono HB.out.size))
              clear hb6 n4
              go_wp2_with fail
              go_roundw
              case rel => exact ⟨j + 1, by omega, by go_num, by rw [Nat.pow_succ, ← Nat.div_div_eq_div_mul, ← Em.out]; go_num, by rw [← E1.out], HB6.out⟩
              case measure => simp [intOf]; omega
          · have hj2 : j = 2 := by omega
            have hd : decide ((j : Int) < 2) = false := by simp; omega
            have HB := hide hb
            rw [hj2]
            generalize climb C n W 2 = cf at *
            clear hb hj2
            go_wp2_with fail
            go_ret
            refine ⟨congrArg (fun z => Ending.returned (.bool z)) ?_, HB3.out.trans (HB.out.mono HB3.out.size)⟩
            show (cf == k) = r
            rw [HR.out]
            by_cases h : cf = k <;> simp [h]
      · simp only [decide_eq_false h3] at HLW
        have hr : r = false := by rw [Er.out]; exact decide_eq_false (fun h => h3 ⟨h.1.2.2.1, h.1.2.2.2.2⟩)
        subst hr
        clear h1 h2 h3 Er
        go_enter Tryd.func19, Tryd.ntmps19
        go_wp2_with fail
        refine (HIN.out _).mono ?_
        rintro e w1 ⟨rfl, rfl⟩
        go_wp2_with fail
        refine (HLE.out _ TE.out).mono ?_
        rintro e w1 ⟨rfl, rfl⟩
        go_wp2_with fail
        refine (HLW.out _ TW.out).mono ?_
        rintro e w1 ⟨rfl, rfl⟩
        go_wp2_with fail
        go_ret
        exact ⟨rfl, HB.out⟩
    · simp only [decide_eq_false h2] at HLE
      have hr : r = false := by rw [Er.out]; exact decide_eq_false (fun h => h2 ⟨h.1.2.1, h.1.2.2.2.1⟩)
      subst hr
      clear h1 h2 Er
      go_enter Tryd.func19, Tryd.ntmps19
      go_wp2_with fail
      refine (HIN.out _).mono ?_
      rintro e w1 ⟨rfl, rfl⟩
      go_wp2_with fail
      refine (HLE.out _ TE.out).mono ?_
      rintro e w1 ⟨rfl, rfl⟩
      go_wp2_with fail
      go_ret
      exact ⟨rfl, HB.out⟩
  · simp only [decide_eq_false h1] at HIN
    have hr : r = false := by rw [Er.out]; exact decide_eq_false (fun h => h1 h.1.1)
    subst hr
    clear h1 Er
    go_enter Tryd.func19, Tryd.ntmps19
    go_wp2_with fail
    refine (HIN.out _).mono ?_
    rintro e w1 ⟨rfl, rfl⟩
    go_wp2_with fail
    go_ret
    exact ⟨rfl, HB.out⟩
end Go.Proofs.YtmjpdccfdaajmaaDoor.P4
namespace Go.Proofs.YtmjpdccfdaajmaaDoor.P4
open Go.RowKit P1 P3

theorem secret8 (seed leaf i : Int) (h1 : few seed) (h2 : few leaf) (h3 : few i) : (secret seed leaf i).length = 8 := by
  unfold secret
  rw [if_pos ⟨h1, h2, h3⟩]
  exact cut8_length _

theorem quad_lt (t : List UInt8) (i : Nat) (hi : i < 11) : (quadsN t).getD i 0 < 4 := by
  have h11 := quadsN_length t
  exact quadsN_lt t _ (by rw [List.getD_eq_getElem?_getD, List.getElem?_eq_getElem (by omega)]; exact List.getElem_mem _)

theorem endN_get (seed leaf : Int) (t : List UInt8) (i : Nat) (hi : i < 11) : (endN seed leaf t 11).getD i [] = chain ((quadsN t).getD i 0) (secret seed leaf i) := by
  simp [endN, List.getD_eq_getElem?_getD, hi]

theorem sgnText_end (seed leaf : Int) (t : List UInt8) : ∀ k, k ≤ 11 → sgnText t (endN seed leaf t 11) k = leafText seed leaf k
  | 0, _ => rfl
  | k + 1, h => by
    have hq := quad_lt t k (by omega)
    rw [sgnText, leafText, sgnText_end seed leaf t k (by omega), endN_get seed leaf t k (by omega), chain_add]
    congr 2
    omega

theorem climb_way (seed : Int) (n : Nat) (hn : n ≤ 3) : climb (leafKey seed n) n (wayN seed n 2) 2 = key seed := by
  have hn' : n = 0 ∨ n = 1 ∨ n = 2 ∨ n = 3 := by omega
  rcases hn' with rfl | rfl | rfl | rfl <;> rfl

theorem end8 (seed : Int) (n : Nat) (t : List UInt8) (h1 : few seed) (hn : n ≤ 3) : allEight (endN seed n t 11) := by
  intro x hx
  simp only [endN, List.mem_map, List.mem_range] at hx
  obtain ⟨i, hi, rfl⟩ := hx
  exact chain8 _ _ (secret8 _ _ _ h1 ⟨by omega, by omega⟩ ⟨by omega, by omega⟩)

theorem way8 (seed : Int) (n : Nat) (hn : n ≤ 3) : allEight (wayN seed n 2) := by
  intro x hx
  simp only [wayN, List.mem_map, List.mem_range] at hx
  obtain ⟨i, hi, rfl⟩ := hx
  have hx := xor_lt n i hn hi
  have hl := lev_length seed i (by omega)
  rw [List.getD_eq_getElem?_getD, List.getElem?_eq_getElem (by omega)]
  exact lev_eight seed i (by omega) _ (List.getElem_mem _)

/-- What is signed is signed by its key. -/
theorem signed_yes (seed : Int) (n : Nat) (t : List UInt8) (h1 : few seed) (hn : n ≤ 3) : signedV (key seed) t n (endN seed n t 11) (wayN seed n 2) := by
  refine ⟨⟨⟨by omega, by omega⟩, endN_length _ _ _ _, wayN_length _ _ _, end8 seed n t h1 hn, way8 seed n hn⟩, ?_⟩
  rw [sgnText_end seed n t 11 (Nat.le_refl _)]
  exact climb_way seed n hn

theorem quads_24 (t : List UInt8) : ((quadsN t).take 8).sum + 16 * (quadsN t).getD 8 0 + 4 * (quadsN t).getD 9 0 + (quadsN t).getD 10 0 = 24 := by
  have h := quad8_sum (digest t)
  have hm : miss (digest t) = 24 - (quad8 (digest t)).sum := rfl
  have e : (quadsN t).take 8 = quad8 (digest t) := rfl
  have e8 : (quadsN t).getD 8 0 = miss (digest t) / 16 := rfl
  have e9 : (quadsN t).getD 9 0 = miss (digest t) / 4 % 4 := rfl
  have e10 : (quadsN t).getD 10 0 = miss (digest t) % 4 := rfl
  rw [e, e8, e9, e10]
  omega

theorem take_sum_le (t : List UInt8) (k : Nat) (hk : k ≤ 8) : ((quadsN t).take k).sum ≤ 24 := by
  have h := quad8_sum (digest t)
  have e : (quadsN t).take 8 = quad8 (digest t) := rfl
  have : ((quadsN t).take 8).sum = (((quadsN t).take 8).take k).sum + (((quadsN t).take 8).drop k).sum := by rw [← List.sum_append, List.take_append_drop]
  rw [List.take_take, Nat.min_eq_left hk] at this
  rw [e] at this
  omega
end Go.Proofs.YtmjpdccfdaajmaaDoor.P4
