/- The contracts of the specification's chapter 4: l04Cut, ChainOf, l04Few, SecretOf, LeafKey; conditions: a text is at most 2^20 bytes long, numbers are ints.
The contract of spec.QuadsOf; condition: the text is at most 2^20 bytes long.
The contracts of spec.l04Rows and spec.KeyOf; condition: numbers are ints.
The contract of spec.KeyOf; condition: numbers are ints.
The contracts of spec.l04Steps, l04Long and l04Form; condition: at most 2^20 texts.
The contract of spec.SignedBy; conditions: texts and lists of at most 2^20.
The contract of spec.SignText; conditions: the text is at most 2^20 bytes long, numbers are ints. -/
import Derived.Test.YtmjpdccfdaajmaaDoorZP
import Derived.Test.YtmjpdccfdaajmaaDoorZC
import Derived.Test.YtmjpdccfdaajmaaDoorZD
import Derived.Test.YtmjpdccfdaajmaaDoorZA
namespace Go.Proofs.YtmjpdccfdaajmaaDoor.P4
set_option maxRecDepth 8000
open Go.RowKit P1 P3

theorem cutV8 (t : List UInt8) : cutV t 8 = cut8 t := by
  unfold cutV cut8
  rw [if_pos (by decide)]
  rfl

set_option maxHeartbeats 400000 in
theorem cut_calls (t : List UInt8) (ht : t.length ≤ 1048577) (w : World) :
    Calls Tryd.prog 55 #[.string ⟨t.toArray⟩] w fun e w' => e = .returned (.string ⟨(cut8 t).toArray⟩) ∧ Below w.heap.size w w' := by
  have H := hide (fun wx => specCut_calls t ht 8 wx)
  simp only [cutV8] at H
  generalize cut8 t = c at *
  go_enter Tryd.func55, Tryd.ntmps55
  go_wp2_with fail
  refine (H.out _).mono ?_
  rintro e w1 ⟨rfl, hb⟩
  go_wp2_with fail
  go_ret
  exact ⟨rfl, hb⟩

set_option maxHeartbeats 1000000 in
theorem specChain_calls (t : List UInt8) (ht : t.length ≤ 1048576) (n : Int) (w : World) :
    Calls Tryd.prog 17 #[.string ⟨t.toArray⟩, .int .i64 n] w fun e w' => e = .returned (.string ⟨(chainV t n).toArray⟩) ∧ Below w.heap.size w w' := by
  obtain ⟨c, Ec⟩ : ∃ c, Hid (c = chainV t n) := ⟨_, rfl⟩
  rw [← Ec.out]
  go_enter Tryd.func17, Tryd.ntmps17
  go_wp2_with fail
  go_loopw [0, 5] (fun v i wr => ∃ k : Nat, k ≤ 3 ∧ k ≤ n.toNat ∧ i = .int .i64 k ∧ v = .string ⟨(chain k t).toArray⟩ ∧ Below w.heap.size w wr) (fun _ i _ => 3 - (intOf i).toNat)
  case atStart => exact ⟨0, by omega, by omega, rfl, rfl, Below.refl _ _⟩
  case round =>
    obtain ⟨k, hk, hkn, rfl, rfl, hb⟩ := hrel
    have HB := hide hb
    clear hb
    have hlen := chain_le k t
    by_cases hlt : (k : Int) < n
    · have hd1 : decide ((k : Int) < n) = true := by simpa using hlt
      by_cases h3 : k < 3
      · have hd2 : decide ((k : Int) < 3) = true := by simp; omega
        have HC := hide (fun wx => cut_calls (99 :: chain k t) (by rw [List.length_cons]; omega) wx)
        have HN : Hid (chain (k + 1) t = cut8 (99 :: chain k t)) := rfl
        rw [← HN.out] at HC
        have hcat : (⟨#[99]⟩ : ByteArray) ++ ⟨(chain k t).toArray⟩ = ⟨(99 :: chain k t).toArray⟩ := ByteArray.mk_append_mk [99] (chain k t)
        obtain ⟨c1, E1⟩ : ∃ c1, Hid (c1 = chain (k + 1) t) := ⟨_, rfl⟩
        obtain ⟨c2, E2⟩ : ∃ c2, Hid (c2 = 99 :: chain k t) := ⟨_, rfl⟩
        obtain ⟨c0, E0⟩ : ∃ c0, Hid (c0 = chain k t) := ⟨_, rfl⟩
        rw [← E1.out, ← E2.out] at HC
        rw [← E2.out, ← E0.out] at hcat
        rw [← E0.out] at hlen ⊢
        clear HN E0 E2
        go_wp2_with fail
        refine (HC.out _).mono ?_
        rintro e w1 ⟨rfl, hb1⟩
        have HB1 := hide (HB.out.trans (hb1.mono HB.out.size))
        clear hb1
        go_wp2_with fail
        go_roundw
        case rel => exact ⟨k + 1, by omega, by omega, by go_num, by rw [E1.out], HB1.out⟩
        case measure => simp [intOf]; omega
      · have hd2 : decide ((k : Int) < 3) = false := by simp; omega
        have hce : c = chain k t := by rw [Ec.out, chainV]; congr 1; omega
        rw [← hce]
        clear hce
        go_wp2_with fail
        go_ret
        exact ⟨rfl, HB.out⟩
    · have hd1 : decide ((k : Int) < n) = false := by simpa using hlt
      have hce : c = chain k t := by rw [Ec.out, chainV]; congr 1; omega
      rw [← hce]
      clear hce
      go_wp2_with fail
      go_ret
      exact ⟨rfl, HB.out⟩

theorem few_calls (n : Int) (w : World) : Calls Tryd.prog 68 #[.int .i64 n] w fun e w' => e = .returned (.bool (decide (few n))) ∧ w' = w := by
  go_enter Tryd.func68, Tryd.ntmps68
  go_wp2_with fail
  refine (inD_calls _ _ _ _).mono ?_
  rintro e w1 ⟨rfl, rfl⟩
  go_wp2_with fail
  go_ret
  refine ⟨congrArg (fun z => Ending.returned (.bool z)) ?_, rfl⟩
  by_cases h : few n
  · rw [decide_eq_true h, decide_eq_true h.1, decide_eq_true h.2]; rfl
  · rw [decide_eq_false h]
    by_cases h1 : 0 ≤ n
    · rw [decide_eq_true h1, decide_eq_false (fun h2 => h ⟨h1, h2⟩)]; rfl
    · rw [decide_eq_false h1]; rfl

set_option maxHeartbeats 1000000 in
theorem specSecret_calls (seed leaf i : Int) (w : World) :
    Calls Tryd.prog 32 #[.int .i64 seed, .int .i64 leaf, .int .i64 i] w fun e w' => e = .returned (.string ⟨(secret seed leaf i).toArray⟩) ∧ Below w.heap.size w w' := by
  by_cases h1 : few seed
  · have d1 : decide (few seed) = true := by simpa using h1
    by_cases h2 : few leaf
    · have d2 : decide (few leaf) = true := by simpa using h2
      by_cases h3 : few i
      · have d3 : decide (few i) = true := by simpa using h3
        have HS : Hid (secret seed leaf i = cut8 (115 :: (varB 4 seed.toNat ++ varB 4 leaf.toNat ++ varB 4 i.toNat))) := by
          show secret seed leaf i = _
          unfold secret
          rw [if_pos ⟨h1, h2, h3⟩]
        obtain ⟨a, rfl⟩ := Int.eq_ofNat_of_zero_le h1.1
        obtain ⟨b, rfl⟩ := Int.eq_ofNat_of_zero_le h2.1
        obtain ⟨c, rfl⟩ := Int.eq_ofNat_of_zero_le h3.1
        have ha : a ≤ 1000000 := by have := h1.2; omega
        have hb : b ≤ 1000000 := by have := h2.2; omega
        have hc : c ≤ 1000000 := by have := h3.2; omega
        simp only [Int.toNat_natCast] at HS
        obtain ⟨sv, Es⟩ : ∃ sv, Hid (sv = secret (a : Int) (b : Int) (c : Int)) := ⟨_, rfl⟩
        rw [← Es.out] at HS ⊢
        have la := (varB_length 4 a).2
        have lb := (varB_length 4 b).2
        have lc := (varB_length 4 c).2
        have Ha := hide (fun wx => l01Var_calls a (by omega) wx)
        have Hb := hide (fun wx => l01Var_calls b (by omega) wx)
        have Hc := hide (fun wx => l01Var_calls c (by omega) wx)
        generalize varB 4 a = va at *
        generalize varB 4 b = vb at *
        generalize varB 4 c = vc at *
        have e1 : (⟨#[115]⟩ : ByteArray) ++ ⟨va.toArray⟩ = ⟨(115 :: va).toArray⟩ := ByteArray.mk_append_mk [115] va
        have e2 : (⟨(115 :: va).toArray⟩ : ByteArray) ++ ⟨vb.toArray⟩ = ⟨(115 :: va ++ vb).toArray⟩ := ByteArray.mk_append_mk _ _
        have e3 : (⟨(115 :: va ++ vb).toArray⟩ : ByteArray) ++ ⟨vc.toArray⟩ = ⟨(115 :: (va ++ vb ++ vc)).toArray⟩ := by rw [ByteArray.mk_append_mk]; simp
        have HC := hide (fun wx => cut_calls (115 :: (va ++ vb ++ vc)) (by simp; omega) wx)
        rw [← HS.out] at HC
        have l1 : (115 :: va).length = va.length + 1 := rfl
        have l2 : (115 :: va ++ vb).length = va.length + 1 + vb.length := by simp; omega
        have l3 : (115 :: (va ++ vb ++ vc)).length = va.length + vb.length + vc.length + 1 := by simp; omega
        generalize 115 :: va = t1 at *
        generalize t1 ++ vb = t2 at *
        generalize 115 :: (va ++ vb ++ vc) = t3 at *
        clear h1 h2 h3 HS Es
        go_enter Tryd.func32, Tryd.ntmps32
        go_wp2_with fail
        refine (few_calls _ _).mono ?_
        rintro e w1 ⟨rfl, rfl⟩
        rw [d1]
        go_wp2_with fail
        refine (few_calls _ _).mono ?_
        rintro e w1 ⟨rfl, rfl⟩
        rw [d2]
        go_wp2_with fail
        refine (few_calls _ _).mono ?_
        rintro e w1 ⟨rfl, rfl⟩
        rw [d3]
        clear d1 d2 d3
        go_wp2_with fail
        refine (Ha.out _).mono ?_
        rintro e w2 ⟨rfl, hb2⟩
        go_wp2_with fail
        refine (Hb.out _).mono ?_
        rintro e w3 ⟨rfl, hb3⟩
        have HB3 := hide (hb2.trans (hb3.mono hb2.size))
        clear hb2 hb3
        go_wp2_with fail
        refine (Hc.out _).mono ?_
        rintro e w4 ⟨rfl, hb4⟩
        have HB4 := hide (HB3.out.trans (hb4.mono HB3.out.size))
        clear hb4 HB3
        go_wp2_with fail
        refine (HC.out _).mono ?_
        rintro e w5 ⟨rfl, hb5⟩
        have HB5 := hide (HB4.out.trans (hb5.mono HB4.out.size))
        clear hb5 HB4
        go_wp2_with fail
        go_ret
        exact ⟨rfl, HB5.out⟩
      · have d3 : decide (few i) = false := by simpa using h3
        have HS : Hid (secret seed leaf i = []) := by
          show secret seed leaf i = _
          unfold secret
          rw [if_neg (fun h => h3 h.2.2)]
        clear h1 h2 h3
        go_enter Tryd.func32, Tryd.ntmps32
        go_wp2_with fail
        refine (few_calls _ _).mono ?_
        rintro e w1 ⟨rfl, rfl⟩
        rw [d1]
        go_wp2_with fail
        refine (few_calls _ _).mono ?_
        rintro e w1 ⟨rfl, rfl⟩
        rw [d2]
        go_wp2_with fail
        refine (few_calls _ _).mono ?_
        rintro e w1 ⟨rfl, rfl⟩
        rw [d3]
        go_wp2_with fail
        go_ret
        exact ⟨by rw [HS.out]; rfl, Below.refl _ _⟩
    · have d2 : decide (few leaf) = false := by simpa using h2
      have HS : Hid (secret seed leaf i = []) := by
        show secret seed leaf i = _
        unfold secret
        rw [if_neg (fun h => h2 h.2.1)]
      clear h1 h2
      go_enter Tryd.func32, Tryd.ntmps32
      go_wp2_with fail
      refine (few_calls _ _).mono ?_
      rintro e w1 ⟨rfl, rfl⟩
      rw [d1]
      go_wp2_with fail
      refine (few_calls _ _).mono ?_
      rintro e w1 ⟨rfl, rfl⟩
      rw [d2]
      go_wp2_with fail
      go_ret
      exact ⟨by rw [HS.out]; rfl, Below.refl _ _⟩
  · have d1 : decide (few seed) = false := by simpa using h1
    have HS : Hid (secret seed leaf i = []) := by
      show secret seed leaf i = _
      unfold secret
      rw [if_neg (fun h => h1 h.1)]
    clear h1
    go_enter Tryd.func32, Tryd.ntmps32
    go_wp2_with fail
    refine (few_calls _ _).mono ?_
    rintro e w1 ⟨rfl, rfl⟩
    rw [d1]
    go_wp2_with fail
    go_ret
    exact ⟨by rw [HS.out]; rfl, Below.refl _ _⟩

set_option maxHeartbeats 1000000 in
theorem specLeafKey_calls (seed leaf : Int) (w : World) :
    Calls Tryd.prog 23 #[.int .i64 seed, .int .i64 leaf] w fun e w' => e = .returned (.string ⟨(leafKey seed leaf).toArray⟩) ∧ Below w.heap.size w w' := by
  have HL : Hid (leafKey seed leaf = cut8 (leafText seed leaf 11)) := rfl
  obtain ⟨lk, EL⟩ : ∃ lk, Hid (lk = leafKey seed leaf) := ⟨_, rfl⟩
  rw [← EL.out] at HL ⊢
  clear EL
  go_enter Tryd.func23, Tryd.ntmps23
  go_wp2_with fail
  go_loopw [5, 6] (fun v i wr => ∃ k : Nat, k ≤ 11 ∧ i = .int .i64 k ∧ v = .string ⟨(leafText seed leaf k).toArray⟩ ∧ Below w.heap.size w wr) (fun _ i _ => 11 - (intOf i).toNat)
  case atStart => exact ⟨0, by omega, rfl, rfl, Below.refl _ _⟩
  case round =>
    obtain ⟨k, hk, rfl, rfl, hb⟩ := hrel
    have HB := hide hb
    clear hb
    by_cases hlt : k < 11
    · have hsl := secret_length seed leaf k
      have HN : Hid (leafText seed leaf (k + 1) = leafText seed leaf k ++ chain 3 (secret seed leaf k)) := rfl
      have h1 := leafText_length seed leaf k
      have HS := hide (fun wx => specSecret_calls seed leaf k wx)
      obtain ⟨s, Es⟩ : ∃ s, Hid (s = secret seed leaf k) := ⟨_, rfl⟩
      rw [← Es.out] at HN hsl
      simp only [← Es.out] at HS
      clear Es
      have hc8 := chain_length 3 s (by decide)
      have HC := hide (fun wx => specChain_calls s (by omega) 3 wx)
      simp only [show chainV s 3 = chain 3 s from rfl] at HC
      obtain ⟨c, Ec⟩ : ∃ c, Hid (c = chain 3 s) := ⟨_, rfl⟩
      rw [← Ec.out] at HN hc8
      simp only [← Ec.out] at HC
      obtain ⟨t1, E1⟩ : ∃ t1, Hid (t1 = leafText seed leaf (k + 1)) := ⟨_, rfl⟩
      obtain ⟨t0, E0⟩ : ∃ t0, Hid (t0 = leafText seed leaf k) := ⟨_, rfl⟩
      rw [← E0.out] at HN h1 ⊢
      rw [← E1.out] at HN
      have hcat : (⟨t0.toArray⟩ : ByteArray) ++ ⟨c.toArray⟩ = ⟨t1.toArray⟩ := by rw [ByteArray.mk_append_mk, HN.out]
      have hl1 : t1.length = 1 + 8 * k + 8 := by rw [HN.out, List.length_append, h1, hc8]
      clear HN Ec E0
      go_wp2_with fail
      refine (HS.out _).mono ?_
      rintro e w1 ⟨rfl, hb1⟩
      have HB1 := hide (HB.out.trans (hb1.mono HB.out.size))
      clear hb1
      go_wp2_with fail
      refine (HC.out _).mono ?_
      rintro e w2 ⟨rfl, hb2⟩
      have HB2 := hide (HB1.out.trans (hb2.mono HB1.out.size))
      clear hb2
      go_wp2_with fail
      go_roundw
      case rel => exact ⟨k + 1, by omega, by go_num, by rw [← E1.out], HB2.out⟩
      case measure => simp [intOf]; omega
    · have hk11 : k = 11 := by omega
      have h1 := leafText_length seed leaf 11
      have HC := hide (fun wx => cut_calls (leafText seed leaf 11) (by omega) wx)
      rw [← HL.out] at HC
      rw [hk11]
      generalize leafText seed leaf 11 = tt at *
      clear hk11
      go_wp2_with fail
      refine (HC.out _).mono ?_
      rintro e w1 ⟨rfl, hb1⟩
      have HB1 := hide (HB.out.trans (hb1.mono HB.out.size))
      clear hb1
      go_wp2_with fail
      go_ret
      exact ⟨rfl, HB1.out⟩
end Go.Proofs.YtmjpdccfdaajmaaDoor.P4
namespace Go.Proofs.YtmjpdccfdaajmaaDoor.P4
set_option maxRecDepth 8000
open Go.RowKit P1 P3

theorem and3 (n : Int) : bits .and .i64 n 3 = n % 4 := by
  have h3 : (BitVec.ofInt 64 3).toNat = 2 ^ 2 - 1 := by decide
  have key : (BitVec.ofInt 64 n &&& BitVec.ofInt 64 3).toNat = (n % ((2 ^ 64 : Nat) : Int)).toNat % 2 ^ 2 := by
    rw [BitVec.toNat_and, BitVec.toNat_ofInt, h3, Nat.and_two_pow_sub_one_eq_mod]
  show IntKind.i64.wrap ((BitVec.ofInt 64 n &&& BitVec.ofInt 64 3).toNat : Nat) = n % 4
  rw [key, IntKind.wrap_i64]
  omega

/-- Some elements more, in the block just made for them. -/
theorem wpList_append_many {P : Program} {W w0 : World} {B : Nat} (hbel : Below B W w0) (hB : B ≤ W.heap.size) {cs : Array Value} {ops : Array Oper} {rest : List Oper} {o : Oper} {a : Act} {Q : Exit → Act → World → Prop} (hgd : o.guard = none) (s x : Operand) (t : TypeId)
    (ho : o.op = .call { callee := .builtin .append, args := #[s, x], argTypes := #[t, t] })
    (e : TypeId) (i : TypeInfo) (z : Value) (bytes : Nat) (ht : P.underlying t = some (.slice e)) (hi : P.info? e = some i) (hz : i.zero = some z)
    (hsize : i.size = 1) (hby : i.bytes = bytes) (hzs : z.cells.size = 1) (m : Nat) (hcs : cs.toList.length = m) (h1 : ∀ u ∈ cs.toList, u.oneCell' = true)
    (v : Value) (n : Nat) (xs : List Value) (hs : a.eval s = v) (hown : w0.ownsRow B e 1 v n xs)
    (c : Nat) (hx : a.eval x = .slice (some ⟨w0.heap.size, 0, none⟩) m c) (hb : n + m < 1099511627776) (hbytes : (n + m) * bytes ≤ 140737488355328)
    (h : ∀ v' w', w'.ownsRow B e 1 v' (n + m) (xs ++ cs.toList) → Below B W w' → wpList P ops Q rest (a.put o.dst v') w') :
    wpList P ops Q (o :: rest) a (w0.alloc (.cells cs e)) := by
  have hsz := hbel.size
  refine wpList_append_own _ hgd s x t ho B e i z 1 bytes ht hi hz hsize hby hzs (by decide) v n xs hs (hown.alloc _) ⟨w0.heap.size, 0, none⟩ m c cs.toList hx (by omega) ?_ h1 ?_ hbytes ?_ ?_
  · intro j u hj
    simp only [Go.WideShapes.add_plain]
    have hh : (w0.alloc (.cells cs e)).heap[w0.heap.size]? = some (.cells cs e) := by
      show (w0.heap.push _)[w0.heap.size]? = _
      simp
    simp only [World.cell?, hh]
    simpa using hj
  · unfold maxLen; omega
  · simp; omega
  · intro v' w' h1 h2 _
    exact h v' w' h1 ((hbel.alloc (by omega) _).grown h2 (by simp; omega) (fun k hk => (hown.lt k hk).1))

/-- Nats as ints. -/
def ints (l : List Nat) : List Int := l.map fun (n : Nat) => (n : Int)

theorem ints_snoc (l : List Nat) (x : Nat) : ints l ++ [(x : Int)] = ints (l ++ [x]) := by simp [ints]

theorem ints_length (l : List Nat) : (ints l).length = l.length := by simp [ints]

theorem quad8_at (d : List UInt8) (i j : Nat) (hi : i < 2) (hj : j < 4) : (quad8 d).getD (4 * i + j) 0 = (d.getD i 0).toNat / 2 ^ (6 - 2 * j) % 4 := by
  have h0 := (d.getD i 0).toNat_lt
  have hi' : i = 0 ∨ i = 1 := by omega
  have hj' : j = 0 ∨ j = 1 ∨ j = 2 ∨ j = 3 := by omega
  rcases hi' with rfl | rfl <;> rcases hj' with rfl | rfl | rfl | rfl <;> simp [quad8] at h0 ⊢ <;> omega

theorem take_next (l : List Nat) (k : Nat) (hk : k < l.length) : l.take (k + 1) = l.take k ++ [l.getD k 0] := by
  rw [List.take_succ_eq_append_getElem hk]
  simp [List.getD_eq_getElem?_getD, hk]

set_option maxHeartbeats 1000000 in
theorem specQuads_calls (t : List UInt8) (ht : t.length ≤ 1048577) (w : World) :
    Calls Tryd.prog 34 #[.string ⟨t.toArray⟩] w fun e w' => ∃ v, e = .returned v ∧ w'.ownsRow w.heap.size 3 1 v 11 (cellsI (quads t)) ∧ Below w.heap.size w w' := by
  have HD := hide (fun wx => specDigest_calls t ht wx)
  have hdl := digest_length t
  have HQ : Hid (quads t = ints (quad8 (digest t) ++ [miss (digest t) / 16, miss (digest t) / 4 % 4, miss (digest t) % 4])) := rfl
  obtain ⟨qs, Eq⟩ : ∃ qs, Hid (qs = quads t) := ⟨_, rfl⟩
  rw [← Eq.out] at HQ ⊢
  obtain ⟨d, Ed⟩ : ∃ d, Hid (d = digest t) := ⟨_, rfl⟩
  rw [← Ed.out] at HQ hdl
  simp only [← Ed.out] at HD
  clear Ed Eq
  have hms := miss_le d
  have HQA := hide (fun i j hi hj => quad8_at d i j hi hj)
  have HQL := hide (fun x hx => quad8_lt d x hx)
  have HSM : Hid (miss d = 24 - (quad8 d).sum) := rfl
  have HS24 := hide (quad8_sum d)
  obtain ⟨q8, E8⟩ : ∃ q8, Hid (q8 = quad8 d) := ⟨_, rfl⟩
  obtain ⟨ms, Em⟩ : ∃ ms, Hid (ms = miss d) := ⟨_, rfl⟩
  have h8 : q8.length = 8 := by rw [E8.out]; rfl
  rw [← E8.out, ← Em.out] at HQ
  rw [← E8.out] at HQA HQL HS24
  rw [← E8.out, ← Em.out] at HSM
  rw [← Em.out] at hms
  clear E8 Em
  have hn : qs.length = 11 := by rw [HQ.out, ints_length, List.length_append, h8]; rfl
  obtain ⟨i0, hi, hz0, hz1, hz2⟩ := info_parts info_i64
  go_enter Tryd.func34, Tryd.ntmps34
  go_wp2_with fail
  refine (HD.out _).mono ?_
  rintro e w1 ⟨rfl, hb1⟩
  have HB1 := hide hb1
  have hsz1 : w.heap.size ≤ w1.heap.size := hb1.size
  clear hb1 HD
  go_wp2_with fail
  have hown0 : (w1.alloc (.cells #[] 3)).ownsRow w.heap.size 3 1 (.slice (some ⟨w1.heap.size, 0, none⟩) 0 0) 0 [] := World.ownsRow_lit _ _ 0 hsz1 (by decide) rfl
  have hb2 := HB1.out.alloc hsz1 (.cells #[] 3)
  obtain ⟨g0, hg0⟩ : ∃ g0, g0 = w1.heap.size := ⟨_, rfl⟩
  rw [← hg0] at hown0 ⊢
  generalize w1.alloc (.cells #[] 3) = w2 at hown0 hb2 ⊢
  have HO := hide hown0
  have HB := hide hb2
  clear hown0 hb2 hg0 HB1 hsz1
  go_loopw [4, 5, 6] (fun v s i wr => ∃ k : Nat, ∃ L : List Nat, k ≤ 2 ∧ i = .int .i64 k ∧ L = q8.take (4 * k) ∧ s = .int .i64 (L.sum : Nat) ∧ wr.ownsRow w.heap.size 3 1 v (ints L).length (cellsI (ints L)) ∧ Below w.heap.size w wr) (fun _ _ i _ => 2 - (intOf i).toNat)
  case atStart => exact ⟨0, [], by omega, rfl, rfl, rfl, HO.out, HB.out⟩
  case round =>
    clear HO HB
    obtain ⟨k, L, hk, rfl, hL, rfl, hown, hb⟩ := hrel
    have HO := hide hown
    have HB := hide hb
    have HL := hide hL
    clear hown hb hL
    by_cases hlt : k < 2
    · have hd14 : decide ((k : Int) < 2) = true := by simp; omega
      go_wp2_with fail
      clear hd14
      go_loopw [4, 5, 7] (fun v s i wr => ∃ j : Nat, ∃ L : List Nat, j ≤ 4 ∧ i = .int .i64 (6 - 2 * (j : Int)) ∧ L = q8.take (4 * k + j) ∧ s = .int .i64 (L.sum : Nat) ∧ wr.ownsRow w.heap.size 3 1 v (ints L).length (cellsI (ints L)) ∧ Below w.heap.size w wr) (fun _ _ i _ => (intOf i + 2).toNat)
      case atStart => exact ⟨0, L, by omega, rfl, HL.out, rfl, HO.out, HB.out⟩
      case round =>
        clear HO HB HL
        obtain ⟨j, L, hj, rfl, hL, rfl, hown, hb⟩ := hrel
        have HO := hide hown
        have HB := hide hb
        have HL := hide hL
        clear hown hb hL
        by_cases hlj : j < 4
        · have hix := index_byte d (k : Int) k rfl (by rw [hdl]; omega)
          have hqa := HQA.out k j hlt hlj
          have hlim : 4 * k + j < q8.length := by omega
          have HN := hide (take_next q8 (4 * k + j) hlim)
          rw [← HL.out, hqa] at HN
          have hsl : L.sum ≤ 24 := by
            have : q8.sum = (q8.take (4 * k + j)).sum + (q8.drop (4 * k + j)).sum := by rw [← List.sum_append, List.take_append_drop]
            have := HS24.out
            rw [HL.out]
            omega
          have hll : L.length ≤ 8 := by rw [HL.out, List.length_take]; omega
          have hx := (d.getD k 0).toNat_lt
          generalize (d.getD k 0).toNat = x at hix hqa HN hx
          clear hqa
          have HSN := hide (fun (y : Nat) => (show (L ++ [y]).sum = L.sum + y by simp))
          have HLN := hide (fun (y : Nat) => ints_snoc L y)
          have hLl := ints_length L
          have HLl := hide hLl
          generalize hS : L.sum = S at *
          clear hS hLl
          have hcase : j = 0 ∨ j = 1 ∨ j = 2 ∨ j = 3 := by omega
          rcases hcase with rfl | rfl | rfl | rfl
          · have hbit : bits .and .i64 ((x : Int) / 64) 3 = ((x / 64 % 4 : Nat) : Int) := by rw [and3]; omega
            obtain ⟨y, hy⟩ : ∃ y, y = x / 64 % 4 := ⟨_, rfl⟩
            have hy4 : y < 4 := by omega
            rw [← hy] at hbit
            have HN2 : Hid (q8.take (4 * k + 0 + 1) = L ++ [y]) := by
              show _ = _
              rw [hy]
              simpa using HN.out
            clear HN hy
            go_wp2_with (at_builtin; refine wpList_append_one (cs := #[.int .i64 _]) HB.out (Nat.le_refl _) rfl (.tmp 29) (.tmp 31) 24 rfl 3 i0 (.int .i64 0) 1 8 Tryd.underlying24 hi hz0 hz1 hz2 rfl (by decide) rfl (by simp [Value.oneCell']) _ _ _ rfl HO.out 1 rfl (by have := HLl.out; omega) (by have := HLl.out; omega) ?_)
            intro v' w3 hown3 hb3
            have hown4 := own_snocI hown3
            rw [HLN.out y] at hown4
            have HO4 := hide hown4
            have HB4 := hide hb3
            clear hown3 hown4 hb3
            go_wp2_with fail
            go_roundw
            case rel => exact ⟨0 + 1, L ++ [y], by omega, by go_num, HN2.out.symm, by rw [HSN.out y]; go_num, HO4.out, HB4.out⟩
            case measure => simp [intOf]
          · have hbit : bits .and .i64 ((x : Int) / 16) 3 = ((x / 16 % 4 : Nat) : Int) := by rw [and3]; omega
            obtain ⟨y, hy⟩ : ∃ y, y = x / 16 % 4 := ⟨_, rfl⟩
            have hy4 : y < 4 := by omega
            rw [← hy] at hbit
            have HN2 : Hid (q8.take (4 * k + 1 + 1) = L ++ [y]) := by
              show _ = _
              rw [hy]
              simpa using HN.out
            clear HN hy
            go_wp2_with (at_builtin; refine wpList_append_one (cs := #[.int .i64 _]) HB.out (Nat.le_refl _) rfl (.tmp 29) (.tmp 31) 24 rfl 3 i0 (.int .i64 0) 1 8 Tryd.underlying24 hi hz0 hz1 hz2 rfl (by decide) rfl (by simp [Value.oneCell']) _ _ _ rfl HO.out 1 rfl (by have := HLl.out; omega) (by have := HLl.out; omega) ?_)
            intro v' w3 hown3 hb3
            have hown4 := own_snocI hown3
            rw [HLN.out y] at hown4
            have HO4 := hide hown4
            have HB4 := hide hb3
            clear hown3 hown4 hb3
            go_wp2_with fail
            go_roundw
            case rel => exact ⟨1 + 1, L ++ [y], by omega, by go_num, HN2.out.symm, by rw [HSN.out y]; go_num, HO4.out, HB4.out⟩
            case measure => simp [intOf]
          · have hbit : bits .and .i64 ((x : Int) / 4) 3 = ((x / 4 % 4 : Nat) : Int) := by rw [and3]; omega
            obtain ⟨y, hy⟩ : ∃ y, y = x / 4 % 4 := ⟨_, rfl⟩
            have hy4 : y < 4 := by omega
            rw [← hy] at hbit
            have HN2 : Hid (q8.take (4 * k + 2 + 1) = L ++ [y]) := by
              show _ = _
              rw [hy]
              simpa using HN.out
            clear HN hy
            go_wp2_with (at_builtin; refine wpList_append_one (cs := #[.int .i64 _]) HB.out (Nat.le_refl _) rfl (.tmp 29) (.tmp 31) 24 rfl 3 i0 (.int .i64 0) 1 8 Tryd.underlying24 hi hz0 hz1 hz2 rfl (by decide) rfl (by simp [Value.oneCell']) _ _ _ rfl HO.out 1 rfl (by have := HLl.out; omega) (by have := HLl.out; omega) ?_)
            intro v' w3 hown3 hb3
            have hown4 := own_snocI hown3
            rw [HLN.out y] at hown4
            have HO4 := hide hown4
            have HB4 := hide hb3
            clear hown3 hown4 hb3
            go_wp2_with fail
            go_roundw
            case rel => exact ⟨2 + 1, L ++ [y], by omega, by go_num, HN2.out.symm, by rw [HSN.out y]; go_num, HO4.out, HB4.out⟩
            case measure => simp [intOf]
          · have hbit : bits .and .i64 ((x : Int)) 3 = ((x % 4 : Nat) : Int) := by rw [and3]; omega
            obtain ⟨y, hy⟩ : ∃ y, y = x % 4 := ⟨_, rfl⟩
            have hy4 : y < 4 := by omega
            rw [← hy] at hbit
            have HN2 : Hid (q8.take (4 * k + 3 + 1) = L ++ [y]) := by
              show _ = _
              rw [hy]
              simpa using HN.out
            clear HN hy
            go_wp2_with (at_builtin; refine wpList_append_one (cs := #[.int .i64 _]) HB.out (Nat.le_refl _) rfl (.tmp 29) (.tmp 31) 24 rfl 3 i0 (.int .i64 0) 1 8 Tryd.underlying24 hi hz0 hz1 hz2 rfl (by decide) rfl (by simp [Value.oneCell']) _ _ _ rfl HO.out 1 rfl (by have := HLl.out; omega) (by have := HLl.out; omega) ?_)
            intro v' w3 hown3 hb3
            have hown4 := own_snocI hown3
            rw [HLN.out y] at hown4
            have HO4 := hide hown4
            have HB4 := hide hb3
            clear hown3 hown4 hb3
            go_wp2_with fail
            go_roundw
            case rel => exact ⟨3 + 1, L ++ [y], by omega, by go_num, HN2.out.symm, by rw [HSN.out y]; go_num, HO4.out, HB4.out⟩
            case measure => simp [intOf]
        · have hj4 : j = 4 := by omega
          subst hj4
          go_wp2_with fail
          go_roundw
          case rel => exact ⟨k + 1, L, by omega, by go_num, by rw [HL.out]; rfl, rfl, HO.out, HB.out⟩
          case measure => simp [intOf]; omega
    · have hk2 : k = 2 := by omega
      have hLq : L = q8 := by rw [HL.out, hk2]; exact List.take_of_length_le (by omega)
      subst hLq
      have hs24 := HS24.out
      have hl8 : (ints L).length = 8 := by rw [ints_length, h8]
      rw [hl8] at HO
      have HO8 := hide HO.out
      have hm : (24 - (L.sum : Int)) = (ms : Int) := by rw [HSM.out]; omega
      have HQF : Hid (qs = ints L ++ [((ms / 16 : Nat) : Int), ((ms / 4 % 4 : Nat) : Int), ((ms % 4 : Nat) : Int)]) := by
        show qs = _
        rw [HQ.out]
        simp [ints]
      clear HL HO hk2 HSM HQ
      generalize hS : L.sum = S at *
      clear hS
      go_wp2_with (at_builtin; refine wpList_append_many (cs := #[.int .i64 _, .int .i64 _, .int .i64 _]) HB.out (Nat.le_refl _) rfl (.tmp 38) (.tmp 46) 24 rfl 3 i0 (.int .i64 0) 8 Tryd.underlying24 hi hz0 hz1 hz2 rfl 3 rfl (by simp [Value.oneCell']) _ 8 _ rfl HO8.out 3 rfl (by omega) (by omega) ?_)
      intro v' w3 hown3 hb3
      have he : cellsI qs = cellsI (ints L) ++ [.int .i64 ((ms : Int) / 16), .int .i64 ((ms : Int) / 4 % 4), .int .i64 ((ms : Int) % 4)] := by rw [HQF.out]; simp [cellsI]
      have hown4 : w3.ownsRow w.heap.size 3 1 v' 11 (cellsI qs) := by rw [he]; exact hown3
      have HO3 := hide hown4
      have HB3 := hide hb3
      clear hown3 hown4 hb3 he
      go_wp2_with fail
      go_ret
      exact ⟨_, rfl, HO3.out, HB3.out⟩
end Go.Proofs.YtmjpdccfdaajmaaDoor.P4
namespace Go.Proofs.YtmjpdccfdaajmaaDoor.P4
set_option maxRecDepth 8000
open Go.RowKit P1 P3

/-- Two by two. -/
def pairs : List (List UInt8) → List (List UInt8)
  | a :: b :: r => node a b :: pairs r
  | _ => []

/-- The rows of the tree, from below. -/
def lev (seed : Int) : Nat → List (List UInt8)
  | 0 => lev0 seed
  | s + 1 => pairs (lev seed s)

def levLen (s : Nat) : Nat := if s = 0 then 4 else if s = 1 then 2 else 1

theorem lev_length (seed : Int) (s : Nat) (hs : s ≤ 2) : (lev seed s).length = levLen s := by
  match s, hs with
  | 0, _ => rfl
  | 1, _ => rfl
  | 2, _ => rfl

theorem lev_eight (seed : Int) (s : Nat) (hs : s ≤ 2) : ∀ x ∈ lev seed s, x.length = 8 := by
  match s, hs with
  | 0, _ => intro x hx; simp [lev, lev0] at hx; rcases hx with rfl | rfl | rfl | rfl <;> exact leafKey_length _ _
  | 1, _ => intro x hx; simp [lev, lev0, pairs] at hx; rcases hx with rfl | rfl <;> exact node_length _ _
  | 2, _ => intro x hx; simp [lev, lev0, pairs] at hx; rw [hx]; exact node_length _ _

theorem lev_next (seed : Int) (s j : Nat) (hs : s < 2) (hj : 2 * j + 1 < levLen s) :
    (lev seed (s + 1)).take (j + 1) = (lev seed (s + 1)).take j ++ [node ((lev seed s).getD (2 * j) []) ((lev seed s).getD (2 * j + 1) [])] := by
  have hs' : s = 0 ∨ s = 1 := by omega
  rcases hs' with rfl | rfl
  · have hj' : j = 0 ∨ j = 1 := by simp [levLen] at hj; omega
    rcases hj' with rfl | rfl <;> rfl
  · have hj' : j = 0 := by simp [levLen] at hj; omega
    subst hj'
    rfl

theorem lev0_next (seed : Int) (k : Nat) (hk : k < 4) : (lev0 seed).take (k + 1) = (lev0 seed).take k ++ [leafKey seed k] := by
  have hk' : k = 0 ∨ k = 1 ∨ k = 2 ∨ k = 3 := by omega
  rcases hk' with rfl | rfl | rfl | rfl <;> rfl

def slLen : Value → Nat | .slice _ n _ => n | _ => 0

/-- What the rows' slice reads as: the slices of its rows, and these as texts. -/
def RowsAt (w : World) (v : Value) (seed : Int) : Prop :=
  ∃ v0 v1 v2 g cap, v = .slice (some ⟨g, 0, none⟩) 3 cap ∧ w.cell? ⟨g, 0, none⟩ = some v0 ∧ w.cell? ⟨g, 1, none⟩ = some v1 ∧ w.cell? ⟨g, 2, none⟩ = some v2 ∧ TextsAt w v0 (lev seed 0) ∧ TextsAt w v1 (lev seed 1) ∧ TextsAt w v2 (lev seed 2)

/-- v is a slice in block g that reads as the texts l. -/
def TextsG (w : World) (v : Value) (l : List (List UInt8)) (g : Nat) : Prop :=
  ∃ cap, v = .slice (some ⟨g, 0, none⟩) l.length cap ∧ g < w.heap.size ∧ ∀ j (hj : j < l.length), w.cell? ⟨g, j, none⟩ = some (.string ⟨(l[j]).toArray⟩)

theorem TextsG.grown {w w' : World} {v : Value} {l : List (List UInt8)} {g : Nat} {r : Option Nat} (h : TextsG w v l g) (hg : w.grownBy w' r) (hne : r ≠ some g) : TextsG w' v l g := by
  obtain ⟨cap, h1, h2, h3⟩ := h
  have hb : w'.heap[g]? = w.heap[g]? := hg.block g h2 (fun e => hne e.symm)
  exact ⟨cap, h1, Nat.lt_of_lt_of_le h2 hg.size, fun j hj => by rw [World.cell?_of_block (w := w) hb]; exact h3 j hj⟩

theorem TextsG.below {w w' : World} {v : Value} {l : List (List UInt8)} {g : Nat} (h : TextsG w v l g) (hb : Below w.heap.size w w') : TextsG w' v l g :=
  h.grown (r := none) ⟨hb.os, hb.tape, hb.output, hb.size, fun k hk _ => hb.block k hk⟩ (fun e => by cases e)

theorem TextsG.at_ {w : World} {v : Value} {l : List (List UInt8)} {g : Nat} (h : TextsG w v l g) : TextsAt w v l := by
  obtain ⟨cap, h1, h2, h3⟩ := h
  exact ⟨_, cap, h1, fun j hj => ⟨g, 0, rfl, h2, by rw [Nat.zero_add]; exact h3 j hj⟩⟩

theorem TextsG.of_own {B : Nat} {w : World} {e : TypeId} {v : Value} {l : List (List UInt8)} (h : w.ownsRow B e 1 v l.length (cellsS l)) (hl : 0 < l.length) : ∃ g, B ≤ g ∧ TextsG w v l g ∧ v.ownBlock = some g := by
  have h0 := h
  rcases h.2 with ⟨rfl, hn⟩ | ⟨g, cap, cur, rfl, h1, h2, -, -, -, -⟩
  · omega
  · exact ⟨g, h1, ⟨cap, rfl, (Array.getElem?_eq_some_iff.1 h2).1, fun j hj => by rw [h0.cellAt j (by omega)]; simp [cellsS, hj]⟩, rfl⟩

/-- The rows made so far, and the slice that holds them. -/
structure RM (w : World) (seed : Int) (s : Nat) (B : Nat) (out : Value) (vs : List Value) (gs : List Nat) : Prop where
  le : s ≤ 2
  lv : vs.length = s + 1
  lg : gs.length = s + 1
  txt : ∀ i (h1 : i < vs.length) (h2 : i < gs.length), TextsG w vs[i] (lev seed i) gs[i]
  own : w.ownsRow B 27 1 out (s + 1) vs

theorem RM.below {w w' : World} {seed : Int} {s B : Nat} {out : Value} {vs : List Value} {gs : List Nat} (m : RM w seed s B out vs gs) (hb : Below w.heap.size w w') : RM w' seed s B out vs gs :=
  { m with txt := fun i h1 h2 => (m.txt i h1 h2).below hb, own := own_below m.own hb }

theorem own_belowB {a b : World} {B B1 : Nat} {e : TypeId} {v : Value} {n : Nat} {xs : List Value} (h : a.ownsRow B e 1 v n xs) (hb : Below B1 a b) (hv : ∀ g, v.ownBlock = some g → g < B1) : b.ownsRow B e 1 v n xs := by
  rcases h.2 with ⟨rfl, h0⟩ | ⟨g, cap, cur, rfl, h1, h2, h3⟩
  · exact ⟨h.1, .inl ⟨rfl, h0⟩⟩
  · exact ⟨h.1, .inr ⟨g, cap, cur, rfl, h1, (hb.block g (hv g rfl)).trans h2, h3⟩⟩

theorem RM.belowB {w w' : World} {seed : Int} {s B B1 : Nat} {out : Value} {vs : List Value} {gs : List Nat} (m : RM w seed s B out vs gs) (hb : Below B1 w w') (hg : ∀ i (h : i < gs.length), gs[i] < B1) (hv : ∀ g, out.ownBlock = some g → g < B1) : RM w' seed s B out vs gs :=
  { m with
    txt := fun i h1 h2 => by
      obtain ⟨cap, e1, e2, e3⟩ := m.txt i h1 h2
      have hbl := hb.block gs[i] (hg i h2)
      exact ⟨cap, e1, Nat.lt_of_lt_of_le e2 hb.size, fun j hj => by rw [World.cell?_of_block (w := w) hbl]; exact e3 j hj⟩
    own := own_belowB m.own hb hv }

theorem RM.lt {w : World} {seed : Int} {s B : Nat} {out : Value} {vs : List Value} {gs : List Nat} (m : RM w seed s B out vs gs) : (∀ i (h : i < gs.length), gs[i] < w.heap.size) ∧ ∀ g, out.ownBlock = some g → g < w.heap.size := by
  refine ⟨fun i h => ?_, fun g hg => (m.own.lt g hg).2⟩
  have hv := m.lv
  have hgl := m.lg
  obtain ⟨_, _, h2, _⟩ := m.txt i (by omega) h
  exact h2

theorem lev_pos (seed : Int) (s : Nat) (hs : s ≤ 2) : 0 < (lev seed s).length := by
  rw [lev_length seed s hs]
  unfold levLen
  split
  · omega
  · split <;> omega

/-- The slice of rows lies in no row's block. -/
theorem RM.apart {w : World} {seed : Int} {s B : Nat} {out : Value} {vs : List Value} {gs : List Nat} (m : RM w seed s B out vs gs) (i : Nat) (h : i < gs.length) : out.ownBlock ≠ some gs[i] := by
  intro e
  have hle := m.le
  have hlv := m.lv
  have hlg := m.lg
  have hown := m.own
  rcases hown.2 with ⟨_, h0⟩ | ⟨g, cap, cur, rfl, h1, h2, -, -, -, -⟩
  · omega
  · have eg : g = gs[i] := by simpa [Value.ownBlock] using e
    have c1 := hown.cellAt 0 (by omega)
    obtain ⟨cp, e1, _, _⟩ := m.txt 0 (by omega) (by omega)
    rw [List.getElem?_eq_getElem (by omega), e1] at c1
    obtain ⟨_, _, _, e3⟩ := m.txt i (by omega) h
    have c2 := e3 0 (lev_pos seed i (by omega))
    rw [← eg, c1] at c2
    cases c2

theorem levLen_cases (s : Nat) (hs : s < 2) : (levLen s = 4 ∧ s = 0) ∨ (levLen s = 2 ∧ s = 1) := by
  have : s = 0 ∨ s = 1 := by omega
  rcases this with rfl | rfl
  · exact .inl ⟨rfl, rfl⟩
  · exact .inr ⟨rfl, rfl⟩

set_option maxHeartbeats 2000000 in
theorem rows_calls (seed : Int) (w : World) :
    Calls Tryd.prog 64 #[.int .i64 seed] w fun e w' => ∃ v, e = .returned v ∧ RowsAt w' v seed ∧ Below w.heap.size w w' := by
  obtain ⟨i0, hi, hz0, hz1, hz2⟩ := info_parts info_str
  obtain ⟨i1, hi1, hy0, hy1, hy2⟩ := info_parts info_strs
  go_enter Tryd.func64, Tryd.ntmps64
  go_wp2_with fail
  have hown0 : (w.alloc (.cells #[] 9)).ownsRow w.heap.size 9 1 (.slice (some ⟨w.heap.size, 0, none⟩) 0 0) 0 [] := World.ownsRow_lit _ _ 0 (Nat.le_refl _) (by decide) rfl
  have hb0 : Below w.heap.size w (w.alloc (.cells #[] 9)) := (Below.refl _ _).alloc (Nat.le_refl _) _
  obtain ⟨g0, hg0⟩ : ∃ g0, g0 = w.heap.size := ⟨_, rfl⟩
  rw [← hg0]
  have HO : Hid ((w.alloc (.cells #[] 9)).ownsRow w.heap.size 9 1 (.slice (some ⟨g0, 0, none⟩) 0 0) 0 []) := by rw [hg0]; exact hown0
  have HB := hide hb0
  clear hown0 hb0 hg0
  generalize w.alloc (.cells #[] 9) = w0 at HO HB ⊢
  go_loopw [3, 4] (fun v i wr => ∃ k : Nat, ∃ L : List (List UInt8), k ≤ 4 ∧ i = .int .i64 k ∧ L = (lev0 seed).take k ∧ wr.ownsRow w.heap.size 9 1 v L.length (cellsS L) ∧ Below w.heap.size w wr) (fun _ i _ => 4 - (intOf i).toNat)
  case atStart => exact ⟨0, [], by omega, rfl, rfl, HO.out, HB.out⟩
  case round =>
    clear HO HB
    obtain ⟨k, L, hk, rfl, hL, hown, hb⟩ := hrel
    have HO := hide hown
    have HB := hide hb
    have HL := hide hL
    have hll : L.length ≤ 4 := by rw [hL, List.length_take]; omega
    have HLL := hide hll
    clear hown hb hL hll
    by_cases hlt : k < 4
    · have HN := hide (lev0_next seed k hlt)
      rw [← HL.out] at HN
      have HK := hide (fun wx => specLeafKey_calls seed k wx)
      obtain ⟨z, Ez⟩ : ∃ z, Hid (z = leafKey seed k) := ⟨_, rfl⟩
      rw [← Ez.out] at HN
      simp only [← Ez.out] at HK
      clear Ez
      go_wp2_with fail
      refine (HK.out _).mono ?_
      rintro e w1 ⟨rfl, hb1⟩
      have HO1 := hide (own_below HO.out hb1)
      have HB1 := hide (HB.out.trans (hb1.mono HB.out.size))
      clear hb1 HO HB
      go_wp2_with (at_builtin; refine wpList_append_one (cs := #[.string ⟨z.toArray⟩]) HB1.out (Nat.le_refl _) rfl (.tmp 13) (.tmp 17) 27 rfl 9 i0 (.string ⟨#[]⟩) 1 16 Tryd.underlying27 hi hz0 hz1 hz2 rfl (by decide) rfl (by simp [Value.oneCell']) _ _ _ rfl HO1.out 1 rfl (by have := HLL.out; omega) (by have := HLL.out; omega) ?_)
      intro v' w2 hown2 hb2
      have HO2 := hide (own_snocS hown2)
      have HB2 := hide hb2
      clear hown2 hb2
      go_wp2_with fail
      go_roundw
      case rel => exact ⟨k + 1, L ++ [z], by omega, by go_num, HN.out.symm, HO2.out, HB2.out⟩
      case measure => simp [intOf]; omega
    · have hk4 : k = 4 := by omega
      have hLe : L = lev0 seed := by rw [HL.out, hk4]; rfl
      subst hLe
      have hd4 : decide ((k : Int) < 4) = false := by simp; omega
      clear HL HLL hk4
      obtain ⟨g1, hg1, htx, hob⟩ := TextsG.of_own HO.out (by show 0 < 4; omega)
      have HBw := hide HB.out
      have HTX := hide htx
      obtain ⟨cap1, hu3, -, -⟩ := htx
      have hlw : g1 < wr.heap.size := by obtain ⟨_, _, h, _⟩ := HTX.out; exact h
      clear HO HB hob
      subst hu3
      have hl4 : (lev0 seed).length = 4 := rfl
      rw [hl4] at HTX ⊢
      go_wp2_with fail
      have hown0 : (wr.alloc (.cells #[.slice (some ⟨g1, 0, none⟩) 4 cap1] 27)).ownsRow wr.heap.size 27 1 (.slice (some ⟨wr.heap.size, 0, none⟩) 1 1) 1 [.slice (some ⟨g1, 0, none⟩) 4 cap1] := World.ownsRow_lit _ _ 1 (Nat.le_refl _) (by decide) rfl
      have hbA : Below wr.heap.size wr (wr.alloc (.cells #[.slice (some ⟨g1, 0, none⟩) 4 cap1] 27)) := (Below.refl _ _).alloc (Nat.le_refl _) _
      have hrm : RM (wr.alloc (.cells #[.slice (some ⟨g1, 0, none⟩) 4 cap1] 27)) seed 0 wr.heap.size (.slice (some ⟨wr.heap.size, 0, none⟩) 1 1) [.slice (some ⟨g1, 0, none⟩) 4 cap1] [g1] := by
        refine ⟨by omega, rfl, rfl, fun i h1 h2 => ?_, hown0⟩
        obtain rfl : i = 0 := by simp at h1; omega
        exact HTX.out.below hbA
      have HRM := hide hrm
      have HBA := hide hbA
      clear hown0 hbA hrm HTX
      obtain ⟨BW, hBW⟩ : ∃ BW, BW = wr.heap.size := ⟨_, rfl⟩
      rw [← hBW] at HRM HBA hlw ⊢
      generalize wr.alloc (.cells #[.slice (some ⟨g1, 0, none⟩) 4 cap1] 27) = w1 at HRM HBA ⊢
      clear hd4 hlt hk
      have HB1 := hide (HBw.out.trans (HBA.out.mono (by have := HBw.out.size; omega)))
      have hBWw : w.heap.size ≤ BW := by have := HBw.out.size; omega
      clear HBA HBw hBW
      go_loopw [3, 5] (fun row out wx => ∃ (s : Nat) (vs : List Value) (gs : List Nat), row = vs.getD s undef ∧ RM wx seed s BW out vs gs ∧ Below w.heap.size w wx) (fun row _ _ => slLen row)
      case atStart => exact ⟨0, _, _, rfl, HRM.out, HB1.out⟩
      case round =>
        clear HRM HB1
        obtain ⟨s, vs, gs, hrow, hm, hb⟩ := hrel
        have hs2 := hm.le
        have hvl := hm.lv
        have hgl := hm.lg
        have hvs : vs.getD s undef = vs[s] := by simp [List.getD_eq_getElem?_getD, show s < vs.length by omega]
        have htx := hm.txt s (by omega) (by omega)
        obtain ⟨cap, hv, hglt, hcells⟩ := htx
        rw [lev_length seed s hs2] at hv
        rw [hvs, hv] at hrow
        subst hrow
        have HM := hide hm
        have HB := hide hb
        have HCL := hide hcells
        have HVL := hide hvl
        have HGL := hide hgl
        generalize gs[s] = gr at *
        clear hm hb hvs hcells hvl hgl hv
        by_cases hlt2 : s < 2
        · have hn : (levLen s = 4 ∧ s = 0) ∨ (levLen s = 2 ∧ s = 1) := levLen_cases s hlt2
          have hgt : decide (1 < ((levLen s : Nat) : Int)) = true := by simp; omega
          obtain ⟨hg1', hg2'⟩ := HM.out.lt
          have HGS := hide hg1'
          have HOB := hide hg2'
          clear hg1' hg2'
          go_wp2_with fail
          have hown0 : (wr.alloc (.cells #[] 9)).ownsRow wr.heap.size 9 1 (.slice (some ⟨wr.heap.size, 0, none⟩) 0 0) 0 [] := World.ownsRow_lit _ _ 0 (Nat.le_refl _) (by decide) rfl
          have hbA : Below wr.heap.size wr (wr.alloc (.cells #[] 9)) := (Below.refl _ _).alloc (Nat.le_refl _) _
          have HM3 := hide (HM.out.below hbA)
          have HB3 := hide (HB.out.trans (hbA.mono HB.out.size))
          have hz3 : wr.heap.size ≤ (wr.alloc (.cells #[] 9)).heap.size := hbA.size
          have hwB : w.heap.size ≤ wr.heap.size := HB.out.size
          have hBB : BW ≤ wr.heap.size ∨ True := .inr trivial
          have hcl3 : ∀ j (hj : j < (lev seed s).length), (wr.alloc (.cells #[] 9)).cell? ⟨gr, j, none⟩ = some (.string ⟨((lev seed s)[j]).toArray⟩) := fun j hj => by rw [hbA.cell (p := ⟨gr, j, none⟩) hglt]; exact HCL.out j hj
          have HCL3 := hide hcl3
          obtain ⟨B1, hB1⟩ : ∃ B1, B1 = wr.heap.size := ⟨_, rfl⟩
          rw [← hB1] at hown0 hglt hz3 hwB HGS HOB ⊢
          have HO3 := hide hown0
          clear hown0 hbA hcl3 HM HB HCL hBB hB1
          generalize wr.alloc (.cells #[] 9) = w3 at *
          go_loopw [6, 7] (fun nx i wz => ∃ (j : Nat) (L : List (List UInt8)), 2 * j ≤ levLen s ∧ i = .int .i64 (2 * (j : Int)) ∧ L = (lev seed (s + 1)).take j ∧ wz.ownsRow B1 9 1 nx L.length (cellsS L) ∧ RM wz seed s BW u5 vs gs ∧ Below w.heap.size w wz ∧ B1 ≤ wz.heap.size ∧ ∀ j (hj : j < (lev seed s).length), wz.cell? ⟨gr, j, none⟩ = some (.string ⟨((lev seed s)[j]).toArray⟩)) (fun _ i _ => levLen s - (intOf i).toNat)
          case atStart => exact ⟨0, [], by omega, rfl, rfl, HO3.out, HM3.out, HB3.out, hz3, HCL3.out⟩
          case round =>
            clear HM3 HB3 HCL3 hz3 HO3
            obtain ⟨j, L, hj, rfl, hL, hown, hm, hb, hz, hcl⟩ := hrel
            have HO := hide hown
            have HM := hide hm
            have HB := hide hb
            have HCL := hide hcl
            have HL := hide hL
            clear hown hm hb hcl hL
            by_cases hlt3 : 2 * j + 1 < levLen s
            · have hd : decide (2 * (j : Int) + 1 < ((levLen s : Nat) : Int)) = true := by simp; omega
              have HN := hide (lev_next seed s j hlt2 hlt3)
              rw [← HL.out] at HN
              have hle := lev_length seed s hs2
              have k0 : (lev seed s).getD (2 * j) [] = (lev seed s)[2 * j] := by simp [List.getD_eq_getElem?_getD, show 2 * j < (lev seed s).length by omega]
              have k1 : (lev seed s).getD (2 * j + 1) [] = (lev seed s)[2 * j + 1] := by simp [List.getD_eq_getElem?_getD, show 2 * j + 1 < (lev seed s).length by omega]
              have c0 := HCL.out (2 * j) (by omega)
              have c1 := HCL.out (2 * j + 1) (by omega)
              have l0 := lev_eight seed s hs2 _ (List.getElem_mem (show 2 * j < (lev seed s).length by omega))
              have l1 := lev_eight seed s hs2 _ (List.getElem_mem (show 2 * j + 1 < (lev seed s).length by omega))
              rw [k0, k1] at HN
              generalize (lev seed s)[2 * j] = x0 at *
              generalize (lev seed s)[2 * j + 1] = x1 at *
              have hll : L.length ≤ 4 := by rw [HL.out, List.length_take]; omega
              have HLL := hide hll
              have HCT := hide (fun wx => cut_calls (110 :: (x0 ++ x1)) (by simp; omega) wx)
              have e1 : (⟨#[110]⟩ : ByteArray) ++ ⟨x0.toArray⟩ = ⟨(110 :: x0).toArray⟩ := ByteArray.mk_append_mk [110] x0
              have e2 : (⟨(110 :: x0).toArray⟩ : ByteArray) ++ ⟨x1.toArray⟩ = ⟨(110 :: (x0 ++ x1)).toArray⟩ := by rw [ByteArray.mk_append_mk]; simp
              have s1 : (110 :: x0).length = 9 := by simp [l0]
              have s2 : (110 :: (x0 ++ x1)).length = 17 := by simp [l0, l1]
              have HNC : Hid (node x0 x1 = cut8 (110 :: (x0 ++ x1))) := rfl
              rw [← HNC.out] at HCT
              generalize node x0 x1 = nd at *
              generalize 110 :: (x0 ++ x1) = t2 at *
              generalize 110 :: x0 = t1 at *
              clear k0 k1 hll HNC HL
              go_wp2_with fail
              refine wp_region_open (fun wd => Below wr.heap.size wr wd) ((Below.refl _ _).drew) (by kernel_rfl) ?_
              intro wd hbd
              have grl : gr < wr.heap.size := by omega
              have c0' : wd.cell? ⟨gr, 2 * j, none⟩ = some (.string ⟨x0.toArray⟩) := by rw [hbd.cell (p := ⟨gr, 2 * j, none⟩) grl]; exact c0
              have c1' : wd.cell? ⟨gr, 2 * j + 1, none⟩ = some (.string ⟨x1.toArray⟩) := by rw [hbd.cell (p := ⟨gr, 2 * j + 1, none⟩) grl]; exact c1
              have HBD := hide hbd
              clear hbd c0 c1
              refine wpAny_seg_lit 0 1 15 rfl (by decide) (by kernel_rfl) (by kernel_rfl) (fun _ _ _ _ _ h => h) ?_
              simp only [List.take_succ_cons, List.take_zero, List.drop_zero]
              repeat (go_big_quiet_step (fail))
              refine wpQuiet_nil ?_
              refine wpAny_cut 1 12 6 (fun w' => w' = wd) rfl (by decide) rfl (by kernel_rfl) (by kernel_rfl) (by kernel_rfl) (by kernel_rfl) ?_
              simp only [List.take_succ_cons, List.take_zero, List.drop_succ_cons, List.drop_zero]
              repeat (go_big_quiet_step (fail))
              refine wpQuiet_nil ?_
              rintro wd' rfl
              refine wpAny_rest 12 rfl (by kernel_rfl) ?_
              simp only [List.drop_succ_cons, List.drop_zero]
              go_wp2_with fail
              refine (HCT.out _).mono ?_
              rintro e w5 ⟨rfl, hb5⟩
              have hbt := HBD.out.trans (hb5.mono HBD.out.size)
              have HBT := hide hbt
              have hz5 : B1 ≤ w5.heap.size := Nat.le_trans hz hbt.size
              have HO5 := hide (own_below HO.out hbt)
              clear hb5 hbt HBD c0' c1'
              go_wp2_with (at_builtin; refine wpList_append_one (cs := #[.string ⟨nd.toArray⟩]) (Below.refl B1 _) hz5 rfl (.tmp 32) (.tmp 45) 27 rfl 9 i0 (.string ⟨#[]⟩) 1 16 Tryd.underlying27 hi hz0 hz1 hz2 rfl (by decide) rfl (by simp [Value.oneCell']) _ _ _ rfl HO5.out 1 rfl (by have := HLL.out; omega) (by have := HLL.out; omega) ?_)
              intro v' w6 hown6 hb6
              have HO6 := hide (own_snocS hown6)
              have HM6 := hide ((HM.out.below HBT.out).belowB hb6 HGS.out HOB.out)
              have hbw := HB.out.trans (HBT.out.mono HB.out.size)
              have HB6 := hide (hbw.trans (hb6.mono hwB))
              have hz6 : B1 ≤ w6.heap.size := Nat.le_trans hz5 hb6.size
              have hcl6 : ∀ j (hj : j < (lev seed s).length), w6.cell? ⟨gr, j, none⟩ = some (.string ⟨((lev seed s)[j]).toArray⟩) := fun j hj => by rw [hb6.cell (p := ⟨gr, j, none⟩) hglt, HBT.out.cell (p := ⟨gr, j, none⟩) grl]; exact HCL.out j hj
              have HCL6 := hide hcl6
              clear hown6 hb6 hbw hcl6 HBT HO5 HM HB HCL HO
              go_wp2_with fail
              go_roundw
              case rel => exact ⟨j + 1, L ++ [nd], by omega, by go_num, HN.out.symm, HO6.out, HM6.out, HB6.out, hz6, HCL6.out⟩
              case measure => simp [intOf]; omega
            · have hd : decide (2 * (j : Int) + 1 < ((levLen s : Nat) : Int)) = false := by simp; omega
              have hle1 := lev_length seed (s + 1) (by omega)
              have hj2 : levLen (s + 1) = j := by
                rcases hn with ⟨h4, rfl⟩ | ⟨h4, rfl⟩
                · show 2 = j; omega
                · show 1 = j; omega
              have hLe : L = lev seed (s + 1) := by rw [HL.out]; exact List.take_of_length_le (by omega)
              have hpos := lev_pos seed (s + 1) (by omega)
              rw [hLe] at HO
              obtain ⟨gn, hgn, htn, hobn⟩ := TextsG.of_own HO.out hpos
              have HTN := hide htn
              obtain ⟨cn, hnx, hgnl, -⟩ := htn
              rw [hle1] at hnx
              subst hnx
              have HJ2 := hide hj2
              clear HO HL hLe hobn hj2 hle1
              have hbA : Below wr.heap.size wr (wr.alloc (.cells #[.slice (some ⟨gn, 0, none⟩) (levLen (s + 1)) cn] 27)) := (Below.refl _ _).alloc (Nat.le_refl _) _
              have HMA := hide (HM.out.below hbA)
              have HTA := hide (HTN.out.below hbA)
              have HBA := hide (HB.out.trans (hbA.mono HB.out.size))
              have hBWr : BW ≤ wr.heap.size := by
                rcases HM.out.own.2 with ⟨_, h0⟩ | ⟨g, _, _, _, h1, h2, -⟩
                · omega
                · exact Nat.le_trans h1 (Nat.le_of_lt (Array.getElem?_eq_some_iff.1 h2).1)
              have hnw : ∀ j u, [Value.slice (some ⟨gn, 0, none⟩) (levLen (s + 1)) cn][j]? = some u → (wr.alloc (.cells #[.slice (some ⟨gn, 0, none⟩) (levLen (s + 1)) cn] 27)).cell? ((⟨wr.heap.size, 0, none⟩ : Addr).add j) = some u := by
                intro j u hju
                match j, hju with
                | 0, hju => simp at hju; subst hju; simp [Addr.add]
              have HNW := hide hnw
              have HOA := hide HMA.out.own
              clear hbA hnw HM HB HTN
              go_wp2_with (at_builtin; refine wpList_append_own _ rfl (.tmp 47) (.tmp 49) 79 rfl BW 27 i1 (.slice none 0 0) 1 24 Tryd.underlying79 hi1 hy0 hy1 hy2 rfl (by decide) _ (s + 1) vs rfl HOA.out ⟨wr.heap.size, 0, none⟩ 1 1 [.slice (some ⟨gn, 0, none⟩) (levLen (s + 1)) cn] rfl rfl HNW.out (by simp [Value.oneCell']) (by unfold maxLen; omega) (by omega) (by simp; omega) ?_)
              intro v' w6 hown6 hgr6 _
              have hrm : RM w6 seed (s + 1) BW v' (vs ++ [.slice (some ⟨gn, 0, none⟩) (levLen (s + 1)) cn]) (gs ++ [gn]) := by
                refine ⟨by omega, by rw [List.length_append, HVL.out]; rfl, by rw [List.length_append, HGL.out]; rfl, fun i h1 h2 => ?_, hown6⟩
                have hvl := HVL.out
                have hgl := HGL.out
                by_cases hi : i < s + 1
                · rw [List.getElem_append_left (by omega), List.getElem_append_left (by omega)]
                  exact (HMA.out.txt i (by omega) (by omega)).grown hgr6 (HMA.out.apart i (by omega))
                · have hi2 : i = s + 1 := by rw [List.length_append, HVL.out] at h1; simp at h1; omega
                  subst hi2
                  rw [List.getElem_append_right (by omega), List.getElem_append_right (by omega)]
                  simp only [hvl, hgl, Nat.sub_self, List.getElem_cons_zero]
                  refine HTA.out.grown hgr6 (fun e => ?_)
                  have := HOB.out gn e
                  omega
              have HRM := hide hrm
              have HB6 := hide (HBA.out.grown hgr6 HBA.out.size (fun k hk => Nat.le_trans hBWw (HOA.out.lt k hk).1))
              have hslv : (vs ++ [Value.slice (some ⟨gn, 0, none⟩) (levLen (s + 1)) cn]).getD (s + 1) undef = .slice (some ⟨gn, 0, none⟩) (levLen (s + 1)) cn := by
                rw [List.getD_eq_getElem?_getD, List.getElem?_append_right (by rw [HVL.out]; omega), HVL.out, Nat.sub_self]
                rfl
              have HSL := hide hslv
              clear hown6 hgr6 hrm hslv HMA HTA HBA HNW HOA
              go_wp2_with fail
              go_roundw
              case rel => exact ⟨s + 1, _, _, HSL.out.symm, HRM.out, HB6.out⟩
              case measure => have hj3 := HJ2.out; simp [slLen]; omega
        · have hs : s = 2 := by omega
          subst hs
          have hd : decide (1 < ((levLen 2 : Nat) : Int)) = false := by decide
          have hvl := HVL.out
          have hgl := HGL.out
          obtain ⟨go, co, hgo, hgo1, hgo2, hco, hcs, -⟩ := own_at HM.out.own (by omega)
          subst hgo
          have hra : RowsAt wr (.slice (some ⟨go, 0, none⟩) 3 co) seed := by
            refine ⟨vs[0], vs[1], vs[2], go, co, rfl, ?_, ?_, ?_, (HM.out.txt 0 (by omega) (by omega)).at_, (HM.out.txt 1 (by omega) (by omega)).at_, (HM.out.txt 2 (by omega) (by omega)).at_⟩
            · rw [hcs 0 (by omega)]; exact List.getElem?_eq_getElem (by omega)
            · rw [hcs 1 (by omega)]; exact List.getElem?_eq_getElem (by omega)
            · rw [hcs 2 (by omega)]; exact List.getElem?_eq_getElem (by omega)
          have HRA := hide hra
          clear hra hcs HM HCL
          go_wp2_with fail
          go_ret
          exact ⟨_, rfl, HRA.out, HB.out⟩
end Go.Proofs.YtmjpdccfdaajmaaDoor.P4
namespace Go.Proofs.YtmjpdccfdaajmaaDoor.P4
set_option maxRecDepth 8000
open Go.RowKit P1 P3

set_option maxHeartbeats 400000 in
theorem specKey_calls (seed : Int) (w : World) :
    Calls Tryd.prog 21 #[.int .i64 seed] w fun e w' => e = .returned (.string ⟨(key seed).toArray⟩) ∧ Below w.heap.size w w' := by
  obtain ⟨ks, Ek⟩ : ∃ ks, Hid (ks = key seed) := ⟨_, rfl⟩
  rw [← Ek.out]
  go_enter Tryd.func21, Tryd.ntmps21
  go_wp2_with fail
  refine (rows_calls seed _).mono ?_
  rintro e w1 ⟨v, rfl, ⟨v0, v1, v2, g, cap, rfl, c0, c1, c2, t0, t1, t2⟩, hb⟩
  obtain ⟨a2, p2, rfl, h2⟩ := t2
  obtain ⟨g2, o2, rfl, hl2, k2⟩ := h2 0 (by show 0 < 1; omega)
  have hk : (lev seed 2)[0]'(by show 0 < 1; omega) = ks := by rw [Ek.out]; rfl
  rw [hk, Nat.add_zero] at k2
  have hl1 : (lev seed 2).length = 1 := rfl
  rw [hl1] at c2
  clear Ek hk hl1 t0 t1 h2 c0 c1
  go_wp2_with fail
  go_ret
  exact ⟨rfl, hb⟩
end Go.Proofs.YtmjpdccfdaajmaaDoor.P4
namespace Go.Proofs.YtmjpdccfdaajmaaDoor.P4
set_option maxRecDepth 8000
open Go.RowKit P1 P3

set_option maxHeartbeats 400000 in
theorem steps_calls (w : World) : Calls Tryd.prog 89 #[] w fun e w' => e = .returned (.int .i64 2) ∧ w' = w := by
  go_enter Tryd.func89, Tryd.ntmps89
  go_wp2_with fail
  go_loop [1, 2] (fun n k => (n = .int .i64 0 ∧ k = .int .i64 4) ∨ (n = .int .i64 1 ∧ k = .int .i64 2) ∨ (n = .int .i64 2 ∧ k = .int .i64 1)) (fun _ k => (intOf k).toNat)
  case atStart => exact .inl ⟨rfl, rfl⟩
  case round =>
    rcases hrel with ⟨rfl, rfl⟩ | ⟨rfl, rfl⟩ | ⟨rfl, rfl⟩
    · go_wp2_with fail
      go_round
      case rel => exact .inr (.inl ⟨rfl, rfl⟩)
      case measure => simp [intOf]
    · go_wp2_with fail
      go_round
      case rel => exact .inr (.inr ⟨rfl, rfl⟩)
      case measure => simp [intOf]
    · go_wp2_with fail
      go_ret
      exact ⟨rfl, rfl⟩

/-- Each of eight bytes. -/
def allEight (l : List (List UInt8)) : Prop := ∀ x ∈ l, x.length = 8

instance (l : List (List UInt8)) : Decidable (allEight l) := by unfold allEight; infer_instance

set_option maxHeartbeats 400000 in
theorem long_calls (w : World) (v : Value) (l : List (List UInt8)) (hv : TextsAt w v l) (hl : l.length ≤ 1073741824) (hx : ∀ x ∈ l, x.length ≤ 1073741824) :
    Calls Tryd.prog 90 #[v] w fun e w' => e = .returned (.bool (decide (allEight l))) ∧ w' = w := by
  obtain ⟨a, ca, rfl, HA⟩ := hv
  replace HA := hide HA
  have HX := hide hx
  clear hx
  go_enter Tryd.func90, Tryd.ntmps90
  go_wp2_with fail
  go_loop [3] (fun i => ∃ k : Nat, k ≤ l.length ∧ i = .int .i64 k ∧ ∀ x ∈ l.take k, x.length = 8) (fun i => l.length - (intOf i).toNat)
  case atStart => exact ⟨0, Nat.zero_le _, rfl, by simp⟩
  case round =>
    obtain ⟨k, hk, rfl, htk⟩ := hrel
    have HT := hide htk
    clear htk
    by_cases hlt : k < l.length
    · obtain ⟨ga, oa, rfl, ha2, ha3⟩ := HA.out k hlt
      have hb := HX.out l[k] (List.getElem_mem hlt)
      by_cases h8 : (l[k]).length = 8
      · have hne : (((l[k]).length : Int) != 8) = false := by simp; omega
        have HN : Hid (∀ x ∈ l.take (k + 1), x.length = 8) := by
          show ∀ x ∈ l.take (k + 1), x.length = 8
          rw [List.take_succ_eq_append_getElem hlt]
          intro x hx
          rcases List.mem_append.1 hx with h | h
          · exact HT.out x h
          · simp at h; rw [h]; exact h8
        clear h8 HT
        generalize l[k] = x at *
        go_wp2_with fail
        go_round
        case rel => exact ⟨k + 1, by omega, by go_num, HN.out⟩
        case measure => simp [intOf]; omega
      · have hne : (((l[k]).length : Int) != 8) = true := by simp; omega
        have HE : Hid (decide (allEight l) = false) := by
          show decide (allEight l) = false
          rw [decide_eq_false_iff_not]
          exact fun h => h8 (h _ (List.getElem_mem hlt))
        clear h8 HT
        generalize l[k] = x at *
        go_wp2_with fail
        go_ret
        exact ⟨by rw [HE.out]; rfl, rfl⟩
    · have HE : Hid (decide (allEight l) = true) := by
        show decide (allEight l) = true
        rw [decide_eq_true_iff]
        intro x hx
        refine HT.out x ?_
        rw [List.take_of_length_le (by omega)]
        exact hx
      go_wp2_with fail
      go_ret
      exact ⟨by rw [HE.out]; rfl, rfl⟩

/-- The form of a signature. -/
def formOk (leaf : Int) (E W : List (List UInt8)) : Prop := (0 ≤ leaf ∧ leaf ≤ 3) ∧ E.length = 11 ∧ W.length = 2 ∧ allEight E ∧ allEight W

instance (leaf : Int) (E W : List (List UInt8)) : Decidable (formOk leaf E W) := by unfold formOk; infer_instance

/-- A signature as a value. -/
structure SigAt (w : World) (v : Value) (leaf : Int) (E W : List (List UInt8)) : Prop where
  val : ∃ vE vW, v = .agg #[.int .i64 leaf, vE, vW] ∧ TextsAt w vE E ∧ TextsAt w vW W
  le : E.length ≤ 1048576
  lw : W.length ≤ 1048576
  te : ∀ x ∈ E, x.length ≤ 1048576
  tw : ∀ x ∈ W, x.length ≤ 1048576

theorem texts_len {w : World} {v : Value} {l : List (List UInt8)} (h : TextsAt w v l) : ∃ a cap, v = .slice a l.length cap := by
  obtain ⟨a, cap, h1, _⟩ := h
  exact ⟨a, cap, h1⟩

set_option maxHeartbeats 2000000 in
theorem form_calls (w : World) (v : Value) (leaf : Int) (E W : List (List UInt8)) (hv : SigAt w v leaf E W) :
    Calls Tryd.prog 72 #[v] w fun e w' => e = .returned (.bool (decide (formOk leaf E W))) ∧ Below w.heap.size w w' := by
  obtain ⟨⟨vE, vW, rfl, tE, tW⟩, lE, lW, xE, xW⟩ := hv
  have hbA : Below w.heap.size w (w.alloc (.cells #[.int .i64 leaf, vE, vW] 29)) := (Below.refl _ _).alloc (Nat.le_refl _) _
  have tE1 := tE.below hbA (Nat.le_refl _)
  have tW1 := tW.below hbA (Nat.le_refl _)
  obtain ⟨aE, cE, hE⟩ := texts_len tE
  obtain ⟨aW, cW, hW⟩ := texts_len tW
  have TE := hide tE1
  have TW := hide tW1
  have HB := hide hbA
  have XE := hide (fun x hx => Nat.le_trans (xE x hx) (by decide : 1048576 ≤ 1073741824))
  have XW := hide (fun x hx => Nat.le_trans (xW x hx) (by decide : 1048576 ≤ 1073741824))
  subst hE hW
  clear tE tW tE1 tW1 hbA xE xW
  obtain ⟨r, Er⟩ : ∃ r, Hid (r = decide (formOk leaf E W)) := ⟨_, rfl⟩
  rw [← Er.out]
  by_cases h1 : 0 ≤ leaf ∧ leaf ≤ 3
  · have HIN := hide (fun (wx : World) => inD_calls leaf 0 3 wx)
    simp only [decide_eq_true h1] at HIN
    by_cases h2 : E.length = 11
    · have d2 : ((E.length : Int) == 11) = true := by simp; omega
      by_cases h3 : W.length = 2
      · have d3 : ((W.length : Int) == 2) = true := by simp; omega
        have HLE := hide (fun (n : Nat) => long_calls ((w.alloc (.cells #[.int .i64 leaf, .slice aE E.length cE, .slice aW W.length cW] 29)).drewN n) _ E (TE.out.drewN n) (by omega) XE.out)
        have HLW := hide (fun (n : Nat) => long_calls ((w.alloc (.cells #[.int .i64 leaf, .slice aE E.length cE, .slice aW W.length cW] 29)).drewN n) _ W (TW.out.drewN n) (by omega) XW.out)
        by_cases h4 : allEight E
        · simp only [decide_eq_true h4] at HLE
          by_cases h5 : allEight W
          · simp only [decide_eq_true h5] at HLW
            have hr : r = true := by rw [Er.out]; simp [formOk, h1, h2, h3, h4, h5]
            subst hr
            clear h1 h2 h3 h4 h5 Er
            go_enter Tryd.func72, Tryd.ntmps72
            go_wp2_with fail
            refine wp_region_quiet_lit (by kernel_rfl) (by kernel_rfl) ?_
            repeat (go_big_quiet_step (fail))
            go_big_quiet_step (exact Calls.quiet_of_same (HIN.out _))
            repeat (go_big_quiet_step (fail))
            go_big_quiet_step (exact Calls.quiet_of_same (steps_calls _))
            repeat (go_big_quiet_step (fail))
            go_big_quiet_step (exact Calls.quiet_of_same (HLE.out _))
            repeat (go_big_quiet_step (fail))
            go_big_quiet_step (exact Calls.quiet_of_same (HLW.out _))
            repeat (go_big_quiet_step (fail))
            refine wpQuiet_nil ?_
            intro _ hw'
            obtain ⟨nq, hw''⟩ := hw'
            subst hw''
            go_wp2_with fail
            go_ret
            exact ⟨rfl, ⟨HB.out.os, HB.out.tape, HB.out.output, HB.out.size, HB.out.block⟩⟩
          · simp only [decide_eq_false h5] at HLW
            have hr : r = false := by rw [Er.out]; simp [formOk, h5]
            subst hr
            clear h1 h2 h3 h4 h5 Er
            go_enter Tryd.func72, Tryd.ntmps72
            go_wp2_with fail
            refine wp_region_quiet_lit (by kernel_rfl) (by kernel_rfl) ?_
            repeat (go_big_quiet_step (fail))
            go_big_quiet_step (exact Calls.quiet_of_same (HIN.out _))
            repeat (go_big_quiet_step (fail))
            go_big_quiet_step (exact Calls.quiet_of_same (steps_calls _))
            repeat (go_big_quiet_step (fail))
            go_big_quiet_step (exact Calls.quiet_of_same (HLE.out _))
            repeat (go_big_quiet_step (fail))
            go_big_quiet_step (exact Calls.quiet_of_same (HLW.out _))
            repeat (go_big_quiet_step (fail))
            refine wpQuiet_nil ?_
            intro _ hw'
            obtain ⟨nq, hw''⟩ := hw'
            subst hw''
            go_wp2_with fail
            go_ret
            exact ⟨rfl, ⟨HB.out.os, HB.out.tape, HB.out.output, HB.out.size, HB.out.block⟩⟩
        · simp only [decide_eq_false h4] at HLE
          have hr : r = false := by rw [Er.out]; simp [formOk, h4]
          subst hr
          clear h1 h2 h3 h4 Er
          go_enter Tryd.func72, Tryd.ntmps72
          go_wp2_with fail
          refine wp_region_quiet_lit (by kernel_rfl) (by kernel_rfl) ?_
          repeat (go_big_quiet_step (fail))
          go_big_quiet_step (exact Calls.quiet_of_same (HIN.out _))
          repeat (go_big_quiet_step (fail))
          go_big_quiet_step (exact Calls.quiet_of_same (steps_calls _))
          repeat (go_big_quiet_step (fail))
          go_big_quiet_step (exact Calls.quiet_of_same (HLE.out _))
          repeat (go_big_quiet_step (fail))
          refine wpQuiet_nil ?_
          intro _ hw'
          obtain ⟨nq, hw''⟩ := hw'
          subst hw''
          go_wp2_with fail
          go_ret
          exact ⟨rfl, ⟨HB.out.os, HB.out.tape, HB.out.output, HB.out.size, HB.out.block⟩⟩
      · have d3 : ((W.length : Int) == 2) = false := by simp; omega
        have hr : r = false := by rw [Er.out]; simp [formOk, h3]
        subst hr
        clear h1 h2 h3 Er
        go_enter Tryd.func72, Tryd.ntmps72
        go_wp2_with fail
        refine wp_region_quiet_lit (by kernel_rfl) (by kernel_rfl) ?_
        repeat (go_big_quiet_step (fail))
        go_big_quiet_step (exact Calls.quiet_of_same (HIN.out _))
        repeat (go_big_quiet_step (fail))
        go_big_quiet_step (exact Calls.quiet_of_same (steps_calls _))
        repeat (go_big_quiet_step (fail))
        refine wpQuiet_nil ?_
        intro _ hw'
        obtain ⟨nq, hw''⟩ := hw'
        subst hw''
        go_wp2_with fail
        go_ret
        exact ⟨rfl, ⟨HB.out.os, HB.out.tape, HB.out.output, HB.out.size, HB.out.block⟩⟩
    · have d2 : ((E.length : Int) == 11) = false := by simp; omega
      have hr : r = false := by rw [Er.out]; simp [formOk, h2]
      subst hr
      clear h1 h2 Er
      go_enter Tryd.func72, Tryd.ntmps72
      go_wp2_with fail
      refine wp_region_quiet_lit (by kernel_rfl) (by kernel_rfl) ?_
      repeat (go_big_quiet_step (fail))
      go_big_quiet_step (exact Calls.quiet_of_same (HIN.out _))
      repeat (go_big_quiet_step (fail))
      refine wpQuiet_nil ?_
      intro _ hw'
      obtain ⟨nq, hw''⟩ := hw'
      subst hw''
      go_wp2_with fail
      go_ret
      exact ⟨rfl, ⟨HB.out.os, HB.out.tape, HB.out.output, HB.out.size, HB.out.block⟩⟩
  · have HIN := hide (fun (wx : World) => inD_calls leaf 0 3 wx)
    simp only [decide_eq_false h1] at HIN
    have hr : r = false := by rw [Er.out]; simp [formOk, h1]
    subst hr
    clear h1 Er
    go_enter Tryd.func72, Tryd.ntmps72
    go_wp2_with fail
    refine wp_region_quiet_lit (by kernel_rfl) (by kernel_rfl) ?_
    repeat (go_big_quiet_step (fail))
    go_big_quiet_step (exact Calls.quiet_of_same (HIN.out _))
    repeat (go_big_quiet_step (fail))
    refine wpQuiet_nil ?_
    intro _ hw'
    obtain ⟨nq, hw''⟩ := hw'
    subst hw''
    go_wp2_with fail
    go_ret
    exact ⟨rfl, ⟨HB.out.os, HB.out.tape, HB.out.output, HB.out.size, HB.out.block⟩⟩
end Go.Proofs.YtmjpdccfdaajmaaDoor.P4
namespace Go.Proofs.YtmjpdccfdaajmaaDoor.P4
set_option maxRecDepth 8000
open Go.RowKit P1 P3

/-- The text of the leaf's key that a signature comes to, behind so many chains. -/
def sgnText (t : List UInt8) (E : List (List UInt8)) : Nat → List UInt8
  | 0 => [108]
  | k + 1 => sgnText t E k ++ chain (3 - (quadsN t).getD k 0) (E.getD k [])

/-- .. and what it comes to on the way to the top. -/
def climb (T : List UInt8) (leaf : Nat) (W : List (List UInt8)) : Nat → List UInt8
  | 0 => T
  | j + 1 => if (leaf / 2 ^ j) % 2 = 0 then node (climb T leaf W j) (W.getD j []) else node (W.getD j []) (climb T leaf W j)

/-- What SignedBy answers. -/
def signedV (k t : List UInt8) (leaf : Int) (E W : List (List UInt8)) : Prop := formOk leaf E W ∧ climb (cut8 (sgnText t E 11)) leaf.toNat W 2 = k

instance (k t : List UInt8) (leaf : Int) (E W : List (List UInt8)) : Decidable (signedV k t leaf E W) := by unfold signedV; infer_instance

theorem chain8 (n : Nat) (x : List UInt8) (h : x.length = 8) : (chain n x).length = 8 := by
  cases n with
  | zero => exact h
  | succ n => exact chain_length _ _ (by omega)

theorem sgnText_length (t : List UInt8) (E : List (List UInt8)) (hE : E.length = 11) (h8 : allEight E) (k : Nat) (hk : k ≤ 11) : (sgnText t E k).length = 1 + 8 * k := by
  induction k with
  | zero => rfl
  | succ k ih =>
    have hx : (E.getD k []).length = 8 := by
      have : E.getD k [] = E[k] := by simp [List.getD_eq_getElem?_getD, show k < E.length by omega]
      rw [this]
      exact h8 _ (List.getElem_mem _)
    rw [sgnText, List.length_append, ih (by omega), chain8 _ _ hx]
    omega

theorem climb_length (T : List UInt8) (leaf : Nat) (W : List (List UInt8)) (hT : T.length = 8) (j : Nat) : (climb T leaf W j).length = 8 := by
  cases j with
  | zero => exact hT
  | succ j =>
    rw [climb]
    split
    · exact node_length _ _
    · exact node_length _ _

theorem signedV_form (k t : List UInt8) (n : Nat) (E W : List (List UInt8)) (h : formOk (n : Int) E W) : decide (signedV k t (n : Int) E W) = decide (climb (cut8 (sgnText t E 11)) n W 2 = k) := by
  by_cases hc : climb (cut8 (sgnText t E 11)) n W 2 = k
  · rw [decide_eq_true (show signedV k t (n : Int) E W from ⟨h, hc⟩), decide_eq_true hc]
  · rw [decide_eq_false (fun h' : signedV k t (n : Int) E W => hc h'.2), decide_eq_false hc]

theorem SigAt.below {w w' : World} {v : Value} {leaf : Int} {E W : List (List UInt8)} (h : SigAt w v leaf E W) (hb : Below w.heap.size w w') : SigAt w' v leaf E W := by
  obtain ⟨⟨vE, vW, e, t1, t2⟩, h1, h2, h3, h4⟩ := h
  exact ⟨⟨vE, vW, e, t1.below hb (Nat.le_refl _), t2.below hb (Nat.le_refl _)⟩, h1, h2, h3, h4⟩

set_option maxHeartbeats 2000000 in
theorem specSigned_calls (k t : List UInt8) (ht : t.length ≤ 1048576) (w : World) (v : Value) (leaf : Int) (E W : List (List UInt8)) (hv : SigAt w v leaf E W) :
    Calls Tryd.prog 30 #[.string ⟨k.toArray⟩, .string ⟨t.toArray⟩, v] w fun e w' => e = .returned (.bool (decide (signedV k t leaf E W))) ∧ Below w.heap.size w w' := by
  have HSV := hide hv
  obtain ⟨⟨vE, vW, rfl, tE, tW⟩, -, -, -, -⟩ := hv
  have TE := hide tE
  have TW := hide tW
  clear tE tW
  have hbA : Below w.heap.size w (w.alloc (.cells #[.int .i64 leaf, vE, vW] 29)) := (Below.refl _ _).alloc (Nat.le_refl _) _
  have HF := hide (form_calls _ _ leaf E W (HSV.out.below hbA))
  have TE1 := hide (TE.out.below hbA (Nat.le_refl _))
  have TW1 := hide (TW.out.below hbA (Nat.le_refl _))
  have q0 : (w.alloc (.cells #[.int .i64 leaf, vE, vW] 29)).cell? ⟨w.heap.size, 0, none⟩ = some (.int .i64 leaf) := by simp [go_sem]
  have q1 : (w.alloc (.cells #[.int .i64 leaf, vE, vW] 29)).cell? ⟨w.heap.size, 1, none⟩ = some vE := by simp [go_sem]
  have q2 : (w.alloc (.cells #[.int .i64 leaf, vE, vW] 29)).cell? ⟨w.heap.size, 2, none⟩ = some vW := by simp [go_sem]
  have hzA : w.heap.size < (w.alloc (.cells #[.int .i64 leaf, vE, vW] 29)).heap.size := by simp
  have HBA := hide hbA
  obtain ⟨r, Er⟩ : ∃ r, Hid (r = decide (signedV k t leaf E W)) := ⟨_, rfl⟩
  rw [← Er.out]
  clear hbA HSV TE TW
  go_enter Tryd.func30, Tryd.ntmps30
  go_wp2_with fail
  refine HF.out.mono ?_
  rintro e w1 ⟨rfl, hb1⟩
  obtain ⟨bS, hbS⟩ : ∃ bS, bS = w.heap.size := ⟨_, rfl⟩
  rw [← hbS] at q0 q1 q2 hzA ⊢
  generalize w.alloc (.cells #[.int .i64 leaf, vE, vW] 29) = wA at *
  have p0 : w1.cell? ⟨bS, 0, none⟩ = some (.int .i64 leaf) := by rw [hb1.cell (p := ⟨bS, 0, none⟩) hzA]; exact q0
  have p1 : w1.cell? ⟨bS, 1, none⟩ = some vE := by rw [hb1.cell (p := ⟨bS, 1, none⟩) hzA]; exact q1
  have p2 : w1.cell? ⟨bS, 2, none⟩ = some vW := by rw [hb1.cell (p := ⟨bS, 2, none⟩) hzA]; exact q2
  have hz1 : bS < w1.heap.size := Nat.lt_of_lt_of_le hzA hb1.size
  have TE2 := hide (TE1.out.below hb1 (Nat.le_refl _))
  have TW2 := hide (TW1.out.below hb1 (Nat.le_refl _))
  have HB1 := hide (HBA.out.trans (hb1.mono HBA.out.size))
  clear hb1 q0 q1 q2 hzA TE1 TW1 HBA hbS HF
  by_cases hf : formOk leaf E W
  · rw [decide_eq_true hf]
    have HFO := hide hf
    obtain ⟨hl03, hE11, hW2, h8E, h8W⟩ := hf
    obtain ⟨n, rfl⟩ := Int.eq_ofNat_of_zero_le hl03.1
    have hn3 : n ≤ 3 := by have := hl03.2; omega
    have H8E := hide h8E
    have H8W := hide h8W
    have hr : r = decide (climb (cut8 (sgnText t E 11)) n W 2 = k) := by rw [Er.out]; exact signedV_form k t n E W HFO.out
    have HR := hide hr
    clear hr Er h8E h8W hl03 HFO
    have HQ := hide (fun wx => specQuads_calls t (by omega) wx)
    have HQE : Hid (quads t = ints (quadsN t)) := rfl
    have HQL := hide (fun x hx => quadsN_lt t x hx)
    have hq11 := quadsN_length t
    go_wp2_with fail
    refine (HQ.out _).mono ?_
    rintro e w2 ⟨vq, rfl, hoq, hb2⟩
    obtain ⟨gq, cq, hvq, hgq1, hgq2, hcq, hqc, -⟩ := own_at hoq (by omega)
    subst hvq
    have p0' : w2.cell? ⟨bS, 0, none⟩ = some (.int .i64 (n : Int)) := by rw [hb2.cell (p := ⟨bS, 0, none⟩) hz1]; exact p0
    have p1' : w2.cell? ⟨bS, 1, none⟩ = some vE := by rw [hb2.cell (p := ⟨bS, 1, none⟩) hz1]; exact p1
    have p2' : w2.cell? ⟨bS, 2, none⟩ = some vW := by rw [hb2.cell (p := ⟨bS, 2, none⟩) hz1]; exact p2
    have hz2 : bS < w2.heap.size := Nat.lt_of_lt_of_le hz1 hb2.size
    have TE3 := hide (TE2.out.below hb2 (Nat.le_refl _))
    have TW3 := hide (TW2.out.below hb2 (Nat.le_refl _))
    have HB2 := hide (HB1.out.trans (hb2.mono HB1.out.size))
    have hqq : ∀ j, j < 11 → w2.cell? ⟨gq, j, none⟩ = some (.int .i64 ((quadsN t).getD j 0 : Nat)) := by
      intro j hj
      rw [hqc j (by omega), HQE.out]
      simp [cellsI, ints, List.getD_eq_getElem?_getD, show j < (quadsN t).length by omega]
    have HQC := hide hqq
    obtain ⟨aE, cE, hvE, hEc⟩ := TE3.out
    obtain ⟨gE, oE, haE, hgE, -⟩ := hEc 0 (by omega)
    subst haE
    have hEE : ∀ j (hj : j < E.length), w2.cell? ⟨gE, oE + j, none⟩ = some (.string ⟨(E[j]).toArray⟩) := by
      intro j hj
      obtain ⟨g', o', e1, _, e3⟩ := hEc j hj
      cases e1
      exact e3
    obtain ⟨aW, cW, hvW, hWc⟩ := TW3.out
    obtain ⟨gW, oW, haW, hgW, -⟩ := hWc 0 (by omega)
    subst haW
    have hWW : ∀ j (hj : j < W.length), w2.cell? ⟨gW, oW + j, none⟩ = some (.string ⟨(W[j]).toArray⟩) := by
      intro j hj
      obtain ⟨g', o', e1, _, e3⟩ := hWc j hj
      cases e1
      exact e3
    have HEC := hide hEE
    have HWC := hide hWW
    rw [hE11] at hvE
    rw [hW2] at hvW
    subst hvE hvW
    clear hqc hoq hb2 hqq p0 p1 p2 hz1 TE2 TW2 TE3 TW3 HB1 hEc hWc hEE hWW HQE HQ
    go_wp2_with fail
    go_loopw [8, 9] (fun v i wr => ∃ j : Nat, j ≤ 11 ∧ i = .int .i64 j ∧ v = .string ⟨(sgnText t E j).toArray⟩ ∧ Below w2.heap.size w2 wr) (fun _ i _ => 11 - (intOf i).toNat)
    case atStart => exact ⟨0, by omega, rfl, rfl, Below.refl _ _⟩
    case round =>
      obtain ⟨j, hj, rfl, rfl, hb⟩ := hrel
      have HB := hide hb
      clear hb
      by_cases hlt : j < 11
      · have hd : decide ((j : Int) < 11) = true := by simp; omega
        have hEj : E.getD j [] = E[j] := by simp [List.getD_eq_getElem?_getD, show j < E.length by omega]
        have l8 := H8E.out E[j] (List.getElem_mem (by omega))
        have hqj := HQL.out ((quadsN t).getD j 0) (by rw [List.getD_eq_getElem?_getD, List.getElem?_eq_getElem (by omega)]; exact List.getElem_mem _)
        have n1 : ∀ p : Near w2.heap.size w2, p.w.cell? ⟨bS, 1, none⟩ = some (.slice (some ⟨gE, oE, none⟩) 11 cE) := fun p => (p.h.cell (p := ⟨bS, 1, none⟩) hz2).trans p1'
        have n2 : ∀ p : Near w2.heap.size w2, p.w.cell? ⟨gE, oE + j, none⟩ = some (.string ⟨(E[j]).toArray⟩) := fun p => (p.h.cell (p := ⟨gE, oE + j, none⟩) hgE).trans (HEC.out j (by omega))
        have n3 : ∀ p : Near w2.heap.size w2, p.w.cell? ⟨gq, j, none⟩ = some (.int .i64 ((quadsN t).getD j 0 : Nat)) := fun p => (p.h.cell (p := ⟨gq, j, none⟩) hgq2).trans (HQC.out j (by omega))
        have HN : Hid (sgnText t E (j + 1) = sgnText t E j ++ chain (3 - (quadsN t).getD j 0) (E.getD j [])) := rfl
        rw [hEj] at HN
        have hs1 := sgnText_length t E hE11 H8E.out j hj
        generalize (quadsN t).getD j 0 = q at *
        generalize E[j] = x at *
        have HC := hide (fun (p : Near w2.heap.size w2) => specChain_calls x (by omega) (3 - (q : Int)) p.w)
        have hcv : chainV x (3 - (q : Int)) = chain (3 - q) x := by
          unfold chainV
          congr 1
          omega
        simp only [hcv] at HC
        have l9 := chain8 (3 - q) x l8
        generalize chain (3 - q) x = c at *
        obtain ⟨T1, E1⟩ : ∃ T1, Hid (T1 = sgnText t E (j + 1)) := ⟨_, rfl⟩
        obtain ⟨T0, E0⟩ : ∃ T0, Hid (T0 = sgnText t E j) := ⟨_, rfl⟩
        rw [← E1.out, ← E0.out] at HN
        rw [← E0.out] at hs1 ⊢
        have hcat : (⟨T0.toArray⟩ : ByteArray) ++ ⟨c.toArray⟩ = ⟨T1.toArray⟩ := by rw [ByteArray.mk_append_mk, HN.out]
        have hl1 : T1.length = 1 + 8 * j + 8 := by rw [HN.out, List.length_append, hs1, l9]
        have hnn := Near.some w2.heap.size w2
        clear HN E0 hcv hEj
        go_wp2_with fail
        refine wp_region_near w2.heap.size w2 HB.out (by kernel_rfl) (by kernel_rfl) ?_
        repeat (go_big_quiet_step (exact calls_near (Nat.le_refl _) (HC.out _)))
        refine wpQuiet_nil ?_
        rintro w3 ⟨pq, rfl⟩
        have hqb := pq.h
        obtain ⟨w3, hq⟩ := pq
        simp only at hqb ⊢
        have HB3 := hide hqb
        clear hq hqb n1 n2 n3 hnn HC
        go_wp2_with fail
        go_roundw
        case rel => exact ⟨j + 1, by omega, by go_num, by rw [← E1.out], HB3.out⟩
        case measure => simp [intOf]; omega
      · have hj11 : j = 11 := by omega
        have hd : decide ((j : Int) < 11) = false := by simp; omega
        have hs1 := sgnText_length t E hE11 H8E.out 11 (by omega)
        have HCT := hide (fun wx => cut_calls (sgnText t E 11) (by omega) wx)
        rw [hj11]
        generalize sgnText t E 11 = T at *
        have hcl := cut8_length T
        obtain ⟨C, EC⟩ : ∃ C, Hid (C = cut8 T) := ⟨_, rfl⟩
        rw [← EC.out] at hcl HR
        simp only [← EC.out] at HCT
        clear EC hj11
        go_wp2_with fail
        refine (HCT.out _).mono ?_
        rintro e w4 ⟨rfl, hb4⟩
        have hbt := HB.out.trans (hb4.mono HB.out.size)
        have n0 : w4.cell? ⟨bS, 0, none⟩ = some (.int .i64 (n : Int)) := (hbt.cell (p := ⟨bS, 0, none⟩) hz2).trans p0'
        have HB4 := hide hbt
        clear hb4 hbt HB HCT
        go_wp2_with fail
        clear n0 hd hlt hj
        go_loopw [8, 10, 11] (fun v a i wr => ∃ j : Nat, j ≤ 2 ∧ i = .int .i64 j ∧ a = .int .i64 ((n / 2 ^ j : Nat) : Int) ∧ v = .string ⟨(climb C n W j).toArray⟩ ∧ Below w2.heap.size w2 wr) (fun _ _ i _ => 2 - (intOf i).toNat)
        case atStart => exact ⟨0, by omega, rfl, by simp, rfl, HB4.out⟩
        case round =>
          clear HB4
          obtain ⟨j, hj, rfl, rfl, rfl, hb⟩ := hrel
          have n2 : wr.cell? ⟨bS, 2, none⟩ = some (.slice (some ⟨gW, oW, none⟩) 2 cW) := (hb.cell (p := ⟨bS, 2, none⟩) hz2).trans p2'
          have lc := climb_length C n W hcl j
          by_cases hlt : j < 2
          · have hd : decide ((j : Int) < 2) = true := by simp; omega
            have n4 : wr.cell? ⟨gW, oW + j, none⟩ = some (.string ⟨(W[j]).toArray⟩) := (hb.cell (p := ⟨gW, oW + j, none⟩) hgW).trans (HWC.out j (by omega))
            have hWj : W.getD j [] = W[j] := by simp [List.getD_eq_getElem?_getD, show j < W.length by omega]
            have l8 := H8W.out W[j] (List.getElem_mem (by omega))
            have HB := hide hb
            clear hb
            obtain ⟨m, Em⟩ : ∃ m, Hid (m = n / 2 ^ j) := ⟨_, rfl⟩
            have hm3 : m ≤ 3 := by rw [Em.out]; exact Nat.le_trans (Nat.div_le_self _ _) hn3
            rw [← Em.out]
            generalize W[j] = x at *
            obtain ⟨c0, E0⟩ : ∃ c0, Hid (c0 = climb C n W j) := ⟨_, rfl⟩
            rw [← E0.out] at lc ⊢
            by_cases hev : (n / 2 ^ j) % 2 = 0
            · have hb2 : (((m : Nat) : Int) % 2 == 0) = true := by rw [← Em.out] at hev; simp; omega
              have HNx : Hid (climb C n W (j + 1) = node c0 x) := by
                show climb C n W (j + 1) = _
                rw [climb, if_pos hev, hWj, E0.out]
              have HCT := hide (fun wx => cut_calls (110 :: (c0 ++ x)) (by simp; omega) wx)
              have e1 : (⟨#[110]⟩ : ByteArray) ++ ⟨c0.toArray⟩ = ⟨(110 :: c0).toArray⟩ := ByteArray.mk_append_mk [110] _
              have e2 : (⟨(110 :: c0).toArray⟩ : ByteArray) ++ ⟨x.toArray⟩ = ⟨(110 :: (c0 ++ x)).toArray⟩ := by rw [ByteArray.mk_append_mk]; simp
              have s1 : (110 :: c0).length = 9 := by simp [lc]
              have s2 : (110 :: (c0 ++ x)).length = 17 := by simp [l8, lc]
              rw [show cut8 (110 :: (c0 ++ x)) = node c0 x from rfl, ← HNx.out] at HCT
              obtain ⟨c1, E1⟩ : ∃ c1, Hid (c1 = climb C n W (j + 1)) := ⟨_, rfl⟩
              rw [← E1.out] at HCT
              generalize 110 :: (c0 ++ x) = t2 at *
              generalize 110 :: c0 = t1 at *
              clear HNx hev hWj
              go_wp2_with fail
              refine (HCT.out _).mono ?_
              rintro e w5 ⟨rfl, hb5⟩
              have HB5 := hide (HB.out.trans (hb5.mono HB.out.size))
              clear hb5 n2 n4
              go_wp2_with fail
              go_roundw
              case rel => exact ⟨j + 1, by omega, by go_num, by rw [Nat.pow_succ, ← Nat.div_div_eq_div_mul, ← Em.out]; go_num, by rw [← E1.out], HB5.out⟩
              case measure => simp [intOf]; omega
            · have hb2 : (((m : Nat) : Int) % 2 == 0) = false := by rw [← Em.out] at hev; simp; omega
              have HNx : Hid (climb C n W (j + 1) = node x c0) := by
                show climb C n W (j + 1) = _
                rw [climb, if_neg hev, hWj, E0.out]
              have HCT := hide (fun wx => cut_calls (110 :: (x ++ c0)) (by simp; omega) wx)
              have e1 : (⟨#[110]⟩ : ByteArray) ++ ⟨x.toArray⟩ = ⟨(110 :: x).toArray⟩ := ByteArray.mk_append_mk [110] _
              have e2 : (⟨(110 :: x).toArray⟩ : ByteArray) ++ ⟨c0.toArray⟩ = ⟨(110 :: (x ++ c0)).toArray⟩ := by rw [ByteArray.mk_append_mk]; simp
              have s1 : (110 :: x).length = 9 := by simp [l8]
              have s2 : (110 :: (x ++ c0)).length = 17 := by simp [l8, lc]
              rw [show cut8 (110 :: (x ++ c0)) = node x c0 from rfl, ← HNx.out] at HCT
              obtain ⟨c1, E1⟩ : ∃ c1, Hid (c1 = climb C n W (j + 1)) := ⟨_, rfl⟩
              rw [← E1.out] at HCT
              generalize 110 :: (x ++ c0) = t2 at *
              generalize 110 :: x = t1 at *
              clear HNx hev hWj
              go_wp2_with fail
              refine (HCT.out _).mono ?_
              rintro e w5 ⟨rfl, hb5⟩
              have HB5 := hide (HB.out.trans (hb5.mono HB.out.size))
              clear hb5 n2 n4
              go_wp2_with fail
              go_roundw
              case rel => exact ⟨j + 1, by omega, by go_num, by rw [Nat.pow_succ, ← Nat.div_div_eq_div_mul, ← Em.out]; go_num, by rw [← E1.out], HB5.out⟩
              case measure => simp [intOf]; omega
          · have hj2 : j = 2 := by omega
            have hd : decide ((j : Int) < 2) = false := by simp; omega
            have HB := hide hb
            rw [hj2]
            generalize climb C n W 2 = cf at *
            clear hb hj2
            go_wp2_with fail
            go_ret
            refine ⟨congrArg (fun z => Ending.returned (.bool z)) ?_, HB2.out.trans (HB.out.mono HB2.out.size)⟩
            show (cf == k) = r
            rw [HR.out]
            by_cases h : cf = k <;> simp [h]
  · rw [decide_eq_false hf]
    have hr : r = false := by
      rw [Er.out]
      exact decide_eq_false (fun h => hf h.1)
    subst hr
    clear Er hf
    go_wp2_with fail
    go_ret
    exact ⟨rfl, HB1.out⟩
end Go.Proofs.YtmjpdccfdaajmaaDoor.P4
namespace Go.Proofs.YtmjpdccfdaajmaaDoor.P4
set_option maxRecDepth 8000
open Go.RowKit P1 P3

/-- What may be signed with. -/
def sOk (seed leaf : Int) : Prop := (0 ≤ leaf ∧ leaf ≤ 3) ∧ few seed

instance (seed leaf : Int) : Decidable (sOk seed leaf) := by unfold sOk; infer_instance

/-- What stands beside on the way. -/
def wayN (seed : Int) (leaf : Nat) (k : Nat) : List (List UInt8) := (List.range k).map fun i => (lev seed i).getD ((leaf / 2 ^ i) ^^^ 1) []

def endN (seed leaf : Int) (t : List UInt8) (k : Nat) : List (List UInt8) := (List.range k).map fun (i : Nat) => chain ((quadsN t).getD i 0) (secret seed leaf i)

def sLeaf (seed leaf : Int) : Int := if sOk seed leaf then leaf else 0
def sEnds (seed leaf : Int) (t : List UInt8) : List (List UInt8) := if sOk seed leaf then endN seed leaf t 11 else []
def sWay (seed leaf : Int) : List (List UInt8) := if sOk seed leaf then wayN seed leaf.toNat 2 else []

/-- A signature of the call's own. -/
structure SigOwn (B : Nat) (w : World) (v : Value) (leaf : Int) (E W : List (List UInt8)) : Prop where
  val : ∃ vE vW, v = .agg #[.int .i64 leaf, vE, vW] ∧ w.ownsRow B 9 1 vE E.length (cellsS E) ∧ w.ownsRow B 9 1 vW W.length (cellsS W) ∧ (vE.ownBlock = none ∨ vE.ownBlock ≠ vW.ownBlock)

theorem endN_succ (seed leaf : Int) (t : List UInt8) (k : Nat) : endN seed leaf t (k + 1) = endN seed leaf t k ++ [chain ((quadsN t).getD k 0) (secret seed leaf k)] := by
  simp [endN, List.range_succ]

theorem wayN_succ (seed : Int) (leaf k : Nat) : wayN seed leaf (k + 1) = wayN seed leaf k ++ [(lev seed k).getD ((leaf / 2 ^ k) ^^^ 1) []] := by
  simp [wayN, List.range_succ]

theorem endN_length (seed leaf : Int) (t : List UInt8) (k : Nat) : (endN seed leaf t k).length = k := by simp [endN]
theorem wayN_length (seed : Int) (leaf k : Nat) : (wayN seed leaf k).length = k := by simp [wayN]

theorem xor1 (n : Nat) (h : n ≤ 3) : bits .xor .i64 (n : Int) 1 = ((n ^^^ 1 : Nat) : Int) := by
  have : n = 0 ∨ n = 1 ∨ n = 2 ∨ n = 3 := by omega
  rcases this with rfl | rfl | rfl | rfl <;> decide +kernel

/-- A slice of texts elsewhere. -/
theorem TextsAt.grownB {w w' : World} {v : Value} {l : List (List UInt8)} {b : Nat} (h : TextsAt w v l) (hg : w.grownBy w' (some b)) (hb : ∀ off x, w.cell? ⟨b, off, none⟩ ≠ some (.string x)) : TextsAt w' v l := by
  obtain ⟨a, cap, h1, h2⟩ := h
  refine ⟨a, cap, h1, fun j hj => ?_⟩
  obtain ⟨g, off, e1, e2, e3⟩ := h2 j hj
  have hne : g ≠ b := fun e => hb _ _ (by rw [← e]; exact e3)
  exact ⟨g, off, e1, Nat.lt_of_lt_of_le e2 hg.size, by rw [World.cell?_of_block (w := w) (hg.block g e2 (fun e => hne (by simpa using e)))]; exact e3⟩

theorem xor_lt (n k : Nat) (hn : n ≤ 3) (hk : k < 2) : (n / 2 ^ k) ^^^ 1 < levLen k := by
  have hk' : k = 0 ∨ k = 1 := by omega
  have hn' : n = 0 ∨ n = 1 ∨ n = 2 ∨ n = 3 := by omega
  rcases hk' with rfl | rfl <;> rcases hn' with rfl | rfl | rfl | rfl <;> decide

theorem sig_nostring {w : World} {b : Nat} {l : Int} {a a' : Option Addr} {m m' c c' : Nat} {t : TypeId} (h : Blk w b [.int .i64 l, .slice a m c, .slice a' m' c'] t) (off : Nat) (x : ByteArray) : w.cell? ⟨b, off, none⟩ ≠ some (.string x) := by
  rw [h.cell off]
  match off with
  | 0 => simp
  | 1 => simp
  | 2 => simp
  | _ + 3 => simp

set_option maxHeartbeats 2000000 in
theorem specSign_calls (seed leaf : Int) (t : List UInt8) (ht : t.length ≤ 1048576) (w : World) :
    Calls Tryd.prog 25 #[.int .i64 seed, .int .i64 leaf, .string ⟨t.toArray⟩] w fun e w' => ∃ v, e = .returned (.tuple #[v, .bool (decide (sOk seed leaf))]) ∧ SigOwn w.heap.size w' v (sLeaf seed leaf) (sEnds seed leaf t) (sWay seed leaf) ∧ Below w.heap.size w w' := by
  by_cases h1 : 0 ≤ leaf ∧ leaf ≤ 3
  · have HIN := hide (fun (wx : World) => inD_calls leaf 0 3 wx)
    simp only [decide_eq_true h1] at HIN
    by_cases h2 : few seed
    · have d2 := decide_eq_true h2
      obtain ⟨n, rfl⟩ := Int.eq_ofNat_of_zero_le h1.1
      have hn3 : n ≤ 3 := by have := h1.2; omega
      have HOK : Hid (decide (sOk seed n) = true ∧ sLeaf seed n = n ∧ sEnds seed n t = endN seed n t 11 ∧ sWay seed n = wayN seed n 2) := by
        have hok : sOk seed n := ⟨h1, h2⟩
        refine ⟨decide_eq_true hok, ?_, ?_, ?_⟩
        · unfold sLeaf; rw [if_pos hok]
        · unfold sEnds; rw [if_pos hok]
        · unfold sWay; rw [if_pos hok]; rfl
      clear h1 h2
      go_enter Tryd.func25, Tryd.ntmps25
      go_wp2_with fail
      refine (HIN.out _).mono ?_
      rintro e w1 ⟨rfl, rfl⟩
      go_wp2_with fail
      refine (few_calls _ _).mono ?_
      rintro e w1 ⟨rfl, rfl⟩
      rw [d2]
      go_wp2_with fail
      have HQ := hide (fun wx => specQuads_calls t (by omega) wx)
      have HQE : Hid (quads t = ints (quadsN t)) := rfl
      have HQL := hide (fun x hx => quadsN_lt t x hx)
      have hq11 := quadsN_length t
      have hbS : Below w.heap.size w ((w.alloc (.cells #[.int .i64 0, .slice none 0 0, .slice none 0 0] 29)).alloc (.cells #[.int .i64 (n : Int), .slice none 0 0, .slice none 0 0] 29)) := ((Below.refl _ _).alloc (Nat.le_refl _) _).alloc (by simp) _
      have hS1 : Blk ((w.alloc (.cells #[.int .i64 0, .slice none 0 0, .slice none 0 0] 29)).alloc (.cells #[.int .i64 (n : Int), .slice none 0 0, .slice none 0 0] 29)) (w.heap.size + 1) [.int .i64 (n : Int), .slice none 0 0, .slice none 0 0] 29 := by
        have := Blk.new (w.alloc (.cells #[.int .i64 0, .slice none 0 0, .slice none 0 0] 29)) #[.int .i64 (n : Int), .slice none 0 0, .slice none 0 0] 29
        simpa using this
      have hR1 : Blk ((w.alloc (.cells #[.int .i64 0, .slice none 0 0, .slice none 0 0] 29)).alloc (.cells #[.int .i64 (n : Int), .slice none 0 0, .slice none 0 0] 29)) w.heap.size [.int .i64 0, .slice none 0 0, .slice none 0 0] 29 :=
        (Blk.new w #[.int .i64 0, .slice none 0 0, .slice none 0 0] 29).below (B := w.heap.size + 1) ((Below.refl _ _).alloc (by simp) _) (by omega)
      have hz1 : ((w.alloc (.cells #[.int .i64 0, .slice none 0 0, .slice none 0 0] 29)).alloc (.cells #[.int .i64 (n : Int), .slice none 0 0, .slice none 0 0] 29)).heap.size = w.heap.size + 2 := by simp
      have HBS := hide hbS
      have HS1 := hide hS1
      have HR1 := hide hR1
      clear hbS hS1 hR1
      generalize (w.alloc (.cells #[.int .i64 0, .slice none 0 0, .slice none 0 0] 29)).alloc (.cells #[.int .i64 (n : Int), .slice none 0 0, .slice none 0 0] 29) = w1 at *
      refine (HQ.out _).mono ?_
      rintro e w2 ⟨vq, rfl, hoq, hb2⟩
      obtain ⟨gq, cq, hvq, hgq1, hgq2, hcq, hqc, -⟩ := own_at hoq (by omega)
      subst hvq
      have hqq : ∀ j, j < 11 → w2.cell? ⟨gq, j, none⟩ = some (.int .i64 ((quadsN t).getD j 0 : Nat)) := by
        intro j hj
        rw [hqc j (by omega), HQE.out]
        simp [cellsI, ints, List.getD_eq_getElem?_getD, show j < (quadsN t).length by omega]
      have HQC := hide hqq
      have HB2 := hide (HBS.out.trans (hb2.mono HBS.out.size))
      have HS2 := hide (HS1.out.below hb2 (by omega))
      have HR2 := hide (HR1.out.below hb2 (by omega))
      clear hb2 hoq hqc hqq HBS HS1 HR1 HQ HQE
      obtain ⟨bR, hbR⟩ : ∃ bR, bR = w.heap.size := ⟨_, rfl⟩
      obtain ⟨bS, hbSe⟩ : ∃ bS, bS = w.heap.size + 1 := ⟨_, rfl⟩
      have hRS : bR ≠ bS := by omega
      have hRw : w.heap.size ≤ bR := by omega
      have hSw : w.heap.size ≤ bS := by omega
      have hRq : bR < w2.heap.size := by omega
      have hSq : bS < w2.heap.size := by omega
      have hgS : gq ≠ bS := by omega
      rw [← hbR] at HR2
      rw [← hbSe] at HS2
      go_wp2_with fail
      rw [← hbSe, ← hbR]
      clear hbR hbSe hz1 hgq1 d2 HIN
      obtain ⟨i0, hi, hz0, hz1, hz2⟩ := info_parts info_str
      go_loopw [10] (fun i wr => ∃ (k : Nat) (vE : Value), k ≤ 11 ∧ i = .int .i64 k ∧ Blk wr bR [.int .i64 0, .slice none 0 0, .slice none 0 0] 29 ∧ Blk wr bS [.int .i64 (n : Int), vE, .slice none 0 0] 29 ∧ wr.ownsRow w2.heap.size 9 1 vE (endN seed n t k).length (cellsS (endN seed n t k)) ∧ (∀ j, j < 11 → wr.cell? ⟨gq, j, none⟩ = some (.int .i64 ((quadsN t).getD j 0 : Nat))) ∧ Below w.heap.size w wr ∧ w2.heap.size ≤ wr.heap.size) (fun i _ => 11 - (intOf i).toNat)
      case atStart => exact ⟨0, _, by omega, rfl, HR2.out, HS2.out, World.ownsRow_nil _ _ _ _, HQC.out, HB2.out, Nat.le_refl _⟩
      case round =>
        clear HR2 HS2 HQC HB2
        obtain ⟨k, vE, hk, rfl, hR, hS, hown, hqc, hb, hz⟩ := hrel
        have HR := hide hR
        have HS := hide hS
        have HO := hide hown
        have HQC := hide hqc
        have HB := hide hb
        clear hR hS hown hqc hb
        by_cases hlt : k < 11
        · have hd : decide ((k : Int) < 11) = true := by simp; omega
          have HN := hide (endN_succ seed n t k)
          have hqk := HQL.out ((quadsN t).getD k 0) (by rw [List.getD_eq_getElem?_getD, List.getElem?_eq_getElem (by omega)]; exact List.getElem_mem _)
          have n1 : ∀ p : Near wr.heap.size wr, p.w.cell? ⟨bS, 1, none⟩ = some vE := fun p => by rw [(HS.out.below p.h HS.out.lt).cell 1]; rfl
          have n2 : ∀ p : Near wr.heap.size wr, p.w.cell? ⟨gq, k, none⟩ = some (.int .i64 ((quadsN t).getD k 0 : Nat)) := fun p => (p.h.cell (p := ⟨gq, k, none⟩) (Nat.lt_of_lt_of_le hgq2 hz)).trans (HQC.out k hlt)
          have HC1 := hide (fun (p : Near wr.heap.size wr) => specSecret_calls seed n k p.w)
          have hsl := secret_length seed n k
          generalize (quadsN t).getD k 0 = q at *
          generalize secret seed n k = sc at *
          have HC2 := hide (fun (p : Near wr.heap.size wr) => specChain_calls sc (by omega) (q : Int) p.w)
          have hcv : chainV sc (q : Int) = chain q sc := by
            unfold chainV
            congr 1
            omega
          simp only [hcv] at HC2
          generalize chain q sc = c at *
          have hnn := Near.some wr.heap.size wr
          have HLE := hide (endN_length seed n t k)
          clear hcv
          go_wp2_with fail
          refine wp_region_open (fun wd => ∃ p : Near wr.heap.size wr, wd = p.w) ⟨⟨_, (Below.refl _ _).drew⟩, rfl⟩ (by kernel_rfl) ?_
          rintro wd ⟨pd, rfl⟩
          refine wpAny_seg_lit 0 1 14 rfl (by decide) (by kernel_rfl) (by kernel_rfl) (fun _ _ _ _ _ h => h) ?_
          simp only [List.take_succ_cons, List.take_zero, List.drop_zero]
          repeat (go_big_quiet_step (fail))
          refine wpQuiet_nil ?_
          refine wpAny_of_K (c := 12) (D := fun w' => ∃ p : Near wr.heap.size wr, w' = p.w) _ _ _ _ ?_
          refine wpAnyK_load 1 (by kernel_rfl) (by kernel_rfl) (by kernel_rfl) (by kernel_rfl) (by kernel_rfl) (by kernel_rfl) (by decide) (fun _ _ _ _ _ h => h) ⟨pd, rfl⟩ ?_
          simp only [List.take_succ_cons, List.take_zero, List.drop_succ_cons, List.drop_zero]
          go_big_quiet_step (fail)
          refine wpQuiet_nil ?_
          refine wpAnyK_cut 2 11 8 (fun w' => ∃ p : Near wr.heap.size wr, w' = p.w) ⟨pd, rfl⟩ 12 _ (fun _ h => h) (by decide) rfl rfl (by kernel_rfl) (by kernel_rfl) (by kernel_rfl) ?_
          simp only [List.take_succ_cons, List.take_zero, List.drop_succ_cons, List.drop_zero]
          repeat (go_big_quiet_step (fail))
          go_big_quiet_step (exact calls_near (Nat.le_refl _) (HC1.out _))
          repeat (go_big_quiet_step (fail))
          go_big_quiet_step (exact calls_near (Nat.le_refl _) (HC2.out _))
          repeat (go_big_quiet_step (fail))
          refine wpQuiet_nil ?_
          rintro wd ⟨pq, rfl⟩
          have hqb := pq.h
          obtain ⟨w3, hq⟩ := pq
          simp only at hqb ⊢
          have HBT := hide hqb
          clear hq hqb n1 n2 hnn HC1 HC2
          refine wpAnyK_value (i := 11) (v := .slice (some ⟨w3.heap.size, 0, none⟩) 1 1) (w' := w3.alloc (.cells #[.string ⟨c.toArray⟩] 9)) (by kernel_rfl) rfl rfl (by simp [execOp, go_sem]) ⟨⟨_, HBT.out.alloc HBT.out.size _⟩, rfl⟩ ?_
          refine wpAnyK_last (by kernel_rfl) (by decide) ?_
          refine wpAny_rest 12 rfl (by kernel_rfl) ?_
          simp only [List.drop_succ_cons, List.drop_zero]
          have HO3 := hide (own_below HO.out HBT.out)
          have hb3 : Below w2.heap.size wr w3 := HBT.out.mono hz
          go_wp2_with (at_builtin; refine wpList_append_one (cs := #[.string ⟨c.toArray⟩]) hb3 hz rfl (.tmp 32) (.tmp 42) 27 rfl 9 i0 (.string ⟨#[]⟩) 1 16 Tryd.underlying27 hi hz0 hz1 hz2 rfl (by decide) rfl (by simp [Value.oneCell']) _ _ _ rfl HO3.out 1 rfl (by have := HLE.out; omega) (by have := HLE.out; omega) ?_)
          intro v' w6 hown6 hb6
          have hown7 := own_snocS hown6
          rw [← HN.out] at hown7
          have hvb : v'.ownBlock ≠ some bS := fun e => by have := (hown7.lt bS e).1; omega
          obtain ⟨g7, c7, hv7, -⟩ := own_at hown7 (by rw [endN_length]; omega)
          generalize (endN seed n t (k + 1)).length = l7 at hv7
          have hS6 := HS.out.below hb6 hSq
          have hc1 : w6.cell? ⟨bS, 1, none⟩ = some vE := by rw [hS6.cell 1]; rfl
          have hf1 := hS6.free 1
          have HS7 := hide (hS6.set 1 v')
          have HR7 := hide ((HR.out.below hb6 hRq).other (p := ⟨bS, 1, none⟩) hRS v')
          have HO7 := hide (ownsRow_setCell_other hown7 (a := ⟨bS, 1, none⟩) hvb v')
          have HQ7 : Hid (∀ j, j < 11 → (w6.setCell ⟨bS, 1, none⟩ v').cell? ⟨gq, j, none⟩ = some (.int .i64 ((quadsN t).getD j 0 : Nat))) := fun j hj => by
            rw [World.cell?_of_block (w := w6) (Below.heap_setCell _ _ _ _ hgS), hb6.cell (p := ⟨gq, j, none⟩) hgq2]
            exact HQC.out j hj
          have HB7 := hide ((HB.out.trans (hb6.mono (Nat.le_trans hSw (Nat.le_of_lt hSq)))).setCell (p := ⟨bS, 1, none⟩) hSw v')
          have hz7 : w2.heap.size ≤ (w6.setCell ⟨bS, 1, none⟩ v').heap.size := Nat.le_trans (Nat.le_trans hz hb6.size) (by simp [World.setCell])
          clear hown6 hown7 hb6 hvb hS6 HR HS HO HB HQC HBT HO3 hb3
          subst hv7
          go_wp2_with fail
          go_roundw
          case rel => exact ⟨k + 1, _, by omega, by go_num, HR7.out, HS7.out, HO7.out, HQ7.out, HB7.out, hz7⟩
          case measure => simp [intOf]; omega
        · have hd : decide ((k : Int) < 11) = false := by simp; omega
          obtain rfl : k = 11 := by omega
          have HLE := hide (endN_length seed n t 11)
          rw [HLE.out] at HO
          obtain ⟨gE, cE, hvE, hgE1, hgE2, hcE, -, -⟩ := own_at HO.out (by omega)
          subst hvE
          clear hd hlt HQC HQL
          go_wp2_with fail
          refine (rows_calls seed _).mono ?_
          rintro e w3 ⟨vr, rfl, ⟨v0, v1, v2, g, cap, rfl, c0, c1, c2, t0, t1, t2⟩, hb3⟩
          have hR3 := HR.out.below hb3 HR.out.lt
          have hS3 := HS.out.below hb3 HS.out.lt
          have hO3 := own_below HO.out hb3
          have hB3 := HB.out.trans (hb3.mono HB.out.size)
          obtain ⟨a0, p0, e0, t0'⟩ := t0
          obtain ⟨a1, p1, e1, t1'⟩ := t1
          have hT0 : TextsAt w3 v0 (lev seed 0) := ⟨a0, p0, e0, t0'⟩
          have hT1 : TextsAt w3 v1 (lev seed 1) := ⟨a1, p1, e1, t1'⟩
          have hgS3 : g ≠ bS := fun e => by
            rw [e, hS3.cell 0, e0] at c0
            simp at c0
          have hg3 : g < w3.heap.size := P1.cell_lt' c0
          have HR3 := hide hR3
          have HS3 := hide hS3
          have HO3 := hide hO3
          have HB3 := hide hB3
          have HT0 := hide hT0
          have HT1 := hide hT1
          have HC0 := hide c0
          have HC1 := hide c1
          have hz3 : w2.heap.size ≤ w3.heap.size := Nat.le_trans hz hb3.size
          have hS3l : bS < w3.heap.size := by omega
          have hR3l : bR < w3.heap.size := by omega
          have hEl : gE < w3.heap.size := Nat.lt_of_lt_of_le hgE2 hb3.size
          clear hR3 hS3 hO3 hB3 hT0 hT1 c0 c1 c2 t2 e0 e1 t0' t1' hb3 HR HS HO HB
          go_wp2_with fail
          go_loopw [12, 13] (fun at_ i wz => ∃ (k : Nat) (vW : Value), k ≤ 2 ∧ i = .int .i64 k ∧ at_ = .int .i64 ((n / 2 ^ k : Nat) : Int) ∧ (∃ aW mW pW, vW = .slice aW mW pW) ∧ Blk wz bR [.int .i64 0, .slice none 0 0, .slice none 0 0] 29 ∧ Blk wz bS [.int .i64 (n : Int), .slice (some ⟨gE, 0, none⟩) 11 cE, vW] 29 ∧ wz.ownsRow w3.heap.size 9 1 vW (wayN seed n k).length (cellsS (wayN seed n k)) ∧ w3.grownBy wz (some bS) ∧ Below w.heap.size w wz) (fun _ i _ => 2 - (intOf i).toNat)
          case atStart => exact ⟨0, _, by omega, rfl, by simp, ⟨_, _, _, rfl⟩, HR3.out, HS3.out, World.ownsRow_nil _ _ _ _, World.grownBy.refl _ _, HB3.out⟩
          case round =>
            clear HB3
            obtain ⟨k, vW, hk, rfl, rfl, ⟨aW, mW, pW, rfl⟩, hR, hS, hown, hgr, hb⟩ := hrel
            have hzz : w3.heap.size ≤ wr.heap.size := hgr.size
            have HNS := hide (sig_nostring HS3.out)
            have HS := hide hS
            have HR := hide hR
            have HO := hide hown
            have HGR := hide hgr
            have HB := hide hb
            by_cases hlt : k < 2
            · have hd : decide ((k : Int) + 1 < 3) = true := by simp; omega
              obtain ⟨vk, hck, hTk⟩ : ∃ vk, wr.cell? ⟨g, k, none⟩ = some vk ∧ TextsAt wr vk (lev seed k) := by
                have hk' : k = 0 ∨ k = 1 := by omega
                rcases hk' with rfl | rfl
                · exact ⟨v0, hgr.cell HC0.out (fun e => hgS3 (by simpa using e)), TextsAt.grownB HT0.out hgr HNS.out⟩
                · exact ⟨v1, hgr.cell HC1.out (fun e => hgS3 (by simpa using e)), TextsAt.grownB HT1.out hgr HNS.out⟩
              have hle := lev_length seed k (by omega)
              have hxl := xor_lt n k hn3 hlt
              have hm3 : n / 2 ^ k ≤ 3 := Nat.le_trans (Nat.div_le_self _ _) hn3
              have hxo := xor1 (n / 2 ^ k) hm3
              have HN := hide (wayN_succ seed n k)
              have HLE2 := hide (wayN_length seed n k)
              have HDV : Hid (n / 2 ^ (k + 1) = n / 2 ^ k / 2) := by show _ = _; rw [Nat.pow_succ, Nat.div_div_eq_div_mul]
              obtain ⟨idx, hidx⟩ : ∃ idx, idx = (n / 2 ^ k) ^^^ 1 := ⟨_, rfl⟩
              rw [← hidx] at hxl hxo HN
              have hgd : (lev seed k).getD idx [] = (lev seed k)[idx]'(by omega) := by simp [List.getD_eq_getElem?_getD, show idx < (lev seed k).length by omega]
              rw [hgd] at HN
              obtain ⟨ak, pk, hvk, htk⟩ := hTk
              obtain ⟨gk, ok, hak, hgkl, hkc⟩ := htk idx (by omega)
              subst hak hvk
              rw [hle] at hck
              generalize (lev seed k)[idx] = c at *
              generalize n / 2 ^ k = m at *
              have hgl : g < wr.heap.size := Nat.lt_of_lt_of_le hg3 hzz
              have n1 : ∀ p : Near wr.heap.size wr, p.w.cell? ⟨bS, 2, none⟩ = some (.slice aW mW pW) := fun p => by rw [(HS.out.below p.h HS.out.lt).cell 2]; rfl
              have n2 : ∀ p : Near wr.heap.size wr, p.w.cell? ⟨g, k, none⟩ = some (.slice (some ⟨gk, ok, none⟩) (levLen k) pk) := fun p => (p.h.cell (p := ⟨g, k, none⟩) hgl).trans hck
              have n3 : ∀ p : Near wr.heap.size wr, p.w.cell? ⟨gk, ok + idx, none⟩ = some (.string ⟨c.toArray⟩) := fun p => (p.h.cell (p := ⟨gk, ok + idx, none⟩) hgkl).trans hkc
              have hnn := Near.some wr.heap.size wr
              have hll : levLen k ≤ 4 := by
                have hk' : k = 0 ∨ k = 1 := by omega
                rcases hk' with rfl | rfl <;> decide
              clear hgd hidx htk hkc hck hgr hR hS hown hb HNS hle
              go_wp2_with fail
              refine wp_region_open (fun wd => ∃ p : Near wr.heap.size wr, wd = p.w) ⟨⟨_, (Below.refl _ _).drew⟩, rfl⟩ (by kernel_rfl) ?_
              rintro wd ⟨pd, rfl⟩
              refine wpAny_seg_lit 0 1 13 rfl (by decide) (by kernel_rfl) (by kernel_rfl) (fun _ _ _ _ _ h => h) ?_
              simp only [List.take_succ_cons, List.take_zero, List.drop_zero]
              repeat (go_big_quiet_step (fail))
              refine wpQuiet_nil ?_
              refine wpAny_of_K (c := 11) (D := fun w' => ∃ p : Near wr.heap.size wr, w' = p.w) _ _ _ _ ?_
              refine wpAnyK_load 1 (by kernel_rfl) (by kernel_rfl) (by kernel_rfl) (by kernel_rfl) (by kernel_rfl) (by kernel_rfl) (by decide) (fun _ _ _ _ _ h => h) ⟨pd, rfl⟩ ?_
              simp only [List.take_succ_cons, List.take_zero, List.drop_succ_cons, List.drop_zero]
              go_big_quiet_step (fail)
              refine wpQuiet_nil ?_
              refine wpAnyK_cut 2 10 8 (fun w' => ∃ p : Near wr.heap.size wr, w' = p.w) ⟨pd, rfl⟩ 11 _ (fun _ h => h) (by decide) rfl rfl (by kernel_rfl) (by kernel_rfl) (by kernel_rfl) ?_
              simp only [List.take_succ_cons, List.take_zero, List.drop_succ_cons, List.drop_zero]
              repeat (go_big_quiet_step (fail))
              refine wpQuiet_nil ?_
              rintro wd ⟨pq, rfl⟩
              have hqb := pq.h
              obtain ⟨w5, hq⟩ := pq
              simp only at hqb ⊢
              have HBT := hide hqb
              clear hq hqb n1 n2 n3 hnn
              refine wpAnyK_value (i := 10) (v := .slice (some ⟨w5.heap.size, 0, none⟩) 1 1) (w' := w5.alloc (.cells #[.string ⟨c.toArray⟩] 9)) (by kernel_rfl) rfl rfl (by simp [execOp, go_sem]) ⟨⟨_, HBT.out.alloc HBT.out.size _⟩, rfl⟩ ?_
              refine wpAnyK_last (by kernel_rfl) (by decide) ?_
              refine wpAny_rest 11 rfl (by kernel_rfl) ?_
              simp only [List.drop_succ_cons, List.drop_zero]
              have HO5 := hide (own_below HO.out HBT.out)
              have hb5 : Below w3.heap.size wr w5 := HBT.out.mono hzz
              go_wp2_with (at_builtin; refine wpList_append_one (cs := #[.string ⟨c.toArray⟩]) hb5 hzz rfl (.tmp 56) (.tmp 65) 27 rfl 9 i0 (.string ⟨#[]⟩) 1 16 Tryd.underlying27 hi hz0 hz1 hz2 rfl (by decide) rfl (by simp [Value.oneCell']) _ _ _ rfl HO5.out 1 rfl (by have := HLE2.out; omega) (by have := HLE2.out; omega) ?_)
              intro v' w6 hown6 hb6
              have hown7 := own_snocS hown6
              rw [← HN.out] at hown7
              have hvb : v'.ownBlock ≠ some bS := fun e => by have := (hown7.lt bS e).1; omega
              obtain ⟨g7, c7, hv7, -⟩ := own_at hown7 (by rw [wayN_length]; omega)
              generalize (wayN seed n (k + 1)).length = l7 at hv7
              have hS6 := HS.out.below hb6 hS3l
              have hc1 : w6.cell? ⟨bS, 2, none⟩ = some (.slice aW mW pW) := by rw [hS6.cell 2]; rfl
              have hf1 := hS6.free 2
              have HS7 := hide (hS6.set 2 v')
              have HR7 := hide ((HR.out.below hb6 hR3l).other (p := ⟨bS, 2, none⟩) hRS v')
              have HO7 := hide (ownsRow_setCell_other hown7 (a := ⟨bS, 2, none⟩) hvb v')
              have HB7 := hide ((HB.out.trans (hb6.mono (Nat.le_trans hSw (Nat.le_of_lt hS3l)))).setCell (p := ⟨bS, 2, none⟩) hSw v')
              have hgr6 : w3.grownBy (w6.setCell ⟨bS, 2, none⟩ v') (some bS) := by
                refine ⟨hb6.os.trans HGR.out.os, hb6.tape.trans HGR.out.tape, hb6.output.trans HGR.out.output, ?_, fun i hi hne => ?_⟩
                · exact Nat.le_trans (Nat.le_trans hzz hb6.size) (by simp [World.setCell])
                · rw [Below.heap_setCell _ _ _ _ (fun e => hne (by rw [e])), hb6.block i hi]
                  exact HGR.out.block i hi hne
              have HG7 := hide hgr6
              clear hown6 hown7 hb6 hvb hS6 HR HS HO HB HBT HO5 hb5 HGR hgr6
              subst hv7
              go_wp2_with fail
              go_roundw
              case rel => exact ⟨k + 1, _, by omega, by go_num, by rw [HDV.out]; go_num, ⟨_, _, _, rfl⟩, HR7.out, HS7.out, HO7.out, HG7.out, HB7.out⟩
              case measure => simp [intOf]; omega
            · have hd : decide ((k : Int) + 1 < 3) = false := by simp; omega
              obtain rfl : k = 2 := by omega
              have s0 : wr.cell? ⟨bS, 0, none⟩ = some (.int .i64 (n : Int)) := by rw [hS.cell 0]; rfl
              have s1 : wr.cell? ⟨bS, 1, none⟩ = some (.slice (some ⟨gE, 0, none⟩) 11 cE) := by rw [hS.cell 1]; rfl
              have s2 : wr.cell? ⟨bS, 2, none⟩ = some (.slice aW mW pW) := by rw [hS.cell 2]; rfl
              have r0 : wr.cell? ⟨bR, 0, none⟩ = some (.int .i64 0) := by rw [hR.cell 0]; rfl
              have r1 : wr.cell? ⟨bR, 1, none⟩ = some (.slice none 0 0) := by rw [hR.cell 1]; rfl
              have r2 : wr.cell? ⟨bR, 2, none⟩ = some (.slice none 0 0) := by rw [hR.cell 2]; rfl
              have f0 := hR.free 0
              have f1 := hR.free 1
              have f2 := hR.free 2
              have HOE := hide (HO3.out.kept hgr (.inr (fun e => by have h := (HO3.out.lt bS e).1; omega)))
              clear hR hS hown hgr hb HNS
              go_wp2_with fail
              have hRF := ((HR.out.set 0 (.int .i64 (n : Int))).set 1 (.slice (some ⟨gE, 0, none⟩) 11 cE)).set 2 (.slice aW mW pW)
              have hOE := ownsRow_setCell_other (ownsRow_setCell_other (ownsRow_setCell_other HOE.out (a := ⟨bR, 0, none⟩) (fun e => by have := (HOE.out.lt bR e).1; omega) (.int .i64 (n : Int))) (a := ⟨bR, 1, none⟩) (fun e => by have := (HOE.out.lt bR e).1; omega) (.slice (some ⟨gE, 0, none⟩) 11 cE)) (a := ⟨bR, 2, none⟩) (fun e => by have := (HOE.out.lt bR e).1; omega) (.slice aW mW pW)
              have hOW := ownsRow_setCell_other (ownsRow_setCell_other (ownsRow_setCell_other HO.out (a := ⟨bR, 0, none⟩) (fun e => by have := (HO.out.lt bR e).1; omega) (.int .i64 (n : Int))) (a := ⟨bR, 1, none⟩) (fun e => by have := (HO.out.lt bR e).1; omega) (.slice (some ⟨gE, 0, none⟩) 11 cE)) (a := ⟨bR, 2, none⟩) (fun e => by have := (HO.out.lt bR e).1; omega) (.slice aW mW pW)
              have hBF := ((HB.out.setCell (p := ⟨bR, 0, none⟩) hRw (.int .i64 (n : Int))).setCell (p := ⟨bR, 1, none⟩) hRw (.slice (some ⟨gE, 0, none⟩) 11 cE)).setCell (p := ⟨bR, 2, none⟩) hRw (.slice aW mW pW)
              have hap : (Value.slice (some ⟨gE, 0, none⟩) 11 cE).ownBlock ≠ (Value.slice aW mW pW).ownBlock := fun e => by
                have := (HO.out.lt gE (e.symm.trans rfl)).1
                omega
              clear s0 s1 s2 r0 r1 r2 f0 f1 f2 HOE HO HB HR HS HGR
              generalize ((wr.setCell ⟨bR, 0, none⟩ (.int .i64 (n : Int))).setCell ⟨bR, 1, none⟩ (.slice (some ⟨gE, 0, none⟩) 11 cE)).setCell ⟨bR, 2, none⟩ (.slice aW mW pW) = wF at *
              have x0 : wF.cell? ⟨bR, 0, none⟩ = some (.int .i64 (n : Int)) := by rw [hRF.cell 0]; rfl
              have x1 : wF.cell? ⟨bR, 1, none⟩ = some (.slice (some ⟨gE, 0, none⟩) 11 cE) := by rw [hRF.cell 1]; rfl
              have x2 : wF.cell? ⟨bR, 2, none⟩ = some (.slice aW mW pW) := by rw [hRF.cell 2]; rfl
              refine bodyPost_ret (v := .tuple #[.agg #[.int .i64 (n : Int), .slice (some ⟨gE, 0, none⟩) 11 cE, .slice aW mW pW], .bool true]) (by simp [results, Tryd.results25, go_sem, x0, x1, x2]) rfl ?_
              obtain ⟨k1, k2, k3, k4⟩ := HOK.out
              rw [k1, k2, k3, k4]
              exact ⟨_, rfl, ⟨_, _, rfl, by rw [endN_length]; exact own_mono hOE (by omega), by rw [wayN_length] at hOW ⊢; exact own_mono hOW (by omega), .inr hap⟩, hBF⟩
    · have d2 := decide_eq_false h2
      have HOK : Hid (decide (sOk seed leaf) = false ∧ sLeaf seed leaf = 0 ∧ sEnds seed leaf t = [] ∧ sWay seed leaf = []) := by
        have hok : ¬ sOk seed leaf := fun h => h2 h.2
        refine ⟨decide_eq_false hok, ?_, ?_, ?_⟩
        · unfold sLeaf; rw [if_neg hok]
        · unfold sEnds; rw [if_neg hok]
        · unfold sWay; rw [if_neg hok]
      clear h1 h2
      go_enter Tryd.func25, Tryd.ntmps25
      go_wp2_with fail
      refine (HIN.out _).mono ?_
      rintro e w1 ⟨rfl, rfl⟩
      go_wp2_with fail
      refine (few_calls _ _).mono ?_
      rintro e w1 ⟨rfl, rfl⟩
      rw [d2]
      go_wp2_with fail
      have hRF := Blk.new w #[.int .i64 0, .slice none 0 0, .slice none 0 0] 29
      have hBF : Below w.heap.size w (w.alloc (.cells #[.int .i64 0, .slice none 0 0, .slice none 0 0] 29)) := (Below.refl _ _).alloc (Nat.le_refl _) _
      generalize w.alloc (.cells #[.int .i64 0, .slice none 0 0, .slice none 0 0] 29) = wF at *
      have x0 : wF.cell? ⟨w.heap.size, 0, none⟩ = some (.int .i64 0) := by rw [hRF.cell 0]; rfl
      have x1 : wF.cell? ⟨w.heap.size, 1, none⟩ = some (.slice none 0 0) := by rw [hRF.cell 1]; rfl
      have x2 : wF.cell? ⟨w.heap.size, 2, none⟩ = some (.slice none 0 0) := by rw [hRF.cell 2]; rfl
      refine bodyPost_ret (v := .tuple #[.agg #[.int .i64 0, .slice none 0 0, .slice none 0 0], .bool false]) (by simp [results, Tryd.results25, go_sem, x0, x1, x2]) rfl ?_
      obtain ⟨k1, k2, k3, k4⟩ := HOK.out
      rw [k1, k2, k3, k4]
      exact ⟨_, rfl, ⟨_, _, rfl, World.ownsRow_nil _ _ _ _, World.ownsRow_nil _ _ _ _, .inl rfl⟩, hBF⟩
  · have HIN := hide (fun (wx : World) => inD_calls leaf 0 3 wx)
    simp only [decide_eq_false h1] at HIN
    have HOK : Hid (decide (sOk seed leaf) = false ∧ sLeaf seed leaf = 0 ∧ sEnds seed leaf t = [] ∧ sWay seed leaf = []) := by
      have hok : ¬ sOk seed leaf := fun h => h1 h.1
      refine ⟨decide_eq_false hok, ?_, ?_, ?_⟩
      · unfold sLeaf; rw [if_neg hok]
      · unfold sEnds; rw [if_neg hok]
      · unfold sWay; rw [if_neg hok]
    clear h1
    go_enter Tryd.func25, Tryd.ntmps25
    go_wp2_with fail
    refine (HIN.out _).mono ?_
    rintro e w1 ⟨rfl, rfl⟩
    go_wp2_with fail
    have hRF := Blk.new w #[.int .i64 0, .slice none 0 0, .slice none 0 0] 29
    have hBF : Below w.heap.size w (w.alloc (.cells #[.int .i64 0, .slice none 0 0, .slice none 0 0] 29)) := (Below.refl _ _).alloc (Nat.le_refl _) _
    generalize w.alloc (.cells #[.int .i64 0, .slice none 0 0, .slice none 0 0] 29) = wF at *
    have x0 : wF.cell? ⟨w.heap.size, 0, none⟩ = some (.int .i64 0) := by rw [hRF.cell 0]; rfl
    have x1 : wF.cell? ⟨w.heap.size, 1, none⟩ = some (.slice none 0 0) := by rw [hRF.cell 1]; rfl
    have x2 : wF.cell? ⟨w.heap.size, 2, none⟩ = some (.slice none 0 0) := by rw [hRF.cell 2]; rfl
    refine bodyPost_ret (v := .tuple #[.agg #[.int .i64 0, .slice none 0 0, .slice none 0 0], .bool false]) (by simp [results, Tryd.results25, go_sem, x0, x1, x2]) rfl ?_
    obtain ⟨k1, k2, k3, k4⟩ := HOK.out
    rw [k1, k2, k3, k4]
    exact ⟨_, rfl, ⟨_, _, rfl, World.ownsRow_nil _ _ _ _, World.ownsRow_nil _ _ _ _, .inl rfl⟩, hBF⟩
end Go.Proofs.YtmjpdccfdaajmaaDoor.P4
