/- The contract of spec.QuadsOf; condition: the text is at most 2^20 bytes long. -/
import Derived.Test.YtmjpdccfdaajmaaDoorSgn1
import Derived.Test.YtmjpdccfdaajmaaDoorIntS
namespace Go.Proofs.YtmjpdccfdaajmaaDoor.P4
set_option maxRecDepth 8000
open Go.RowKit P1 P3

theorem and3 (n : Int) : bits .and .i64 n 3 = n % 4 := by
  have h3 : (BitVec.ofInt 64 3).toNat = 2 ^ 2 - 1 := by decide
  have key : (BitVec.ofInt 64 n &&& BitVec.ofInt 64 3).toNat = (n % ((2 ^ 64 : Nat) : Int)).toNat % 2 ^ 2 := by
    rw [BitVec.toNat_and, BitVec.toNat_ofInt, h3, Nat.and_two_pow_sub_one_eq_mod]
  show IntKind.i64.wrap ((BitVec.ofInt 64 n &&& BitVec.ofInt 64 3).toNat : Nat) = n % 4
  rw [key, IntKind.wrap_i64]
  omega

/-- Some elements more, in the block just made for them. -/
theorem wpList_append_many {P : Program} {W w0 : World} {B : Nat} (hbel : Below B W w0) (hB : B ≤ W.heap.size) {cs : Array Value} {ops : Array Oper} {rest : List Oper} {o : Oper} {a : Act} {Q : Exit → Act → World → Prop} (hgd : o.guard = none) (s x : Operand) (t : TypeId)
    (ho : o.op = .call { callee := .builtin .append, args := #[s, x], argTypes := #[t, t] })
    (e : TypeId) (i : TypeInfo) (z : Value) (bytes : Nat) (ht : P.underlying t = some (.slice e)) (hi : P.info? e = some i) (hz : i.zero = some z)
    (hsize : i.size = 1) (hby : i.bytes = bytes) (hzs : z.cells.size = 1) (m : Nat) (hcs : cs.toList.length = m) (h1 : ∀ u ∈ cs.toList, u.oneCell' = true)
    (v : Value) (n : Nat) (xs : List Value) (hs : a.eval s = v) (hown : w0.ownsRow B e 1 v n xs)
    (c : Nat) (hx : a.eval x = .slice (some ⟨w0.heap.size, 0, none⟩) m c) (hb : n + m < 1099511627776) (hbytes : (n + m) * bytes ≤ 140737488355328)
    (h : ∀ v' w', w'.ownsRow B e 1 v' (n + m) (xs ++ cs.toList) → Below B W w' → wpList P ops Q rest (a.put o.dst v') w') :
    wpList P ops Q (o :: rest) a (w0.alloc (.cells cs e)) := by
  have hsz := hbel.size
  refine wpList_append_own _ hgd s x t ho B e i z 1 bytes ht hi hz hsize hby hzs (by decide) v n xs hs (hown.alloc _) ⟨w0.heap.size, 0, none⟩ m c cs.toList hx (by omega) ?_ h1 ?_ hbytes ?_ ?_
  · intro j u hj
    simp only [Go.WideShapes.add_plain]
    have hh : (w0.alloc (.cells cs e)).heap[w0.heap.size]? = some (.cells cs e) := by
      show (w0.heap.push _)[w0.heap.size]? = _
      simp
    simp only [World.cell?, hh]
    simpa using hj
  · unfold maxLen; omega
  · simp; omega
  · intro v' w' h1 h2 _
    exact h v' w' h1 ((hbel.alloc (by omega) _).grown h2 (by simp; omega) (fun k hk => (hown.lt k hk).1))

/-- Nats as ints. -/
def ints (l : List Nat) : List Int := l.map fun (n : Nat) => (n : Int)

theorem ints_snoc (l : List Nat) (x : Nat) : ints l ++ [(x : Int)] = ints (l ++ [x]) := by simp [ints]

theorem ints_length (l : List Nat) : (ints l).length = l.length := by simp [ints]

theorem quad8_at (d : List UInt8) (i j : Nat) (hi : i < 2) (hj : j < 4) : (quad8 d).getD (4 * i + j) 0 = (d.getD i 0).toNat / 2 ^ (6 - 2 * j) % 4 := by
  have h0 := (d.getD i 0).toNat_lt
  have hi' : i = 0 ∨ i = 1 := by omega
  have hj' : j = 0 ∨ j = 1 ∨ j = 2 ∨ j = 3 := by omega
  rcases hi' with rfl | rfl <;> rcases hj' with rfl | rfl | rfl | rfl <;> simp [quad8] at h0 ⊢ <;> omega

theorem take_next (l : List Nat) (k : Nat) (hk : k < l.length) : l.take (k + 1) = l.take k ++ [l.getD k 0] := by
  rw [List.take_succ_eq_append_getElem hk]
  simp [List.getD_eq_getElem?_getD, hk]

set_option maxHeartbeats 1000000 in
theorem specQuads_calls (t : List UInt8) (ht : t.length ≤ 1048577) (w : World) :
    Calls Tryd.prog 34 #[.string ⟨t.toArray⟩] w fun e w' => ∃ v, e = .returned v ∧ w'.ownsRow w.heap.size 3 1 v 11 (cellsI (quads t)) ∧ Below w.heap.size w w' := by
  have HD := hide (fun wx => specDigest_calls t ht wx)
  have hdl := digest_length t
  have HQ : Hid (quads t = ints (quad8 (digest t) ++ [miss (digest t) / 16, miss (digest t) / 4 % 4, miss (digest t) % 4])) := rfl
  obtain ⟨qs, Eq⟩ : ∃ qs, Hid (qs = quads t) := ⟨_, rfl⟩
  rw [← Eq.out] at HQ ⊢
  obtain ⟨d, Ed⟩ : ∃ d, Hid (d = digest t) := ⟨_, rfl⟩
  rw [← Ed.out] at HQ hdl
  simp only [← Ed.out] at HD
  clear Ed Eq
  have hms := miss_le d
  have HQA := hide (fun i j hi hj => quad8_at d i j hi hj)
  have HQL := hide (fun x hx => quad8_lt d x hx)
  have HSM : Hid (miss d = 24 - (quad8 d).sum) := rfl
  have HS24 := hide (quad8_sum d)
  obtain ⟨q8, E8⟩ : ∃ q8, Hid (q8 = quad8 d) := ⟨_, rfl⟩
  obtain ⟨ms, Em⟩ : ∃ ms, Hid (ms = miss d) := ⟨_, rfl⟩
  have h8 : q8.length = 8 := by rw [E8.out]; rfl
  rw [← E8.out, ← Em.out] at HQ
  rw [← E8.out] at HQA HQL HS24
  rw [← E8.out, ← Em.out] at HSM
  rw [← Em.out] at hms
  clear E8 Em
  have hn : qs.length = 11 := by rw [HQ.out, ints_length, List.length_append, h8]; rfl
  obtain ⟨i0, hi, hz0, hz1, hz2⟩ := info_parts info_i64
  go_enter Tryd.func34, Tryd.ntmps34
  go_wp2_with fail
  refine (HD.out _).mono ?_
  rintro e w1 ⟨rfl, hb1⟩
  have HB1 := hide hb1
  have hsz1 : w.heap.size ≤ w1.heap.size := hb1.size
  clear hb1 HD
  go_wp2_with fail
  have hown0 : (w1.alloc (.cells #[] 3)).ownsRow w.heap.size 3 1 (.slice (some ⟨w1.heap.size, 0, none⟩) 0 0) 0 [] := World.ownsRow_lit _ _ 0 hsz1 (by decide) rfl
  have hb2 := HB1.out.alloc hsz1 (.cells #[] 3)
  obtain ⟨g0, hg0⟩ : ∃ g0, g0 = w1.heap.size := ⟨_, rfl⟩
  rw [← hg0] at hown0 ⊢
  generalize w1.alloc (.cells #[] 3) = w2 at hown0 hb2 ⊢
  have HO := hide hown0
  have HB := hide hb2
  clear hown0 hb2 hg0 HB1 hsz1
  go_loopw [4, 5, 6] (fun v s i wr => ∃ k : Nat, ∃ L : List Nat, k ≤ 2 ∧ i = .int .i64 k ∧ L = q8.take (4 * k) ∧ s = .int .i64 (L.sum : Nat) ∧ wr.ownsRow w.heap.size 3 1 v (ints L).length (cellsI (ints L)) ∧ Below w.heap.size w wr) (fun _ _ i _ => 2 - (intOf i).toNat)
  case atStart => exact ⟨0, [], by omega, rfl, rfl, rfl, HO.out, HB.out⟩
  case round =>
    clear HO HB
    obtain ⟨k, L, hk, rfl, hL, rfl, hown, hb⟩ := hrel
    have HO := hide hown
    have HB := hide hb
    have HL := hide hL
    clear hown hb hL
    by_cases hlt : k < 2
    · have hd14 : decide ((k : Int) < 2) = true := by simp; omega
      go_wp2_with fail
      clear hd14
      go_loopw [4, 5, 7] (fun v s i wr => ∃ j : Nat, ∃ L : List Nat, j ≤ 4 ∧ i = .int .i64 (6 - 2 * (j : Int)) ∧ L = q8.take (4 * k + j) ∧ s = .int .i64 (L.sum : Nat) ∧ wr.ownsRow w.heap.size 3 1 v (ints L).length (cellsI (ints L)) ∧ Below w.heap.size w wr) (fun _ _ i _ => (intOf i + 2).toNat)
      case atStart => exact ⟨0, L, by omega, rfl, HL.out, rfl, HO.out, HB.out⟩
      case round =>
        clear HO HB HL
        obtain ⟨j, L, hj, rfl, hL, rfl, hown, hb⟩ := hrel
        have HO := hide hown
        have HB := hide hb
        have HL := hide hL
        clear hown hb hL
        by_cases hlj : j < 4
        · have hix := index_byte d (k : Int) k rfl (by rw [hdl]; omega)
          have hqa := HQA.out k j hlt hlj
          have hlim : 4 * k + j < q8.length := by omega
          have HN := hide (take_next q8 (4 * k + j) hlim)
          rw [← HL.out, hqa] at HN
          have hsl : L.sum ≤ 24 := by
            have : q8.sum = (q8.take (4 * k + j)).sum + (q8.drop (4 * k + j)).sum := by rw [← List.sum_append, List.take_append_drop]
            have := HS24.out
            rw [HL.out]
            omega
          have hll : L.length ≤ 8 := by rw [HL.out, List.length_take]; omega
          have hx := (d.getD k 0).toNat_lt
          generalize (d.getD k 0).toNat = x at hix hqa HN hx
          clear hqa
          have HSN := hide (fun (y : Nat) => (show (L ++ [y]).sum = L.sum + y by simp))
          have HLN := hide (fun (y : Nat) => ints_snoc L y)
          have hLl := ints_length L
          have HLl := hide hLl
          generalize hS : L.sum = S at *
          clear hS hLl
          have hcase : j = 0 ∨ j = 1 ∨ j = 2 ∨ j = 3 := by omega
          rcases hcase with rfl | rfl | rfl | rfl
          · have hbit : bits .and .i64 ((x : Int) / 64) 3 = ((x / 64 % 4 : Nat) : Int) := by rw [and3]; omega
            obtain ⟨y, hy⟩ : ∃ y, y = x / 64 % 4 := ⟨_, rfl⟩
            have hy4 : y < 4 := by omega
            rw [← hy] at hbit
            have HN2 : Hid (q8.take (4 * k + 0 + 1) = L ++ [y]) := by
              show _ = _
              rw [hy]
              simpa using HN.out
            clear HN hy
            go_wp2_with (at_builtin; refine wpList_append_one (cs := #[.int .i64 _]) HB.out (Nat.le_refl _) rfl (.tmp 29) (.tmp 31) 24 rfl 3 i0 (.int .i64 0) 1 8 Tryd.underlying24 hi hz0 hz1 hz2 rfl (by decide) rfl (by simp [Value.oneCell']) _ _ _ rfl HO.out 1 rfl (by have := HLl.out; omega) (by have := HLl.out; omega) ?_)
            intro v' w3 hown3 hb3
            have hown4 := own_snocI hown3
            rw [HLN.out y] at hown4
            have HO4 := hide hown4
            have HB4 := hide hb3
            clear hown3 hown4 hb3
            go_wp2_with fail
            go_roundw
            case rel => exact ⟨0 + 1, L ++ [y], by omega, by go_num, HN2.out.symm, by rw [HSN.out y]; go_num, HO4.out, HB4.out⟩
            case measure => simp [intOf]
          · have hbit : bits .and .i64 ((x : Int) / 16) 3 = ((x / 16 % 4 : Nat) : Int) := by rw [and3]; omega
            obtain ⟨y, hy⟩ : ∃ y, y = x / 16 % 4 := ⟨_, rfl⟩
            have hy4 : y < 4 := by omega
            rw [← hy] at hbit
            have HN2 : Hid (q8.take (4 * k + 1 + 1) = L ++ [y]) := by
              show _ = _
              rw [hy]
              simpa using HN.out
            clear HN hy
            go_wp2_with (at_builtin; refine wpList_append_one (cs := #[.int .i64 _]) HB.out (Nat.le_refl _) rfl (.tmp 29) (.tmp 31) 24 rfl 3 i0 (.int .i64 0) 1 8 Tryd.underlying24 hi hz0 hz1 hz2 rfl (by decide) rfl (by simp [Value.oneCell']) _ _ _ rfl HO.out 1 rfl (by have := HLl.out; omega) (by have := HLl.out; omega) ?_)
            intro v' w3 hown3 hb3
            have hown4 := own_snocI hown3
            rw [HLN.out y] at hown4
            have HO4 := hide hown4
            have HB4 := hide hb3
            clear hown3 hown4 hb3
            go_wp2_with fail
            go_roundw
            case rel => exact ⟨1 + 1, L ++ [y], by omega, by go_num, HN2.out.symm, by rw [HSN.out y]; go_num, HO4.out, HB4.out⟩
            case measure => simp [intOf]
          · have hbit : bits .and .i64 ((x : Int) / 4) 3 = ((x / 4 % 4 : Nat) : Int) := by rw [and3]; omega
            obtain ⟨y, hy⟩ : ∃ y, y = x / 4 % 4 := ⟨_, rfl⟩
            have hy4 : y < 4 := by omega
            rw [← hy] at hbit
            have HN2 : Hid (q8.take (4 * k + 2 + 1) = L ++ [y]) := by
              show _ = _
              rw [hy]
              simpa using HN.out
            clear HN hy
            go_wp2_with (at_builtin; refine wpList_append_one (cs := #[.int .i64 _]) HB.out (Nat.le_refl _) rfl (.tmp 29) (.tmp 31) 24 rfl 3 i0 (.int .i64 0) 1 8 Tryd.underlying24 hi hz0 hz1 hz2 rfl (by decide) rfl (by simp [Value.oneCell']) _ _ _ rfl HO.out 1 rfl (by have := HLl.out; omega) (by have := HLl.out; omega) ?_)
            intro v' w3 hown3 hb3
            have hown4 := own_snocI hown3
            rw [HLN.out y] at hown4
            have HO4 := hide hown4
            have HB4 := hide hb3
            clear hown3 hown4 hb3
            go_wp2_with fail
            go_roundw
            case rel => exact ⟨2 + 1, L ++ [y], by omega, by go_num, HN2.out.symm, by rw [HSN.out y]; go_num, HO4.out, HB4.out⟩
            case measure => simp [intOf]
          · have hbit : bits .and .i64 ((x : Int)) 3 = ((x % 4 : Nat) : Int) := by rw [and3]; omega
            obtain ⟨y, hy⟩ : ∃ y, y = x % 4 := ⟨_, rfl⟩
            have hy4 : y < 4 := by omega
            rw [← hy] at hbit
            have HN2 : Hid (q8.take (4 * k + 3 + 1) = L ++ [y]) := by
              show _ = _
              rw [hy]
              simpa using HN.out
            clear HN hy
            go_wp2_with (at_builtin; refine wpList_append_one (cs := #[.int .i64 _]) HB.out (Nat.le_refl _) rfl (.tmp 29) (.tmp 31) 24 rfl 3 i0 (.int .i64 0) 1 8 Tryd.underlying24 hi hz0 hz1 hz2 rfl (by decide) rfl (by simp [Value.oneCell']) _ _ _ rfl HO.out 1 rfl (by have := HLl.out; omega) (by have := HLl.out; omega) ?_)
            intro v' w3 hown3 hb3
            have hown4 := own_snocI hown3
            rw [HLN.out y] at hown4
            have HO4 := hide hown4
            have HB4 := hide hb3
            clear hown3 hown4 hb3
            go_wp2_with fail
            go_roundw
            case rel => exact ⟨3 + 1, L ++ [y], by omega, by go_num, HN2.out.symm, by rw [HSN.out y]; go_num, HO4.out, HB4.out⟩
            case measure => simp [intOf]
        · have hj4 : j = 4 := by omega
          subst hj4
          go_wp2_with fail
          go_roundw
          case rel => exact ⟨k + 1, L, by omega, by go_num, by rw [HL.out]; rfl, rfl, HO.out, HB.out⟩
          case measure => simp [intOf]; omega
    · have hk2 : k = 2 := by omega
      have hLq : L = q8 := by rw [HL.out, hk2]; exact List.take_of_length_le (by omega)
      subst hLq
      have hs24 := HS24.out
      have hl8 : (ints L).length = 8 := by rw [ints_length, h8]
      rw [hl8] at HO
      have HO8 := hide HO.out
      have hm : (24 - (L.sum : Int)) = (ms : Int) := by rw [HSM.out]; omega
      have HQF : Hid (qs = ints L ++ [((ms / 16 : Nat) : Int), ((ms / 4 % 4 : Nat) : Int), ((ms % 4 : Nat) : Int)]) := by
        show qs = _
        rw [HQ.out]
        simp [ints]
      clear HL HO hk2 HSM HQ
      generalize hS : L.sum = S at *
      clear hS
      go_wp2_with (at_builtin; refine wpList_append_many (cs := #[.int .i64 _, .int .i64 _, .int .i64 _]) HB.out (Nat.le_refl _) rfl (.tmp 38) (.tmp 46) 24 rfl 3 i0 (.int .i64 0) 8 Tryd.underlying24 hi hz0 hz1 hz2 rfl 3 rfl (by simp [Value.oneCell']) _ 8 _ rfl HO8.out 3 rfl (by omega) (by omega) ?_)
      intro v' w3 hown3 hb3
      have he : cellsI qs = cellsI (ints L) ++ [.int .i64 ((ms : Int) / 16), .int .i64 ((ms : Int) / 4 % 4), .int .i64 ((ms : Int) % 4)] := by rw [HQF.out]; simp [cellsI]
      have hown4 : w3.ownsRow w.heap.size 3 1 v' 11 (cellsI qs) := by rw [he]; exact hown3
      have HO3 := hide hown4
      have HB3 := hide hb3
      clear hown3 hown4 hb3 he
      go_wp2_with fail
      go_ret
      exact ⟨_, rfl, HO3.out, HB3.out⟩
end Go.Proofs.YtmjpdccfdaajmaaDoor.P4
