/- The contract of impl.Digest; conditions: the text is at most 2^20 bytes long (and one), the listed tables hold what their text lays. -/
import Derived.Test.YtflicklgmhgpiaaDoorShaI5
import Derived.Test.YtflicklgmhgpiaaDoorShaSI
import Derived.Test.YtflicklgmhgpiaaDoorShaPadI
namespace Go.Proofs.YtflicklgmhgpiaaDoor.P3
set_option maxRecDepth 8000
open Go.RowKit P1

theorem index_words (l : List Nat) (k : Nat) (hk : k < 8) (hl : l.length = 8) (wx : World) : (Instr.index 72 (.agg (wordsV l)) (.int .i64 k)).run Tryd.prog wx = .ok (.int .u32 (l.getD k 0 : Nat)) wx := by
  have hg : (wordsV l)[k]? = some (.int .u32 (l[k]?.getD 0 : Nat)) := by
    have h : k < l.length := by omega
    simp [wordsV, h]
  unfold Instr.index
  simp [asIntOf, run_underlying arrN8, Tryd.sizeOf70]
  rw [if_pos hk]
  unfold part
  simp [Tryd.isAgg70, hg]

theorem wpList_append_four {P : Program} {W w0 : World} {B : Nat} (hbel : Below B W w0) (hB : B ≤ W.heap.size) {z1 z2 z3 z4 : Int} {ops : Array Oper} {rest : List Oper} {o : Oper} {a : Act} {Q : Exit → Act → World → Prop} (hgd : o.guard = none) (s x : Operand) (t : TypeId)
    (ho : o.op = .call { callee := .builtin .append, args := #[s, x], argTypes := #[t, t] })
    (e : TypeId) (i : TypeInfo) (ht : P.underlying t = some (.slice e)) (hi : P.info? e = some i) (hz : i.zero = some (.int .u8 0))
    (hsize : i.size = 1) (hby : i.bytes = 1) (v : Value) (n : Nat) (xs : List Value) (hs : a.eval s = v) (hown : w0.ownsRow B e 1 v n xs)
    (c : Nat) (hx : a.eval x = .slice (some ⟨w0.heap.size, 0, none⟩) 4 c) (hb : n < 1099511627776)
    (h : ∀ v' w', w'.ownsRow B e 1 v' (n + 4) (xs ++ [.int .u8 z1, .int .u8 z2, .int .u8 z3, .int .u8 z4]) → Below B W w' → wpList P ops Q rest (a.put o.dst v') w') :
    wpList P ops Q (o :: rest) a (w0.alloc (.cells #[.int .u8 z1, .int .u8 z2, .int .u8 z3, .int .u8 z4] e)) := by
  have hsz := hbel.size
  refine wpList_append_own _ hgd s x t ho B e i (.int .u8 0) 1 1 ht hi hz hsize hby rfl (by decide) v n xs hs (hown.alloc _) ⟨w0.heap.size, 0, none⟩ 4 c [.int .u8 z1, .int .u8 z2, .int .u8 z3, .int .u8 z4] hx rfl ?_ ?_ ?_ ?_ ?_ ?_
  · intro j u hj
    match j, hj with
    | 0, hj => simp at hj; subst hj; simp [Addr.add]
    | 1, hj => simp at hj; subst hj; simp [Addr.add]
    | 2, hj => simp at hj; subst hj; simp [Addr.add]
    | 3, hj => simp at hj; subst hj; simp [Addr.add]
  · intro u hu; simp at hu; rcases hu with rfl | rfl | rfl | rfl <;> rfl
  · unfold maxLen; omega
  · omega
  · simp; omega
  · intro v' w' h1 h2 _
    exact h v' w' h1 ((hbel.alloc (by omega) _).grown h2 (by simp; omega) (fun k hk => (hown.lt k hk).1))

/-- Four bytes more. -/
theorem own_four {w : World} {B : Nat} {e : TypeId} {v : Value} {l : List UInt8} {z1 z2 z3 z4 : Int} (h : w.ownsRow B e 1 v (l.length + 4) (cellsB l ++ [.int .u8 z1, .int .u8 z2, .int .u8 z3, .int .u8 z4])) (b1 b2 b3 b4 : UInt8)
    (h1 : z1 = b1.toNat) (h2 : z2 = b2.toNat) (h3 : z3 = b3.toNat) (h4 : z4 = b4.toNat) : w.ownsRow B e 1 v (l ++ [b1, b2, b3, b4]).length (cellsB (l ++ [b1, b2, b3, b4])) := by
  have e1 : cellsB (l ++ [b1, b2, b3, b4]) = cellsB l ++ [.int .u8 z1, .int .u8 z2, .int .u8 z3, .int .u8 z4] := by simp [cellsB, h1, h2, h3, h4]
  have e2 : (l ++ [b1, b2, b3, b4]).length = l.length + 4 := by simp
  rw [e1, e2]; exact h

/-- The memory of a digest: the numbers, the turns' numbers. -/
structure DM (w wr : World) (b0 : Nat) (xs : List Nat) : Prop where
  n : Arr wr b0 xs
  k : KeyT wr
  bel : Below w.heap.size w wr

set_option maxRecDepth 8000 in
set_option maxHeartbeats 1000000 in
theorem implDigest_calls (t : List UInt8) (ht : t.length ≤ 1048577) (w : World) (hS : StT w) (hK : KeyT w) :
    Calls Tryd.prog 35 #[.string ⟨t.toArray⟩] w fun e w' => e = .returned (.string ⟨(digest t).toArray⟩) ∧ Below w.heap.size w w' := by
  obtain ⟨dg, Edg⟩ : ∃ dg, Hid (dg = digest t) := ⟨_, rfl⟩
  rw [← Edg.out]
  have hz8 := (zero_of_info zeroN8).1
  have hld := hS.load
  obtain ⟨Z8, hZ8⟩ : ∃ Z, Z = wordsV nil8 := ⟨_, rfl⟩
  obtain ⟨SV, hSV⟩ : ∃ Z, Z = wordsV start.list := ⟨_, rfl⟩
  rw [← hZ8] at hz8
  rw [← hSV] at hld
  have s3 : Z8.size = 8 := by rw [hZ8]; rfl
  have s4 : SV.size = 8 := by rw [hSV]; rfl
  have u2 : SV.all (·.oneCell') = true := by rw [hSV]; exact wordsV_one _
  have ES := hide hSV
  have Hz8 := hide hz8
  have HL := hide hld
  have HK := hide hK
  clear hz8 hZ8 hSV hS hld hK
  go_enter Tryd.func35, Tryd.ntmps35
  go_wp2_with (first | (refine wpList_load_agg rfl 72 (.global 0) rfl 0 rfl 8 Tryd.isAgg72 Tryd.sizeOf72 SV HL.out ?_) | (refine wpList_alloc_agg rfl 72 rfl Z8 Hz8.out ?_) | (refine wpList_store_last rfl 72 (.tmp 3) (.tmp 9) rfl Z8 SV rfl rfl (by rw [s4]; exact sizeN8) (by rw [s3, s4]) u2 ?_))
  have hA := Arr.new w 72 start.list SV ES.out
  have hbA : Below w.heap.size w (w.alloc (.cells SV 72)) := (Below.refl _ _).alloc (Nat.le_refl _) _
  have hlk := HK.out.lt
  have hKA := HK.out.below hbA hlk
  obtain ⟨b0, hb0⟩ : ∃ b0, b0 = w.heap.size := ⟨_, rfl⟩
  have ho0 : w.heap.size ≤ b0 := by omega
  have hk0 : 1 < b0 := by omega
  have hsz1 : b0 < (w.alloc (.cells SV 72)).heap.size := by rw [hb0]; simp
  rw [← hb0] at hA ⊢
  generalize w.alloc (.cells SV 72) = w2 at hA hbA hKA hsz1 ⊢
  have HA := hide hA
  have HBA := hide hbA
  have HKA := hide hKA
  clear hA hbA hKA hb0 HL Hz8 ES HK u2 s3 s4
  refine (implPad_calls t (by omega) _).mono ?_
  rintro e w5 ⟨rfl, hb5⟩
  have hdm : DM w w5 b0 start.list := ⟨HA.out.below hb5 hsz1, HKA.out.below hb5 (by omega), HBA.out.trans (hb5.mono HBA.out.size)⟩
  have HD5 := hide hdm
  clear hb5 hdm HA HBA HKA hsz1
  have hpl := pad_length t
  have hpm := pad_mod t
  have hz : zeros t.length < 64 := Nat.mod_lt _ (by decide)
  obtain ⟨p, EP⟩ : ∃ p, Hid (p = pad t) := ⟨_, rfl⟩
  rw [← EP.out] at hpl hpm ⊢
  go_wp2_with fail
  obtain ⟨n, hn⟩ : ∃ n, p.length = 64 * n := ⟨p.length / 64, by omega⟩
  go_loopw [5] (fun i wr => ∃ k : Nat, k ≤ n ∧ i = .int .i64 (64 * (k : Int)) ∧ DM w wr b0 (bl p k).list) (fun i _ => 64 * n - (intOf i).toNat)
  case atStart => exact ⟨0, by omega, rfl, HD5.out⟩
  case round =>
    clear HD5
    obtain ⟨k, hk, rfl, hm⟩ := hrel
    have HM := hide hm
    clear hm
    by_cases hlt : k < n
    · have hsl := slice_block p k (by omega)
      have hql : ((p.drop (64 * k)).take 64).length = 64 := by rw [List.length_take, List.length_drop]; omega
      obtain ⟨q, EQ⟩ : ∃ q, Hid (q = (p.drop (64 * k)).take 64) := ⟨_, rfl⟩
      rw [← EQ.out] at hql
      simp only [← EQ.out] at hsl
      obtain ⟨st, Est⟩ : ∃ st, Hid (st = bl p k) := ⟨_, rfl⟩
      have hok : st.ok := by rw [Est.out]; exact bl_ok p k
      rw [← Est.out] at HM
      have HN : Hid (bl p (k + 1) = block st q) := by rw [EQ.out, Est.out]; exact rfl
      have HC := hide (fun wx h1 h2 => takeBlock_calls b0 st hok q hql wx h1 h2 hk0)
      rw [← HN.out] at HC
      clear EQ Est HN hok
      go_wp2_with fail
      refine (HC.out _ HM.out.n HM.out.k).mono ?_
      rintro e w6 ⟨⟨v, rfl⟩, hA6, hg6⟩
      have hm6 : DM w w6 b0 (bl p (k + 1)).list := ⟨hA6, HM.out.k.grown hg6 (by omega), HM.out.bel.trans (Cu.below_of_grown hg6 ho0 HM.out.bel.size)⟩
      have HM6 := hide hm6
      clear hA6 hg6 hm6 HM HC hsl
      go_wp2_with fail
      go_roundw
      case rel => exact ⟨k + 1, by omega, by go_num, HM6.out⟩
      case measure => simp [intOf]; omega
    · have hkn : k = n := by omega
      have hEn : n = (pad t).length / 64 := by rw [← EP.out]; omega
      rw [hkn] at HM
      obtain ⟨st, Est⟩ : ∃ st, Hid (st = bl p n) := ⟨_, rfl⟩
      have hok : st.ok := by rw [Est.out]; exact bl_ok p n
      have HG : Hid (dg = st.list.flatMap four) := by rw [Edg.out, Est.out, EP.out, hEn]; exact rfl
      rw [← Est.out] at HM
      clear Est Edg hkn hEn EP hk
      obtain ⟨i0, hi, hz0, hz1, hz2⟩ := info_parts info_u8
      have hne : ¬ (64 * (k : Int) < (p.length : Int)) := by omega
      have hwsz : w.heap.size ≤ wr.heap.size := HM.out.bel.size
      go_wp2_with (at_make; refine wpList_make_own _ rfl (.const (.int .i64 0)) (.const (.int .i64 32)) 22 rfl w.heap.size 5 i0 (.int .u8 0) 1 Tryd.underlying22 hi hz0 hz1 .i64 .i64 32 32 rfl rfl rfl (by rw [hz2]; omega) (by unfold maxLen; omega) hwsz ?_)
      intro w2 hown2 hgr2
      have hbr : Below wr.heap.size wr w2 := ⟨hgr2.os, hgr2.tape, hgr2.output, hgr2.size, fun k hk => hgr2.block k hk (fun e => by cases e)⟩
      have hA2 := HM.out.n.below hbr HM.out.n.lt
      have hB2 := HM.out.bel.trans (hbr.mono hwsz)
      have hld2 := hA2.load (P := Tryd.prog) 8 rfl
      have HIX := hide (fun (j : Nat) (hj : j < 8) (wx : World) => index_words st.list j hj rfl wx)
      obtain ⟨V, EV⟩ : ∃ V, Hid (V = wordsV st.list) := ⟨_, rfl⟩
      rw [← EV.out] at hld2
      simp only [← EV.out] at HIX
      have HLD := hide hld2
      have HO := hide hown2
      have HB := hide hB2
      clear hown2 hgr2 hbr hA2 hB2 hld2 HM hne hwsz EV
      go_wp2_with (refine wpList_load_agg rfl 72 (.tmp 3) rfl b0 rfl 8 Tryd.isAgg72 Tryd.sizeOf72 V HLD.out ?_)
      clear hlt HLD
      go_loopw [6, 26] (fun v i wr => ∃ k : Nat, ∃ l : List UInt8, k ≤ 8 ∧ i = .int .i64 k ∧ l.length = 4 * k ∧ l = (st.list.take k).flatMap four ∧ wr.ownsRow w.heap.size 5 1 v l.length (cellsB l) ∧ Below w.heap.size w wr) (fun _ i _ => 8 - (intOf i).toNat)
      case atStart => exact ⟨0, [], by omega, rfl, rfl, rfl, HO.out, HB.out⟩
      case round =>
        clear HO HB
        obtain ⟨k, l, hk, rfl, hll, hl, hown, hb⟩ := hrel
        have HO := hide hown
        have HB := hide hb
        have HLE := hide hl
        have HLL := hide hll
        clear hown hb hl hll
        by_cases hlt : k < 8
        · have hix := HIX.out k hlt
          have hx := list_lt st hok k hlt
          have HFN := hide (flat_next st k hlt)
          obtain ⟨x, hxe⟩ : ∃ x, x = st.list.getD k 0 := ⟨_, rfl⟩
          rw [← hxe] at hx HFN
          simp only [← hxe] at hix
          clear hxe
          go_wp2_with (at_builtin; refine wpList_append_four HB.out (Nat.le_refl _) rfl (.tmp 29) (.tmp 41) 22 rfl 5 i0 Tryd.underlying22 hi hz0 hz1 hz2 _ _ _ rfl HO.out 4 rfl (by have := HLL.out; omega) ?_)
          intro v' w3 hown3 hb3
          have hown4 := own_four (z1 := (x : Int) / 16777216) (z2 := (x : Int) / 65536 % 256) (z3 := (x : Int) / 256 % 256) (z4 := (x : Int) % 256) hown3 (UInt8.ofNat (x / 16777216)) (UInt8.ofNat (x / 65536 % 256)) (UInt8.ofNat (x / 256 % 256)) (UInt8.ofNat (x % 256)) (by rw [byte_of _ (by omega)]; omega) (by rw [byte_of _ (by omega)]; omega) (by rw [byte_of _ (by omega)]; omega) (by rw [byte_of _ (by omega)]; omega)
          have HO3 := hide hown4
          have HB3 := hide hb3
          clear hown3 hown4 hb3 hix
          go_wp2_with fail
          go_roundw
          case rel => exact ⟨k + 1, l ++ [UInt8.ofNat (x / 16777216), UInt8.ofNat (x / 65536 % 256), UInt8.ofNat (x / 256 % 256), UInt8.ofNat (x % 256)], by omega, by go_num, by rw [List.length_append, HLL.out]; rfl, by rw [HFN.out, ← HLE.out]; rfl, HO3.out, HB3.out⟩
          case measure => simp [intOf]; omega
        · have hk8 : k = 8 := by omega
          have hall : l = dg := by
            rw [HLE.out, hk8, List.take_of_length_le (by show 8 ≤ 8; omega), ← HG.out]
          obtain ⟨g, cap, rfl, hcv⟩ := own_text (P := Tryd.prog) HO.out (by have := HLL.out; omega) 22 9 Tryd.underlying22 Tryd.underlying5 Tryd.underlying9
          have hcv2 : ∀ u, u = l → (convert 22 9 (.slice (some ⟨g, 0, none⟩) l.length cap)).run Tryd.prog wr = .ok (.string ⟨u.toArray⟩) wr := fun u hu => by rw [hu]; exact hcv
          have hcv3 := hcv2 dg hall.symm
          clear hall HO HLE hk8 hcv hcv2
          go_wp2_with fail
          go_ret
          exact ⟨rfl, HB.out⟩
end Go.Proofs.YtflicklgmhgpiaaDoor.P3
