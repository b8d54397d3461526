/- The contracts of the program's blockWordsOf and shaNumbers.list. -/
import Derived.Test.YtkmeafccdhejdaaDoorShaI2
import Derived.Test.YtkmeafccdhejdaaDoorShaS
namespace Go.Proofs.YtkmeafccdhejdaaDoor.P3
open Go.RowKit P1

def nil16 : List Nat := List.replicate 16 0

theorem zero16 : (Tryd.prog.info? 65).map (fun i => (i.zero, i.size)) = some (some (.agg (wordsV nil16)), 16) := by kernel_rfl
theorem zeroN8 : (Tryd.prog.info? 50).map (fun i => (i.zero, i.size)) = some (some (.agg (wordsV nil8)), 8) := by kernel_rfl
theorem size16 : (Tryd.prog.info? 65).map (·.size) = some 16 := by kernel_rfl
theorem sizeN8 : (Tryd.prog.info? 50).map (·.size) = some 8 := by kernel_rfl
theorem arr16 : Tryd.prog.underlying 65 = some (.array 16 48) := by kernel_rfl
theorem arrN8 : Tryd.prog.underlying 50 = some (.array 8 48) := by kernel_rfl

theorem or_byte (y z : Nat) (hy : y < 16777216) (hz : z < 2 ^ 8) : bits .or .u32 ((y : Int) * 256) (z : Int) = ((y * 256 + z : Nat) : Int) := by
  have h := u32_or_nat (y * 256) z (by omega) (by omega)
  have o := Nat.two_pow_add_eq_or_of_lt (i := 8) (b := z) hz y
  rw [show 2 ^ 8 * y = y * 256 by omega] at o
  rw [o, ← h]
  rfl

/-- A whole array read out of its block. -/
theorem wpList_load_agg {P : Program} {ops : Array Oper} {rest : List Oper} {o : Oper} {a : Act} {w : World} {Q : Exit → Act → World → Prop} (hgd : o.guard = none) (t : TypeId) (x : Operand) (ho : o.op = .load t x)
    (b : Nat) (hx : a.eval x = .pointer (some ⟨b, 0, none⟩)) (n : Nat) (hagg : ∀ w, (isAgg t).run P w = .ok true w) (hsz : ∀ w, (sizeOf t).run P w = .ok n w) (c : Array Value)
    (hl : (loadCellsFrom ⟨b, 0, none⟩ 0 n #[]).run P w = .ok c w)
    (h : wpList P ops Q rest (a.put o.dst (.agg c)) w) : wpList P ops Q (o :: rest) a w :=
  wpList_plain hgd fun _ hK => by
    unfold Oper.wp execOp
    simp only [ho, hx, Instr.loadAt, Instr.sureAddr, loadVar, loadCells, Sem.run_bind, Sem.run_pure, Result.andThen_ok, hagg, hsz, if_true, hl]
    exact hK _ _ h

/-- The end of a call whose one result is an array that lies in a block. -/
theorem ret_arr {P : Program} {fn : Func} {p : Tmp} {t : TypeId} {K : Ending → World → Prop} {a : Act} {w : World} {b : Nat} {xs : List Nat} (hr : fn.results = #[.cell p t]) (hd : a.defers = [])
    (hp : a.tmps.getD p undef = .pointer (some ⟨b, 0, none⟩)) (hagg : ∀ w, (isAgg t).run P w = .ok true w) (hsz : ∀ w, (sizeOf t).run P w = .ok xs.length w) (hA : Arr w b xs)
    (h : K (.returned (.agg (wordsV xs))) w) : bodyPost P fn K .ret a w := by
  refine bodyPost_ret (v := .agg (wordsV xs)) ?_ hd h
  rw [results_cell1 hr, hp]
  have hl := hA.load (P := P) xs.length rfl
  simp only [asAddr, loadVar, loadCells, Sem.run_bind, Sem.run_pure, Result.andThen_ok, hagg, hsz, if_true, hl]

set_option maxHeartbeats 1000000 in
theorem words_calls (q : List UInt8) (hq : q.length = 64) (w : World) :
    Calls Tryd.prog 42 #[.string ⟨q.toArray⟩] w fun e w' => e = .returned (.agg (wordsV (words16 q))) ∧ Below w.heap.size w w' := by
  have hz16 := (zero_of_info zero16).1
  obtain ⟨Z, hZ⟩ : ∃ Z, Z = wordsV nil16 := ⟨_, rfl⟩
  rw [← hZ] at hz16
  have HZ := hide hZ
  have Hz := hide hz16
  clear hZ hz16
  go_enter Tryd.func42, Tryd.ntmps42
  go_wp2_with (refine wpList_alloc_agg rfl 65 rfl Z Hz.out ?_)
  have z1 : (w.alloc (.cells Z 65)).heap.size = w.heap.size + 1 := by simp
  have a0 := Arr.new w 65 nil16 Z HZ.out
  have a1 := Arr.new (w.alloc (.cells Z 65)) 65 nil16 Z HZ.out
  have k1 : Below (w.alloc (.cells Z 65)).heap.size (w.alloc (.cells Z 65)) ((w.alloc (.cells Z 65)).alloc (.cells Z 65)) := (Below.refl _ _).alloc (Nat.le_refl _) _
  have a0' := a0.below k1 (by rw [z1]; omega)
  have hb : Below w.heap.size w ((w.alloc (.cells Z 65)).alloc (.cells Z 65)) := ((Below.refl _ _).alloc (Nat.le_refl _) _).trans (k1.mono (by rw [z1]; omega))
  rw [z1] at a1
  obtain ⟨w1, hw1⟩ : ∃ w1, w1 = (w.alloc (.cells Z 65)).alloc (.cells Z 65) := ⟨_, rfl⟩
  rw [← hw1] at a0' a1 hb ⊢
  obtain ⟨b0, hb0⟩ : ∃ b0, b0 = w.heap.size := ⟨_, rfl⟩
  have ho : w.heap.size ≤ b0 := by omega
  rw [← hb0] at a0' a1 ⊢
  have HA0 := hide a0'
  have HA1 := hide a1
  have HB := hide (show Below w.heap.size w w1 from hb)
  clear a0 a0' a1 k1 hb hw1 z1 Hz HZ hb0
  go_loopw [5] (fun i wr => ∃ k : Nat, ∃ ws : List Nat, k ≤ 64 ∧ i = .int .i64 k ∧ Fill q k ws ∧ Arr wr (b0 + 1) ws ∧ Arr wr b0 nil16 ∧ Below w.heap.size w wr) (fun i _ => 64 - (intOf i).toNat)
  case atStart => exact ⟨0, nil16, by omega, rfl, Fill.first q, HA1.out, HA0.out, HB.out⟩
  case round =>
    clear HA0 HA1 HB
    obtain ⟨k, ws, hk, rfl, hF, hA, hA0, hB⟩ := hrel
    have HF := hide hF
    have HA := hide hA
    have HA0 := hide hA0
    have HB := hide hB
    clear hF hA hA0 hB
    by_cases hlt : k < 64
    · go_wp2_with fail
      refine wp_region_tail 13 (fun wd => Arr wd (b0 + 1) ws ∧ Arr wd b0 nil16 ∧ Below w.heap.size w wd) ⟨HA.out.drew, HA0.out.drew, HB.out.drew⟩ (by kernel_rfl) (by kernel_rfl) ?_
      clear HA HA0 HB
      rintro wd ⟨hA, hA0, hB⟩
      have hc := hA.cell (k / 4) (by rw [HF.out.len]; omega)
      rw [HF.out.cur hlt] at hc
      have hf := hA.free
      have HA := hide hA
      have HA0 := hide hA0
      have HB := hide hB
      have hi := index_byte q (k : Int) k rfl (by omega)
      have HN := hide HF.out.next
      have hz := (q.getD k 0).toNat_lt
      have hy : pw q (k / 4) (k % 4) < 16777216 := Nat.lt_of_lt_of_le (pw_lt q (k / 4) (k % 4)) (Nat.le_trans (Nat.pow_le_pow_right (by decide) (show k % 4 ≤ 3 by omega)) (by decide))
      have hor := or_byte _ _ hy hz
      generalize (q.getD k 0).toNat = z at hi hz HN hor
      generalize pw q (k / 4) (k % 4) = y at hc hy HN hor
      clear hA hA0 hB
      simp only [List.take_succ_cons, List.take_zero, List.drop_succ_cons, List.drop_zero]
      repeat (go_big_quiet_step (fail))
      refine wpQuiet_nil ?_
      go_wp2_with fail
      go_roundw
      case rel =>
        refine ⟨k + 1, _, by omega, by go_num, HN.out, ?_, HA0.out.other (by omega) _, HB.out.setCell (by show w.heap.size ≤ b0 + 1; omega) _⟩
        first | exact HA.out.set _ | (rw [hor]; exact HA.out.set _)
      case measure => simp [intOf]; omega
    · have hk64 : k = 64 := by omega
      rw [hk64] at HF
      have hws := HF.out.last
      rw [hws] at HA
      have hl16 : (words16 q).length = 16 := by rw [← hws]; exact HF.out.len
      have hld := HA.out.load (P := Tryd.prog) 16 hl16
      obtain ⟨V, EV⟩ : ∃ V, Hid (V = wordsV (words16 q)) := ⟨_, rfl⟩
      rw [← EV.out] at hld
      have s16 : V.size = 16 := by rw [EV.out, wordsV_size, hl16]
      have one : V.all (·.oneCell') = true := by rw [EV.out]; exact wordsV_one _
      have hth := HA0.out.there 16 rfl
      go_wp2_with (first | (refine wpList_load_agg rfl 65 (.tmp 3) rfl (b0 + 1) rfl 16 Tryd.isAgg65 Tryd.sizeOf65 V hld ?_) | (refine wpList_store_mid rfl 65 (.tmp 2) (.tmp 22) rfl b0 0 V rfl rfl (by rw [s16]; exact hth) (by rw [s16]; exact size16) one ?_))
      rw [EV.out]
      refine ret_arr (b := b0) (xs := words16 q) rfl rfl rfl Tryd.isAgg65 (by rw [hl16]; exact Tryd.sizeOf65) (HA0.out.setAll _ hl16) ⟨rfl, below_setCells ho _ _ _ HB.out⟩

theorem zeros_cellsI (n : Nat) : (madeCells #[Value.int .i64 0] n).toList = cellsI (List.replicate n 0) := by
  rw [toList_madeCells_one]
  simp [cellsI]

set_option maxHeartbeats 1000000 in
theorem list_calls (b : Nat) (s : St) (hs : s.ok) (w : World) (hA : Arr w b s.list) :
    Calls Tryd.prog 32 #[.pointer (some ⟨b, 0, none⟩)] w fun e w' => ∃ v, e = .returned v ∧ w'.ownsRow w.heap.size 3 1 v 8 (cellsI (intsOf s.list)) ∧ Below w.heap.size w w' := by
  obtain ⟨i0, hi, hz0, hz1, hz2⟩ := info_parts info_i64
  have HA := hide hA
  have hlb := hA.lt
  clear hA
  go_enter Tryd.func32, Tryd.ntmps32
  go_wp2_with (at_make; refine wpList_make_full _ rfl (.const (.int .i64 8)) (.const (.int .i64 8)) 24 rfl w.heap.size 3 i0 (.int .i64 0) 1 Tryd.underlying24 hi hz0 hz1 .i64 .i64 _ _ 8 rfl rfl (by omega) (by omega) (by rw [hz2]; omega) (by unfold maxLen; omega) (Nat.le_refl _) ?_)
  intro w2 hown2 hgr2
  have hb2 : Below w.heap.size w w2 := ⟨hgr2.os, hgr2.tape, hgr2.output, hgr2.size, fun k hk => hgr2.block k hk (fun e => by cases e)⟩
  rw [zeros_cellsI] at hown2
  have HA2 := hide (HA.out.below hb2 hlb)
  have HO := hide hown2
  have HB := hide hb2
  obtain ⟨g, hg⟩ : ∃ g, g = w.heap.size := ⟨_, rfl⟩
  have hgb : w.heap.size ≤ g := by omega
  have hne : g ≠ b := by omega
  rw [← hg]
  have HO2 : Hid (w2.ownsRow w.heap.size 3 1 (.slice (some ⟨g, 0, none⟩) 8 8) 8 (cellsI (List.replicate 8 0))) := by rw [hg]; exact HO.out
  clear hown2 hgr2 hb2 HO HA hg
  go_wp2_with fail
  go_loopw [8] (fun i wr => ∃ k : Nat, ∃ L : List Int, k ≤ 8 ∧ i = .int .i64 k ∧ L.length = 8 ∧ (∀ j, j < k → L.getD j 0 = ((s.list.getD j 0 : Nat) : Int)) ∧ wr.ownsRow w.heap.size 3 1 (.slice (some ⟨g, 0, none⟩) 8 8) 8 (cellsI L) ∧ Arr wr b s.list ∧ Below w.heap.size w wr) (fun i _ => 8 - (intOf i).toNat)
  case atStart => exact ⟨0, List.replicate 8 0, by omega, rfl, rfl, fun j hj => by omega, HO2.out, HA2.out, HB.out⟩
  case round =>
    clear HA2 HO2 HB
    obtain ⟨k, L, hk, rfl, hL8, hL, hO, hA, hB⟩ := hrel
    have HA := hide hA
    have HO := hide hO
    have HB := hide hB
    have HL := hide hL
    clear hA hO hB hL
    by_cases hlt : k < 8
    · have ck := HA.out.cell k (by show k < 8; omega)
      have hx := list_lt s hs k hlt
      obtain ⟨x, hxe⟩ : ∃ x, x = s.list.getD k 0 := ⟨_, rfl⟩
      rw [← hxe] at ck hx
      have EX := hide hxe
      clear hxe
      go_wp2_with fail
      go_quiet (fail)
      obtain ⟨wq, hwq⟩ : ∃ wq, wq = wr.drewN nq := ⟨_, rfl⟩
      have hA3 : Arr wq b s.list := by rw [hwq]; exact HA.out.drewN nq
      have hO3 : wq.ownsRow w.heap.size 3 1 (.slice (some ⟨g, 0, none⟩) 8 8) 8 (cellsI L) := by rw [hwq]; exact HO.out
      have hB3 : Below w.heap.size w wq := by rw [hwq]; exact ⟨HB.out.os, HB.out.tape, HB.out.output, HB.out.size, HB.out.block⟩
      rw [← hwq]
      have HA3 := hide hA3
      have HO3 := hide hO3
      have HB3 := hide hB3
      clear HA HO HB hwq hA3 hO3 hB3 ck
      have hc2 : ∃ y, wq.cell? ⟨g, k, none⟩ = some y := by rw [HO3.out.cellAt k (by omega)]; exact ⟨_, List.getElem?_eq_getElem (by rw [cellsI_length]; omega)⟩
      obtain ⟨y, hc2⟩ := hc2
      have hf2 := HO3.out.frozenAt k
      go_wp2_with fail
      go_roundw
      case rel =>
        have h1 := (HO3.out.stored k (.int .i64 (x : Int))).1
        rw [cellsI_set] at h1
        refine ⟨k + 1, L.set k (x : Int), by omega, by go_num, by simpa using hL8, ?_, h1, HA3.out.other hne _, HB3.out.setCell hgb _⟩
        intro j hj
        by_cases e : k = j
        · subst e
          rw [← EX.out]
          simp [List.getD_eq_getElem?_getD, show k < L.length by omega]
        · have := HL.out j (by omega)
          rw [← this]
          simp [List.getD_eq_getElem?_getD, List.getElem?_set_ne e]
      case measure => simp [intOf]; omega
    · have hLe : L = intsOf s.list := by
        apply List.ext_getElem
        · rw [hL8]; rfl
        · intro j h1 h2
          have := HL.out j (by omega)
          have hj8 : j < s.list.length := by show j < 8; omega
          simp only [List.getD_eq_getElem?_getD, List.getElem?_eq_getElem h1, List.getElem?_eq_getElem hj8, Option.getD_some] at this
          rw [this]
          simp [intsOf]
      have hO := HO.out
      rw [hLe] at hO
      have HOe := hide hO
      clear hO hLe
      go_wp2_with fail
      go_ret
      exact ⟨_, rfl, HOe.out, HB.out⟩
end Go.Proofs.YtkmeafccdhejdaaDoor.P3
