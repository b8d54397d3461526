/- The contracts of the program's blockWordsOf and shaNumbers.list. -/
import Derived.Test.YtflicklgmhgpiaaDoorShaI2
import Derived.Test.YtflicklgmhgpiaaDoorShaS
namespace Go.Proofs.YtflicklgmhgpiaaDoor.P3
set_option maxRecDepth 8000
open Go.RowKit P1

def nil16 : List Nat := List.replicate 16 0

theorem zero16 : (Tryd.prog.info? 83).map (fun i => (i.zero, i.size)) = some (some (.agg (wordsV nil16)), 16) := by kernel_rfl
theorem zeroN8 : (Tryd.prog.info? 72).map (fun i => (i.zero, i.size)) = some (some (.agg (wordsV nil8)), 8) := by kernel_rfl
theorem size16 : (Tryd.prog.info? 83).map (·.size) = some 16 := by kernel_rfl
theorem sizeN8 : (Tryd.prog.info? 72).map (·.size) = some 8 := by kernel_rfl
theorem arr16 : Tryd.prog.underlying 83 = some (.array 16 70) := by kernel_rfl
theorem arrN8 : Tryd.prog.underlying 72 = some (.array 8 70) := by kernel_rfl

theorem or_byte (y z : Nat) (hy : y < 16777216) (hz : z < 2 ^ 8) : bits .or .u32 ((y : Int) * 256) (z : Int) = ((y * 256 + z : Nat) : Int) := by
  have h := u32_or_nat (y * 256) z (by omega) (by omega)
  have o := Nat.two_pow_add_eq_or_of_lt (i := 8) (b := z) hz y
  rw [show 2 ^ 8 * y = y * 256 by omega] at o
  rw [o, ← h]
  rfl

/-- A whole array read out of its block. -/
theorem wpList_load_agg {P : Program} {ops : Array Oper} {rest : List Oper} {o : Oper} {a : Act} {w : World} {Q : Exit → Act → World → Prop} (hgd : o.guard = none) (t : TypeId) (x : Operand) (ho : o.op = .load t x)
    (b : Nat) (hx : a.eval x = .pointer (some ⟨b, 0, none⟩)) (n : Nat) (hagg : ∀ w, (isAgg t).run P w = .ok true w) (hsz : ∀ w, (sizeOf t).run P w = .ok n w) (c : Array Value)
    (hl : (loadCellsFrom ⟨b, 0, none⟩ 0 n #[]).run P w = .ok c w)
    (h : wpList P ops Q rest (a.put o.dst (.agg c)) w) : wpList P ops Q (o :: rest) a w :=
  wpList_plain hgd fun _ hK => by
    unfold Oper.wp execOp
    simp only [ho, hx, Instr.loadAt, Instr.sureAddr, loadVar, loadCells, Sem.run_bind, Sem.run_pure, Result.andThen_ok, hagg, hsz, if_true, hl]
    exact hK _ _ h

/-- The end of a call whose one result is an array that lies in a block. -/
theorem ret_arr {P : Program} {fn : Func} {p : Tmp} {t : TypeId} {K : Ending → World → Prop} {a : Act} {w : World} {b : Nat} {xs : List Nat} (hr : fn.results = #[.cell p t]) (hd : a.defers = [])
    (hp : a.tmps.getD p undef = .pointer (some ⟨b, 0, none⟩)) (hagg : ∀ w, (isAgg t).run P w = .ok true w) (hsz : ∀ w, (sizeOf t).run P w = .ok xs.length w) (hA : Arr w b xs)
    (h : K (.returned (.agg (wordsV xs))) w) : bodyPost P fn K .ret a w := by
  refine bodyPost_ret (v := .agg (wordsV xs)) ?_ hd h
  rw [results_cell1 hr, hp]
  have hl := hA.load (P := P) xs.length rfl
  simp only [asAddr, loadVar, loadCells, Sem.run_bind, Sem.run_pure, Result.andThen_ok, hagg, hsz, if_true, hl]

set_option maxHeartbeats 1000000 in
theorem words_calls (q : List UInt8) (hq : q.length = 64) (w : World) :
    Calls Tryd.prog 53 #[.string ⟨q.toArray⟩] w fun e w' => e = .returned (.agg (wordsV (words16 q))) ∧ Below w.heap.size w w' := by
  have hz16 := (zero_of_info zero16).1
  obtain ⟨Z, hZ⟩ : ∃ Z, Z = wordsV nil16 := ⟨_, rfl⟩
  rw [← hZ] at hz16
  have HZ := hide hZ
  have Hz := hide hz16
  clear hZ hz16
  go_enter Tryd.func53, Tryd.ntmps53
  go_wp2_with (refine wpList_alloc_agg rfl 83 rfl Z Hz.out ?_)
  have z1 : (w.alloc (.cells Z 83)).heap.size = w.heap.size + 1 := by simp
  have a0 := Arr.new w 83 nil16 Z HZ.out
  have a1 := Arr.new (w.alloc (.cells Z 83)) 83 nil16 Z HZ.out
  have k1 : Below (w.alloc (.cells Z 83)).heap.size (w.alloc (.cells Z 83)) ((w.alloc (.cells Z 83)).alloc (.cells Z 83)) := (Below.refl _ _).alloc (Nat.le_refl _) _
  have a0' := a0.below k1 (by rw [z1]; omega)
  have hb : Below w.heap.size w ((w.alloc (.cells Z 83)).alloc (.cells Z 83)) := ((Below.refl _ _).alloc (Nat.le_refl _) _).trans (k1.mono (by rw [z1]; omega))
  rw [z1] at a1
  obtain ⟨w1, hw1⟩ : ∃ w1, w1 = (w.alloc (.cells Z 83)).alloc (.cells Z 83) := ⟨_, rfl⟩
  rw [← hw1] at a0' a1 hb ⊢
  obtain ⟨b0, hb0⟩ : ∃ b0, b0 = w.heap.size := ⟨_, rfl⟩
  have ho : w.heap.size ≤ b0 := by omega
  rw [← hb0] at a0' a1 ⊢
  have HA0 := hide a0'
  have HA1 := hide a1
  have HB := hide (show Below w.heap.size w w1 from hb)
  clear a0 a0' a1 k1 hb hw1 z1 Hz HZ hb0
  go_loopw [5] (fun i wr => ∃ k : Nat, ∃ ws : List Nat, k ≤ 64 ∧ i = .int .i64 k ∧ Fill q k ws ∧ Arr wr (b0 + 1) ws ∧ Arr wr b0 nil16 ∧ Below w.heap.size w wr) (fun i _ => 64 - (intOf i).toNat)
  case atStart => exact ⟨0, nil16, by omega, rfl, Fill.first q, HA1.out, HA0.out, HB.out⟩
  case round =>
    clear HA0 HA1 HB
    obtain ⟨k, ws, hk, rfl, hF, hA, hA0, hB⟩ := hrel
    have HF := hide hF
    have HA := hide hA
    have HA0 := hide hA0
    have HB := hide hB
    clear hF hA hA0 hB
    by_cases hlt : k < 64
    · go_wp2_with fail
      refine wp_region_tail 13 (fun wd => Arr wd (b0 + 1) ws ∧ Arr wd b0 nil16 ∧ Below w.heap.size w wd) ⟨HA.out.drew, HA0.out.drew, HB.out.drew⟩ (by kernel_rfl) (by kernel_rfl) ?_
      clear HA HA0 HB
      rintro wd ⟨hA, hA0, hB⟩
      have hc := hA.cell (k / 4) (by rw [HF.out.len]; omega)
      rw [HF.out.cur hlt] at hc
      have hf := hA.free
      have HA := hide hA
      have HA0 := hide hA0
      have HB := hide hB
      have hi := index_byte q (k : Int) k rfl (by omega)
      have HN := hide HF.out.next
      have hz := (q.getD k 0).toNat_lt
      have hy : pw q (k / 4) (k % 4) < 16777216 := Nat.lt_of_lt_of_le (pw_lt q (k / 4) (k % 4)) (Nat.le_trans (Nat.pow_le_pow_right (by decide) (show k % 4 ≤ 3 by omega)) (by decide))
      have hor := or_byte _ _ hy hz
      generalize (q.getD k 0).toNat = z at hi hz HN hor
      generalize pw q (k / 4) (k % 4) = y at hc hy HN hor
      clear hA hA0 hB
      simp only [List.take_succ_cons, List.take_zero, List.drop_succ_cons, List.drop_zero]
      repeat (go_big_quiet_step (fail))
      refine wpQuiet_nil ?_
      go_wp2_with fail
      go_roundw
      case rel =>
        refine ⟨k + 1, _, by omega, by go_num, HN.out, ?_, HA0.out.other (by omega) _, HB.out.setCell (by show w.heap.size ≤ b0 + 1; omega) _⟩
        first | exact HA.out.set _ | (rw [hor]; exact HA.out.set _)
      case measure => simp [intOf]; omega
    · have hk64 : k = 64 := by omega
      rw [hk64] at HF
      have hws := HF.out.last
      rw [hws] at HA
      have hl16 : (words16 q).length = 16 := by rw [← hws]; exact HF.out.len
      have hld := HA.out.load (P := Tryd.prog) 16 hl16
      obtain ⟨V, EV⟩ : ∃ V, Hid (V = wordsV (words16 q)) := ⟨_, rfl⟩
      rw [← EV.out] at hld
      have s16 : V.size = 16 := by rw [EV.out, wordsV_size, hl16]
      have one : V.all (·.oneCell') = true := by rw [EV.out]; exact wordsV_one _
      have hth := HA0.out.there 16 rfl
      go_wp2_with (first | (refine wpList_load_agg rfl 83 (.tmp 3) rfl (b0 + 1) rfl 16 Tryd.isAgg83 Tryd.sizeOf83 V hld ?_) | (refine wpList_store_mid rfl 83 (.tmp 2) (.tmp 22) rfl b0 0 V rfl rfl (by rw [s16]; exact hth) (by rw [s16]; exact size16) one ?_))
      rw [EV.out]
      refine ret_arr (b := b0) (xs := words16 q) rfl rfl rfl Tryd.isAgg83 (by rw [hl16]; exact Tryd.sizeOf83) (HA0.out.setAll _ hl16) ⟨rfl, below_setCells ho _ _ _ HB.out⟩

theorem zeros_cellsI (n : Nat) : (madeCells #[Value.int .i64 0] n).toList = cellsI (List.replicate n 0) := by
  rw [toList_madeCells_one]
  simp [cellsI]
end Go.Proofs.YtflicklgmhgpiaaDoor.P3
