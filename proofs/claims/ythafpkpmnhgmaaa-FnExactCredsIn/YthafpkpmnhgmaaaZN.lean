/- The program's circles as values behind an interface: how a word becomes one; whose circle it is; condition: none. -/
import Derived.Test.YthafpkpmnhgmaaaZM
import Derived.Test.YthafpkpmnhgmaaaZQ
import Derived.Test.YthafpkpmnhgmaaaZA
import Derived.Test.YthafpkpmnhgmaaaZK
namespace Go.Proofs.Ythafpkpmnhgmaaa.P6
set_option maxRecDepth 8000
open Go.RowKit P1 P5 Rc Mp

/-- A right word as the program keeps it. -/
def circV (c : Cr) : Value :=
  if c.k = 1 then .iface 148 (.agg #[.int .i64 c.ow, .int .i64 c.on, .int .i64 c.wh])
  else if c.k = 2 then .iface 150 (.agg #[.int .i64 c.ow, .int .i64 c.on, .int .i64 c.aw, .int .i64 c.an])
  else if c.k = 3 then .iface 152 (.agg #[.int .i64 c.ow, .int .i64 c.on, .int .i64 c.aw, .int .i64 c.an, .int .i64 c.bn])
  else .iface 154 (.agg #[.int .i64 c.ow, .int .i64 c.on, .int .i64 c.aw, .int .i64 c.an, .int .i64 c.bw, .int .i64 c.bn])

theorem role_calls (w : World) (a b : Int) : Calls Try.prog 148 #[roleV a b] w fun e w' => e = .returned (roleV a b) ∧ Below w.heap.size w w' := by
  simp only [roleV]
  go_enter Try.func148, Try.ntmps148
  go_wp2_with fail
  have h1 := (Below.refl w.heap.size w).alloc (Nat.le_refl _) (.cells #[.int .i64 a, .int .i64 b] 145)
  refine bodyPost_ret (v := roleV a b) (by simp [results, Try.results148, go_sem]) rfl ⟨rfl, h1.alloc h1.size _⟩

theorem kind_of {c : Cr} (h : credOk c) : c.k = 1 ∨ c.k = 2 ∨ c.k = 3 ∨ c.k = 4 := by
  have := h.2
  unfold P5.kindOk at this
  rcases this with ⟨h, _⟩ | ⟨h, _⟩ | ⟨h, _⟩ | ⟨h, _⟩ <;> omega

set_option maxHeartbeats 1000000 in
theorem circleOf_calls (w : World) (c : Cr) : Calls Try.prog 75 #[credV c] w fun e w' => e = .returned (.tuple #[if credOk c then circV c else .nilIface, .bool (decide (credOk c))]) ∧ Below w.heap.size w w' := by
  have HOK := hide (fun wx => implCredOk_calls c wx)
  obtain ⟨U, HU⟩ : ∃ U, Hid (U = if credOk c then circV c else .nilIface) := ⟨_, rfl⟩
  rw [← HU.out]
  obtain ⟨T, HT⟩ : ∃ T, Hid (T = decide (credOk c)) := ⟨_, rfl⟩
  rw [← HT.out]
  have hbA := (Below.refl w.heap.size w).alloc (Nat.le_refl _) (.cells ((credV c).cells) 39)
  have HA := hide hbA
  have HG := hide (Blk.new w ((credV c).cells) 39)
  clear hbA
  obtain ⟨k, ow, on, wh, aw, an, bw, bn, u, n⟩ := c
  simp only [credV] at HOK ⊢
  change Hid (Below w.heap.size w (w.alloc (.cells #[.int .i64 k, .int .i64 ow, .int .i64 on, .int .i64 wh, .int .i64 aw, .int .i64 an, .int .i64 bw, .int .i64 bn, .int .i64 u, .int .i64 n] 39))) at HA
  change Hid (Blk (w.alloc (.cells #[.int .i64 k, .int .i64 ow, .int .i64 on, .int .i64 wh, .int .i64 aw, .int .i64 an, .int .i64 bw, .int .i64 bn, .int .i64 u, .int .i64 n] 39)) w.heap.size [.int .i64 k, .int .i64 ow, .int .i64 on, .int .i64 wh, .int .i64 aw, .int .i64 an, .int .i64 bw, .int .i64 bn, .int .i64 u, .int .i64 n] 39) at HG
  go_enter Try.func75, Try.ntmps75
  go_wp2_with fail
  obtain ⟨b0, e0⟩ : ∃ b, b = w.heap.size := ⟨_, rfl⟩
  rw [← e0] at HG ⊢
  clear e0
  generalize w.alloc (.cells #[.int .i64 k, .int .i64 ow, .int .i64 on, .int .i64 wh, .int .i64 aw, .int .i64 an, .int .i64 bw, .int .i64 bn, .int .i64 u, .int .i64 n] 39) = w1 at *
  refine (HOK.out w1).mono ?_
  rintro e w2 ⟨rfl, hb⟩
  have HB := hide (HA.out.trans (hb.mono HA.out.size))
  have G := hide (HG.out.below hb HG.out.lt)
  clear hb HA HG HOK
  by_cases hok : credOk ⟨k, ow, on, wh, aw, an, bw, bn, u, n⟩
  · rw [decide_eq_true hok]
    have HT1 : Hid (T = true) := HT.out.trans (decide_eq_true hok)
    have HU1 : Hid (U = circV ⟨k, ow, on, wh, aw, an, bw, bn, u, n⟩) := HU.out.trans (if_pos hok)
    have hk : k = 1 ∨ k = 2 ∨ k = 3 ∨ k = 4 := kind_of hok
    clear hok HT HU
    have c0 : w2.cell? ⟨b0, 0, none⟩ = some (.int .i64 k) := by rw [G.out.cell 0]; rfl
    have c1 : w2.cell? ⟨b0, 1, none⟩ = some (.int .i64 ow) := by rw [G.out.cell 1]; rfl
    have c2 : w2.cell? ⟨b0, 2, none⟩ = some (.int .i64 on) := by rw [G.out.cell 2]; rfl
    have c3 : w2.cell? ⟨b0, 3, none⟩ = some (.int .i64 wh) := by rw [G.out.cell 3]; rfl
    have c4 : w2.cell? ⟨b0, 4, none⟩ = some (.int .i64 aw) := by rw [G.out.cell 4]; rfl
    have c5 : w2.cell? ⟨b0, 5, none⟩ = some (.int .i64 an) := by rw [G.out.cell 5]; rfl
    have c6 : w2.cell? ⟨b0, 6, none⟩ = some (.int .i64 bw) := by rw [G.out.cell 6]; rfl
    have c7 : w2.cell? ⟨b0, 7, none⟩ = some (.int .i64 bn) := by rw [G.out.cell 7]; rfl
    have l0 := G.out.lt
    have n0 : b0 ≠ w2.heap.size := by omega
    have HB3 := hide (HB.out.alloc HB.out.size (.cells #[.int .i64 ow, .int .i64 on] 145))
    rcases hk with rfl | rfl | rfl | rfl
    all_goals
      go_wp2_with fail
      go_ret2
      refine ⟨?_, ?_⟩
      · rw [HT1.out, HU1.out]
        rfl
      · exact HB3.out
  · rw [decide_eq_false hok]
    have HT1 : Hid (T = false) := HT.out.trans (decide_eq_false hok)
    have HU1 : Hid (U = .nilIface) := HU.out.trans (if_neg hok)
    clear hok HT HU
    go_wp2_with fail
    go_ret2
    exact ⟨by rw [HT1.out, HU1.out]; rfl, HB.out⟩

theorem ta_0_0 (w : World) (ow on wh : Int) : (Instr.typeAssert (.iface 148 (.agg #[.int .i64 ow, .int .i64 on, .int .i64 wh])) 102 148 true).run Try.prog w = .ok (.tuple #[.agg #[.int .i64 ow, .int .i64 on, .int .i64 wh], .bool true]) w := by kernel_rfl
theorem ta_1_1 (w : World) (ow on aw an : Int) : (Instr.typeAssert (.iface 150 (.agg #[.int .i64 ow, .int .i64 on, .int .i64 aw, .int .i64 an])) 102 150 true).run Try.prog w = .ok (.tuple #[.agg #[.int .i64 ow, .int .i64 on, .int .i64 aw, .int .i64 an], .bool true]) w := by kernel_rfl
theorem ta_1_0 (w : World) (ow on aw an : Int) : (Instr.typeAssert (.iface 150 (.agg #[.int .i64 ow, .int .i64 on, .int .i64 aw, .int .i64 an])) 102 148 true).run Try.prog w = .ok (.tuple #[.agg #[.int .i64 0, .int .i64 0, .int .i64 0], .bool false]) w := by kernel_rfl
theorem ta_2_2 (w : World) (ow on aw an bn : Int) : (Instr.typeAssert (.iface 152 (.agg #[.int .i64 ow, .int .i64 on, .int .i64 aw, .int .i64 an, .int .i64 bn])) 102 152 true).run Try.prog w = .ok (.tuple #[.agg #[.int .i64 ow, .int .i64 on, .int .i64 aw, .int .i64 an, .int .i64 bn], .bool true]) w := by kernel_rfl
theorem ta_2_0 (w : World) (ow on aw an bn : Int) : (Instr.typeAssert (.iface 152 (.agg #[.int .i64 ow, .int .i64 on, .int .i64 aw, .int .i64 an, .int .i64 bn])) 102 148 true).run Try.prog w = .ok (.tuple #[.agg #[.int .i64 0, .int .i64 0, .int .i64 0], .bool false]) w := by kernel_rfl
theorem ta_2_1 (w : World) (ow on aw an bn : Int) : (Instr.typeAssert (.iface 152 (.agg #[.int .i64 ow, .int .i64 on, .int .i64 aw, .int .i64 an, .int .i64 bn])) 102 150 true).run Try.prog w = .ok (.tuple #[.agg #[.int .i64 0, .int .i64 0, .int .i64 0, .int .i64 0], .bool false]) w := by kernel_rfl
theorem ta_3_3 (w : World) (ow on aw an bw bn : Int) : (Instr.typeAssert (.iface 154 (.agg #[.int .i64 ow, .int .i64 on, .int .i64 aw, .int .i64 an, .int .i64 bw, .int .i64 bn])) 102 154 true).run Try.prog w = .ok (.tuple #[.agg #[.int .i64 ow, .int .i64 on, .int .i64 aw, .int .i64 an, .int .i64 bw, .int .i64 bn], .bool true]) w := by kernel_rfl
theorem ta_3_0 (w : World) (ow on aw an bw bn : Int) : (Instr.typeAssert (.iface 154 (.agg #[.int .i64 ow, .int .i64 on, .int .i64 aw, .int .i64 an, .int .i64 bw, .int .i64 bn])) 102 148 true).run Try.prog w = .ok (.tuple #[.agg #[.int .i64 0, .int .i64 0, .int .i64 0], .bool false]) w := by kernel_rfl
theorem ta_3_1 (w : World) (ow on aw an bw bn : Int) : (Instr.typeAssert (.iface 154 (.agg #[.int .i64 ow, .int .i64 on, .int .i64 aw, .int .i64 an, .int .i64 bw, .int .i64 bn])) 102 150 true).run Try.prog w = .ok (.tuple #[.agg #[.int .i64 0, .int .i64 0, .int .i64 0, .int .i64 0], .bool false]) w := by kernel_rfl
theorem ta_3_2 (w : World) (ow on aw an bw bn : Int) : (Instr.typeAssert (.iface 154 (.agg #[.int .i64 ow, .int .i64 on, .int .i64 aw, .int .i64 an, .int .i64 bw, .int .i64 bn])) 102 152 true).run Try.prog w = .ok (.tuple #[.agg #[.int .i64 0, .int .i64 0, .int .i64 0, .int .i64 0, .int .i64 0], .bool false]) w := by kernel_rfl
end Go.Proofs.Ythafpkpmnhgmaaa.P6
