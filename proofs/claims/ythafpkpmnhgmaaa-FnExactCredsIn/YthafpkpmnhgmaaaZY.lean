/- Chapter 7, the program's own way to StepOk as plain mathematics: what is wanted of the steps ahead; no condition.
The program's own: whom a word can tell of, what is wanted of the steps ahead, what places show, two rows of facts compared; condition: at most 2^20 steps and places.
The program's own: two rows of facts compared; StepOk, ProofOk; condition: at most 2^20 steps and places.
The program's own ProofOk; condition: at most 2^20 places of a step.
The program's own CredsIn; words as keys of a map; condition: at most 2^20 steps. -/
import Derived.Test.YthafpkpmnhgmaaaZX
import Derived.Test.YthafpkpmnhgmaaaZN
import Derived.Test.YthafpkpmnhgmaaaZM
namespace Go.Proofs.Ythafpkpmnhgmaaa.P7
open P5 P6

/-- The facts by which a word tells of who. -/
def wantedL (c : Cr) (who through : Int) : List Fa :=
  if c.k = 1 then [] else if c.k = 2 then [⟨c.aw, c.an, who⟩] else if c.k = 3 then [⟨c.aw, c.an, through⟩, ⟨through, c.bn, who⟩] else [⟨c.aw, c.an, who⟩, ⟨c.bw, c.bn, who⟩]

/-- Whom a word can tell of. -/
def tellsB (c : Cr) (who : Int) : Bool := decide (c.k = 1 → c.wh = who)

/-- The facts that are shown at places. -/
def shownL (l : List St) (fr : List Int) : List Fa := fr.map (fa l)

/-- Whose circle it goes by. -/
def thrL (l : List Fa) : Int := match l with
  | [] => 0
  | f :: _ => f.w

theorem shown_one {l : List St} {x i : Int} {f : Fa} (h : 0 ≤ x ∧ x ≤ i - 1) : shown l [x] i f = decide (fa l x = f) := by
  unfold shown
  simp [h]

/-- What StepOk answers, as the program finds it. -/
theorem okAt_prog {l : List St} {s : St} {i : Int} (h1 : credOk s.c) (h2 : s.f.a = s.c.ow ∧ s.f.b = s.c.on) (h3 : ∀ x ∈ s.fr, 0 ≤ x ∧ x ≤ i - 1) :
    okAt l s i = (tellsB s.c s.f.w && decide (shownL l s.fr = wantedL s.c s.f.w (thrL (shownL l s.fr)))) := by
  rw [okAt_fits h1 h2 h3]
  have hk := kind_of h1
  obtain ⟨⟨k, ow, on, wh, aw, an, bw, bn, u, n⟩, ⟨fa', fb, fw⟩, fr⟩ := s
  dsimp only at hk h3 ⊢
  unfold fits tellsB wantedL shownL
  dsimp only
  rcases hk with rfl | rfl | rfl | rfl
  · cases fr with
    | nil =>
      by_cases h : fw = wh
      · simp [h]
      · have h' : ¬ wh = fw := fun e => h e.symm
        simp [h, h']
    | cons x fr => simp
  · cases fr with
    | nil => simp
    | cons x fr =>
      cases fr with
      | nil => simp [shown_one (h3 x (by simp))]
      | cons y fr => simp
  · cases fr with
    | nil => simp [thrL]
    | cons x fr =>
      cases fr with
      | nil => simp
      | cons y fr =>
        cases fr with
        | nil =>
          simp only [thrL, List.map_cons, List.map_nil, List.getD_cons_zero, List.getD_cons_succ]
          generalize fa l x = X
          generalize fa l y = Y
          obtain ⟨xa, xb, xw⟩ := X
          by_cases q1 : xa = aw <;> by_cases q2 : xb = an <;> by_cases q3 : Y = ⟨xw, bn, fw⟩ <;> simp [q1, q2, q3]
        | cons z fr => simp
  · cases fr with
    | nil => simp
    | cons x fr =>
      cases fr with
      | nil => simp
      | cons y fr =>
        cases fr with
        | nil =>
          simp only [List.map_cons, List.map_nil, List.getD_cons_zero, List.getD_cons_succ]
          generalize fa l x = X
          generalize fa l y = Y
          by_cases q1 : X = ⟨aw, an, fw⟩ <;> by_cases q3 : Y = ⟨bw, bn, fw⟩ <;> simp [q1, q3]
        | cons z fr => simp
end Go.Proofs.Ythafpkpmnhgmaaa.P7
namespace Go.Proofs.Ythafpkpmnhgmaaa.P7
set_option maxRecDepth 8000
open Go.RowKit P1 P5 P6 Rc Rr

theorem ta_0_1 (w : World) (ow on wh : Int) : (Instr.typeAssert (.iface 148 (.agg #[.int .i64 ow, .int .i64 on, .int .i64 wh])) 102 150 true).run Try.prog w = .ok (.tuple #[.agg #[.int .i64 0, .int .i64 0, .int .i64 0, .int .i64 0], .bool false]) w := by kernel_rfl
theorem ta_0_2 (w : World) (ow on wh : Int) : (Instr.typeAssert (.iface 148 (.agg #[.int .i64 ow, .int .i64 on, .int .i64 wh])) 102 152 true).run Try.prog w = .ok (.tuple #[.agg #[.int .i64 0, .int .i64 0, .int .i64 0, .int .i64 0, .int .i64 0], .bool false]) w := by kernel_rfl
theorem ta_0_3 (w : World) (ow on wh : Int) : (Instr.typeAssert (.iface 148 (.agg #[.int .i64 ow, .int .i64 on, .int .i64 wh])) 102 154 true).run Try.prog w = .ok (.tuple #[.agg #[.int .i64 0, .int .i64 0, .int .i64 0, .int .i64 0, .int .i64 0, .int .i64 0], .bool false]) w := by kernel_rfl

set_option maxHeartbeats 400000 in
theorem tellsOf_calls (w : World) (c : Cr) (who : Int) (hok : c.k = 1 ∨ c.k = 2 ∨ c.k = 3 ∨ c.k = 4) :
    Calls Try.prog 76 #[circV c, .int .i64 who] w fun e w' => e = .returned (.bool (tellsB c who)) ∧ Below w.heap.size w w' := by
  obtain ⟨k, ow, on, wh, aw, an, bw, bn, u, n⟩ := c
  dsimp only at hok ⊢
  have HB0 := hide ((Below.refl w.heap.size w).alloc (Nat.le_refl _) (.cells #[.int .i64 ow, .int .i64 on, .int .i64 wh] 148))
  have HB1 := hide ((Below.refl w.heap.size w).alloc (Nat.le_refl _) (.cells #[.int .i64 0, .int .i64 0, .int .i64 0] 148))
  rcases hok with rfl | rfl | rfl | rfl
  · have HR : Hid (tellsB ⟨1, ow, on, wh, aw, an, bw, bn, u, n⟩ who = decide (wh = who)) := by show _ = _; simp [tellsB]
    rw [HR.out]
    simp only [circV, if_true]
    have t0 := fun wx => ta_0_0 wx ow on wh
    by_cases h : wh = who
    · subst h
      go_enter Try.func76, Try.ntmps76
      go_wp2_with fail
      go_ret
      exact ⟨by simp, HB0.out⟩
    · rw [decide_eq_false h]
      go_enter Try.func76, Try.ntmps76
      go_wp2_with fail
      go_ret
      exact ⟨by simpa using h, HB0.out⟩
  · have HR : Hid (tellsB ⟨2, ow, on, wh, aw, an, bw, bn, u, n⟩ who = true) := by show _ = _; simp [tellsB]
    rw [HR.out]
    simp only [circV, show ¬ ((2 : Int) = 1) by decide, if_false, if_true]
    have t0 := fun wx => ta_1_0 wx ow on aw an
    go_enter Try.func76, Try.ntmps76
    go_wp2_with fail
    go_ret
    exact ⟨by simp, HB1.out⟩
  · have HR : Hid (tellsB ⟨3, ow, on, wh, aw, an, bw, bn, u, n⟩ who = true) := by show _ = _; simp [tellsB]
    rw [HR.out]
    simp only [circV, show ¬ ((3 : Int) = 1) by decide, show ¬ ((3 : Int) = 2) by decide, if_false, if_true]
    have t0 := fun wx => ta_2_0 wx ow on aw an bn
    go_enter Try.func76, Try.ntmps76
    go_wp2_with fail
    go_ret
    exact ⟨by simp, HB1.out⟩
  · have HR : Hid (tellsB ⟨4, ow, on, wh, aw, an, bw, bn, u, n⟩ who = true) := by show _ = _; simp [tellsB]
    rw [HR.out]
    simp only [circV, show ¬ ((4 : Int) = 1) by decide, show ¬ ((4 : Int) = 2) by decide, show ¬ ((4 : Int) = 3) by decide, if_false]
    have t0 := fun wx => ta_3_0 wx ow on aw an bw bn
    go_enter Try.func76, Try.ntmps76
    go_wp2_with fail
    go_ret
    exact ⟨by simp, HB1.out⟩

set_option maxHeartbeats 800000 in
theorem wanted_calls (w : World) (c : Cr) (who th : Int) (hok : c.k = 1 ∨ c.k = 2 ∨ c.k = 3 ∨ c.k = 4) :
    Calls Try.prog 79 #[circV c, .int .i64 who, .int .i64 th] w fun e w' => ∃ v', e = .returned v' ∧ w'.ownsRow w.heap.size 36 3 v' (wantedL c who th).length (cellsI (flat faR (wantedL c who th))) ∧ Below w.heap.size w w' := by
  obtain ⟨k, ow, on, wh, aw, an, bw, bn, u, n⟩ := c
  dsimp only at hok ⊢
  rcases hok with rfl | rfl | rfl | rfl
  · have HR : Hid (wantedL ⟨1, ow, on, wh, aw, an, bw, bn, u, n⟩ who th = []) := by show _ = _; simp [wantedL]
    rw [HR.out]
    simp only [circV, if_true]
    have t0 := fun wx => ta_0_1 wx ow on wh
    have t1 := fun wx => ta_0_2 wx ow on wh
    have t2 := fun wx => ta_0_3 wx ow on wh
    have HB0 := hide (Below.refl w.heap.size w)
    go_enter Try.func79, Try.ntmps79
    go_wp2_with fail
    go_ret
    exact ⟨_, rfl, ⟨rfl, .inl ⟨rfl, rfl⟩⟩, HB0.out⟩
  · have HR : Hid (wantedL ⟨2, ow, on, wh, aw, an, bw, bn, u, n⟩ who th = [⟨aw, an, who⟩]) := by show _ = _; simp [wantedL]
    obtain ⟨T, ET⟩ : ∃ T, Hid (T = [(⟨aw, an, who⟩ : Fa)]) := ⟨_, rfl⟩
    rw [HR.out, ← ET.out]
    simp only [circV, show ¬ ((2 : Int) = 1) by decide, if_false, if_true]
    have t1 := fun wx => ta_1_1 wx ow on aw an
    have h1 := (Below.refl w.heap.size w).alloc (Nat.le_refl _) (.cells #[.int .i64 ow, .int .i64 on, .int .i64 aw, .int .i64 an] 150)
    have HB2 := hide (h1.alloc h1.size (.cells #[.int .i64 aw, .int .i64 an, .int .i64 who] 36))
    have hO := World.ownsRow_lit (base := w.heap.size) (e := 36) (size := 3) (w.alloc (.cells #[.int .i64 ow, .int .i64 on, .int .i64 aw, .int .i64 an] 150)) #[.int .i64 aw, .int .i64 an, .int .i64 who] 1 h1.size (by decide) rfl
    rw [show (w.alloc (.cells #[.int .i64 ow, .int .i64 on, .int .i64 aw, .int .i64 an] 150)).heap.size = w.heap.size + 1 from by simp [go_sem]] at hO
    have HO := hide hO
    clear h1 hO
    go_enter Try.func79, Try.ntmps79
    go_wp2_with fail
    go_ret
    exact ⟨_, rfl, by rw [ET.out]; exact HO.out, HB2.out⟩
  · have HR : Hid (wantedL ⟨3, ow, on, wh, aw, an, bw, bn, u, n⟩ who th = [⟨aw, an, th⟩, ⟨th, bn, who⟩]) := by show _ = _; simp [wantedL]
    obtain ⟨T, ET⟩ : ∃ T, Hid (T = [(⟨aw, an, th⟩ : Fa), ⟨th, bn, who⟩]) := ⟨_, rfl⟩
    rw [HR.out, ← ET.out]
    simp only [circV, show ¬ ((3 : Int) = 1) by decide, show ¬ ((3 : Int) = 2) by decide, if_false, if_true]
    have t1 := fun wx => ta_2_1 wx ow on aw an bn
    have t2 := fun wx => ta_2_2 wx ow on aw an bn
    have h1 := (Below.refl w.heap.size w).alloc (Nat.le_refl _) (.cells #[.int .i64 ow, .int .i64 on, .int .i64 aw, .int .i64 an, .int .i64 bn] 152)
    have HB2 := hide (h1.alloc h1.size (.cells #[.int .i64 aw, .int .i64 an, .int .i64 th, .int .i64 th, .int .i64 bn, .int .i64 who] 36))
    have hO := World.ownsRow_lit (base := w.heap.size) (e := 36) (size := 3) (w.alloc (.cells #[.int .i64 ow, .int .i64 on, .int .i64 aw, .int .i64 an, .int .i64 bn] 152)) #[.int .i64 aw, .int .i64 an, .int .i64 th, .int .i64 th, .int .i64 bn, .int .i64 who] 2 h1.size (by decide) rfl
    rw [show (w.alloc (.cells #[.int .i64 ow, .int .i64 on, .int .i64 aw, .int .i64 an, .int .i64 bn] 152)).heap.size = w.heap.size + 1 from by simp [go_sem]] at hO
    have HO := hide hO
    clear h1 hO
    go_enter Try.func79, Try.ntmps79
    go_wp2_with fail
    go_ret
    exact ⟨_, rfl, by rw [ET.out]; exact HO.out, HB2.out⟩
  · have HR : Hid (wantedL ⟨4, ow, on, wh, aw, an, bw, bn, u, n⟩ who th = [⟨aw, an, who⟩, ⟨bw, bn, who⟩]) := by show _ = _; simp [wantedL]
    obtain ⟨T, ET⟩ : ∃ T, Hid (T = [(⟨aw, an, who⟩ : Fa), ⟨bw, bn, who⟩]) := ⟨_, rfl⟩
    rw [HR.out, ← ET.out]
    simp only [circV, show ¬ ((4 : Int) = 1) by decide, show ¬ ((4 : Int) = 2) by decide, show ¬ ((4 : Int) = 3) by decide, if_false]
    have t1 := fun wx => ta_3_1 wx ow on aw an bw bn
    have t2 := fun wx => ta_3_2 wx ow on aw an bw bn
    have t3 := fun wx => ta_3_3 wx ow on aw an bw bn
    have h1 := (Below.refl w.heap.size w).alloc (Nat.le_refl _) (.cells #[.int .i64 ow, .int .i64 on, .int .i64 aw, .int .i64 an, .int .i64 bw, .int .i64 bn] 154)
    have HB2 := hide (h1.alloc h1.size (.cells #[.int .i64 aw, .int .i64 an, .int .i64 who, .int .i64 bw, .int .i64 bn, .int .i64 who] 36))
    have hO := World.ownsRow_lit (base := w.heap.size) (e := 36) (size := 3) (w.alloc (.cells #[.int .i64 ow, .int .i64 on, .int .i64 aw, .int .i64 an, .int .i64 bw, .int .i64 bn] 154)) #[.int .i64 aw, .int .i64 an, .int .i64 who, .int .i64 bw, .int .i64 bn, .int .i64 who] 2 h1.size (by decide) rfl
    rw [show (w.alloc (.cells #[.int .i64 ow, .int .i64 on, .int .i64 aw, .int .i64 an, .int .i64 bw, .int .i64 bn] 154)).heap.size = w.heap.size + 1 from by simp [go_sem]] at hO
    have HO := hide hO
    clear h1 hO
    go_enter Try.func79, Try.ntmps79
    go_wp2_with fail
    go_ret
    exact ⟨_, rfl, by rw [ET.out]; exact HO.out, HB2.out⟩

theorem info_factI : (Try.prog.info? 36).map (fun i => (i.zero, i.size, i.bytes)) = some (some (.agg #[.int .i64 0, .int .i64 0, .int .i64 0]), 3, 24) := by kernel_rfl

set_option maxHeartbeats 1000000 in
theorem shownAt_calls (w : World) (v u : Value) (l : List St) (fr : List Int) (hv : StepsAt w v l) (hu : IntsAt w u fr) (hfr : fr.length ≤ 1048576) :
    Calls Try.prog 77 #[v, u] w fun e w' => ∃ v', e = .returned (.tuple #[v', .bool (decide (∀ x ∈ fr, 0 ≤ x ∧ x < (l.length : Int)))]) ∧ ((∀ x ∈ fr, 0 ≤ x ∧ x < (l.length : Int)) → w'.ownsRow w.heap.size 36 3 v' (shownL l fr).length (cellsI (flat faR (shownL l fr)))) ∧ Below w.heap.size w w' := by
  obtain ⟨a, ca, rfl, HA⟩ := facts_at hv
  replace HA := hide HA
  clear hv
  have HI := hide hu
  obtain ⟨au, cu, rfl, -⟩ := hu
  obtain ⟨D, HD⟩ : ∃ D, Hid (D = decide (∀ x ∈ fr, 0 ≤ x ∧ x < (l.length : Int))) := ⟨_, rfl⟩
  rw [← HD.out]
  obtain ⟨M, HM⟩ : ∃ M : Nat → List Fa, Hid (M 0 = [] ∧ (∀ i (hi : i < fr.length), M (i + 1) = M i ++ [fa l fr[i]]) ∧ (∀ i, (M i).length ≤ 1048576) ∧ M fr.length = shownL l fr) := by
    refine ⟨fun i => (fr.take i).map (fa l), rfl, fun i hi => ?_, fun i => ?_, ?_⟩
    · show (fr.take (i + 1)).map _ = _
      rw [List.take_succ_eq_append_getElem hi, List.map_append]
      rfl
    · show ((fr.take i).map _).length ≤ _
      rw [List.length_map, List.length_take]
      omega
    · show (fr.take fr.length).map _ = _
      rw [List.take_length]
      rfl
  rw [← HM.out.2.2.2]
  have HB0 := hide (Below.refl w.heap.size w)
  go_enter Try.func77, Try.ntmps77
  go_wp2_with fail
  go_loopw [6, 11] (fun vo q wr => ∃ j : Nat, j ≤ fr.length ∧ q = .int .i64 j ∧ Hid (wr.ownsRow w.heap.size 36 3 vo (M j).length (cellsI (flat faR (M j)))) ∧ Hid (Below w.heap.size w wr) ∧ Hid (∀ x ∈ fr.take j, 0 ≤ x ∧ x < (l.length : Int))) (fun _ q _ => fr.length - (intOf q).toNat)
  case atStart =>
    refine ⟨0, Nat.zero_le _, rfl, ?_, HB0.out, ?_⟩
    · show World.ownsRow _ _ _ _ _ _ _
      rw [HM.out.1]
      exact ⟨rfl, .inl ⟨rfl, rfl⟩⟩
    · show ∀ x ∈ fr.take 0, _
      simp
  case round =>
    obtain ⟨j, hj, rfl, HO, HB, HN⟩ := hrel
    by_cases hlt : j < fr.length
    · obtain ⟨ax, cx, hax, hcell⟩ := HI.out
      cases hax
      obtain ⟨g, off, hg, hgl, hc⟩ := hcell j hlt
      subst hg
      have HS := hide (HM.out.2.1 j hlt)
      have hle := HM.out.2.2.1 j
      have fj : wr.cell? ⟨g, off + j, none⟩ = some (.int .i64 fr[j]) := (HB.out.cell (p := ⟨g, off + j, none⟩) hgl).trans hc
      have hgr : g < wr.heap.size := Nat.lt_of_lt_of_le hgl HB.out.size
      have HT : Hid (¬ (0 ≤ fr[j] ∧ fr[j] < (l.length : Int)) → D = false) := fun hx => by
        rw [HD.out]
        exact decide_eq_false (fun hall => hx (hall _ (List.getElem_mem hlt)))
      have HT2 : Hid ((0 ≤ fr[j] ∧ fr[j] < (l.length : Int)) → ∀ x ∈ fr.take (j + 1), 0 ≤ x ∧ x < (l.length : Int)) := fun hx y hy => by
        rw [List.take_succ_eq_append_getElem hlt] at hy
        rcases List.mem_append.1 hy with hy | hy
        · exact HN.out y hy
        · rw [List.mem_singleton.1 hy]; exact hx
      have HT3 : Hid (¬ (0 ≤ fr[j] ∧ fr[j] < (l.length : Int)) → ¬ ∀ x ∈ fr, 0 ≤ x ∧ x < (l.length : Int)) := fun hx hall => hx (hall _ (List.getElem_mem hlt))
      clear hcell hc
      generalize fr[j] = x at *
      by_cases hx : 0 ≤ x ∧ x < (l.length : Int)
      · obtain ⟨m, rfl⟩ : ∃ m : Nat, x = (m : Int) := ⟨x.toNat, by omega⟩
        have hm : m < l.length := by omega
        have hm0 : ¬ ((m : Int) < 0) := by omega
        have hml : (m : Int) < (l.length : Int) := by omega
        have HN2 := hide (HT2.out hx)
        obtain ⟨g2, off2, rfl, hg2, q0, q1, q2⟩ := HA.out m hm
        have hg2r : g2 < wr.heap.size := Nat.lt_of_lt_of_le hg2 HB.out.size
        have p0 : wr.cell? ⟨g2, off2 + m * 14 + 10, none⟩ = some (.int .i64 l[m].f.a) := (HB.out.cell (p := ⟨g2, off2 + m * 14 + 10, none⟩) hg2).trans q0
        have p1 : wr.cell? ⟨g2, off2 + m * 14 + 11, none⟩ = some (.int .i64 l[m].f.b) := (HB.out.cell (p := ⟨g2, off2 + m * 14 + 11, none⟩) hg2).trans q1
        have p2 : wr.cell? ⟨g2, off2 + m * 14 + 12, none⟩ = some (.int .i64 l[m].f.w) := (HB.out.cell (p := ⟨g2, off2 + m * 14 + 12, none⟩) hg2).trans q2
        rw [fa_lt hm] at HS
        clear q0 q1 q2 HT HT2 HT3 hx
        generalize l[m].f = y at *
        obtain ⟨ya, yb, yw⟩ := y
        dsimp only at p0 p1 p2
        have hB5 : w.heap.size ≤ wr.heap.size := HB.out.size
        obtain ⟨i0, hi, hz0, hz1, hz2⟩ := info_parts info_factI
        go_wp2_with (at_builtin; refine wpList_append_one (cs := #[.int .i64 ya, .int .i64 yb, .int .i64 yw]) (Below.refl w.heap.size wr) hB5 rfl (.tmp 23) (.tmp 29) 26 rfl 36 i0 (.agg #[.int .i64 0, .int .i64 0, .int .i64 0]) 3 24 Try.underlying26 hi hz0 hz1 hz2 rfl (by decide) rfl (by simp [Value.oneCell']) _ _ _ rfl HO.out 1 rfl (by omega) (by omega) ?_)
        intro v6 w6 hown6 hb6
        have HO6 : Hid (w6.ownsRow w.heap.size 36 3 v6 (M (j + 1)).length (cellsI (flat faR (M (j + 1))))) := by
          show World.ownsRow _ _ _ _ _ _ _
          rw [HS.out]
          exact own_snocR (R := faR) (x := ⟨ya, yb, yw⟩) rfl hown6
        have HB6 := hide (HB.out.trans hb6)
        clear hown6 hb6
        go_wp2_with fail
        go_roundw
        case rel => exact ⟨j + 1, by omega, by go_num, HO6.out, HB6.out, HN2.out⟩
        case measure => simp [intOf]; omega
      · have HR := hide (HT.out hx)
        have HR3 := hide (HT3.out hx)
        clear HT HT2 HT3
        by_cases hx0 : x < 0
        · clear hx
          go_wp2_with fail
          go_ret2
          exact ⟨_, by rw [HR.out]; rfl, fun h => absurd h HR3.out, HB.out⟩
        · have hx1 : (l.length : Int) ≤ x := by omega
          clear hx
          go_wp2_with fail
          go_ret2
          exact ⟨_, by rw [HR.out]; rfl, fun h => absurd h HR3.out, HB.out⟩
    · have hjl : j = fr.length := by omega
      subst hjl
      have HR : Hid (D = true) := by
        show _ = _
        rw [HD.out]
        exact decide_eq_true (fun x hx => HN.out x (by rw [List.take_length]; exact hx))
      go_wp2_with fail
      go_ret2
      exact ⟨_, by rw [HR.out]; rfl, fun _ => HO.out, HB.out⟩
end Go.Proofs.Ythafpkpmnhgmaaa.P7
namespace Go.Proofs.Ythafpkpmnhgmaaa.P7
set_option maxRecDepth 8000
open Go.RowKit P1 P5 P6 Rc Rr

theorem take_snoc {α : Type} {l m : List α} {k : Nat} (h1 : k < l.length) (h2 : k < m.length) (h : l.take k = m.take k) (he : l[k] = m[k]) : l.take (k + 1) = m.take (k + 1) := by
  rw [List.take_succ_eq_append_getElem h1, List.take_succ_eq_append_getElem h2, h, he]

set_option maxHeartbeats 400000 in
theorem equalF_calls (w : World) (v u : Value) (l m : List Fa) (hv : RowAt faR w v l) (hu : RowAt faR w u m) (r : Bool) (hr : r = true ↔ l = m) (hl : l.length ≤ 1048576) :
    Calls Try.prog 78 #[v, u] w fun e w' => e = .returned (.bool r) ∧ Below w.heap.size w w' := by
  obtain ⟨a, ca, rfl, HA⟩ := hv.open_
  obtain ⟨b, cb, rfl, HC⟩ := hu.open_
  replace HA := hide HA
  replace HC := hide HC
  clear hv hu
  have Er : Hid (r = decide (l = m)) := by
    show _ = _
    by_cases h : l = m
    · rw [decide_eq_true h, hr.2 h]
    · rw [decide_eq_false h]
      cases r with
      | false => rfl
      | true => exact absurd (hr.1 rfl) h
  clear hr
  have HB := hide (Below.refl w.heap.size w)
  by_cases hlm : l.length = m.length
  · rw [← hlm]
    have hlm' := hide hlm
    clear hlm
    go_enter Try.func78, Try.ntmps78
    go_wp2_with fail
    go_loopw [13] (fun i wr => ∃ k n : Nat, k ≤ l.length ∧ i = .int .i64 k ∧ wr = w.drewN n ∧ Hid (l.take k = m.take k)) (fun i _ => l.length - (intOf i).toNat)
    case atStart => exact ⟨0, 0, Nat.zero_le _, rfl, rfl, rfl⟩
    case round =>
      obtain ⟨k, n, hk, rfl, rfl, HN⟩ := hrel
      by_cases hlt : k < l.length
      · have hltm : k < m.length := by rw [← hlm'.out]; exact hlt
        obtain ⟨g, off, rfl, hg, hc⟩ := HA.out k hlt
        obtain ⟨g', off', rfl, hg', hc'⟩ := HC.out k hltm
        have p0 : w.cell? ⟨g, off + k * 3, none⟩ = some (.int .i64 l[k].a) := hc 0 (by decide)
        have p1 : w.cell? ⟨g, off + k * 3 + 1, none⟩ = some (.int .i64 l[k].b) := hc 1 (by decide)
        have p2 : w.cell? ⟨g, off + k * 3 + 2, none⟩ = some (.int .i64 l[k].w) := hc 2 (by decide)
        have q0 : w.cell? ⟨g', off' + k * 3, none⟩ = some (.int .i64 m[k].a) := hc' 0 (by decide)
        have q1 : w.cell? ⟨g', off' + k * 3 + 1, none⟩ = some (.int .i64 m[k].b) := hc' 1 (by decide)
        have q2 : w.cell? ⟨g', off' + k * 3 + 2, none⟩ = some (.int .i64 m[k].w) := hc' 2 (by decide)
        have HT := hide (fun h : l[k] = m[k] => take_snoc hlt hltm HN.out h)
        have HF : Hid (l[k] ≠ m[k] → r = false) := fun h => Er.out.trans (decide_eq_false (fun e => h (by subst e; rfl)))
        clear hc hc' HA HC
        generalize l[k] = y at *
        generalize m[k] = z at *
        obtain ⟨ya, yb, yw⟩ := y
        obtain ⟨za, zb, zw⟩ := z
        dsimp only at p0 p1 p2 q0 q1 q2
        by_cases e1 : ya = za
        · subst e1
          by_cases e2 : yb = zb
          · subst e2
            by_cases e3 : yw = zw
            · subst e3
              have HT2 := hide (HT.out rfl)
              clear HF HT HN
              go_wp2
              go_quiet (fail)
              go_wp2
              go_roundw
              case rel => exact ⟨k + 1, _, by omega, by go_num, rfl, HT2.out⟩
              case measure => simp [intOf]; omega
            · have HR := hide (HF.out (fun h => e3 (by simp only [Fa.mk.injEq] at h; omega)))
              clear HF HT
              go_wp2
              go_quiet (fail)
              go_wp2
              go_ret
              exact ⟨by rw [HR.out]; rfl, below_drewN (below_drewN HB.out _) _⟩
          · have HR := hide (HF.out (fun h => e2 (by simp only [Fa.mk.injEq] at h; omega)))
            clear HF HT
            go_wp2
            go_quiet (fail)
            go_wp2
            go_ret
            exact ⟨by rw [HR.out]; rfl, below_drewN (below_drewN HB.out _) _⟩
        · have HR := hide (HF.out (fun h => e1 (by simp only [Fa.mk.injEq] at h; omega)))
          clear HF HT
          go_wp2
          go_quiet (fail)
          go_wp2
          go_ret
          exact ⟨by rw [HR.out]; rfl, below_drewN (below_drewN HB.out _) _⟩
      · have hkl : k = l.length := by omega
        have HR : Hid (r = true) := Er.out.trans (decide_eq_true (by
          have := HN.out
          rw [hkl, List.take_length, hlm'.out, List.take_length] at this
          exact this))
        go_wp2
        go_ret
        exact ⟨by rw [HR.out]; rfl, below_drewN HB.out _⟩
  · have HR : Hid (r = false) := Er.out.trans (decide_eq_false (fun h => hlm (by rw [h])))
    have hlm2 : ¬ ((l.length : Int) = (m.length : Int)) := by omega
    clear hlm
    go_enter Try.func78, Try.ntmps78
    go_wp2_with fail
    go_ret
    exact ⟨by rw [HR.out]; rfl, HB.out⟩

theorem circ_sh (c : Cr) : ∃ tv vv, circV c = .iface tv vv := by
  unfold circV
  split
  · exact ⟨_, _, rfl⟩
  · split
    · exact ⟨_, _, rfl⟩
    · split
      · exact ⟨_, _, rfl⟩
      · exact ⟨_, _, rfl⟩

/-- The steps ahead of a place. -/
theorem StepsAt.take_ {w : World} {a : Option Addr} {l : List St} {c : Nat} (h : StepsAt w (.slice a l.length c) l) (j : Nat) (hj : j ≤ l.length) (c' : Nat) : StepsAt w (.slice a j c') (l.take j) := by
  obtain ⟨a', cap, h1, h2⟩ := h
  cases h1
  have hlen : (l.take j).length = j := by rw [List.length_take]; omega
  refine ⟨a, c', by rw [hlen], fun i hi => ?_⟩
  have hi' : i < l.length := by rw [hlen] at hi; omega
  have e : (l.take j)[i] = l[i] := by simp
  rw [e]
  exact h2 i hi'

theorem shownL_take {l : List St} {fr : List Int} {j : Nat} (hj : j ≤ l.length) (h : ∀ x ∈ fr, 0 ≤ x ∧ x < ((l.take j).length : Int)) : shownL (l.take j) fr = shownL l fr := by
  unfold shownL
  apply List.map_congr_left
  intro x hx
  have h1 := h x hx
  have hlen : (l.take j).length = j := by rw [List.length_take]; omega
  rw [hlen] at h1
  obtain ⟨m, rfl⟩ : ∃ m : Nat, x = (m : Int) := ⟨x.toNat, by omega⟩
  rw [fa_lt (by rw [hlen]; omega), fa_lt (by omega)]
  simp

/-- What is left of StepOk behind the first tests. -/
theorem okAt_false4 {l : List St} {s : St} {i : Int} (h1 : credOk s.c) (h : tellsB s.c s.f.w = false) : okAt l s i = false := by
  by_cases h2 : s.f.a = s.c.ow ∧ s.f.b = s.c.on
  · by_cases h3 : ∀ x ∈ s.fr, 0 ≤ x ∧ x ≤ i - 1
    · rw [okAt_prog h1 h2 h3, h, Bool.false_and]
    · have : s.fr.all (fun x => decide (0 ≤ x ∧ x ≤ i - 1)) = false := by
        rw [List.all_eq_false]
        have h4 : ∃ x, x ∈ s.fr ∧ ¬ (0 ≤ x ∧ x ≤ i - 1) := by
          false_or_by_contra
          rename_i h5
          exact h3 (fun x hx => Classical.byContradiction fun h6 => h5 ⟨x, hx, h6⟩)
        obtain ⟨x, hx, h6⟩ := h4
        exact ⟨x, hx, by simpa using h6⟩
      simp only [okAt, this, Bool.and_false, Bool.false_and]
  · exact okAt_false2 h2

theorem okAt_false5 {l : List St} {s : St} {i : Int} (h : ¬ ∀ x ∈ s.fr, 0 ≤ x ∧ x < i) : okAt l s i = false := by
  have : s.fr.all (fun x => decide (0 ≤ x ∧ x ≤ i - 1)) = false := by
    rw [List.all_eq_false]
    have h4 : ∃ x, x ∈ s.fr ∧ ¬ (0 ≤ x ∧ x < i) := by
      false_or_by_contra
      rename_i h5
      exact h (fun x hx => Classical.byContradiction fun h6 => h5 ⟨x, hx, h6⟩)
    obtain ⟨x, hx, h6⟩ := h4
    refine ⟨x, hx, ?_⟩
    rw [decide_eq_true_eq]
    omega
  simp only [okAt, this, Bool.and_false, Bool.false_and]

set_option maxHeartbeats 4000000 in
theorem implStepOk_calls (w : World) (v : Value) (l : List St) (i : Int) (hv : StepsAt w v l) (hcap : ∀ a c, v = .slice a l.length c → l.length ≤ c) (hfr : ∀ s ∈ l, s.fr.length ≤ 1048576) :
    Calls Try.prog 21 #[v, .int .i64 i] w fun e w' => e = .returned (.bool (stepOk l i)) ∧ Below w.heap.size w w' := by
  have HV := hide hv
  obtain ⟨a, ca, rfl, -⟩ := hv
  have hca := hcap _ _ rfl
  clear hcap
  have HB0 := hide (Below.refl w.heap.size w)
  by_cases hi : 0 ≤ i ∧ i ≤ (l.length : Int) - 1
  · obtain ⟨j, rfl⟩ : ∃ j : Nat, i = (j : Int) := ⟨i.toNat, by omega⟩
    have hj : j < l.length := by omega
    have hok : stepOk l (j : Int) = okAt l l[j] (j : Int) := by
      unfold stepOk
      rw [decide_eq_true hi, Bool.true_and, show ((j : Int)).toNat = j from by omega, getD_lt hj]
    obtain ⟨r, Er⟩ : ∃ r, r = stepOk l (j : Int) := ⟨_, rfl⟩
    rw [← Er]
    have HR := hide (Er.trans hok)
    have hfl := hfr l[j] (List.getElem_mem hj)
    have HV1 := hide (HV.out.take_ j (by omega))
    obtain ⟨a', ca', h1, h2⟩ := HV.out
    cases h1
    obtain ⟨g, off, hga, hg, hc, u0, hu, hI⟩ := h2 j hj
    have HII := hide hI
    obtain ⟨au, cu, rfl, -⟩ := hI
    clear h2 hok Er hi HV hfr
    have hjj : (j : Int) < (l.length : Int) := by omega
    have hj0 : ¬ ((j : Int) < 0) := by omega
    have hjc : j ≤ ca := by omega
    have hTake : Hid ((l.take j).length = j) := by show _ = _; rw [List.length_take]; omega
    have HSH := hide (fun (wx : World) (c' : Nat) (u' : Value) (fr' : List Int) (h : StepsAt wx (.slice a j c') (l.take j)) (h' : IntsAt wx u' fr') (hh : fr'.length ≤ 1048576) => shownAt_calls wx _ u' (l.take j) fr' h h' hh)
    have HST := hide (fun (fr' : List Int) (h : ∀ x ∈ fr', 0 ≤ x ∧ x < ((l.take j).length : Int)) => shownL_take (l := l) (j := j) (by omega) h)
    generalize hs : l[j] = s at *
    have HOKs := hide (fun wx => circleOf_calls wx s.c)
    have HTL := hide (fun wx h => tellsOf_calls wx s.c s.f.w h)
    have HWT := hide (fun wx th h => wanted_calls wx s.c s.f.w th h)
    obtain ⟨tv, vv, ecv⟩ := circ_sh s.c
    rw [ecv] at HOKs HTL HWT
    obtain ⟨⟨k, ow, on, wh, aw, an, bw, bn, u, n⟩, ⟨fa, fb, fw⟩, fr⟩ := s
    dsimp only at hfl HII hu HOKs HTL HWT
    subst hga
    have f0 : w.cell? ⟨g, off + j * 14, none⟩ = some (.int .i64 k) := hc 0 (by decide)
    have f1 : w.cell? ⟨g, off + j * 14 + 1, none⟩ = some (.int .i64 ow) := hc 1 (by decide)
    have f2 : w.cell? ⟨g, off + j * 14 + 2, none⟩ = some (.int .i64 on) := hc 2 (by decide)
    have f3 : w.cell? ⟨g, off + j * 14 + 3, none⟩ = some (.int .i64 wh) := hc 3 (by decide)
    have f4 : w.cell? ⟨g, off + j * 14 + 4, none⟩ = some (.int .i64 aw) := hc 4 (by decide)
    have f5 : w.cell? ⟨g, off + j * 14 + 5, none⟩ = some (.int .i64 an) := hc 5 (by decide)
    have f6 : w.cell? ⟨g, off + j * 14 + 6, none⟩ = some (.int .i64 bw) := hc 6 (by decide)
    have f7 : w.cell? ⟨g, off + j * 14 + 7, none⟩ = some (.int .i64 bn) := hc 7 (by decide)
    have f8 : w.cell? ⟨g, off + j * 14 + 8, none⟩ = some (.int .i64 u) := hc 8 (by decide)
    have f9 : w.cell? ⟨g, off + j * 14 + 9, none⟩ = some (.int .i64 n) := hc 9 (by decide)
    have f10 : w.cell? ⟨g, off + j * 14 + 10, none⟩ = some (.int .i64 fa) := hc 10 (by decide)
    have f11 : w.cell? ⟨g, off + j * 14 + 11, none⟩ = some (.int .i64 fb) := hc 11 (by decide)
    have f12 : w.cell? ⟨g, off + j * 14 + 12, none⟩ = some (.int .i64 fw) := hc 12 (by decide)
    have f13 : w.cell? ⟨g, off + j * 14 + 13, none⟩ = some (.slice au fr.length cu) := hu
    clear hc hu hs ecv
    simp only [credV] at HOKs
    have HB2 := hide ((Below.refl w.heap.size w).alloc (Nat.le_refl _) (.cells #[.int .i64 k, .int .i64 ow, .int .i64 on, .int .i64 wh, .int .i64 aw, .int .i64 an, .int .i64 bw, .int .i64 bn, .int .i64 u, .int .i64 n, .int .i64 fa, .int .i64 fb, .int .i64 fw, .slice au fr.length cu] 95))
    have G5 := hide (Blk.new w #[.int .i64 k, .int .i64 ow, .int .i64 on, .int .i64 wh, .int .i64 aw, .int .i64 an, .int .i64 bw, .int .i64 bn, .int .i64 u, .int .i64 n, .int .i64 fa, .int .i64 fb, .int .i64 fw, .slice au fr.length cu] 95)
    go_enter Try.func21, Try.ntmps21
    go_wp2_with fail
    clear f0 f1 f2 f3 f4 f5 f6 f7 f8 f9 f10 f11 f12 f13
    obtain ⟨b5, e5⟩ : ∃ b, b = w.heap.size := ⟨_, rfl⟩
    rw [← e5] at G5 ⊢
    have hb5 : w.heap.size ≤ b5 := by omega
    clear e5
    have HII2 : Hid (IntsAt (w.alloc (.cells #[.int .i64 k, .int .i64 ow, .int .i64 on, .int .i64 wh, .int .i64 aw, .int .i64 an, .int .i64 bw, .int .i64 bn, .int .i64 u, .int .i64 n, .int .i64 fa, .int .i64 fb, .int .i64 fw, .slice au fr.length cu] 95)) (.slice au fr.length cu) fr) := HII.out.below HB2.out (Nat.le_refl _)
    have HV2 : Hid (∀ c', StepsAt (w.alloc (.cells #[.int .i64 k, .int .i64 ow, .int .i64 on, .int .i64 wh, .int .i64 aw, .int .i64 an, .int .i64 bw, .int .i64 bn, .int .i64 u, .int .i64 n, .int .i64 fa, .int .i64 fb, .int .i64 fw, .slice au fr.length cu] 95)) (.slice (some ⟨g, off, none⟩) j c') (l.take j)) := fun c' => (HV1.out c').below HB2.out (Nat.le_refl _)
    clear HII HV1
    generalize w.alloc (.cells #[.int .i64 k, .int .i64 ow, .int .i64 on, .int .i64 wh, .int .i64 aw, .int .i64 an, .int .i64 bw, .int .i64 bn, .int .i64 u, .int .i64 n, .int .i64 fa, .int .i64 fb, .int .i64 fw, .slice au fr.length cu] 95) = w2 at *
    refine (HOKs.out w2).mono ?_
    rintro e w3 ⟨rfl, hb⟩
    have G5 := hide (G5.out.below hb G5.out.lt)
    have HII3 := hide (HII2.out.below hb (Nat.le_refl _))
    have HV3 : Hid (∀ c', StepsAt w3 (.slice (some ⟨g, off, none⟩) j c') (l.take j)) := fun c' => (HV2.out c').below hb (Nat.le_refl _)
    have HB3 := hide (HB2.out.trans (hb.mono HB2.out.size))
    clear hb HB2 HOKs HII2 HV2
    by_cases hok : credOk ⟨k, ow, on, wh, aw, an, bw, bn, u, n⟩
    · rw [decide_eq_true hok, if_pos hok]
      have x1 : w3.cell? ⟨b5, 1, none⟩ = some (.int .i64 ow) := by rw [G5.out.cell 1]; rfl
      have x2 : w3.cell? ⟨b5, 2, none⟩ = some (.int .i64 on) := by rw [G5.out.cell 2]; rfl
      have x10 : w3.cell? ⟨b5, 10, none⟩ = some (.int .i64 fa) := by rw [G5.out.cell 10]; rfl
      have x11 : w3.cell? ⟨b5, 11, none⟩ = some (.int .i64 fb) := by rw [G5.out.cell 11]; rfl
      have x12 : w3.cell? ⟨b5, 12, none⟩ = some (.int .i64 fw) := by rw [G5.out.cell 12]; rfl
      have x13 : w3.cell? ⟨b5, 13, none⟩ = some (.slice au fr.length cu) := by rw [G5.out.cell 13]; rfl
      have l5 := G5.out.lt
      have HTLx := hide (HTL.out w3 (kind_of hok))
      have HWTx := hide (fun wx th => HWT.out wx th (kind_of hok))
      have HF2 : Hid (¬ (fa = ow ∧ fb = on) → r = false) := fun h => HR.out.trans (okAt_false2 h)
      have HF4 : Hid (tellsB ⟨k, ow, on, wh, aw, an, bw, bn, u, n⟩ fw = false → r = false) := fun h => HR.out.trans (okAt_false4 hok h)
      have HF5 : Hid ((¬ ∀ x ∈ fr, 0 ≤ x ∧ x < (j : Int)) → r = false) := fun h => HR.out.trans (okAt_false5 h)
      have HF6 : Hid (fa = ow ∧ fb = on → (∀ x ∈ fr, 0 ≤ x ∧ x < (j : Int)) → tellsB ⟨k, ow, on, wh, aw, an, bw, bn, u, n⟩ fw = true → (r = true ↔ shownL l fr = wantedL ⟨k, ow, on, wh, aw, an, bw, bn, u, n⟩ fw (thrL (shownL l fr)))) := fun h2 h3 h4 => by
        have h5 := HR.out.trans (okAt_prog hok h2 (fun x hx => by have := h3 x hx; omega))
        dsimp only at h5
        rw [h4, Bool.true_and] at h5
        rw [h5, decide_eq_true_eq]
      clear HTL HWT HR hok
      by_cases q1 : fa = ow
      · subst q1
        by_cases q2 : fb = on
        · subst q2
          go_wp2_with fail
          refine HTLx.out.mono ?_
          rintro e w4 ⟨rfl, hb⟩
          have G6 := hide (G5.out.below hb G5.out.lt)
          have HII4 := hide (HII3.out.below hb (Nat.le_refl _))
          have HV4 : Hid (∀ c', StepsAt w4 (.slice (some ⟨g, off, none⟩) j c') (l.take j)) := fun c' => (HV3.out c').below hb (Nat.le_refl _)
          have HB4 := hide (HB3.out.trans (hb.mono HB3.out.size))
          clear hb HB3 HII3 HV3 G5 x1 x2 x10 x11 x12 x13 l5 HF2 HTLx
          cases htl : tellsB ⟨k, fa, fb, wh, aw, an, bw, bn, u, n⟩ fw with
          | false =>
            have HR1 := hide (HF4.out htl)
            clear htl HF4 HF5 HF6
            go_wp2_with fail
            go_ret
            exact ⟨by rw [HR1.out]; rfl, HB4.out⟩
          | true =>
            have HF7 := hide (fun h => HF6.out (by simp) h htl)
            clear htl HF4 HF6
            have x13 : w4.cell? ⟨b5, 13, none⟩ = some (.slice au fr.length cu) := by rw [G6.out.cell 13]; rfl
            have l5 := G6.out.lt
            go_wp2_with fail
            refine wp_region_open (fun wd => wd = w4.drew) rfl (by kernel_rfl) ?_
            rintro wd rfl
            have x13 : w4.drew.cell? ⟨b5, 13, none⟩ = some (.slice au fr.length cu) := x13
            have l5 : b5 < w4.drew.heap.size := l5
            have G6 : Hid (Blk w4.drew b5 _ 95) := G6.out
            have HII4 : Hid (IntsAt w4.drew (.slice au fr.length cu) fr) := HII4.out
            have HV4 : Hid (∀ c', StepsAt w4.drew (.slice (some ⟨g, off, none⟩) j c') (l.take j)) := HV4.out
            have HB4 : Hid (Below w.heap.size w w4.drew) := HB4.out.drew
            generalize w4.drew = w5 at *
            refine wpAny_of_K (c := 5) (D := fun w' => w' = w5) _ _ _ _ ?_
            refine wpAnyK_seg_lit3 0 5 6 6 rfl (by decide) (by decide) (by kernel_rfl) (by kernel_rfl) (by kernel_rfl) (by kernel_rfl) (fun _ _ _ _ _ h => h) rfl ?_
            simp only [List.take_succ_cons, List.take_zero, List.drop_zero]
            repeat (go_big_quiet_step (fail))
            refine wpQuiet_nil ?_
            refine wpAnyK_last (by kernel_rfl) (by decide) ?_
            refine wpAny_one 5 (by kernel_rfl) rfl ?_
            go_wp2_with fail
            refine (HSH.out w5 _ _ fr (HV4.out _) HII4.out hfl).mono ?_
            rw [hTake.out]
            rintro e w6 ⟨v6, rfl, hown6, hb⟩
            have G7 := hide (G6.out.below hb G6.out.lt)
            have HB6 := hide (HB4.out.trans (hb.mono HB4.out.size))
            have HO6 := hide hown6
            clear hb hown6 HB4 HII4 HV4 G6 x13 l5 HSH
            go_wp2_with fail
            show wpAny _ _ _ _ _ _ _ _
            refine wpAny_seg_lit 6 5 0 rfl (by decide) (by kernel_rfl) (by kernel_rfl) (fun _ _ _ _ _ h => h) ?_
            simp only [List.take_succ_cons, List.take_zero, List.drop_succ_cons, List.drop_zero]
            repeat (go_big_quiet_step (fail))
            refine wpQuiet_nil ?_
            refine ⟨by kernel_rfl, ?_⟩
            by_cases hall : ∀ x ∈ fr, 0 ≤ x ∧ x < (j : Int)
            · rw [decide_eq_true hall]
              have HO7 := hide (HO6.out hall)
              rw [HST.out fr (by rw [hTake.out]; exact hall)] at HO7
              have HF8 := hide (HF7.out hall)
              clear hall HO6 HF5 HF7 HST
              have hshl : (shownL l fr).length ≤ 1048576 := by unfold shownL; rw [List.length_map]; exact hfl
              generalize shownL l fr = sh at *
              obtain ⟨a6, c6, hsh⟩ := own_shape HO7.out
              subst hsh
              have x12 : w6.cell? ⟨b5, 12, none⟩ = some (.int .i64 fw) := by rw [G7.out.cell 12]; rfl
              have l5 := G7.out.lt
              have HRW := hide (RowAt.of_own (R := faR) HO7.out)
              cases sh with
              | nil =>
                simp only [thrL] at HF8
                go_wp2_with fail
                refine (HWTx.out w6 0).mono ?_
                rintro e w7 ⟨v7, rfl, hown7, hb7⟩
                have HB7 := hide (HB6.out.trans (hb7.mono HB6.out.size))
                have HC := hide (equalF_calls w7 _ _ [] _ (HRW.out.below hb7 (Nat.le_refl _)) (RowAt.of_own (R := faR) hown7) r HF8.out (by simp))
                clear hown7 hb7
                go_wp2_with fail
                refine HC.out.mono ?_
                rintro e w8 ⟨rfl, hb8⟩
                have HB8 := hide (HB7.out.trans (hb8.mono HB7.out.size))
                clear hb8
                go_wp2_with fail
                go_ret
                exact ⟨rfl, HB8.out⟩
              | cons y sh =>
                obtain ⟨ax, cx, hax, hcell⟩ := HRW.out.open_
                cases hax
                obtain ⟨g6, off6, rfl, hg6, hc6⟩ := hcell 0 (by simp)
                have z2 : w6.cell? ⟨g6, off6 + 2, none⟩ = some (.int .i64 y.w) := (congrArg (fun o => w6.cell? ⟨g6, o, none⟩) (by simp : off6 + 2 = off6 + 0 * faR.n + 2)).trans (hc6 2 (by decide))
                have hlen : (0 : Int) < (((y :: sh).length : Nat) : Int) := by simp
                simp only [thrL] at HF8
                clear hcell hc6
                generalize hyl : (y :: sh) = ysh at *
                clear hyl
                go_wp2_with fail
                refine (HWTx.out w6 y.w).mono ?_
                rintro e w7 ⟨v7, rfl, hown7, hb7⟩
                have HB7 := hide (HB6.out.trans (hb7.mono HB6.out.size))
                have HC := hide (equalF_calls w7 _ _ ysh _ (HRW.out.below hb7 (Nat.le_refl _)) (RowAt.of_own (R := faR) hown7) r HF8.out hshl)
                clear hown7 hb7
                go_wp2_with fail
                refine HC.out.mono ?_
                rintro e w8 ⟨rfl, hb8⟩
                have HB8 := hide (HB7.out.trans (hb8.mono HB7.out.size))
                clear hb8
                go_wp2_with fail
                go_ret
                exact ⟨rfl, HB8.out⟩
            · rw [decide_eq_false hall]
              have HR1 := hide (HF5.out hall)
              clear hall HO6 HF5 HF7 HST
              go_wp2_with fail
              go_ret
              exact ⟨by rw [HR1.out]; rfl, HB6.out⟩
        · have HR1 := hide (HF2.out (fun h => q2 h.2))
          go_wp2_with fail
          go_ret
          exact ⟨by rw [HR1.out]; rfl, HB3.out⟩
      · have HR1 := hide (HF2.out (fun h => q1 h.1))
        go_wp2_with fail
        go_ret
        exact ⟨by rw [HR1.out]; rfl, HB3.out⟩
    · rw [decide_eq_false hok, if_neg hok]
      have HR1 : Hid (r = false) := HR.out.trans (okAt_false1 hok)
      clear hok
      go_wp2_with fail
      go_ret
      exact ⟨by rw [HR1.out]; rfl, HB3.out⟩
  · obtain ⟨r, Er⟩ : ∃ r, r = stepOk l i := ⟨_, rfl⟩
    rw [← Er]
    have HR : Hid (r = false) := by
      show _ = _
      rw [Er]
      unfold stepOk
      rw [decide_eq_false hi, Bool.false_and]
    clear Er
    by_cases h0 : i < 0
    · clear hi
      go_enter Try.func21, Try.ntmps21
      go_wp2_with fail
      go_ret
      exact ⟨by rw [HR.out]; rfl, HB0.out⟩
    · have h1 : (l.length : Int) ≤ i := by omega
      clear hi
      go_enter Try.func21, Try.ntmps21
      go_wp2_with fail
      go_ret
      exact ⟨by rw [HR.out]; rfl, HB0.out⟩
end Go.Proofs.Ythafpkpmnhgmaaa.P7
namespace Go.Proofs.Ythafpkpmnhgmaaa.P7
set_option maxRecDepth 8000
open Go.RowKit P1 P5 P6 Rc Rr

set_option maxHeartbeats 2000000 in
theorem implProofOk_calls (w : World) (v : Value) (l : List St) (ra rb who : Int) (hv : StepsAt w v l) (hcap : ∀ a c, v = .slice a l.length c → l.length ≤ c) (hl : l.length ≤ 1048576) (hfr : ∀ s ∈ l, s.fr.length ≤ 1048576) :
    Calls Try.prog 22 #[v, roleV ra rb, .int .i64 who] w fun e w' => e = .returned (.bool (proofOk l ra rb who)) ∧ Below w.heap.size w w' := by
  have HV := hide hv
  obtain ⟨a, ca, rfl, HA⟩ := facts_at hv
  replace HA := hide HA
  have HCap := hide hcap
  clear hv hcap
  simp only [roleV]
  obtain ⟨r, Er⟩ : ∃ r, Hid (r = proofOk l ra rb who) := ⟨_, rfl⟩
  rw [← Er.out]
  have HB := hide ((Below.refl w.heap.size w).alloc (Nat.le_refl _) (.cells #[.int .i64 ra, .int .i64 rb] 34))
  have HG := hide (Blk.new w #[.int .i64 ra, .int .i64 rb] 34)
  by_cases hn1 : (l.length : Int) < 1
  · have HR : Hid (r = false) := Er.out.trans (proofOk_false1 (by omega))
    go_enter Try.func22, Try.ntmps22
    go_wp2_with fail
    go_ret
    exact ⟨by rw [HR.out]; rfl, HB.out⟩
  · by_cases hn2 : (200 : Int) < (l.length : Int)
    · have HR : Hid (r = false) := Er.out.trans (proofOk_false1 (by omega))
      go_enter Try.func22, Try.ntmps22
      go_wp2_with fail
      go_ret
      exact ⟨by rw [HR.out]; rfl, HB.out⟩
    · obtain ⟨m, hm⟩ : ∃ m, l.length = m + 1 := ⟨l.length - 1, by omega⟩
      have hml : m < l.length := by omega
      have hmi : (l.length : Int) - 1 = (m : Int) := by omega
      have hmj : (m : Int) < (l.length : Int) := by omega
      obtain ⟨g, off, rfl, hg, c0, c1, c2⟩ := HA.out m hml
      have HF := hide (fun h : ¬ l[m].f = ⟨ra, rb, who⟩ => (proofOk_false2 (l := l) (a := ra) (b := rb) (who := who) (by rw [show l.length - 1 = m by omega, getD_lt hml]; exact h)))
      have HP := hide (fun (h : l[m].f = ⟨ra, rb, who⟩) => proofOk_true (l := l) (a := ra) (b := rb) (who := who) (by omega) (by rw [show l.length - 1 = m by omega, getD_lt hml]; exact h))
      generalize l[m].f = y at *
      obtain ⟨ya, yb, yw⟩ := y
      dsimp only at c0 c1 c2
      have HC0 := hide c0
      have HC1 := hide c1
      have HC2 := hide c2
      clear c0 c1 c2 HA hm
      go_enter Try.func22, Try.ntmps22
      go_wp2_with fail
      obtain ⟨b0, e0⟩ : ∃ b, b = w.heap.size := ⟨_, rfl⟩
      rw [← e0] at HG ⊢
      have hgb : g < b0 := by omega
      have hb0 : b0 ≤ w.heap.size := by omega
      have hb1 : w.heap.size ≤ b0 := by omega
      clear e0
      generalize w.alloc (.cells #[.int .i64 ra, .int .i64 rb] 34) = w1 at *
      go_loopw [18] (fun q wr => ∃ k : Nat, k ≤ l.length ∧ q = .int .i64 k ∧ Hid (Below w.heap.size w wr) ∧ Hid (Blk wr b0 [.int .i64 ra, .int .i64 rb] 34) ∧ Hid (∀ j, j < k → stepOk l (j : Int) = true)) (fun q _ => l.length - (intOf q).toNat)
      case atStart => exact ⟨0, Nat.zero_le _, rfl, HB.out, HG.out, by show ∀ j, j < 0 → _; omega⟩
      case round =>
        clear HB HG
        obtain ⟨k, hk, rfl, HBr, HGr, HN⟩ := hrel
        by_cases hlt : k < l.length
        · have HC := hide (implStepOk_calls wr _ l (k : Int) (HV.out.below HBr.out (Nat.le_refl _)) HCap.out hfr)
          cases hst : stepOk l (k : Int) with
          | false =>
            have HR : Hid (r = false) := Er.out.trans (proofOk_false3 hlt hst)
            rw [hst] at HC
            clear hst
            go_wp2_with fail
            refine HC.out.mono ?_
            rintro e w4 ⟨rfl, hb⟩
            have HB4 := hide (HBr.out.trans (hb.mono HBr.out.size))
            clear hb
            go_wp2_with fail
            go_ret
            exact ⟨by rw [HR.out]; rfl, HB4.out⟩
          | true =>
            rw [hst] at HC
            have HN2 : Hid (∀ j, j < k + 1 → stepOk l (j : Int) = true) := fun j hj => by
              rcases Nat.lt_or_ge j k with h | h
              · exact HN.out j h
              · have : j = k := by omega
                subst this
                exact hst
            clear hst
            go_wp2_with fail
            refine HC.out.mono ?_
            rintro e w4 ⟨rfl, hb⟩
            have HB4 := hide (HBr.out.trans (hb.mono HBr.out.size))
            have HG4 := hide (HGr.out.below hb HGr.out.lt)
            clear hb
            go_wp2_with fail
            go_roundw
            case rel => exact ⟨k + 1, by omega, by go_num, HB4.out, HG4.out, HN2.out⟩
            case measure => simp [intOf]; omega
        · have hkl : k = l.length := by omega
          have HAll : Hid (∀ j, j < l.length → stepOk l (j : Int) = true) := fun j hj => HN.out j (by omega)
          have hgw : g < w.heap.size := by omega
          have hgr : g < wr.heap.size := Nat.lt_of_lt_of_le hgw HBr.out.size
          have z0 : wr.cell? ⟨g, off + m * 14 + 10, none⟩ = some (.int .i64 ya) := (HBr.out.cell (p := ⟨g, off + m * 14 + 10, none⟩) hgw).trans HC0.out
          have z1 : wr.cell? ⟨g, off + m * 14 + 11, none⟩ = some (.int .i64 yb) := (HBr.out.cell (p := ⟨g, off + m * 14 + 11, none⟩) hgw).trans HC1.out
          have z2 : wr.cell? ⟨g, off + m * 14 + 12, none⟩ = some (.int .i64 yw) := (HBr.out.cell (p := ⟨g, off + m * 14 + 12, none⟩) hgw).trans HC2.out
          have d0 : wr.cell? ⟨b0, 0, none⟩ = some (.int .i64 ra) := by rw [HGr.out.cell 0]; rfl
          have d1 : wr.cell? ⟨b0, 1, none⟩ = some (.int .i64 rb) := by rw [HGr.out.cell 1]; rfl
          have l0 := HGr.out.lt
          have hkf : ¬ ((k : Int) < (l.length : Int)) := by omega
          clear HN HC0 HC1 HC2 hlt
          by_cases q1 : ya = ra
          · subst q1
            by_cases q2 : yb = rb
            · subst q2
              by_cases q3 : yw = who
              · subst q3
                have HR : Hid (r = true) := Er.out.trans (HP.out rfl HAll.out)
                clear HF HP
                go_wp2_with fail
                go_quiet (first | rfl | fail)
                go_wp2_with fail
                go_ret
                exact ⟨by rw [HR.out]; rfl, below_drewN HBr.out _⟩
              · skip
                have HR : Hid (r = false) := Er.out.trans (HF.out (fun h => q3 (by simp only [Fa.mk.injEq] at h; omega)))
                clear HF HP
                go_wp2_with fail
                go_quiet (first | rfl | fail)
                go_wp2_with fail
                go_ret
                exact ⟨by rw [HR.out]; rfl, below_drewN HBr.out _⟩
            · skip
              have HR : Hid (r = false) := Er.out.trans (HF.out (fun h => q2 (by simp only [Fa.mk.injEq] at h; omega)))
              clear HF HP
              go_wp2_with fail
              go_quiet (first | rfl | fail)
              go_wp2_with fail
              go_ret
              exact ⟨by rw [HR.out]; rfl, below_drewN HBr.out _⟩
          · skip
            have HR : Hid (r = false) := Er.out.trans (HF.out (fun h => q1 (by simp only [Fa.mk.injEq] at h; omega)))
            clear HF HP
            go_wp2_with fail
            go_quiet (first | rfl | fail)
            go_wp2_with fail
            go_ret
            exact ⟨by rw [HR.out]; rfl, below_drewN HBr.out _⟩
end Go.Proofs.Ythafpkpmnhgmaaa.P7
namespace Go.Proofs.Ythafpkpmnhgmaaa.P7
set_option maxRecDepth 8000
open Go.RowKit P1 P5 P6 Rc Rr Mp

theorem equal_cred (w : World) (x y : Cr) : (Op.equal 39 (credV x) (credV y)).run Try.prog w = .ok (decide (x = y)) w := by
  obtain ⟨k, ow, on, wh, aw, an, bw, bn, u, n⟩ := x
  obtain ⟨k', ow', on', wh', aw', an', bw', bn', u', n'⟩ := y
  by_cases h0 : k = k'
  · subst h0
    by_cases h1 : ow = ow'
    · subst h1
      by_cases h2 : on = on'
      · subst h2
        by_cases h3 : wh = wh'
        · subst h3
          by_cases h4 : aw = aw'
          · subst h4
            by_cases h5 : an = an'
            · subst h5
              by_cases h6 : bw = bw'
              · subst h6
                by_cases h7 : bn = bn'
                · subst h7
                  by_cases h8 : u = u'
                  · subst h8
                    by_cases h9 : n = n'
                    · subst h9
                      simp [Op.equal, Op.maxDepth, go_sem, credV]
                    · simp [Op.equal, Op.maxDepth, go_sem, credV, h9]
                  · simp [Op.equal, Op.maxDepth, go_sem, credV, h8]
                · simp [Op.equal, Op.maxDepth, go_sem, credV, h7]
              · simp [Op.equal, Op.maxDepth, go_sem, credV, h6]
            · simp [Op.equal, Op.maxDepth, go_sem, credV, h5]
          · simp [Op.equal, Op.maxDepth, go_sem, credV, h4]
        · simp [Op.equal, Op.maxDepth, go_sem, credV, h3]
      · simp [Op.equal, Op.maxDepth, go_sem, credV, h2]
    · simp [Op.equal, Op.maxDepth, go_sem, credV, h1]
  · simp [Op.equal, Op.maxDepth, go_sem, credV, h0]

theorem cred_inj (x y : Cr) (h : credV x = credV y) : x = y := by
  obtain ⟨k, ow, on, wh, aw, an, bw, bn, u, n⟩ := x
  obtain ⟨k', ow', on', wh', aw', an', bw', bn', u', n'⟩ := y
  simp [credV] at h
  obtain ⟨rfl, rfl, rfl, rfl, rfl, rfl, rfl, rfl, rfl, rfl⟩ := h
  rfl

/-- Words as keys. -/
def keyC : KT Try.prog 39 Cr where
  kv := credV
  inj := cred_inj
  check := fun em w x => by kernel_rfl
  find := find_of credV cred_inj Try.underlying39 equal_cred
  stays := fun w x => by simp [Instr.keyThatStays, Instr.sameBits, credV]

theorem zero_unitC : ∀ w : World, (zeroValue 99).run Try.prog w = .ok (.agg #[]) w := fun w => by kernel_rfl
theorem info_credC : (Try.prog.info? 39).map (fun i => (i.zero, i.size, i.bytes)) = some (some (.agg #[.int .i64 0, .int .i64 0, .int .i64 0, .int .i64 0, .int .i64 0, .int .i64 0, .int .i64 0, .int .i64 0, .int .i64 0, .int .i64 0]), 10, 80) := by kernel_rfl

/-- What has been seen. -/
def seenF (L : List Cr) (c : Cr) : Option Value := if c ∈ L then some (.agg #[]) else none

theorem seen_look {w : World} {km n : Nat} {L : List Cr} (h : MapR keyC w km n (seenF L)) (c : Cr) :
    (Instr.lookup 98 (.map (some km)) (credV c) true).run Try.prog w = .ok (.tuple #[.agg #[], .bool (decide (c ∈ L))]) w := by
  have := h.look (t := 98) Try.underlying98 (zero_unitC w) true c
  rw [if_pos rfl] at this
  refine this.trans ?_
  unfold seenF
  by_cases hf : c ∈ L
  · simp [hf]
  · simp [hf]

theorem seen_upd (L : List Cr) (c x : Cr) : seenF (L ++ [c]) x = upd (seenF L) c (.agg #[]) x := by
  unfold seenF upd
  by_cases hx : x = c
  · subst hx
    simp
  · simp [hx]

set_option maxHeartbeats 2000000 in
theorem implCredsIn_calls (w : World) (v : Value) (l : List St) (hv : StepsAt w v l) (hl : l.length ≤ 1048576) :
    Calls Try.prog 20 #[v] w fun e w' => ∃ v', e = .returned v' ∧ w'.ownsRow w.heap.size 39 10 v' (credsIn l).length (cellsI (flat crR (credsIn l))) ∧ Below w.heap.size w w' := by
  obtain ⟨a, ca, rfl, h2⟩ := hv
  have HV := hide h2
  clear h2
  obtain ⟨M, HM⟩ : ∃ M : Nat → List Cr, Hid (M 0 = [] ∧ (∀ i (hi : i < l.length), M (i + 1) = putC (M i) l[i].c) ∧ (∀ i, (M i).length ≤ 1048576) ∧ M l.length = credsIn l) := by
    refine ⟨fun i => credsIn (l.take i), rfl, fun i hi => credsIn_take l i hi, fun i => ?_, ?_⟩
    · have h1 := credsIn_le (l.take i)
      have h2 : (l.take i).length ≤ l.length := by rw [List.length_take]; omega
      show (credsIn (l.take i)).length ≤ _
      omega
    · show credsIn (l.take l.length) = _
      rw [List.take_length]
  rw [← HM.out.2.2.2]
  have HB0 := hide ((Below.refl w.heap.size w).alloc (Nat.le_refl _) (.map #[] 0))
  have HM0 := hide (MapR.made (T := keyC) w)
  have hmk := fun wx : World => (show (Instr.makeMap 98 none).run Try.prog wx = .ok (.map (some wx.heap.size)) (wx.alloc (.map #[] 0)) from by kernel_rfl)
  go_enter Try.func20, Try.ntmps20
  go_wp2_with fail
  obtain ⟨b0, e0⟩ : ∃ b, b = w.heap.size := ⟨_, rfl⟩
  rw [← e0] at HM0 ⊢
  have hb0 : w.heap.size ≤ b0 := by omega
  have HE0 : Hid (b0 = w.heap.size) := e0
  clear e0 hmk
  generalize w.alloc (.map #[] 0) = w1 at *
  go_loopw [3, 12] (fun vo q wr => ∃ j : Nat, j ≤ l.length ∧ q = .int .i64 j ∧ Hid (wr.ownsRow w.heap.size 39 10 vo (M j).length (cellsI (flat crR (M j)))) ∧ Hid (MapR keyC wr b0 j (seenF (M j))) ∧ Hid (Below w.heap.size w wr)) (fun _ q _ => l.length - (intOf q).toNat)
  case atStart =>
    refine ⟨0, Nat.zero_le _, rfl, ?_, ?_, HB0.out⟩
    · show World.ownsRow _ _ _ _ _ _ _
      rw [HM.out.1]
      exact ⟨rfl, .inl ⟨rfl, rfl⟩⟩
    · show MapR _ _ _ _ _
      rw [HM.out.1]
      exact HM0.out.congr (fun x => by simp [seenF])
  case round =>
    clear HM0 HB0
    obtain ⟨j, hj, rfl, HO, HMr, HB⟩ := hrel
    by_cases hlt : j < l.length
    · obtain ⟨g, off, rfl, hg, hc, u0, hu, hI⟩ := HV.out j hlt
      obtain ⟨au, cu, rfl, -⟩ := hI
      have HS := hide (HM.out.2.1 j hlt)
      have hle := HM.out.2.2.1 j
      have hgr : g < wr.heap.size := Nat.lt_of_lt_of_le hg HB.out.size
      have hcell := fun o => HB.out.cell (p := ⟨g, o, none⟩) hg
      generalize l[j] = s at *
      obtain ⟨⟨k, ow, on, wh, aw, an, bw, bn, u, n⟩, ⟨fa, fb, fw⟩, fr⟩ := s
      dsimp only at HS hu
      have f0 : wr.cell? ⟨g, off + j * 14, none⟩ = some (.int .i64 k) := (hcell _).trans (hc 0 (by decide))
      have f1 : wr.cell? ⟨g, off + j * 14 + 1, none⟩ = some (.int .i64 ow) := (hcell _).trans (hc 1 (by decide))
      have f2 : wr.cell? ⟨g, off + j * 14 + 2, none⟩ = some (.int .i64 on) := (hcell _).trans (hc 2 (by decide))
      have f3 : wr.cell? ⟨g, off + j * 14 + 3, none⟩ = some (.int .i64 wh) := (hcell _).trans (hc 3 (by decide))
      have f4 : wr.cell? ⟨g, off + j * 14 + 4, none⟩ = some (.int .i64 aw) := (hcell _).trans (hc 4 (by decide))
      have f5 : wr.cell? ⟨g, off + j * 14 + 5, none⟩ = some (.int .i64 an) := (hcell _).trans (hc 5 (by decide))
      have f6 : wr.cell? ⟨g, off + j * 14 + 6, none⟩ = some (.int .i64 bw) := (hcell _).trans (hc 6 (by decide))
      have f7 : wr.cell? ⟨g, off + j * 14 + 7, none⟩ = some (.int .i64 bn) := (hcell _).trans (hc 7 (by decide))
      have f8 : wr.cell? ⟨g, off + j * 14 + 8, none⟩ = some (.int .i64 u) := (hcell _).trans (hc 8 (by decide))
      have f9 : wr.cell? ⟨g, off + j * 14 + 9, none⟩ = some (.int .i64 n) := (hcell _).trans (hc 9 (by decide))
      have f10 : wr.cell? ⟨g, off + j * 14 + 10, none⟩ = some (.int .i64 fa) := (hcell _).trans (hc 10 (by decide))
      have f11 : wr.cell? ⟨g, off + j * 14 + 11, none⟩ = some (.int .i64 fb) := (hcell _).trans (hc 11 (by decide))
      have f12 : wr.cell? ⟨g, off + j * 14 + 12, none⟩ = some (.int .i64 fw) := (hcell _).trans (hc 12 (by decide))
      have f13 : wr.cell? ⟨g, off + j * 14 + 13, none⟩ = some (.slice au fr.length cu) := (hcell _).trans hu
      clear hc hu hcell HV
      have hb1 := (Below.refl wr.heap.size wr).alloc (Nat.le_refl _) (.cells #[.int .i64 k, .int .i64 ow, .int .i64 on, .int .i64 wh, .int .i64 aw, .int .i64 an, .int .i64 bw, .int .i64 bn, .int .i64 u, .int .i64 n, .int .i64 fa, .int .i64 fb, .int .i64 fw, .slice au fr.length cu] 95)
      have hb2 := hb1.alloc hb1.size (.cells #[] 99)
      have g1 := Blk.new wr #[.int .i64 k, .int .i64 ow, .int .i64 on, .int .i64 wh, .int .i64 aw, .int .i64 an, .int .i64 bw, .int .i64 bn, .int .i64 u, .int .i64 n, .int .i64 fa, .int .i64 fb, .int .i64 fw, .slice au fr.length cu] 95
      have g2 := g1.below ((Below.refl _ _).alloc (Nat.le_refl _) (.cells #[] 99)) g1.lt
      have hM1 := HMr.out.at_ (hb1.block b0 HMr.out.lt)
      have hM2 := HMr.out.at_ (hb2.block b0 HMr.out.lt)
      have hlk := seen_look hM1 ⟨k, ow, on, wh, aw, an, bw, bn, u, n⟩
      have HO2 := hide (own_below HO.out hb2)
      have HB2 := hide (HB.out.trans (hb2.mono HB.out.size))
      by_cases hm : (⟨k, ow, on, wh, aw, an, bw, bn, u, n⟩ : Cr) ∈ M j
      · have HN : Hid (M (j + 1) = M j) := HS.out.trans (by unfold putC; rw [if_pos hm])
        rw [decide_eq_true hm] at hlk
        simp only [credV] at hlk
        have HM2 := hide (hM2.mono (Nat.le_succ j))
        clear hm HS hM1 hM2 hb1 hb2 g1 g2 HMr HO HB
        go_wp2_with fail
        go_roundw
        case rel => exact ⟨j + 1, by omega, by go_num, by show World.ownsRow _ _ _ _ _ _ _; rw [HN.out]; exact HO2.out, by show MapR _ _ _ _ _; rw [HN.out]; exact HM2.out, HB2.out⟩
        case measure => simp [intOf]; omega
      · have HN : Hid (M (j + 1) = M j ++ [⟨k, ow, on, wh, aw, an, bw, bn, u, n⟩]) := HS.out.trans (by unfold putC; rw [if_neg hm])
        rw [decide_eq_false hm] at hlk
        obtain ⟨w4, hrun, hM4, hg4, hs4⟩ := hM2.store (t := 98) Try.underlying98 ⟨k, ow, on, wh, aw, an, bw, bn, u, n⟩ (.agg #[])
        change (Instr.mapUpdate 98 (.map (some b0)) (credV ⟨k, ow, on, wh, aw, an, bw, bn, u, n⟩) (.agg #[])).run Try.prog _ = .ok () w4 at hrun
        simp only [credV] at hlk hrun
        have hne : ∀ (q : Nat) (cs : Array Value) (t : TypeId) (f : Nat × Nat), ((wr.alloc (.cells #[.int .i64 k, .int .i64 ow, .int .i64 on, .int .i64 wh, .int .i64 aw, .int .i64 an, .int .i64 bw, .int .i64 bn, .int .i64 u, .int .i64 n, .int .i64 fa, .int .i64 fb, .int .i64 fw, .slice au fr.length cu] 95)).alloc (.cells #[] 99)).heap[q]? = some (.cells cs t f) → q ≠ b0 := fun q cs t f h => hM2.ne_blk h
        have G4 := blk_grownR g2 hg4 (by
          intro e
          have h2 := g2
          unfold Blk at h2
          exact hne _ _ _ _ h2 (by simpa using e.symm))
        have x0 : w4.cell? ⟨wr.heap.size, 0, none⟩ = some (.int .i64 k) := by rw [G4.cell 0]; rfl
        have x1 : w4.cell? ⟨wr.heap.size, 1, none⟩ = some (.int .i64 ow) := by rw [G4.cell 1]; rfl
        have x2 : w4.cell? ⟨wr.heap.size, 2, none⟩ = some (.int .i64 on) := by rw [G4.cell 2]; rfl
        have x3 : w4.cell? ⟨wr.heap.size, 3, none⟩ = some (.int .i64 wh) := by rw [G4.cell 3]; rfl
        have x4' : w4.cell? ⟨wr.heap.size, 4, none⟩ = some (.int .i64 aw) := by rw [G4.cell 4]; rfl
        have x5 : w4.cell? ⟨wr.heap.size, 5, none⟩ = some (.int .i64 an) := by rw [G4.cell 5]; rfl
        have x6 : w4.cell? ⟨wr.heap.size, 6, none⟩ = some (.int .i64 bw) := by rw [G4.cell 6]; rfl
        have x7 : w4.cell? ⟨wr.heap.size, 7, none⟩ = some (.int .i64 bn) := by rw [G4.cell 7]; rfl
        have x8 : w4.cell? ⟨wr.heap.size, 8, none⟩ = some (.int .i64 u) := by rw [G4.cell 8]; rfl
        have x9 : w4.cell? ⟨wr.heap.size, 9, none⟩ = some (.int .i64 n) := by rw [G4.cell 9]; rfl
        have x4 := G4.lt
        have HO4 := hide (own_stay (w' := w4) HO2.out (fun q hq => by
          obtain ⟨cur, h1, _, h3⟩ := own_block HO2.out hq
          exact hg4.block q h3 (fun e => hne _ _ _ _ h1 (by simpa using e))))
        have hbel4 : Below w.heap.size ((wr.alloc (.cells #[.int .i64 k, .int .i64 ow, .int .i64 on, .int .i64 wh, .int .i64 aw, .int .i64 an, .int .i64 bw, .int .i64 bn, .int .i64 u, .int .i64 n, .int .i64 fa, .int .i64 fb, .int .i64 fw, .slice au fr.length cu] 95)).alloc (.cells #[] 99)) w4 := ⟨hg4.os, hg4.tape, hg4.output, hg4.size, fun q hq => hg4.block q (by have := HB2.out.size; omega) (fun e => by
          have : q = b0 := by simpa using e
          omega)⟩
        have HB4 := hide (HB2.out.trans hbel4)
        have hB4 : w.heap.size ≤ w4.heap.size := HB4.out.size
        have HM4 : Hid (MapR keyC w4 b0 (j + 1) (seenF (M (j + 1)))) := by
          show MapR _ _ _ _ _
          rw [HN.out]
          exact hM4.congr (fun x => seen_upd _ _ x)
        have hM4t := hide (HM4.out.lt)
        clear hm HS hM1 hM2 hb1 hb2 g1 g2 HMr HO HB G4 hne hM4 hg4 hs4 hbel4 HO2 HB2
        obtain ⟨i0, hi, hz0, hz1, hz2⟩ := info_parts info_credC
        go_wp2_with (at_builtin; refine wpList_append_oneG (cs := #[.int .i64 k, .int .i64 ow, .int .i64 on, .int .i64 wh, .int .i64 aw, .int .i64 an, .int .i64 bw, .int .i64 bn, .int .i64 u, .int .i64 n]) hB4 rfl (.tmp 29) (.tmp 32) 24 rfl 39 i0 (.agg #[.int .i64 0, .int .i64 0, .int .i64 0, .int .i64 0, .int .i64 0, .int .i64 0, .int .i64 0, .int .i64 0, .int .i64 0, .int .i64 0]) 10 80 Try.underlying24 hi hz0 hz1 hz2 rfl (by decide) rfl (by simp [Value.oneCell']) _ _ _ rfl HO4.out 1 rfl (by omega) (by omega) ?_)
        intro v6 w6 hown6 hg6
        have HO6 : Hid (w6.ownsRow w.heap.size 39 10 v6 (M (j + 1)).length (cellsI (flat crR (M (j + 1))))) := by
          show World.ownsRow _ _ _ _ _ _ _
          rw [HN.out]
          exact own_snocR (R := crR) (x := ⟨k, ow, on, wh, aw, an, bw, bn, u, n⟩) rfl hown6
        have HM6 : Hid (MapR keyC w6 b0 (j + 1) (seenF (M (j + 1)))) := HM4.out.at_ (hg6.block b0 hM4t.out (fun e => by
          obtain ⟨cur, h1, _⟩ := own_block HO4.out e.symm
          exact HM4.out.ne_blk h1 rfl))
        have HB6 : Hid (Below w.heap.size w w6) := HB4.out.trans ⟨hg6.os, hg6.tape, hg6.output, hg6.size, fun q hq => hg6.block q (by omega) (fun e => by
          obtain ⟨_, _, h1, _⟩ := own_block HO4.out e.symm
          omega)⟩
        clear hown6 hg6
        go_wp2_with fail
        go_roundw
        case rel => exact ⟨j + 1, by omega, by go_num, HO6.out, HM6.out, HB6.out⟩
        case measure => simp [intOf]; omega
    · have hjl : j = l.length := by omega
      subst hjl
      go_wp2
      go_ret
      exact ⟨_, rfl, HO.out, HB.out⟩
end Go.Proofs.Ythafpkpmnhgmaaa.P7
