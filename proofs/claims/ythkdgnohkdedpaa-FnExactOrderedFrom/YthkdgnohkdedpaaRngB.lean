/- The program's function that tells ids, each once, and how far each is; condition: at most 2^20 ids. -/
import Derived.Test.YthkdgnohkdedpaaRng4
namespace Go.Proofs.Ythkdgnohkdedpaa.P8
open Go.RowKit Go.Shelf P1 Mp Rf

attribute [local go_sem] Oper.semAt_some

/-- What a box of another type keeps of a turn of a block that is no cells. -/
theorem boxed_keep {W W' : World} {row : Option Nat} {B : Nat} {t : TypeId} {v : Value} (h : Boxed W B t v) (hg : W.grownBy W' row) (hr : ∀ r, row = some r → ∃ o : Obj, W.heap[r]? = some o ∧ o.isCells = false) : Boxed W' B t v :=
  h.kept hg (fun e => by
    obtain ⟨o, h1, h2⟩ := hr B e.symm
    rw [show W.heap[B]? = _ from h] at h1
    cases h1
    cases h2)

theorem kp_b {n₀ bf : Nat} {w : World} (hn : n₀ ≤ w.heap.size) (hf : bf < w.heap.size) (W : World) (l : Nat) (o o' : Obj) (hl : w.heap.size ≤ l) (h : W.heap[l]? = some o) (h1 : o.isCells = false) (h2 : o.isWalk = false) : Kp n₀ bf W (W.putObj l o') :=
  ⟨belowK_b hn W l o o' hl h h1 h2, World.putObj_heap_other (by omega), fun B u hb => boxed_keep hb (grownBy_putObj' W l o') (fun r e => by cases e; exact ⟨o, h, h1⟩)⟩

set_option maxRecDepth 100000 in
set_option maxHeartbeats 2000000 in
theorem behind1_in (n : Nat) (l bi bf n₀ B : Nat) (frm : Int) (v : Value) (ids : List Int) (hl : ids.length ≤ 1048576) (J Jx : List Int → World → Prop) (W : World) (hB : B = W.heap.size) (hJ : OwnFrom B J) (hJx : OwnFrom B Jx)
    (hbi : W.cell? ⟨bi, 0, none⟩ = some v) (hbf : W.cell? ⟨bf, 0, none⟩ = some (.int .i64 frm)) (hv : IntsLow n₀ W v ids) (hn₀ : n₀ ≤ W.heap.size)
    (hY : ∀ m pre x W1, J pre W1 → pre.length < ids.length → YieldAt Fence.wide m Try.prog l #[.int .i64 x, .int .i64 ((ahd frm x : Nat) : Int)] W1 fun e W' => KeepsFrom B W1 W' ∧
      ((e = .returned (.bool true) ∧ J (pre ++ [x]) W' ∧ Kp n₀ bf W1 W') ∨ (e = .returned (.bool false) ∧ Jx (pre ++ [x]) W')))
    (h0 : J [] W) :
    CallsIn Fence.wide n Try.prog 83 #[.func (.yield l) #[] #[], .pointer (some ⟨bi, 0, none⟩), .pointer (some ⟨bf, 0, none⟩)] W fun e W' => (∃ v, e = .returned v) ∧
      ((∃ ys, ys = nub ids ∧ J ys W') ∨ (∃ pre, True ∧ Jx pre W')) := by
  have HV := hide hv
  obtain ⟨av, cv, rfl, -⟩ := hv
  have HY := hide hY
  clear hY
  have lbi : bi < W.heap.size := cell_lt' hbi
  have lbf : bf < W.heap.size := cell_lt' hbf
  have hb1 := (Below.refl W.heap.size W).alloc (Nat.le_refl _) (.cells #[.func (.yield l) #[] #[]] 100)
  have hbi2 := hb1.cell (p := ⟨bi, 0, none⟩) lbi
  rw [hbi] at hbi2
  have hbl2 : bi < (W.alloc (.cells #[.func (.yield l) #[] #[]] 100)).heap.size := by simp; omega
  refine callsIn_of_wp_marks Try.func83 rfl trivial ?_ rfl
  simp only [Try.ntmps83, List.size_toArray, List.length_cons, List.length_nil, Nat.reduceAdd, Nat.reduceSub, Array.replicate_succ, Array.replicate_zero, List.push_toArray, List.append_toArray, List.nil_append, List.cons_append]
  gi_wp2
  refine ⟨trivial, fun h => (by cases h), ?_⟩
  refine (callsIn_wide.2 (once_calls _ av ids.length cv _ rfl)).mono ?_
  rintro e w' ⟨rfl, rfl⟩
  have bY := (Boxed.new W 100 (.func (.yield l) #[] #[])).alloc (.cells #[.slice av ids.length cv] 24)
  have z1 : (W.alloc (.cells #[.func (.yield l) #[] #[]] 100)).heap.size = B + 1 := by simp; omega
  have bI := Boxed.new (W.alloc (.cells #[.func (.yield l) #[] #[]] 100)) 24 (.slice av ids.length cv)
  have hb2 : Below W.heap.size W ((W.alloc (.cells #[.func (.yield l) #[] #[]] 100)).alloc (.cells #[.slice av ids.length cv] 24)) := hb1.alloc (by simp) _
  have hJ2 : J [] ((W.alloc (.cells #[.func (.yield l) #[] #[]] 100)).alloc (.cells #[.slice av ids.length cv] 24)) := hJ.alloc _ (hJ.alloc _ h0)
  have z2 : ((W.alloc (.cells #[.func (.yield l) #[] #[]] 100)).alloc (.cells #[.slice av ids.length cv] 24)).heap.size = B + 2 := by simp; omega
  rw [z1] at bI ⊢
  rw [← hB] at bY hb2 lbi lbf hn₀ ⊢
  have HEB := hide hB
  clear z1 hb1 hbi2 hbl2 hB
  generalize (W.alloc (.cells #[.func (.yield l) #[] #[]] 100)).alloc (.cells #[.slice av ids.length cv] 24) = w2 at *
  have hV2 : IntsLow n₀ w2 (.slice av ids.length cv) ids := HV.out.below (hb2.mono hn₀)
  have hF2 : w2.heap[bf]? = W.heap[bf]? := hb2.block bf lbf
  clear HV
  gi_wp2
  refine range_tells (gf := 96) (lb := #[.pointer (some ⟨B + 1, 0, none⟩)]) rfl (enters_of Try.func96 (by kernel_rfl) rfl)
    (once_tells (B + 1) n₀ _ ids hl w2 bI.cell hV2 (by omega)) (fun h k => h.trans k) (belowK_b (by omega)) (Below.refl _ _) (fun _ => rfl)
    (fun pre X => (J pre X ∧ Boxed X B 100 (.func (.yield l) #[] #[])) ∧ X.heap[bf]? = W.heap[bf]?)
    (fun c pre X => c = .ret ∧ Jx pre X)
    (OwnFrom.and (OwnFrom.and (own_mono hJ (by omega)) (Own.from (boxed_own _ _ (fun _ => Value.func (.yield l) #[] #[])) _)) ?own1)
    ?own2
    ⟨⟨hJ2, bY⟩, hF2⟩
    (fun x => { tmps := #[.func (.yield l) #[] #[], .pointer (some ⟨bi, 0, none⟩), .pointer (some ⟨bf, 0, none⟩), .pointer (some ⟨B, 0, none⟩), .int .i64 x, .slice av ids.length cv, .func (.func 96) #[] #[.pointer (some ⟨B + 1, 0, none⟩)], .int .i64 x, undef, undef, undef, undef, undef, undef, undef], defers := [] }) ?assign ?body ?done ?stop
  case own1 =>
    intro s A C row hs hg hr
    refine (hg.block bf ?_ (fun e => ?_)).trans hs
    · have h1 : (A.heap[bf]?).isSome = true := by
        rw [hs]
        have := HEB.out
        simp
        omega
      simpa using h1
    · have := (hr bf e.symm).1
      omega
  case own2 =>
    intro c s A C row hs hg hr
    exact ⟨hs.1, own_mono hJx (by omega) s A C row hs.2 hg hr⟩
  case assign =>
    intro m l x W K hK
    gi_wp2
    exact hK
  case body =>
    have hBw : B ≤ w2.heap.size := by omega
    rintro m l' pre x X ⟨⟨hJX, hbX⟩, hFX⟩ hlt
    have c1 := hbX.cell
    have l1 := hbX.lt
    have c2 : X.cell? ⟨bf, 0, none⟩ = some (.int .i64 frm) := (cell_same hFX 0).trans hbf
    have l2 : bf < X.heap.size := cell_lt' c2
    have hgd : X.grownBy X.drew none := ⟨rfl, rfl, rfl, Nat.le_refl _, fun _ _ _ => rfl⟩
    obtain ⟨fn, tmps, assign, body, hy, hR⟩ := HY.out (m - 1) _ x X.drew (hJ _ _ _ none hJX hgd (fun r e => by cases e)) hlt
    have HR := hide hR
    have HBX : Hid (Boxed X.drew B 100 (.func (.yield l) #[] #[])) := hbX
    have HFX : Hid (X.drew.heap[bf]? = W.heap[bf]?) := hFX
    have hdr : Below n₀ X X.drew := (Below.refl n₀ X).drew
    have d1 : X.drew.cell? ⟨B, 0, none⟩ = some (.func (.yield l) #[] #[]) := c1
    have d2 : X.drew.cell? ⟨bf, 0, none⟩ = some (.int .i64 frm) := c2
    clear hR hJX hbX hFX hgd
    gi_wp2
    refine region_round (F := Fence.wide) (by kernel_rfl) rfl (by kernel_rfl) ?_
    refine wpAnyIn_take (i := 1) (v := .int .i64 x) rfl rfl (by kernel_rfl) (by kernel_rfl) (by kernel_rfl) (fun _ _ _ h => h) ⟨Or.inl ⟨by rfl, fun w => by go_simp⟩, fun _ => rfl⟩ ?_
    refine wpAnyIn_take (i := 3) (v := .int .i64 x) rfl rfl (by kernel_rfl) (by kernel_rfl) (by kernel_rfl) (fun _ _ _ h => h) ⟨Or.inl ⟨by rfl, fun w => by go_simp⟩, fun _ => rfl⟩ ?_
    refine wpAnyIn_ready (rs := [0, 2]) (by kernel_rfl) (by simp) ?_
    refine AllReadyIn.cons rfl (fun K hK => ?_) (AllReadyIn.cons rfl (fun K hK => ?_) AllReadyIn.nil)
    · go_simp
      refine hK _ _ ?_
      clear hK K
      refine wpAnyIn_ready (rs := [2]) (by kernel_rfl) (by simp) ?_
      refine AllReadyIn.cons rfl (fun K hK => ?_) AllReadyIn.nil
      go_simp
      refine hK _ _ ?_
      clear hK K
      refine wpAnyIn_ready (rs := [4]) (by kernel_rfl) (by simp) ?_
      refine AllReadyIn.cons rfl (fun K hK => ?_) AllReadyIn.nil
      go_simp
      refine ⟨trivial, fun h => (by cases h), (callsIn_wide.2 (implAhead_calls frm x _)).mono ?_⟩
      rintro e w' ⟨rfl, rfl⟩
      refine hK _ _ ?_
      clear hK K
      refine wpAnyIn_ready (rs := [5]) (by kernel_rfl) (by simp) ?_
      refine AllReadyIn.cons rfl (fun K hK => ?_) AllReadyIn.nil
      go_simp
      refine ⟨fun h => (by cases h), HR.out.mono ?_⟩
      rintro e X3 ⟨hkf, (⟨rfl, hJ3, hk3⟩ | ⟨rfl, hJx3⟩)⟩
      · refine hK _ _ ?_
        clear hK K
        refine wpAnyIn_ready (rs := [6]) (by kernel_rfl) (by simp) ?_
        refine AllReadyIn.cons rfl (fun K hK => ?_) AllReadyIn.nil
        go_simp
        refine hK _ _ ?_
        clear hK K
        refine wpAnyIn_done (by kernel_rfl) ?_ _
        gi_wp2
        exact ⟨((KeepsOthers.drew X).from _).trans (keeps_mono hkf hBw), hdr.trans hk3.1, ⟨hJ3, hk3.2.2 _ _ HBX.out⟩, hk3.2.1.trans HFX.out⟩
      · refine hK _ _ ?_
        clear hK K
        refine wpAnyIn_ready (rs := [6]) (by kernel_rfl) (by simp) ?_
        refine AllReadyIn.cons rfl (fun K hK => ?_) AllReadyIn.nil
        go_simp
        refine hK _ _ ?_
        clear hK K
        refine wpAnyIn_done (by kernel_rfl) ?_ _
        gi_wp2
        exact ⟨((KeepsOthers.drew X).from _).trans (keeps_mono hkf hBw), rfl, hJx3⟩
    · go_simp
      refine hK _ _ ?_
      clear hK K
      refine wpAnyIn_ready (rs := [0, 4]) (by kernel_rfl) (by simp) ?_
      refine AllReadyIn.cons rfl (fun K hK => ?_) (AllReadyIn.cons rfl (fun K hK => ?_) AllReadyIn.nil)
      · go_simp
        refine hK _ _ ?_
        clear hK K
        refine wpAnyIn_ready (rs := [4]) (by kernel_rfl) (by simp) ?_
        refine AllReadyIn.cons rfl (fun K hK => ?_) AllReadyIn.nil
        go_simp
        refine ⟨trivial, fun h => (by cases h), (callsIn_wide.2 (implAhead_calls frm x _)).mono ?_⟩
        rintro e w' ⟨rfl, rfl⟩
        refine hK _ _ ?_
        clear hK K
        refine wpAnyIn_ready (rs := [5]) (by kernel_rfl) (by simp) ?_
        refine AllReadyIn.cons rfl (fun K hK => ?_) AllReadyIn.nil
        go_simp
        refine ⟨fun h => (by cases h), HR.out.mono ?_⟩
        rintro e X3 ⟨hkf, (⟨rfl, hJ3, hk3⟩ | ⟨rfl, hJx3⟩)⟩
        · refine hK _ _ ?_
          clear hK K
          refine wpAnyIn_ready (rs := [6]) (by kernel_rfl) (by simp) ?_
          refine AllReadyIn.cons rfl (fun K hK => ?_) AllReadyIn.nil
          go_simp
          refine hK _ _ ?_
          clear hK K
          refine wpAnyIn_done (by kernel_rfl) ?_ _
          gi_wp2
          exact ⟨((KeepsOthers.drew X).from _).trans (keeps_mono hkf hBw), hdr.trans hk3.1, ⟨hJ3, hk3.2.2 _ _ HBX.out⟩, hk3.2.1.trans HFX.out⟩
        · refine hK _ _ ?_
          clear hK K
          refine wpAnyIn_ready (rs := [6]) (by kernel_rfl) (by simp) ?_
          refine AllReadyIn.cons rfl (fun K hK => ?_) AllReadyIn.nil
          go_simp
          refine hK _ _ ?_
          clear hK K
          refine wpAnyIn_done (by kernel_rfl) ?_ _
          gi_wp2
          exact ⟨((KeepsOthers.drew X).from _).trans (keeps_mono hkf hBw), rfl, hJx3⟩
      · go_simp
        refine ⟨trivial, fun h => (by cases h), (callsIn_wide.2 (implAhead_calls frm x _)).mono ?_⟩
        rintro e w' ⟨rfl, rfl⟩
        refine hK _ _ ?_
        clear hK K
        refine wpAnyIn_ready (rs := [0]) (by kernel_rfl) (by simp) ?_
        refine AllReadyIn.cons rfl (fun K hK => ?_) AllReadyIn.nil
        go_simp
        refine hK _ _ ?_
        clear hK K
        refine wpAnyIn_ready (rs := [5]) (by kernel_rfl) (by simp) ?_
        refine AllReadyIn.cons rfl (fun K hK => ?_) AllReadyIn.nil
        go_simp
        refine ⟨fun h => (by cases h), HR.out.mono ?_⟩
        rintro e X3 ⟨hkf, (⟨rfl, hJ3, hk3⟩ | ⟨rfl, hJx3⟩)⟩
        · refine hK _ _ ?_
          clear hK K
          refine wpAnyIn_ready (rs := [6]) (by kernel_rfl) (by simp) ?_
          refine AllReadyIn.cons rfl (fun K hK => ?_) AllReadyIn.nil
          go_simp
          refine hK _ _ ?_
          clear hK K
          refine wpAnyIn_done (by kernel_rfl) ?_ _
          gi_wp2
          exact ⟨((KeepsOthers.drew X).from _).trans (keeps_mono hkf hBw), hdr.trans hk3.1, ⟨hJ3, hk3.2.2 _ _ HBX.out⟩, hk3.2.1.trans HFX.out⟩
        · refine hK _ _ ?_
          clear hK K
          refine wpAnyIn_ready (rs := [6]) (by kernel_rfl) (by simp) ?_
          refine AllReadyIn.cons rfl (fun K hK => ?_) AllReadyIn.nil
          go_simp
          refine hK _ _ ?_
          clear hK K
          refine wpAnyIn_done (by kernel_rfl) ?_ _
          gi_wp2
          exact ⟨((KeepsOthers.drew X).from _).trans (keeps_mono hkf hBw), rfl, hJx3⟩
  case done =>
    rintro D ys X hD rfl ⟨⟨hJX, hbX⟩, hFX⟩ hK
    gi_wp2
    refine ⟨by simp, .inl ⟨_, _, rfl, run_takeDeferred hK, ?_⟩⟩
    exact ⟨_, results_none rfl _ _ _, ⟨_, rfl⟩, .inl ⟨_, rfl, hJ.putObj _ hJX (by omega) hK rfl⟩⟩
  case stop =>
    rintro D c pre X hD _ ⟨rfl, hx⟩ hK
    gi_wp2
    refine ⟨by simp, .inl ⟨_, _, rfl, run_takeDeferred hK, ?_⟩⟩
    exact ⟨_, results_none rfl _ _ _, ⟨_, rfl⟩, .inr ⟨_, trivial, hJx.putObj _ hx (by omega) hK rfl⟩⟩

/-- The function that behind hands back tells each id once. -/
theorem behind_tells (bi bf n₀ : Nat) (frm : Int) (v : Value) (ids : List Int) (hl : ids.length ≤ 1048576) (w : World) (hbi : w.cell? ⟨bi, 0, none⟩ = some v) (hbf : w.cell? ⟨bf, 0, none⟩ = some (.int .i64 frm)) (hv : IntsLow n₀ w v ids) (hn₀ : n₀ ≤ w.heap.size) :
    Tells Try.prog 83 #[.pointer (some ⟨bi, 0, none⟩), .pointer (some ⟨bf, 0, none⟩)] (fun x : Int => #[Value.int .i64 x, Value.int .i64 ((ahd frm x : Nat) : Int)]) (Kp n₀ bf) (fun ys => ys = nub ids) (fun _ => True) ids.length w := fun n l J Jx W hW hJ hJx hY h0 =>
  behind1_in n l bi bf n₀ _ frm v ids hl J Jx W rfl hJ hJx ((hW.cell (p := ⟨bi, 0, none⟩) (cell_lt' hbi)).trans hbi) ((hW.cell (p := ⟨bf, 0, none⟩) (cell_lt' hbf)).trans hbf) (hv.below (hW.mono hn₀)) (Nat.le_trans hn₀ hW.size) hY h0
end Go.Proofs.Ythkdgnohkdedpaa.P8
