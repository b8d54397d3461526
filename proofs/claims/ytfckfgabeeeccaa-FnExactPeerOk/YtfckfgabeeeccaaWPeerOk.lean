/- FnExactPeerOk walked: for every peer; no condition. -/
import Derived.Test.YtfckfgabeeeccaaPeI4
import Derived.Test.YtfckfgabeeeccaaRgE
import Derived.Test.YtfckfgabeeeccaaRgJ
import Derived.Test.YtfckfgabeeeccaaRg9
import Derived.Test.YtfckfgabeeeccaaLate
namespace Go.Proofs.Ytfckfgabeeeccaa.P9
set_option maxRecDepth 8000
open Go.RowKit P1 P8 Da

/-- A peer whose lists are read. -/
structure PeerAt (W : World) (p : Pr) (u3 u4 u5 : Value) : Prop where
  behind : IntsAt W u3 p.behind
  fingers : IntsAt W u4 p.fingers
  shelves : ShelvesAt W u5 p.shelves

theorem PeerAt.below {B : Nat} {W W' : World} {p : Pr} {u3 u4 u5 : Value} (h : PeerAt W p u3 u4 u5) (hb : Below B W W') (hB : W.heap.size ≤ B) : PeerAt W' p u3 u4 u5 :=
  ⟨h.behind.below hb hB, h.fingers.below hb hB, h.shelves.below hb hB⟩

theorem PeerOwn.at_ {W : World} {B : Nat} {p : Pr} {v3 v4 v5 : Value} {f3 f4 f5 : List Nat} (h : PeerOwn W B p v3 v4 v5 f3 f4 f5) : PeerAt W p v3 v4 v5 :=
  ⟨ints_of h.o3.reads, ints_of h.o4.reads, ⟨_, h.o5.reads⟩⟩

theorem sum_mem' {α : Type} (f : α → Nat) : ∀ (l : List α) (x : α), x ∈ l → f x ≤ (l.map f).sum
  | [], x, hx => by cases hx
  | y :: l, x, hx => by
    rw [List.map_cons, List.sum_cons]
    rcases List.mem_cons.1 hx with rfl | hx
    · omega
    · have := sum_mem' f l x hx
      omega

theorem small_of_szP {p : Pr} (h : szP p ≤ 1048576) : Small p := by
  unfold szP at h
  have e1 : szShL p.shelves = p.shelves.length + (p.shelves.map szSh).sum := rfl
  refine ⟨by omega, by omega, by omega, fun x hx => ?_⟩
  have h2 : szItL x.items ≤ (p.shelves.map szSh).sum := sum_mem' szSh p.shelves x hx
  have e2 : szItL x.items = x.items.length + (x.items.map szT).sum := rfl
  refine ⟨by omega, fun y hy => ?_⟩
  have h3 : y.t.length ≤ (x.items.map szT).sum := sum_mem' szT x.items y hy
  omega

set_option maxHeartbeats 4000000 in
theorem fnExactPeerOk_walk (w : World) (p : Pr) (u3 u4 u5 : Value) (hf : FitsP p) (h3 : IntsAt w u3 p.behind) (h4 : IntsAt w u4 p.fingers) (h5 : ShelvesAt w u5 p.shelves) :
    Calls Try.prog 3 #[prV p u3 u4 u5] w fun e w' => e = .returned (.bool true) ∧ Below w.heap.size w w' := by
  have hA : PeerAt w p u3 u4 u5 := ⟨h3, h4, h5⟩
  obtain ⟨a3, c3, e3, -⟩ := h3
  obtain ⟨a4, c4, e4, -⟩ := h4
  obtain ⟨a5, c5, e5, -⟩ := h5.open_
  subst e3 e4 e5
  clear h5
  unfold prV
  have hb0 := (Below.refl w.heap.size w).alloc (Nat.le_refl _) (.cells #[.int .i64 p.id, .bool p.here, .int .i64 p.ahead, .slice a3 p.behind.length c3, .slice a4 p.fingers.length c4, .slice a5 p.shelves.length c5] 25)
  have G := Blk.new w #[.int .i64 p.id, .bool p.here, .int .i64 p.ahead, .slice a3 p.behind.length c3, .slice a4 p.fingers.length c4, .slice a5 p.shelves.length c5] 25
  have HV0 := hide (hA.below hb0 (Nat.le_refl _))
  have HB0 := hide hb0
  clear hb0 hA
  go_enter Try.func3, Try.ntmps3
  go_upto_region 2 with fail
  obtain ⟨b0, e0⟩ : ∃ b, b = w.heap.size := ⟨_, rfl⟩
  rw [← e0] at G ⊢
  clear e0
  generalize w.alloc (.cells #[.int .i64 p.id, .bool p.here, .int .i64 p.ahead, .slice a3 p.behind.length c3, .slice a4 p.fingers.length c4, .slice a5 p.shelves.length c5] 25) = w0 at *
  have HG := hide (fun wx (hb : Below w0.heap.size w0 wx) => (G.below hb G.lt))
  have HV := hide (fun wx (hb : Below w0.heap.size w0 wx) => HV0.out.below hb (Nat.le_refl _))
  have HF := hide (fun wx (hb : Below w0.heap.size w0 wx) => HB0.out.trans (hb.mono HB0.out.size))
  have HC := hide (szPeer_calls w0 p _ _ _ 1048576 HV0.out.behind HV0.out.fingers HV0.out.shelves hf (Nat.le_refl _))
  unfold prV at HC
  have c0 : w0.cell? ⟨b0, 0, none⟩ = some (.int .i64 p.id) := by rw [G.cell 0]; rfl
  have c1 : w0.cell? ⟨b0, 1, none⟩ = some (.bool p.here) := by rw [G.cell 1]; rfl
  have c2 : w0.cell? ⟨b0, 2, none⟩ = some (.int .i64 p.ahead) := by rw [G.cell 2]; rfl
  have c3' : w0.cell? ⟨b0, 3, none⟩ = some (.slice a3 p.behind.length c3) := by rw [G.cell 3]; rfl
  have c4' : w0.cell? ⟨b0, 4, none⟩ = some (.slice a4 p.fingers.length c4) := by rw [G.cell 4]; rfl
  have c5' : w0.cell? ⟨b0, 5, none⟩ = some (.slice a5 p.shelves.length c5) := by rw [G.cell 5]; rfl
  have l0 := G.lt
  clear hf HV0 HB0
  go_wp2_with fail
  refine HC.out.mono ?_
  rintro e w1 ⟨rfl, hb1⟩
  clear c0 c1 c2 c3' c4' c5' l0 HC G
  by_cases hs : szP p ≤ 1048576
  · have hsm := small_of_szP hs
    have HSM := hide hsm
    obtain ⟨r, ER⟩ : ∃ r, r = peerOk p := ⟨_, rfl⟩
    have HS := hide (fun wx x3 x4 x5 (hx : PeerAt wx p x3 x4 x5) => specPeerOk_calls wx p x3 x4 x5 hx.behind hx.fingers hx.shelves hsm)
    have HP := hide (fun wx x3 x4 x5 (hx : PeerAt wx p x3 x4 x5) => implPeerOk_calls wx p x3 x4 x5 hx.behind hx.fingers hx.shelves hsm)
    simp only [← ER] at HS HP
    unfold prV at HS HP
    have hrr : (r != r) = false := by simp
    obtain ⟨m, em⟩ : ∃ m : Nat, szRes 1048576 (szP p) = (m : Int) := ⟨_, szRes_pos hs⟩
    rw [em]
    have hm0 : ¬ ((m : Int) < 0) := by omega
    have HT := hide (fun wx (hb : Below w0.heap.size w0 wx) => toPeer_calls wx p _ _ _ (HV.out wx hb).behind (HV.out wx hb).fingers (HV.out wx hb).shelves hsm)
    unfold prV at HT
    clear ER hs em hsm
    have G1 := HG.out w1 hb1
    have c0 : w1.cell? ⟨b0, 0, none⟩ = some (.int .i64 p.id) := by rw [G1.cell 0]; rfl
    have c1 : w1.cell? ⟨b0, 1, none⟩ = some (.bool p.here) := by rw [G1.cell 1]; rfl
    have c2 : w1.cell? ⟨b0, 2, none⟩ = some (.int .i64 p.ahead) := by rw [G1.cell 2]; rfl
    have c3' : w1.cell? ⟨b0, 3, none⟩ = some (.slice a3 p.behind.length c3) := by rw [G1.cell 3]; rfl
    have c4' : w1.cell? ⟨b0, 4, none⟩ = some (.slice a4 p.fingers.length c4) := by rw [G1.cell 4]; rfl
    have c5' : w1.cell? ⟨b0, 5, none⟩ = some (.slice a5 p.shelves.length c5) := by rw [G1.cell 5]; rfl
    have l1 := G1.lt
    have C1 := hide (HT.out w1 hb1)
    clear G1
    go_wp2_with fail
    refine C1.out.mono ?_
    rintro e w2 ⟨x3, y3, x4, y4, x5, y5, f3, f4, f5, rfl, ho2, hb2⟩
    have C2 := hide (HS.out w2 _ _ _ ho2.at_)
    have HB2 := hide (hb1.trans (hb2.mono hb1.size))
    clear ho2 hb2 hb1 c0 c1 c2 c3' c4' c5' l1 C1 HS
    go_wp2_with fail
    refine C2.out.mono ?_
    rintro e w3 ⟨rfl, hb3⟩
    have HB3 := hide (HB2.out.trans (hb3.mono HB2.out.size))
    clear hb3 HB2 C2
    have G1 := HG.out w3 HB3.out
    have c0 : w3.cell? ⟨b0, 0, none⟩ = some (.int .i64 p.id) := by rw [G1.cell 0]; rfl
    have c1 : w3.cell? ⟨b0, 1, none⟩ = some (.bool p.here) := by rw [G1.cell 1]; rfl
    have c2 : w3.cell? ⟨b0, 2, none⟩ = some (.int .i64 p.ahead) := by rw [G1.cell 2]; rfl
    have c3' : w3.cell? ⟨b0, 3, none⟩ = some (.slice a3 p.behind.length c3) := by rw [G1.cell 3]; rfl
    have c4' : w3.cell? ⟨b0, 4, none⟩ = some (.slice a4 p.fingers.length c4) := by rw [G1.cell 4]; rfl
    have c5' : w3.cell? ⟨b0, 5, none⟩ = some (.slice a5 p.shelves.length c5) := by rw [G1.cell 5]; rfl
    have l1 := G1.lt
    have C1 := hide (HT.out w3 HB3.out)
    clear G1
    go_wp2_with fail
    refine C1.out.mono ?_
    rintro e w4 ⟨x3, y3, x4, y4, x5, y5, f3, f4, f5, rfl, ho4, hb4⟩
    have HB4 := hide (HB3.out.trans (hb4.mono HB3.out.size))
    have hb5 := (Below.refl w4.heap.size w4).alloc (Nat.le_refl _) (.cells #[.int .i64 p.id, .bool p.here, .int .i64 p.ahead, .slice x3 p.behind.length y3, .slice x4 p.fingers.length y4, .slice x5 p.shelves.length y5] 30)
    have X := Blk.new w4 #[.int .i64 p.id, .bool p.here, .int .i64 p.ahead, .slice x3 p.behind.length y3, .slice x4 p.fingers.length y4, .slice x5 p.shelves.length y5] 30
    have HO5 := hide (ho4.at_.below hb5 (Nat.le_refl _))
    have HB5 := hide (HB4.out.trans (hb5.mono HB4.out.size))
    clear ho4 hb4 hb5 HB3 HB4 c0 c1 c2 c3' c4' c5' l1 C1
    go_upto_region 7 with fail
    obtain ⟨b5, e5⟩ : ∃ b, b = w4.heap.size := ⟨_, rfl⟩
    rw [← e5] at X ⊢
    clear e5
    generalize w4.alloc (.cells #[.int .i64 p.id, .bool p.here, .int .i64 p.ahead, .slice x3 p.behind.length y3, .slice x4 p.fingers.length y4, .slice x5 p.shelves.length y5] 30) = w5 at *
    have C2 := hide (HP.out w5 _ _ _ HO5.out)
    have c0 : w5.cell? ⟨b5, 0, none⟩ = some (.int .i64 p.id) := by rw [X.cell 0]; rfl
    have c1 : w5.cell? ⟨b5, 1, none⟩ = some (.bool p.here) := by rw [X.cell 1]; rfl
    have c2 : w5.cell? ⟨b5, 2, none⟩ = some (.int .i64 p.ahead) := by rw [X.cell 2]; rfl
    have c3' : w5.cell? ⟨b5, 3, none⟩ = some (.slice x3 p.behind.length y3) := by rw [X.cell 3]; rfl
    have c4' : w5.cell? ⟨b5, 4, none⟩ = some (.slice x4 p.fingers.length y4) := by rw [X.cell 4]; rfl
    have c5' : w5.cell? ⟨b5, 5, none⟩ = some (.slice x5 p.shelves.length y5) := by rw [X.cell 5]; rfl
    have l1 := X.lt
    go_wp2_with fail
    refine C2.out.mono ?_
    rintro e w6 ⟨rfl, hb6⟩
    have HO6 := hide (HO5.out.below hb6 (Nat.le_refl _))
    have HB6 := hide (HB5.out.trans (hb6.mono HB5.out.size))
    have HG6 := hide (X.below hb6 X.lt)
    clear hb6 HB5 HO5 HP X c0 c1 c2 c3' c4' c5' l1 C2
    have l6 := HG6.out.lt
    have n0 : ∀ q : Near w6.heap.size w6, q.w.cell? ⟨b5, 0, none⟩ = some (.int .i64 p.id) := fun q => by rw [(HG6.out.below q.h l6).cell 0]; rfl
    have n1 : ∀ q : Near w6.heap.size w6, q.w.cell? ⟨b5, 1, none⟩ = some (.bool p.here) := fun q => by rw [(HG6.out.below q.h l6).cell 1]; rfl
    have n2 : ∀ q : Near w6.heap.size w6, q.w.cell? ⟨b5, 2, none⟩ = some (.int .i64 p.ahead) := fun q => by rw [(HG6.out.below q.h l6).cell 2]; rfl
    have n3 : ∀ q : Near w6.heap.size w6, q.w.cell? ⟨b5, 3, none⟩ = some (.slice x3 p.behind.length y3) := fun q => by rw [(HG6.out.below q.h l6).cell 3]; rfl
    have n4 : ∀ q : Near w6.heap.size w6, q.w.cell? ⟨b5, 4, none⟩ = some (.slice x4 p.fingers.length y4) := fun q => by rw [(HG6.out.below q.h l6).cell 4]; rfl
    have n5 : ∀ q : Near w6.heap.size w6, q.w.cell? ⟨b5, 5, none⟩ = some (.slice x5 p.shelves.length y5) := fun q => by rw [(HG6.out.below q.h l6).cell 5]; rfl
    have hnn := Near.some w6.heap.size w6
    go_wp2_with fail
    refine wp_region_open (fun wd => ∃ q : Near w6.heap.size w6, wd = q.w) ⟨⟨_, (Below.refl _ _).drew⟩, rfl⟩ (by kernel_rfl) ?_
    rintro wd ⟨pd, rfl⟩
    refine wpAny_of_K (c := 3) (D := fun w' => ∃ q : Near w6.heap.size w6, w' = q.w) _ _ _ _ ?_
    refine wpAnyK_load 0 (by kernel_rfl) (by kernel_rfl) (by kernel_rfl) (by kernel_rfl) (by kernel_rfl) (by kernel_rfl) (by decide) (fun _ _ _ _ _ h => h) ⟨pd, rfl⟩ ?_
    simp only [List.take_succ_cons, List.take_zero, List.drop_zero]
    go_big_quiet_step (fail)
    refine wpQuiet_nil ?_
    clear n0 n1 n2 n3 n4 n5 hnn
    have hbd := HB6.out.trans (pd.h.mono HB6.out.size)
    have G1 := HG.out pd.w hbd
    have c0 : pd.w.cell? ⟨b0, 0, none⟩ = some (.int .i64 p.id) := by rw [G1.cell 0]; rfl
    have c1 : pd.w.cell? ⟨b0, 1, none⟩ = some (.bool p.here) := by rw [G1.cell 1]; rfl
    have c2 : pd.w.cell? ⟨b0, 2, none⟩ = some (.int .i64 p.ahead) := by rw [G1.cell 2]; rfl
    have c3' : pd.w.cell? ⟨b0, 3, none⟩ = some (.slice a3 p.behind.length c3) := by rw [G1.cell 3]; rfl
    have c4' : pd.w.cell? ⟨b0, 4, none⟩ = some (.slice a4 p.fingers.length c4) := by rw [G1.cell 4]; rfl
    have c5' : pd.w.cell? ⟨b0, 5, none⟩ = some (.slice a5 p.shelves.length c5) := by rw [G1.cell 5]; rfl
    refine wpAnyK_value (i := 1) (v := .agg #[.int .i64 p.id, .bool p.here, .int .i64 p.ahead, .slice a3 p.behind.length c3, .slice a4 p.fingers.length c4, .slice a5 p.shelves.length c5]) (w' := pd.w) (by kernel_rfl) rfl rfl (by simp [execOp, go_sem, c0, c1, c2, c3', c4', c5']) ⟨pd, rfl⟩ ?_
    refine wpAnyK_call 2 (by kernel_rfl) rfl rfl 7 _ _ rfl (run_enter Try.func7 (by kernel_rfl) (by kernel_rfl)) #[.agg #[.int .i64 p.id, .bool p.here, .int .i64 p.ahead, .slice a3 p.behind.length c3, .slice a4 p.fingers.length c4, .slice a5 p.shelves.length c5]] rfl (fun u' w' => ∃ z3 y3 z4 y4 z5 y5, u' = .agg #[.int .i64 p.id, .bool p.here, .int .i64 p.ahead, .slice z3 p.behind.length y3, .slice z4 p.fingers.length y4, .slice z5 p.shelves.length y5] ∧ PeerAt w' p (.slice z3 p.behind.length y3) (.slice z4 p.fingers.length y4) (.slice z5 p.shelves.length y5) ∧ Below pd.w.heap.size pd.w w') ((HT.out pd.w hbd).mono (fun e w' ⟨z3, y3, z4, y4, z5, y5, _, _, _, he, ho, hb⟩ => ⟨_, he, z3, y3, z4, y4, z5, y5, rfl, ho.at_, hb⟩)) ?_
    rintro u' w7 ⟨z3, t3, z4, t4, z5, t5, rfl, ho7, hb7⟩
    have hb67 := pd.h.trans (hb7.mono pd.h.size)
    refine ⟨⟨⟨_, hb67⟩, rfl⟩, ?_⟩
    refine wpAnyK_last (by kernel_rfl) (by decide) ?_
    refine wpAny_rest 3 rfl (by kernel_rfl) ?_
    simp only [List.drop_succ_cons, List.drop_zero]
    have hox := HO6.out.below hb67 (Nat.le_refl _)
    have HE := hide (eqPeer_calls w7 p _ _ _ _ _ _ hox.behind hox.fingers hox.shelves ho7.behind ho7.fingers ho7.shelves HSM.out)
    unfold prV at HE
    have HB7 := hide (HB6.out.trans (hb67.mono HB6.out.size))
    clear ho7 hb7 hb67 HB6 HO6 HG6 l6 c0 c1 c2 c3' c4' c5' hbd hox G1
    go_wp2_with fail
    refine HE.out.mono ?_
    rintro e w8 ⟨rfl, hb8⟩
    have HB8 := hide (HB7.out.trans (hb8.mono HB7.out.size))
    clear hb8 HE HB7
    go_wp2_with fail
    go_ret
    exact ⟨rfl, HF.out _ HB8.out⟩
  · rw [szRes_neg hs]
    clear hs
    go_wp2_with fail
    go_ret
    exact ⟨rfl, HF.out _ hb1⟩
end Go.Proofs.Ytfckfgabeeeccaa.P9
