/- The program's OwnerOf; condition: at most 2^20 ids. -/
import Derived.Test.YthkdgnohkdedpaaRngB
namespace Go.Proofs.Ythkdgnohkdedpaa.P8
open Go.RowKit Go.Shelf P1 Mp Rf

attribute [local go_sem] Oper.semAt_some

/-- How far the best one is. -/
def leastOf (key : Int) (l : List Int) : Nat := ((best key l).map (ahd key)).getD 256

theorem owner_hit {key : Int} {pre : List Int} {x : Int} (h : ahd key x < leastOf key pre) : ownerOf key (pre ++ [x]) = x ∧ leastOf key (pre ++ [x]) = ahd key x := by
  unfold ownerOf leastOf at *
  rw [best_snoc]
  cases hb : best key pre with
  | none => exact ⟨rfl, rfl⟩
  | some b =>
    rw [hb] at h
    have h' : ahd key x < ahd key b := h
    unfold ownStep
    dsimp only
    rw [if_pos h']
    exact ⟨rfl, rfl⟩

theorem owner_miss {key : Int} {pre : List Int} {x : Int} (h : ¬ ahd key x < leastOf key pre) : ownerOf key (pre ++ [x]) = ownerOf key pre ∧ leastOf key (pre ++ [x]) = leastOf key pre := by
  unfold ownerOf leastOf at *
  rw [best_snoc]
  cases hb : best key pre with
  | none =>
    rw [hb] at h
    exact absurd (ahd_lt key x) h
  | some b =>
    rw [hb] at h
    have h' : ¬ ahd key x < ahd key b := h
    unfold ownStep
    dsimp only
    rw [if_neg h']
    exact ⟨rfl, rfl⟩

theorem boxed_cells (B : Nat) (t : TypeId) {β : Type} (f : β → Value) : Own (fun (s : β) W => Boxed W B t (f s)) := by
  intro s X Y row hv hg hrow
  refine hv.kept hg (fun e' => ?_)
  obtain ⟨o, ho, hc⟩ := hrow B e'.symm
  rw [show X.heap[B]? = _ from hv] at ho
  cases ho
  cases hc

theorem boxed_other {W : World} {B b : Nat} {t : TypeId} {v : Value} (h : Boxed W B t v) (hne : B ≠ b) (u : Value) : Boxed (W.setCell ⟨b, 0, none⟩ u) B t v :=
  h.kept (grownBy_setCell' W b u) (fun e => hne (by simpa using e))

theorem kp_set {n₀ bf b : Nat} {W : World} (hb : n₀ ≤ b) (hne : bf ≠ b) (v : Value) {t : TypeId} {u : Value} (hx : Boxed W b t u) (ht : t ≠ 100) : Kp n₀ bf W (W.setCell ⟨b, 0, none⟩ v) :=
  ⟨(Below.refl n₀ W).setCell (p := ⟨b, 0, none⟩) hb v, Below.heap_setCell _ _ _ _ hne, fun B y hB => hB.other (fun e => by
    subst e
    have h1 := (show W.heap[B]? = _ from hx).symm.trans (show W.heap[B]? = _ from hB)
    cases h1
    exact ht rfl) v⟩

set_option maxRecDepth 100000 in
set_option maxHeartbeats 2000000 in
theorem implOwner_calls (w : World) (v : Value) (ids : List Int) (key : Int) (hv : IntsAt w v ids) (hl : ids.length ≤ 1048576) :
    Calls Try.prog 14 #[v, .int .i64 key] w fun e w' => e = .returned (.int .i64 (ownerOf key ids)) ∧ Below w.heap.size w w' := by
  refine (callsIn_wide (n := 9)).1 ?_
  have HV := hide hv
  obtain ⟨a, cap, rfl, -⟩ := hv
  refine callsIn_of_wp_marks Try.func14 rfl trivial ?_ rfl
  simp only [Try.ntmps14, List.size_toArray, List.length_cons, List.length_nil, Nat.reduceAdd, Nat.reduceSub, Array.replicate_succ, Array.replicate_zero, List.push_toArray, List.append_toArray, List.nil_append, List.cons_append]
  gi_wp2
  refine ⟨trivial, ?_⟩
  refine (callsIn_wide.2 (behind_calls _ a ids.length cap key _ rfl)).mono ?_
  rintro e w' ⟨rfl, rfl⟩
  have bO := ((Boxed.new w 3 (.int .i64 (-1))).alloc (.cells #[.int .i64 256] 3))
  have bL := Boxed.new (w.alloc (.cells #[.int .i64 (-1)] 3)) 3 (.int .i64 256)
  have z1 : (w.alloc (.cells #[.int .i64 (-1)] 3)).heap.size = w.heap.size + 1 := by simp
  have z2 : ((w.alloc (.cells #[.int .i64 (-1)] 3)).alloc (.cells #[.int .i64 256] 3)).heap.size = w.heap.size + 2 := by simp
  rw [z1] at bL
  have hB0 : Below w.heap.size w ((w.alloc (.cells #[.int .i64 (-1)] 3)).alloc (.cells #[.int .i64 256] 3)) := ((Below.refl _ w).alloc (Nat.le_refl _) _).alloc (by simp) _
  clear z1
  generalize (w.alloc (.cells #[.int .i64 (-1)] 3)).alloc (.cells #[.int .i64 256] 3) = w1 at *
  have bI := ((Boxed.new w1 24 (.slice a ids.length cap)).alloc (.cells #[.int .i64 key] 3))
  have bF := Boxed.new (w1.alloc (.cells #[.slice a ids.length cap] 24)) 3 (.int .i64 key)
  have z3 : (w1.alloc (.cells #[.slice a ids.length cap] 24)).heap.size = w.heap.size + 3 := by simp; omega
  have z4 : ((w1.alloc (.cells #[.slice a ids.length cap] 24)).alloc (.cells #[.int .i64 key] 3)).heap.size = w.heap.size + 4 := by simp; omega
  rw [z3] at bF
  rw [z2] at bI ⊢
  have hB1 : Below w.heap.size w ((w1.alloc (.cells #[.slice a ids.length cap] 24)).alloc (.cells #[.int .i64 key] 3)) := hB0.trans ((((Below.refl w1.heap.size w1).alloc (Nat.le_refl _) _).alloc (by simp) _).mono (by omega))
  replace bO := (bO.alloc (.cells #[.slice a ids.length cap] 24)).alloc (.cells #[.int .i64 key] 3)
  replace bL := (bL.alloc (.cells #[.slice a ids.length cap] 24)).alloc (.cells #[.int .i64 key] 3)
  clear z3
  generalize (w1.alloc (.cells #[.slice a ids.length cap] 24)).alloc (.cells #[.int .i64 key] 3) = w2 at *
  have hV2 : IntsLow w.heap.size w2 (.slice a ids.length cap) ids := (IntsLow.of HV.out).below hB1
  clear HV hB0 z2
  gi_wp2
  refine range_tells (gf := 83) (lb := #[.pointer (some ⟨w.heap.size + 2, 0, none⟩), .pointer (some ⟨w.heap.size + 2 + 1, 0, none⟩)]) rfl (enters_of Try.func83 (by kernel_rfl) rfl)
    (behind_tells (w.heap.size + 2) (w.heap.size + 3) w.heap.size key _ ids hl w2 bI.cell bF.cell hV2 (by omega)) (fun h k => h.trans k) (kp_b (by omega) (by omega)) (Below.refl _ _) (fun _ => rfl)
    (fun pre W => (Boxed W w.heap.size 3 (.int .i64 (ownerOf key pre)) ∧ Boxed W (w.heap.size + 1) 3 (.int .i64 ((leastOf key pre : Nat) : Int))) ∧ Below w.heap.size w W)
    (fun _ _ _ => False)
    (OwnFrom.and (OwnFrom.and (Own.from (boxed_cells _ _ (fun pre => Value.int .i64 (ownerOf key pre))) _) (Own.from (boxed_cells _ _ (fun pre => Value.int .i64 ((leastOf key pre : Nat) : Int))) _)) (ownFrom_below (Nat.le_refl _) (by omega)))
    (fun _ _ _ _ _ hs _ _ => hs)
    ⟨⟨bO, bL⟩, hB1⟩
    (fun x => { tmps := #[.slice a ids.length cap, .int .i64 key, undef, undef, .int .i64 0, .pointer (some ⟨w.heap.size, 0, none⟩), .pointer (some ⟨w.heap.size + 1, 0, none⟩), .int .i64 x, .int .i64 ((ahd key x : Nat) : Int), .slice a ids.length cap, .int .i64 key, .func (.func 83) #[] #[.pointer (some ⟨w.heap.size + 2, 0, none⟩), .pointer (some ⟨w.heap.size + 2 + 1, 0, none⟩)], .int .i64 x, .int .i64 ((ahd key x : Nat) : Int), undef, undef, undef, undef, undef, undef], defers := [] }) ?assign ?body ?done ?stop
  case assign =>
    intro m l x W K hK
    gi_wp2
    exact hK
  case body =>
    rintro m l pre x W ⟨⟨hO, hL⟩, hB⟩ hlt
    have c1 := hO.cell
    have f1 := hO.frozen
    have l1 := hO.lt
    have c2 := hL.cell
    have f2 := hL.frozen
    have l2 := hL.lt
    by_cases hx : ahd key x < leastOf key pre
    · have hd : decide (((ahd key x : Nat) : Int) < ((leastOf key pre : Nat) : Int)) = true := decide_eq_true (by omega)
      obtain ⟨e1, e2⟩ := owner_hit hx
      gi_wp2
      refine ⟨((KeepsOthers.setCell _ _ _).trans (KeepsOthers.setCell _ _ _)).from _, (kp_set (Nat.le_refl _) (by omega) _ hO (by decide)).trans (kp_set (by omega) (by omega) _ (boxed_other hL (by omega) _) (by decide)), ⟨?_, ?_⟩, (hB.setCell (p := ⟨w.heap.size, 0, none⟩) (Nat.le_refl _) _).setCell (p := ⟨w.heap.size + 1, 0, none⟩) (Nat.le_succ _) _⟩
      · rw [e1]
        exact boxed_other (hO.set _) (by omega) _
      · rw [e2]
        exact Boxed.set _ (boxed_other hL (by omega) _)
    · have hd : decide (((ahd key x : Nat) : Int) < ((leastOf key pre : Nat) : Int)) = false := decide_eq_false (by omega)
      have hd2 : leastOf key pre ≤ ahd key x := by omega
      obtain ⟨e1, e2⟩ := owner_miss hx
      gi_wp2
      exact ⟨KeepsFrom.refl _ _, Kp.refl _ _ _, ⟨by rw [e1]; exact hO, by rw [e2]; exact hL⟩, hB⟩
  case done =>
    rintro D ys W hD rfl ⟨⟨hO, hL⟩, hB⟩ hK
    have c1 := hO.cell
    gi_wp2
    refine ⟨by simp, .inl ⟨_, _, rfl, run_takeDeferred hK, ?_⟩⟩
    refine ⟨_, results_tmp rfl _ _ _, ?_, hB.trans (belowK_b (w := w) (Nat.le_refl _) W D _ _ (by omega) hK rfl rfl)⟩
    unfold ownerOf
    rw [best_nub]
    rfl
  case stop =>
    rintro D c pre W _ _ h _
    exact h.elim
end Go.Proofs.Ythkdgnohkdedpaa.P8
