/- The laws' eqItem, eqItemS, eqShelf, eqShelfS, eqPeer, eqPeerS, eqRing at equal data; condition: lists of at most 2^20. -/
import Derived.Test.YtfckfgabeeeccaaRg6
namespace Go.Proofs.Ytfckfgabeeeccaa.P9
set_option maxRecDepth 8000
open Go.RowKit P1 P8 Da

set_option maxHeartbeats 400000 in
theorem eqItem_calls (w : World) (t : List UInt8) (b : Bool) :
    Calls Try.prog 47 #[.agg #[.string ⟨t.toArray⟩, .bool b], .agg #[.string ⟨t.toArray⟩, .bool b]] w fun e w' => e = .returned (.bool true) ∧ Below w.heap.size w w' := by
  have h1 := (Below.refl w.heap.size w).alloc (Nat.le_refl _) (.cells #[.string ⟨t.toArray⟩, .bool b] 74)
  have HB := hide (h1.alloc h1.size (.cells #[.string ⟨t.toArray⟩, .bool b] 74))
  have hbb : (b != b) = false := by cases b <;> rfl
  have htt : (t != t) = false := by simp
  clear h1
  go_enter Try.func47, Try.ntmps47
  go_wp2
  go_ret
  exact ⟨rfl, HB.out⟩

set_option maxHeartbeats 1000000 in
theorem eqItems_calls (w : World) (v u : Value) (l : List It) (hv : ItemsAt w v l) (hu : ItemsAt w u l) (hl : l.length ≤ 1048576) :
    Calls Try.prog 44 #[v, u] w fun e w' => e = .returned (.bool true) ∧ Below w.heap.size w w' := by
  have HV := hide hv
  have HU := hide hu
  obtain ⟨a, ca, rfl, -⟩ := hv.open_
  obtain ⟨b, cb, rfl, -⟩ := hu.open_
  clear hv hu
  go_enter Try.func44, Try.ntmps44
  go_wp2_with fail
  go_loopw [5] (fun i wr => ∃ k : Nat, k ≤ l.length ∧ i = .int .i64 k ∧ Hid (Below w.heap.size w wr)) (fun i _ => l.length - (intOf i).toNat)
  case atStart => exact ⟨0, Nat.zero_le _, rfl, Below.refl _ _⟩
  case round =>
    obtain ⟨k, hk, rfl, HB⟩ := hrel
    by_cases hlt : k < l.length
    · obtain ⟨ax, cx, hax, HA⟩ := (HV.out.below HB.out (Nat.le_refl _)).open_
      cases hax
      obtain ⟨bx, dx, hbx, HA2⟩ := (HU.out.below HB.out (Nat.le_refl _)).open_
      cases hbx
      obtain ⟨g, off, rfl, hg, f0, f1⟩ := HA k hlt
      obtain ⟨g', off', rfl, hg', f0', f1'⟩ := HA2 k hlt
      clear HA HA2
      generalize l[k] = x at *
      obtain ⟨xt, xb⟩ := x
      dsimp only at f0 f1 f0' f1'
      have HC := hide (fun p : Near wr.heap.size wr => eqItem_calls p.w xt xb)
      have n0 : ∀ p : Near wr.heap.size wr, p.w.cell? ⟨g, off + k * 2, none⟩ = some (.string ⟨xt.toArray⟩) := fun p => (p.h.cell (p := ⟨g, off + k * 2, none⟩) hg).trans f0
      have n1 : ∀ p : Near wr.heap.size wr, p.w.cell? ⟨g, off + k * 2 + 1, none⟩ = some (.bool xb) := fun p => (p.h.cell (p := ⟨g, off + k * 2 + 1, none⟩) hg).trans f1
      have m0 : ∀ p : Near wr.heap.size wr, p.w.cell? ⟨g', off' + k * 2, none⟩ = some (.string ⟨xt.toArray⟩) := fun p => (p.h.cell (p := ⟨g', off' + k * 2, none⟩) hg').trans f0'
      have m1 : ∀ p : Near wr.heap.size wr, p.w.cell? ⟨g', off' + k * 2 + 1, none⟩ = some (.bool xb) := fun p => (p.h.cell (p := ⟨g', off' + k * 2 + 1, none⟩) hg').trans f1'
      have hnn := Near.some wr.heap.size wr
      go_wp2_with fail
      refine wp_region_near wr.heap.size wr (Below.refl _ _) (by kernel_rfl) (by kernel_rfl) ?_
      repeat (go_big_quiet_step (fail))
      go_big_quiet_step (exact calls_near (Nat.le_refl _) (HC.out _))
      repeat (go_big_quiet_step (fail))
      refine wpQuiet_nil ?_
      rintro w3 ⟨pq, rfl⟩
      have hqb := pq.h
      obtain ⟨w3, hq⟩ := pq
      simp only at hqb ⊢
      have HB3 := hide (HB.out.trans (hqb.mono HB.out.size))
      clear hq hnn HC hqb HB n0 n1 m0 m1
      go_wp2_with fail
      go_roundw
      case rel => exact ⟨k + 1, by omega, by go_num, HB3.out⟩
      case measure => simp [intOf]; omega
    · go_wp2_with fail
      go_ret
      exact ⟨rfl, HB.out⟩

set_option maxHeartbeats 1000000 in
theorem eqShelf_calls (w : World) (k : Int) (l : List It) (v u : Value) (hv : ItemsAt w v l) (hu : ItemsAt w u l) (hl : l.length ≤ 1048576) :
    Calls Try.prog 39 #[.agg #[.int .i64 k, v], .agg #[.int .i64 k, u]] w fun e w' => e = .returned (.bool true) ∧ Below w.heap.size w w' := by
  obtain ⟨a, ca, hsa, -⟩ := hv.open_
  obtain ⟨b, cb, hsb, -⟩ := hu.open_
  subst hsa hsb
  have h1 := (Below.refl w.heap.size w).alloc (Nat.le_refl _) (.cells #[.int .i64 k, .slice a l.length ca] 50)
  have h2 := h1.alloc h1.size (.cells #[.int .i64 k, .slice b l.length cb] 50)
  have HC := hide (eqItems_calls _ _ _ l (hv.below h2 (Nat.le_refl _)) (hu.below h2 (Nat.le_refl _)) hl)
  have HB := hide h2
  have hkk : (k != k) = false := by simp
  clear h1 h2 hv hu
  go_enter Try.func39, Try.ntmps39
  go_wp2_with fail
  refine HC.out.mono ?_
  rintro e w3 ⟨rfl, hb3⟩
  have HB3 := hide (HB.out.trans (hb3.mono HB.out.size))
  clear hb3 HB HC
  go_wp2_with fail
  go_ret
  exact ⟨rfl, HB3.out⟩

set_option maxHeartbeats 1000000 in
theorem eqShelves_calls (w : World) (v u : Value) (l : List Shf) (hv : ShelvesAt w v l) (hu : ShelvesAt w u l) (hl : l.length ≤ 1048576) (hs0 : ∀ x ∈ l, x.items.length ≤ 1048576) :
    Calls Try.prog 28 #[v, u] w fun e w' => e = .returned (.bool true) ∧ Below w.heap.size w w' := by
  have HV := hide hv
  have HU := hide hu
  obtain ⟨a, ca, rfl, -⟩ := hv.open_
  obtain ⟨b, cb, rfl, -⟩ := hu.open_
  have HSM := hide hs0
  clear hv hu hs0
  go_enter Try.func28, Try.ntmps28
  go_wp2_with fail
  go_loopw [5] (fun i wr => ∃ k : Nat, k ≤ l.length ∧ i = .int .i64 k ∧ Hid (Below w.heap.size w wr)) (fun i _ => l.length - (intOf i).toNat)
  case atStart => exact ⟨0, Nat.zero_le _, rfl, Below.refl _ _⟩
  case round =>
    obtain ⟨k, hk, rfl, HB⟩ := hrel
    by_cases hlt : k < l.length
    · obtain ⟨ax, cx, hax, HA⟩ := (HV.out.below HB.out (Nat.le_refl _)).open_
      cases hax
      obtain ⟨bx, dx, hbx, HA2⟩ := (HU.out.below HB.out (Nat.le_refl _)).open_
      cases hbx
      obtain ⟨g, off, u1, rfl, hg, f0, f1, hi1⟩ := HA k hlt
      obtain ⟨g', off', u2, rfl, hg', f0', f1', hi2⟩ := HA2 k hlt
      clear HA HA2
      have hsm := HSM.out l[k] (List.getElem_mem hlt)
      generalize l[k] = x at *
      obtain ⟨xk, xi⟩ := x
      dsimp only at f0 f1 f0' f1' hi1 hi2 hsm
      obtain ⟨a1, c1, e1, -⟩ := hi1.open_
      obtain ⟨a2, c2, e2, -⟩ := hi2.open_
      subst e1 e2
      have HC := hide (fun p : Near wr.heap.size wr => eqShelf_calls p.w xk xi _ _ (hi1.below p.h (Nat.le_refl _)) (hi2.below p.h (Nat.le_refl _)) hsm)
      clear hi1 hi2 hsm
      have n0 : ∀ p : Near wr.heap.size wr, p.w.cell? ⟨g, off + k * 2, none⟩ = some (.int .i64 xk) := fun p => (p.h.cell (p := ⟨g, off + k * 2, none⟩) hg).trans f0
      have n1 : ∀ p : Near wr.heap.size wr, p.w.cell? ⟨g, off + k * 2 + 1, none⟩ = some (.slice a1 xi.length c1) := fun p => (p.h.cell (p := ⟨g, off + k * 2 + 1, none⟩) hg).trans f1
      have m0 : ∀ p : Near wr.heap.size wr, p.w.cell? ⟨g', off' + k * 2, none⟩ = some (.int .i64 xk) := fun p => (p.h.cell (p := ⟨g', off' + k * 2, none⟩) hg').trans f0'
      have m1 : ∀ p : Near wr.heap.size wr, p.w.cell? ⟨g', off' + k * 2 + 1, none⟩ = some (.slice a2 xi.length c2) := fun p => (p.h.cell (p := ⟨g', off' + k * 2 + 1, none⟩) hg').trans f1'
      have hnn := Near.some wr.heap.size wr
      go_wp2_with fail
      refine wp_region_near wr.heap.size wr (Below.refl _ _) (by kernel_rfl) (by kernel_rfl) ?_
      repeat (go_big_quiet_step (fail))
      go_big_quiet_step (exact calls_near (Nat.le_refl _) (HC.out _))
      repeat (go_big_quiet_step (fail))
      refine wpQuiet_nil ?_
      rintro w3 ⟨pq, rfl⟩
      have hqb := pq.h
      obtain ⟨w3, hq⟩ := pq
      simp only at hqb ⊢
      have HB3 := hide (HB.out.trans (hqb.mono HB.out.size))
      clear hq hnn HC hqb HB n0 n1 m0 m1
      go_wp2_with fail
      go_roundw
      case rel => exact ⟨k + 1, by omega, by go_num, HB3.out⟩
      case measure => simp [intOf]; omega
    · go_wp2_with fail
      go_ret
      exact ⟨rfl, HB.out⟩
end Go.Proofs.Ytfckfgabeeeccaa.P9
