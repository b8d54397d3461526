/- The contract of the program's blockWords.next. -/
import Derived.Test.YtflicklgmhgpiaaDoorShaI1
import Derived.Test.YtflicklgmhgpiaaDoorArrS
import Derived.Test.YtflicklgmhgpiaaDoorCur
namespace Go.Proofs.YtflicklgmhgpiaaDoor.P3
set_option maxRecDepth 8000
open Go.RowKit P1

theorem Arr.grown {w w' : World} {b g : Nat} {xs : List Nat} (h : Arr w b xs) (hg : w.grownBy w' (some g)) (hne : g ≠ b) : Arr w' b xs := by
  have hb : w'.heap[b]? = w.heap[b]? := hg.block b h.lt (fun e => hne (by cases e; rfl))
  exact ⟨Nat.lt_of_lt_of_le h.lt hg.size, fun i hi => by rw [World.cell?_of_block (w := w) hb]; exact h.cell i hi, fun i => by rw [World.frozen?_of_block (w := w) hb]; exact h.free i⟩

set_option maxHeartbeats 1000000 in
theorem next_calls (b : Nat) (xs : List Nat) (t : Nat) (ht : t < 64) (hl : xs.length = 16) (hx : ∀ j, j < 16 → xs.getD j 0 < 4294967296) (w : World) (hA : Arr w b xs) :
    Calls Tryd.prog 54 #[.pointer (some ⟨b, 0, none⟩), .int .u64 t] w fun e w' => (∃ v, e = .returned v) ∧
      Arr w' b (xs.set (t % 16) (add (add (add (xs.getD (t % 16) 0) (sig0 (xs.getD ((t + 1) % 16) 0))) (xs.getD ((t + 9) % 16) 0)) (sig1 (xs.getD ((t + 14) % 16) 0)))) ∧ w.grownBy w' (some b) := by
  have HA := hide hA
  have c1 := hA.cell ((t + 1) % 16) (by omega)
  have c14 := hA.cell ((t + 14) % 16) (by omega)
  have c0 := hA.cell (t % 16) (by omega)
  have c9 := hA.cell ((t + 9) % 16) (by omega)
  have l1 := hx ((t + 1) % 16) (by omega)
  have l14 := hx ((t + 14) % 16) (by omega)
  have l0 := hx (t % 16) (by omega)
  have l9 := hx ((t + 9) % 16) (by omega)
  generalize xs.getD ((t + 1) % 16) 0 = x1 at *
  generalize xs.getD ((t + 14) % 16) 0 = x14 at *
  generalize xs.getD (t % 16) 0 = x0 at *
  generalize xs.getD ((t + 9) % 16) 0 = x9 at *
  have hf := hA.free
  have hgd := fun n => Cu.grown_drew w (some b) n
  have HGD := hide hgd
  clear hA hx hgd
  go_enter Tryd.func54, Tryd.ntmps54
  go_wp2_with fail
  refine (roll_calls x1 l1 7 (by decide) (by decide) _).mono ?_
  rintro e w1 ⟨rfl, rfl⟩
  go_wp2_with fail
  refine (roll_calls x1 l1 18 (by decide) (by decide) _).mono ?_
  rintro e w1 ⟨rfl, rfl⟩
  obtain ⟨s0, hs0e⟩ : ∃ s0, s0 = sig0 x1 := ⟨_, rfl⟩
  have hs0 := sig0_lt x1 l1
  have hb0 := sig0_bits x1 l1
  rw [← hs0e] at hs0 hb0
  have ES0 := hide hs0e
  clear hs0e
  go_wp2_with fail
  refine (roll_calls x14 l14 17 (by decide) (by decide) _).mono ?_
  rintro e w1 ⟨rfl, rfl⟩
  go_wp2_with fail
  refine (roll_calls x14 l14 19 (by decide) (by decide) _).mono ?_
  rintro e w1 ⟨rfl, rfl⟩
  obtain ⟨s1, hs1e⟩ : ∃ s1, s1 = sig1 x14 := ⟨_, rfl⟩
  have hs1 := sig1_lt x14 l14
  have hb1 := sig1_bits x14 l14
  rw [← hs1e] at hs1 hb1
  have ES1 := hide hs1e
  clear hs1e
  go_wp2_with fail
  refine wp_region_tail 20 (fun wd => wd.cell? ⟨b, t % 16, none⟩ = some (.int .u32 (x0 : Nat)) ∧ wd.cell? ⟨b, (t + 9) % 16, none⟩ = some (.int .u32 (x9 : Nat)) ∧ (∀ i, wd.frozen? ⟨b, i, none⟩ = false) ∧ Arr wd b xs ∧ w1.grownBy wd (some b)) ⟨c0, c9, hf, HA.out.drew, Cu.grown_drew _ _ 1⟩ (by kernel_rfl) (by kernel_rfl) ?_
  clear c0 c9 hf HA c1 c14 HGD
  rintro wd ⟨c0, c9, hf, hA, hg⟩
  have HA := hide hA
  have HG := hide hg
  clear hA hg
  simp only [List.take_succ_cons, List.take_zero, List.drop_succ_cons, List.drop_zero]
  repeat (go_big_quiet_step (fail))
  refine wpQuiet_nil ?_
  go_wp2
  refine bodyPost_end (results_none rfl _ _ _) rfl ⟨⟨_, rfl⟩, ?_, Cu.grown_trans HG.out (Cu.grown_set _ _ _ _)⟩
  have hv : (((x0 : Int) + ((s0 : Int) + (x9 : Int) + (s1 : Int))) % 4294967296) = ((add (add (add x0 (sig0 x1)) x9) (sig1 x14) : Nat) : Int) := by
    rw [← ES0.out, ← ES1.out, add4]
    omega
  rw [hv]
  exact HA.out.set _
end Go.Proofs.YtflicklgmhgpiaaDoor.P3
