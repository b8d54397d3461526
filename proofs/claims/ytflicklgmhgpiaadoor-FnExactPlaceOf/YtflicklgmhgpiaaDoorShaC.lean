/- The contracts of the specification's constants of chapter 3: l03Keys, l03First, ShaStart. -/
import Derived.Test.YtflicklgmhgpiaaDoorShaB
namespace Go.Proofs.YtflicklgmhgpiaaDoor.P3
set_option maxRecDepth 8000
open Go.RowKit P1

theorem size64 : (Tryd.prog.info? 76).map (·.size) = some 64 := by kernel_rfl
theorem size8 : (Tryd.prog.info? 71).map (·.size) = some 8 := by kernel_rfl
theorem arr64 : Tryd.prog.underlying 76 = some (.array 64 70) := by kernel_rfl
theorem arr8 : Tryd.prog.underlying 71 = some (.array 8 70) := by kernel_rfl

theorem keys_length : keys.length = 64 := rfl

theorem keys_lt (j : Nat) (hj : j < 64) : keys.getD j 0 < 4294967296 := by
  have h : ∀ j : Fin 64, keys.getD j.val 0 < 4294967296 := by decide +kernel
  exact h ⟨j, hj⟩

theorem start_ok : start.ok := by unfold St.ok start; decide

/-- The end of a call whose one result lies in the block that was made last. -/
theorem ret_last {P : Program} {fn : Func} {p : Tmp} {t : TypeId} {K : Ending → World → Prop} {a : Act} {w : World} {c : Array Value} {n : Nat} {e : TypeId} (hr : fn.results = #[.cell p t]) (hd : a.defers = [])
    (hp : a.tmps.getD p undef = .pointer (some ⟨w.heap.size, 0, none⟩)) (hu : P.underlying t = some (.array n e)) (hi : (P.info? t).map (·.size) = some c.size)
    (h : K (.returned (.agg c)) (w.alloc (.cells c t))) : bodyPost P fn K .ret a (w.alloc (.cells c t)) := by
  refine bodyPost_ret (v := .agg c) ?_ hd h
  rw [results_cell1 hr, hp]
  simp only [asAddr, Sem.run_pure, Result.andThen_ok]
  exact run_loadVar_new w t c n e hu hi

set_option maxRecDepth 8000 in
set_option maxHeartbeats 400000 in
theorem keys_calls (w : World) : Calls Tryd.prog 49 #[] w fun e w' => e = .returned (.agg (wordsV keys)) ∧ Below w.heap.size w w' := by
  have hz64 := (zero_of_info zero64).1
  obtain ⟨Z64, hZ64⟩ : ∃ Z, Z = wordsV nil64 := ⟨_, rfl⟩
  obtain ⟨KV, hKV⟩ : ∃ Z, Z = wordsV keys := ⟨_, rfl⟩
  rw [← hZ64] at hz64
  rw [← hKV]
  have hs1 : Z64.size = 64 := by rw [hZ64]; rfl
  have hs2 : KV.size = 64 := by rw [hKV]; rfl
  have ho : KV.all (·.oneCell') = true := by rw [hKV]; exact wordsV_one _
  have Hz := hide hz64
  have HK := hide hKV
  clear hz64 hZ64 hKV
  go_enter Tryd.func49, Tryd.ntmps49
  go_wp2_with (first | (refine wpList_alloc_agg rfl 76 rfl Z64 Hz.out ?_) | (refine wpList_build_agg rfl 76 _ rfl KV (by rw [HK.out]; kernel_rfl) ?_) | (refine wpList_store_last rfl 76 (.tmp 0) (.tmp 1) rfl Z64 KV rfl rfl (by rw [hs2]; exact size64) (by rw [hs1, hs2]) ho ?_))
  exact ret_last rfl rfl rfl arr64 (by rw [hs2]; exact size64) ⟨rfl, (Below.refl _ _).alloc (Nat.le_refl _) _⟩

set_option maxHeartbeats 400000 in
theorem first_calls (w : World) : Calls Tryd.prog 48 #[] w fun e w' => e = .returned (.agg (wordsV start.list)) ∧ Below w.heap.size w w' := by
  go_enter Tryd.func48, Tryd.ntmps48
  go_wp2
  exact ret_last rfl rfl rfl arr8 size8 ⟨rfl, (Below.refl _ _).alloc (Nat.le_refl _) _⟩
end Go.Proofs.YtflicklgmhgpiaaDoor.P3
