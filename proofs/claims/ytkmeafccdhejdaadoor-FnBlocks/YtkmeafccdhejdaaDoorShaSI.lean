/- The contract of impl.ShaStart; condition: its listed table holds what the text lays. -/
import Derived.Test.YtkmeafccdhejdaaDoorShaI4
namespace Go.Proofs.YtkmeafccdhejdaaDoor.P3
open Go.RowKit P1

/-- The numbers to begin with, as the program lays them. -/
structure StT (w : World) : Prop where
  lt : 0 < w.heap.size
  cell : ∀ r, r < 8 → w.cell? ⟨0, r, none⟩ = some (.int .u32 (start.list.getD r 0 : Nat))

theorem StT.below {w w' : World} {B : Nat} (h : StT w) (hb : Below B w w') (hB : 0 < B) : StT w' :=
  ⟨Nat.lt_of_lt_of_le h.lt hb.size, fun r hr => by rw [hb.cell (p := ⟨0, r, none⟩) hB]; exact h.cell r hr⟩

theorem StT.drew {w : World} (h : StT w) : StT w.drew := ⟨h.lt, h.cell⟩

/-- The whole table read. -/
theorem StT.load {w : World} (h : StT w) : (loadCellsFrom ⟨0, 0, none⟩ 0 8 #[]).run Tryd.prog w = .ok (wordsV start.list) w := by
  have := run_loadCells_list (P := Tryd.prog) w ⟨0, 0, none⟩ (wordsV start.list).toList (fun j v hj => by
    have hj' : j < 8 := by have := (List.getElem?_eq_some_iff.1 hj).1; simpa [wordsV, St.list] using this
    rw [Go.WideShapes.add_plain, Nat.zero_add, h.cell j hj']
    have h8 : j < start.list.length := hj'
    simp [wordsV, h8] at hj
    simp [List.getD_eq_getElem?_getD, h8, hj])
  simpa [loadCells, wordsV, St.list] using this

set_option maxHeartbeats 400000 in
theorem implStart_calls (w : World) (hS : StT w) :
    Calls Tryd.prog 13 #[] w fun e w' => ∃ v, e = .returned v ∧ w'.ownsRow w.heap.size 3 1 v 8 (cellsI (intsOf start.list)) ∧ Below w.heap.size w w' := by
  have hz8 := (zero_of_info zeroN8).1
  have hld := hS.load
  obtain ⟨Z8, hZ8⟩ : ∃ Z, Z = wordsV nil8 := ⟨_, rfl⟩
  obtain ⟨SV, hSV⟩ : ∃ Z, Z = wordsV start.list := ⟨_, rfl⟩
  rw [← hZ8] at hz8
  rw [← hSV] at hld
  have s3 : Z8.size = 8 := by rw [hZ8]; rfl
  have s4 : SV.size = 8 := by rw [hSV]; rfl
  have u2 : SV.all (·.oneCell') = true := by rw [hSV]; exact wordsV_one _
  have ES := hide hSV
  have Hz8 := hide hz8
  have HL := hide hld
  obtain ⟨st, Est⟩ : ∃ st, Hid (st = start) := ⟨_, rfl⟩
  have hok : st.ok := by rw [Est.out]; exact start_ok
  rw [← Est.out] at ES ⊢
  clear hz8 hZ8 hSV Est hS hld
  go_enter Tryd.func13, Tryd.ntmps13
  go_wp2_with (first | (refine wpList_load_agg rfl 50 (.global 0) rfl 0 rfl 8 Tryd.isAgg50 Tryd.sizeOf50 SV HL.out ?_) | (refine wpList_alloc_agg rfl 50 rfl Z8 Hz8.out ?_) | (refine wpList_store_last rfl 50 (.tmp 1) (.tmp 2) rfl Z8 SV rfl rfl (by rw [s4]; exact sizeN8) (by rw [s3, s4]) u2 ?_))
  have hA := Arr.new w 50 st.list SV ES.out
  have hbA : Below w.heap.size w (w.alloc (.cells SV 50)) := (Below.refl _ _).alloc (Nat.le_refl _) _
  refine (list_calls _ st hok _ hA).mono ?_
  rintro e w2 ⟨v, rfl, hown, hb2⟩
  have HO := hide (own_mono hown hbA.size)
  have HB := hide (hbA.trans (hb2.mono hbA.size))
  clear hown hb2 hA hbA
  go_wp2_with fail
  go_ret
  exact ⟨_, rfl, HO.out, HB.out⟩
end Go.Proofs.YtkmeafccdhejdaaDoor.P3
