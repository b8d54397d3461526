/- The laws' toShelf, toShelfS: copies in memory of their own; condition: lists of at most 2^20. -/
import Derived.Test.YtfckfgabeeeccaaRgB
import Derived.Test.YtfckfgabeeeccaaDat3
namespace Go.Proofs.Ytfckfgabeeeccaa.P9
set_option maxRecDepth 8000
open Go.RowKit P1 P8 Da Rr

/-- The program's own types. -/
def T0 : Tys := ⟨74, 50, 30⟩

theorem items_owns {W : World} {B : Nat} {v : Value} {l : List It} (h : W.ownsRow B 74 2 v l.length (l.map itV).flatten) : ∃ fp, Owns W v (itemsD T0 l) fp ∧ ∀ q ∈ fp, B ≤ q := by
  have hall : ∀ r ∈ l.map itV, r.length = 2 := fun r hr => by
    obtain ⟨x, _, rfl⟩ := List.mem_map.1 hr
    rfl
  obtain ⟨fp, h1, h2⟩ := owns_of_cells h (l.flatMap itC) (flatMap_length _ 2 (fun _ => rfl) l) (fun i d hi => by
    have hlt : i < l.length * 2 := by
      have := (List.getElem?_eq_some_iff.1 hi).1
      rw [flatMap_length _ 2 (fun _ => rfl)] at this
      exact this
    have h1 : i / 2 < l.length := by omega
    have h2 : i % 2 < 2 := by omega
    have h3 : i / 2 * 2 + i % 2 = i := by omega
    rw [← h3, flatMap_get itC 2 (fun _ => rfl) l (i / 2) (i % 2) h1 h2] at hi
    rw [← h3, flatten_get _ (i / 2) (i % 2) (itV l[i / 2]) hall (by simp [h1]) h2]
    generalize i % 2 = m at *
    match m, h2 with
    | 0, _ =>
      obtain rfl : textD l[i / 2].t = d := by simpa [itC] using hi
      exact ⟨_, rfl, owns_leaf _⟩
    | 1, _ =>
      obtain rfl : boolD l[i / 2].gone = d := by simpa [itC] using hi
      exact ⟨_, rfl, owns_leaf _⟩)
  exact ⟨fp, h1, fun q hq => (h.lt q ((h2 q).1 hq)).1⟩

theorem blk_free_cell {W : World} {b : Nat} {cs : List Value} {t : TypeId} (h : Blk W b cs t) (i : Nat) {c : Value} (hc : cs[i]? = some c) : W.cell? ⟨b, i, none⟩ = some c := by rw [h.cell i]; exact hc

set_option maxHeartbeats 1000000 in
theorem toShelf_calls (w : World) (k : Int) (l : List It) (v : Value) (hv : ItemsAt w v l) (hl : l.length ≤ 1048576) :
    Calls Try.prog 37 #[.agg #[.int .i64 k, v]] w fun e w' => ∃ a c fp, e = .returned (.agg #[.int .i64 k, .slice a l.length c]) ∧ Owns w' (.slice a l.length c) (itemsD T0 l) fp ∧ (∀ q ∈ fp, w.heap.size ≤ q) ∧ Below w.heap.size w w' := by
  have HV := hide hv
  obtain ⟨a, ca, rfl, -⟩ := hv.open_
  clear hv
  go_enter Try.func37, Try.ntmps37
  go_upto_region 3 with fail
  have h1 := (Below.refl w.heap.size w).alloc (Nat.le_refl _) (.cells #[.int .i64 k, .slice a l.length ca] 72)
  have h2 := h1.alloc h1.size (.cells #[.int .i64 0, .slice none 0 0] 50)
  have h3 := h2.alloc h2.size (.cells #[.int .i64 k, .slice none 0 0] 50)
  have A := Blk.new w #[.int .i64 k, .slice a l.length ca] 72
  have A := A.below ((Below.refl _ _).alloc (Nat.le_refl _) (.cells #[.int .i64 0, .slice none 0 0] 50)) A.lt
  have A := A.below ((Below.refl _ _).alloc (Nat.le_refl _) (.cells #[.int .i64 k, .slice none 0 0] 50)) A.lt
  have R := Blk.new (w.alloc (.cells #[.int .i64 k, .slice a l.length ca] 72)) #[.int .i64 0, .slice none 0 0] 50
  have R := R.below ((Below.refl _ _).alloc (Nat.le_refl _) (.cells #[.int .i64 k, .slice none 0 0] 50)) R.lt
  rw [show (w.alloc (.cells #[.int .i64 k, .slice a l.length ca] 72)).heap.size = w.heap.size + 1 from by simp [go_sem]] at R
  have O := Blk.new ((w.alloc (.cells #[.int .i64 k, .slice a l.length ca] 72)).alloc (.cells #[.int .i64 0, .slice none 0 0] 50)) #[.int .i64 k, .slice none 0 0] 50
  rw [show ((w.alloc (.cells #[.int .i64 k, .slice a l.length ca] 72)).alloc (.cells #[.int .i64 0, .slice none 0 0] 50)).heap.size = w.heap.size + 1 + 1 from by simp [go_sem]] at O
  have HV1 := hide (HV.out.below h3 (Nat.le_refl _))
  have HB1 := hide h3
  have ha := A.lt
  have hr := R.lt
  have ho := O.lt
  obtain ⟨b3, e3⟩ : ∃ b, b = w.heap.size + 1 + 1 := ⟨_, rfl⟩
  obtain ⟨b2, e2⟩ : ∃ b, b = w.heap.size + 1 := ⟨_, rfl⟩
  obtain ⟨b1, e1⟩ : ∃ b, b = w.heap.size := ⟨_, rfl⟩
  rw [← e3] at O ⊢
  rw [← e2] at R ⊢
  rw [← e1] at A ⊢
  have hb2 : w.heap.size ≤ b2 := by omega
  have hb3 : w.heap.size ≤ b3 := by omega
  have hn : b2 ≠ b3 := by omega
  clear h1 h2 h3 e1 e2 e3 HV ha hr ho
  generalize ((w.alloc (.cells #[.int .i64 k, .slice a l.length ca] 72)).alloc (.cells #[.int .i64 0, .slice none 0 0] 50)).alloc (.cells #[.int .i64 k, .slice none 0 0] 50) = wa at *
  have A1 := blk_free_cell A 1 rfl
  have la := A.lt
  have HC := hide (toItems_calls wa _ l HV1.out hl)
  have O1 := blk_free_cell O 1 rfl
  have Of := O.free 1
  have lo := O.lt
  go_wp2_with fail
  refine HC.out.mono ?_
  rintro e wb ⟨v', rfl, hown, hbb⟩
  obtain ⟨fp, hfp, hfb⟩ := items_owns hown
  obtain ⟨a', c', hsh⟩ := own_sh hown
  subst hsh
  have Ob := O.below hbb O.lt
  have Rb := R.below hbb R.lt
  have hr1 := R.lt
  have hfa : ∀ q ∈ fp, wa.heap.size ≤ q := hfb
  have HF := hide hfp
  have HFb := hide hfa
  have HBb := hide (HB1.out.trans (hbb.mono HB1.out.size))
  have sz1 := HB1.out.size
  clear hown hbb hfp hfb hfa A1 la HC O1 Of A HV1 HB1
  have o1 := blk_free_cell Ob 1 rfl
  have of1 := Ob.free 1
  have ol := Ob.lt
  go_upto_region 4 with fail
  have Oc := Ob.set 1 (.slice a' l.length c')
  have Rc' := Rb.other (p := ⟨b3, 1, none⟩) hn (.slice a' l.length c')
  have HFc := hide (HF.out.stay (W' := wb.setCell ⟨b3, 1, none⟩ (.slice a' l.length c')) (fun q hq => Below.heap_setCell _ _ _ _ (by have := HFb.out q hq; show q ≠ b3; omega)))
  have HBc := hide (HBb.out.setCell (p := ⟨b3, 1, none⟩) hb3 (.slice a' l.length c'))
  clear Ob Rb HF HBb o1 of1 ol O R
  generalize wb.setCell ⟨b3, 1, none⟩ (.slice a' l.length c') = wc at *
  have p0 := blk_free_cell Oc 0 rfl
  have p1 := blk_free_cell Oc 1 rfl
  have pl := Oc.lt
  have r0 := blk_free_cell Rc' 0 rfl
  have r1 := blk_free_cell Rc' 1 rfl
  have rf0 := Rc'.free 0
  have rf1 := Rc'.free 1
  have rl := Rc'.lt
  go_wp2_with fail
  have Rd := (Rc'.set 0 (.int .i64 k)).set 1 (.slice a' l.length c')
  have x0 := blk_free_cell Rd 0 rfl
  have x1 := blk_free_cell Rd 1 rfl
  refine bodyPost_ret (v := .agg #[.int .i64 k, .slice a' l.length c']) (by simp [results, Try.results37, go_sem, x0, x1]) rfl ⟨a', c', fp, rfl, ?_, fun q hq => by have := HFb.out q hq; omega, (HBc.out.setCell (p := ⟨b2, 0, none⟩) hb2 _).setCell (p := ⟨b2, 1, none⟩) hb2 _⟩
  refine Owns.stay (Owns.stay HFc.out (W' := wc.setCell ⟨b2, 0, none⟩ (.int .i64 k)) ?_) ?_
  · intro q hq
    exact Below.heap_setCell _ _ _ _ (by have := HFb.out q hq; show q ≠ b2; omega)
  · intro q hq
    exact Below.heap_setCell _ _ _ _ (by have := HFb.out q hq; show q ≠ b2; omega)
end Go.Proofs.Ytfckfgabeeeccaa.P9
