/- The laws' toRing: a copy in memory of its own; condition: lists of at most 2^20. -/
import Derived.Test.YthkdgnohkdedpaaRgF
namespace Go.Proofs.Ythkdgnohkdedpaa.P9
set_option maxRecDepth 8000
open Go.RowKit P1 P8 Da Rr

set_option maxHeartbeats 1000000 in
theorem toRing_calls (w : World) (v : Value) (l : List Pr) (hv : PeersAt w v l) (hl : l.length ≤ 1048576) (hs0 : ∀ x ∈ l, Small x) :
    Calls Try.prog 32 #[.agg #[v]] w fun e w' => ∃ a c fp, e = .returned (.agg #[.slice a l.length c]) ∧ Owns w' (.slice a l.length c) (peersD T0 l) fp ∧ (∀ q ∈ fp, w.heap.size ≤ q) ∧ Below w.heap.size w w' := by
  have HV := hide hv
  obtain ⟨a, ca, rfl, -⟩ := hv.open_
  have HSM := hide hs0
  clear hv hs0
  go_enter Try.func32, Try.ntmps32
  go_upto_region 2 with fail
  have h1 := (Below.refl w.heap.size w).alloc (Nat.le_refl _) (.cells #[.slice a l.length ca] 39)
  have h2 := h1.alloc h1.size (.cells #[.slice none 0 0] 44)
  have h3 := h2.alloc h2.size (.cells #[.slice none 0 0] 44)
  have A := Blk.new w #[.slice a l.length ca] 39
  have A := A.below ((Below.refl _ _).alloc (Nat.le_refl _) (.cells #[.slice none 0 0] 44)) A.lt
  have A := A.below ((Below.refl _ _).alloc (Nat.le_refl _) (.cells #[.slice none 0 0] 44)) A.lt
  have R := Blk.new (w.alloc (.cells #[.slice a l.length ca] 39)) #[.slice none 0 0] 44
  have R := R.below ((Below.refl _ _).alloc (Nat.le_refl _) (.cells #[.slice none 0 0] 44)) R.lt
  rw [show (w.alloc (.cells #[.slice a l.length ca] 39)).heap.size = w.heap.size + 1 from by simp [go_sem]] at R
  have O := Blk.new ((w.alloc (.cells #[.slice a l.length ca] 39)).alloc (.cells #[.slice none 0 0] 44)) #[.slice none 0 0] 44
  rw [show ((w.alloc (.cells #[.slice a l.length ca] 39)).alloc (.cells #[.slice none 0 0] 44)).heap.size = w.heap.size + 1 + 1 from by simp [go_sem]] at O
  have HV1 := hide (HV.out.below h3 (Nat.le_refl _))
  have HB1 := hide h3
  obtain ⟨b3, e3⟩ : ∃ b, b = w.heap.size + 1 + 1 := ⟨_, rfl⟩
  obtain ⟨b2, e2⟩ : ∃ b, b = w.heap.size + 1 := ⟨_, rfl⟩
  obtain ⟨b1, e1⟩ : ∃ b, b = w.heap.size := ⟨_, rfl⟩
  rw [← e3] at O ⊢
  rw [← e2] at R ⊢
  rw [← e1] at A ⊢
  have hb2 : w.heap.size ≤ b2 := by omega
  have hb3 : w.heap.size ≤ b3 := by omega
  have hn : b2 ≠ b3 := by omega
  clear h1 h2 h3 e1 e2 e3 HV
  generalize ((w.alloc (.cells #[.slice a l.length ca] 39)).alloc (.cells #[.slice none 0 0] 44)).alloc (.cells #[.slice none 0 0] 44) = wa at *
  have A1 := blk_free_cell A 0 rfl
  have la := A.lt
  have HC := hide (toPeers_calls wa _ l HV1.out hl HSM.out)
  have O1 := blk_free_cell O 0 rfl
  have Of := O.free 0
  have lo := O.lt
  go_wp2_with fail
  refine HC.out.mono ?_
  rintro e wb ⟨a', c', fp, rfl, hfp, hfb, hbb⟩
  have Ob := O.below hbb O.lt
  have Rb := R.below hbb R.lt
  have hr1 := R.lt
  have HF := hide hfp
  have HFb := hide hfb
  have HBb := hide (HB1.out.trans (hbb.mono HB1.out.size))
  have sz1 := HB1.out.size
  clear hbb hfp hfb A1 la HC O1 Of A HV1 HB1
  have o1 := blk_free_cell Ob 0 rfl
  have of1 := Ob.free 0
  have ol := Ob.lt
  go_upto_region 3 with fail
  have Oc := Ob.set 0 (.slice a' l.length c')
  have Rc' := Rb.other (p := ⟨b3, 0, none⟩) hn (.slice a' l.length c')
  have HFc := hide (owns_set HF.out (b := b3) (i := 0) (fun q hq => by have := HFb.out q hq; omega) (.slice a' l.length c'))
  have HBc := hide (HBb.out.setCell (p := ⟨b3, 0, none⟩) hb3 (.slice a' l.length c'))
  clear Ob Rb HF HBb o1 of1 ol O R
  generalize wb.setCell ⟨b3, 0, none⟩ (.slice a' l.length c') = wc at *
  have p0 := blk_free_cell Oc 0 rfl
  have pl := Oc.lt
  have r0 := blk_free_cell Rc' 0 rfl
  have rf0 := Rc'.free 0
  have rl := Rc'.lt
  go_wp2_with fail
  have Rd := Rc'.set 0 (.slice a' l.length c')
  have x0 := blk_free_cell Rd 0 rfl
  refine bodyPost_ret (v := .agg #[.slice a' l.length c']) (by simp [results, Try.results32, go_sem, x0]) rfl ⟨a', c', fp, rfl, owns_set HFc.out (b := b2) (i := 0) (fun q hq => by have := HFb.out q hq; omega) _, fun q hq => by have := HFb.out q hq; omega, HBc.out.setCell (p := ⟨b2, 0, none⟩) hb2 _⟩
end Go.Proofs.Ythkdgnohkdedpaa.P9
