/- What chapter 11's law draws first: a ring some way on; in memory of its own.
What chapter 11's laws draw: a ring, turned or not, and an Id; in memory of their own.
What chapter 11's laws draw besides: a ring, turned or not, with two Ids; a ring that is new, or turned; in memory of their own. -/
import Derived.Test.YteladljgnbfcnaaGreatDoorZRL
import Derived.Test.YteladljgnbfcnaaGreatDoorZRD
namespace Go.Proofs.YteladljgnbfcnaaGreatDoor.P9
set_option maxRecDepth 8000
open Go.RowKit P1 P8 Da Ap Rr Rc Cu

set_option maxHeartbeats 2000000 in
theorem drawRing_calls (w : World) (a : Option Addr) (len cap : Nat) (hc : Cu.Code w.heap.size w (.slice a len cap) len) :
    Calls Tryz.prog 6 #[.slice a len cap] w fun e w' => ∃ v l fp, e = .returned (.agg #[v]) ∧ Owns w' v (peersD T0 l) fp ∧ (∀ q ∈ fp, w.heap.size ≤ q) ∧ RingD l ∧ Below w.heap.size w w' := by
  have hb1 := (Below.refl w.heap.size w).alloc (Nat.le_refl _) (.cells #[.slice none 0 0] 26)
  have A0 := Blk.new w #[.slice none 0 0] 26
  have HC1 := hide (code_at hc hb1)
  have HB1 := hide hb1
  clear hc hb1
  go_enter Tryz.func6, Tryz.ntmps6
  go_upto_region 1 with fail
  obtain ⟨s, es⟩ : ∃ s, s = w.heap.size := ⟨_, rfl⟩
  rw [← es] at A0 ⊢
  have HS : Hid (w.heap.size = s) := es.symm
  clear es
  generalize w.alloc (.cells #[.slice none 0 0] 26) = w1 at *
  go_wp2_with fail
  refine (new_calls w1 a len cap HC1.out).mono ?_
  rintro e w2 ⟨rfl, hc2, hb2⟩
  have HC2 := hide hc2
  have A2 := A0.below hb2 A0.lt
  have HB2 := hide (HB1.out.trans (hb2.mono HB1.out.size))
  have h1s := A0.lt
  clear hc2 hb2 A0
  obtain ⟨g0, eg0⟩ : ∃ g, g = w1.heap.size := ⟨_, rfl⟩
  rw [← eg0] at HC2 h1s ⊢
  have HG0 : Hid (w.heap.size ≤ g0) := by show _ ≤ _; have := HB1.out.size; omega
  clear eg0
  go_wp2_with fail
  refine (below_calls _ g0 w2 HC2.out 14 (by decide) (by decide)).mono ?_
  rintro e w3 ⟨most, hmost, rfl, hc3, hg3⟩
  have HC3 := hide hc3
  have A3 := Cu_blk A2 hg3 (by omega)
  have HB3 := hide (HB2.out.trans (below_of_grown hg3 HG0.out HB2.out.size))
  clear hc3 hg3 A2 HC2
  go_wp2_with fail
  refine (ring_calls _ g0 w3 HC3.out most (by omega)).mono ?_
  rintro e w4 ⟨v, l, fp, rfl, ho, hf, hr, hc4, hg4⟩
  obtain ⟨av, cv, hsh⟩ := peers_sl ho
  subst hsh
  have A4 := Cu_blk A3 hg4 (by omega)
  have HB4 := hide (HB3.out.trans (below_of_grown hg4 HG0.out HB3.out.size))
  have h3z := HB3.out.size
  have HO := hide ho
  have HF := hide hf
  have HR := hide hr
  have h3s := A3.lt
  clear hc4 hg4 A3 HC3 ho hf hr
  have z0 := blk_free_cell A4 0 rfl
  have zf := A4.free 0
  have zl := A4.lt
  go_wp2_with fail
  have Rd := A4.set 0 (.slice av l.length cv)
  have x0 := blk_free_cell Rd 0 rfl
  have hs := HS.out
  refine bodyPost_ret (v := .agg #[.slice av l.length cv]) (by simp [results, Tryz.results6, go_sem, x0]) rfl ⟨_, l, fp, rfl, owns_set (b := s) (i := 0) HO.out (fun q hq => by have := HF.out q hq; omega) _, fun q hq => by have := HF.out q hq; omega, HR.out, HB4.out.setCell (p := ⟨s, 0, none⟩) (by show _ ≤ s; omega) _⟩
end Go.Proofs.YteladljgnbfcnaaGreatDoor.P9
namespace Go.Proofs.YteladljgnbfcnaaGreatDoor.P9
set_option maxRecDepth 8000
open Go.RowKit P1 P8 Da Ap Rr Rc Cu

set_option maxHeartbeats 1000000 in
theorem drawSettle_calls (w : World) (a : Option Addr) (len cap : Nat) (hc : Cu.Code w.heap.size w (.slice a len cap) len) :
    Calls Tryz.prog 20 #[.slice a len cap] w fun e w' => ∃ v l id fp, e = .returned (.tuple #[.agg #[v], .int .i64 id]) ∧ Owns w' v (peersD T0 l) fp ∧ (∀ q ∈ fp, w.heap.size ≤ q) ∧ RingX l ∧ Below w.heap.size w w' := by
  have hb1 := (Below.refl w.heap.size w).alloc (Nat.le_refl _) (.cells #[.slice none 0 0] 26)
  have A0 := Blk.new w #[.slice none 0 0] 26
  have HC1 := hide (code_at hc hb1)
  have HB1 := hide hb1
  clear hc hb1
  go_enter Tryz.func20, Tryz.ntmps20
  go_upto_region 1 with fail
  obtain ⟨s, es⟩ : ∃ s, s = w.heap.size := ⟨_, rfl⟩
  rw [← es] at A0 ⊢
  have HS : Hid (w.heap.size = s) := es.symm
  clear es
  generalize w.alloc (.cells #[.slice none 0 0] 26) = w1 at *
  go_wp2_with fail
  refine (new_calls w1 a len cap HC1.out).mono ?_
  rintro e w2 ⟨rfl, hc2, hb2⟩
  have HC2 := hide hc2
  have A2 := A0.below hb2 A0.lt
  have HB2 := hide (HB1.out.trans (hb2.mono HB1.out.size))
  have h12 := hb2.size
  have h1s := A0.lt
  clear hc2 hb2 A0
  go_wp2_with fail
  refine (any_calls _ _ w2 HC2.out).mono ?_
  rintro e w3 ⟨v, l, id, fp, rfl, ho, hf, hr, hc3, hg3⟩
  obtain ⟨av, cv, hsh⟩ := peers_sl ho
  subst hsh
  have A3 := Cu_blk A2 hg3 (by omega)
  have HO := hide ho
  have HF := hide hf
  have HR := hide hr
  have HB3 := hide (HB2.out.trans (below_of_grown hg3 (by have := HS.out; have := HB1.out.size; omega) HB2.out.size))
  have z0 := blk_free_cell A3 0 rfl
  have zf := A3.free 0
  have zl := A3.lt
  clear ho hf hr hc3 hg3 A2 HC2
  go_wp2_with fail
  have Rd := A3.set 0 (.slice av l.length cv)
  have x0 := blk_free_cell Rd 0 rfl
  have hs := HS.out
  have h2z := HB2.out.size
  refine bodyPost_ret (v := .tuple #[.agg #[.slice av l.length cv], .int .i64 id]) (by simp [results, Tryz.results20, go_sem, x0]) rfl ⟨_, l, id, fp, rfl, owns_set (b := s) (i := 0) HO.out (fun q hq => by have := HF.out q hq; omega) _, fun q hq => by have := HF.out q hq; omega, HR.out, HB3.out.setCell (p := ⟨s, 0, none⟩) (by show _ ≤ s; omega) _⟩

set_option maxHeartbeats 1000000 in
theorem drawGone_calls (w : World) (a : Option Addr) (len cap : Nat) (hc : Cu.Code w.heap.size w (.slice a len cap) len) :
    Calls Tryz.prog 22 #[.slice a len cap] w fun e w' => ∃ v l id fp, e = .returned (.tuple #[.agg #[v], .int .i64 id]) ∧ Owns w' v (peersD T0 l) fp ∧ (∀ q ∈ fp, w.heap.size ≤ q) ∧ RingX l ∧ Below w.heap.size w w' := by
  have hb1 := (Below.refl w.heap.size w).alloc (Nat.le_refl _) (.cells #[.slice none 0 0] 26)
  have A0 := Blk.new w #[.slice none 0 0] 26
  have HC1 := hide (code_at hc hb1)
  have HB1 := hide hb1
  clear hc hb1
  go_enter Tryz.func22, Tryz.ntmps22
  go_upto_region 1 with fail
  obtain ⟨s, es⟩ : ∃ s, s = w.heap.size := ⟨_, rfl⟩
  rw [← es] at A0 ⊢
  have HS : Hid (w.heap.size = s) := es.symm
  clear es
  generalize w.alloc (.cells #[.slice none 0 0] 26) = w1 at *
  go_wp2_with fail
  refine (new_calls w1 a len cap HC1.out).mono ?_
  rintro e w2 ⟨rfl, hc2, hb2⟩
  have HC2 := hide hc2
  have A2 := A0.below hb2 A0.lt
  have HB2 := hide (HB1.out.trans (hb2.mono HB1.out.size))
  have h12 := hb2.size
  have h1s := A0.lt
  clear hc2 hb2 A0
  go_wp2_with fail
  refine (any_calls _ _ w2 HC2.out).mono ?_
  rintro e w3 ⟨v, l, id, fp, rfl, ho, hf, hr, hc3, hg3⟩
  obtain ⟨av, cv, hsh⟩ := peers_sl ho
  subst hsh
  have A3 := Cu_blk A2 hg3 (by omega)
  have HO := hide ho
  have HF := hide hf
  have HR := hide hr
  have HB3 := hide (HB2.out.trans (below_of_grown hg3 (by have := HS.out; have := HB1.out.size; omega) HB2.out.size))
  have z0 := blk_free_cell A3 0 rfl
  have zf := A3.free 0
  have zl := A3.lt
  clear ho hf hr hc3 hg3 A2 HC2
  go_wp2_with fail
  have Rd := A3.set 0 (.slice av l.length cv)
  have x0 := blk_free_cell Rd 0 rfl
  have hs := HS.out
  have h2z := HB2.out.size
  refine bodyPost_ret (v := .tuple #[.agg #[.slice av l.length cv], .int .i64 id]) (by simp [results, Tryz.results22, go_sem, x0]) rfl ⟨_, l, id, fp, rfl, owns_set (b := s) (i := 0) HO.out (fun q hq => by have := HF.out q hq; omega) _, fun q hq => by have := HF.out q hq; omega, HR.out, HB3.out.setCell (p := ⟨s, 0, none⟩) (by show _ ≤ s; omega) _⟩

end Go.Proofs.YteladljgnbfcnaaGreatDoor.P9
namespace Go.Proofs.YteladljgnbfcnaaGreatDoor.P9
set_option maxRecDepth 8000
open Go.RowKit P1 P8 Da Ap Rr Rc Cu

set_option maxHeartbeats 4000000 in
theorem drawJoined_calls (w : World) (a : Option Addr) (len cap : Nat) (hc : Cu.Code w.heap.size w (.slice a len cap) len) :
    Calls Tryz.prog 18 #[.slice a len cap] w fun e w' => ∃ v l id by_ fp, e = .returned (.tuple #[.agg #[v], .int .i64 id, .int .i64 by_]) ∧ Owns w' v (peersD T0 l) fp ∧ (∀ q ∈ fp, w.heap.size ≤ q) ∧ RingX l ∧ Below w.heap.size w w' := by
  have hb1 := (Below.refl w.heap.size w).alloc (Nat.le_refl _) (.cells #[.slice none 0 0] 26)
  have A0 := Blk.new w #[.slice none 0 0] 26
  have HC1 := hide (code_at hc hb1)
  have HB1 := hide hb1
  clear hc hb1
  go_enter Tryz.func18, Tryz.ntmps18
  go_upto_region 1 with fail
  obtain ⟨s, es⟩ : ∃ s, s = w.heap.size := ⟨_, rfl⟩
  rw [← es] at A0 ⊢
  have HS : Hid (w.heap.size = s) := es.symm
  clear es
  generalize w.alloc (.cells #[.slice none 0 0] 26) = w1 at *
  go_wp2_with fail
  refine (new_calls w1 a len cap HC1.out).mono ?_
  rintro e w2 ⟨rfl, hc2, hb2⟩
  have HC2 := hide hc2
  have A2 := A0.below hb2 A0.lt
  have HB2 := hide (HB1.out.trans (hb2.mono HB1.out.size))
  have h12 := hb2.size
  have h1s := A0.lt
  clear hc2 hb2 A0
  obtain ⟨g0, eg0⟩ : ∃ g, g = w1.heap.size := ⟨_, rfl⟩
  rw [← eg0] at HC2 h1s ⊢
  have HG0 : Hid (w.heap.size ≤ g0) := by show _ ≤ _; have := HB1.out.size; omega
  clear eg0 h12
  go_wp2_with fail
  refine (below_calls _ _ w2 HC2.out 5 (by decide) (by decide)).mono ?_
  rintro e w3 ⟨y, hy, rfl, hc3, hg3⟩
  have HC3 := hide hc3
  have A3 := Cu_blk A2 hg3 (by omega)
  have HB3 := hide (HB2.out.trans (below_of_grown hg3 HG0.out HB2.out.size))
  clear hc3 hg3 A2 HC2 HB2
  go_wp2_with fail
  refine (any_calls _ _ w3 HC3.out).mono ?_
  rintro e w4 ⟨v, l, id, fp, rfl, ho, hf, hr, hc4, hg4⟩
  obtain ⟨gp, cp, hsh⟩ := peers_shape ho (by have := hr.least; omega)
  subst hsh
  have A4 := Cu_blk A3 hg4 (by omega)
  have HB4 := hide (HB3.out.trans (below_of_grown hg4 HG0.out HB3.out.size))
  have h3z := HB3.out.size
  have h3s := A3.lt
  clear hc4 hg4 A3 HC3
  go_upto_region 4 with fail
  have YB := Blk.new w4 #[.slice (some ⟨gp, 0, none⟩) l.length cp] 26
  have hba := (Below.refl w4.heap.size w4).alloc (Nat.le_refl _) (.cells #[.slice (some ⟨gp, 0, none⟩) l.length cp] 26)
  have A5 := A4.below hba A4.lt
  have HO5 := hide (owns_below ho hba)
  have HB5 := hide (HB4.out.trans (hba.mono HB4.out.size))
  have HF := hide hf
  have HR := hide hr
  obtain ⟨br, ebr⟩ : ∃ b, b = w4.heap.size := ⟨_, rfl⟩
  rw [← ebr] at YB ⊢
  have hsbr : s < br := by have := A4.lt; omega
  clear ebr hba ho hf hr A4 HB4
  generalize w4.alloc (.cells #[.slice (some ⟨gp, 0, none⟩) l.length cp] 26) = w5 at *
  have hl3 := HR.out.least
  have hl8 := HR.out.most
  have hi : y % l.length < l.length := Nat.mod_lt _ (by omega)
  have ei : ((y : Int) % (l.length : Int)) = ((y % l.length : Nat) : Int) := by simp
  obtain ⟨u3, u4, u5, hcl⟩ := cells_of_peer ⟨T0, HO5.out.reads⟩ hi
  have hgl := (peer_cell HO5.out hi (j := 0) (by decide)).2.2.1
  have hid := hcl.id
  clear hcl
  generalize l[y % l.length].id = by_ at *
  obtain ⟨i, hei⟩ : ∃ i, i = y % l.length := ⟨_, rfl⟩
  have hi' : i < l.length := by omega
  rw [← hei] at ei hid
  clear hi hei
  have n0 : ∀ p : Near w5.heap.size w5, p.w.cell? ⟨br, 0, none⟩ = some (.slice (some ⟨gp, 0, none⟩) l.length cp) := fun p => blk_free_cell (YB.below p.h YB.lt) 0 rfl
  have k0 : ∀ p : Near w5.heap.size w5, p.w.cell? ⟨gp, i * 6, none⟩ = some (.int .i64 by_) := fun p => (p.h.cell (p := ⟨gp, i * 6, none⟩) hgl).trans hid
  have hnn := Near.some w5.heap.size w5
  refine wp_region_open (fun wd => ∃ p : Near w5.heap.size w5, wd = p.w) ⟨⟨_, (Below.refl _ _).drew⟩, rfl⟩ (by kernel_rfl) ?_
  rintro wd ⟨pd, rfl⟩
  refine wpAny_of_K (c := 10) (D := fun w' => ∃ p : Near w5.heap.size w5, w' = p.w) _ _ _ _ ?_
  refine wpAnyK_seg_lit4 0 7 8 4 rfl (by decide) (by decide) (by kernel_rfl) (by kernel_rfl) (by kernel_rfl) (by kernel_rfl) (fun _ _ _ _ _ h => h) ⟨pd, rfl⟩ ?_
  simp only [List.take_succ_cons, List.take_zero, List.drop_zero]
  repeat (go_big_quiet_step (fail))
  refine wpQuiet_nil ?_
  rw [ei]
  refine wpAnyK_seg_lit4 7 3 8 1 rfl (by decide) (by decide) (by kernel_rfl) (by kernel_rfl) (by kernel_rfl) (by kernel_rfl) (fun _ _ _ _ _ h => h) ⟨pd, rfl⟩ ?_
  simp only [List.take_succ_cons, List.take_zero, List.drop_succ_cons, List.drop_zero]
  repeat (go_big_quiet_step (fail))
  refine wpQuiet_nil ?_
  refine wpAnyK_last (by kernel_rfl) (by decide) ?_
  refine wpAny_rest 10 rfl (by kernel_rfl) ?_
  simp only [List.drop_succ_cons, List.drop_zero]
  clear k0 n0 hnn ei hid hgl
  have D1 := A5.below pd.h A5.lt
  have Y1 := YB.below pd.h YB.lt
  have z0 := blk_free_cell D1 0 rfl
  have zf := D1.free 0
  have zl := D1.lt
  have y0 := blk_free_cell Y1 0 rfl
  have yl := Y1.lt
  have HOp := hide (owns_below HO5.out pd.h)
  have HBp := hide (HB5.out.trans (pd.h.mono HB5.out.size))
  clear hi' hl3 hl8
  go_wp2_with fail
  have Rd := D1.set 0 (.slice (some ⟨gp, 0, none⟩) l.length cp)
  have x0 := blk_free_cell Rd 0 rfl
  have hs := HS.out
  refine bodyPost_ret (v := .tuple #[.agg #[.slice (some ⟨gp, 0, none⟩) l.length cp], .int .i64 id, .int .i64 by_]) (by simp [results, Tryz.results18, go_sem, x0]) rfl ⟨_, ⟨id, by_, rfl⟩, l, fp, owns_set (b := s) (i := 0) HOp.out (fun q hq => by have := HF.out q hq; omega) _, fun q hq => by have := HF.out q hq; omega, HR.out, HBp.out.setCell (p := ⟨s, 0, none⟩) (by show _ ≤ s; omega) _⟩

set_option maxHeartbeats 4000000 in
theorem drawIdeal_calls (w : World) (a : Option Addr) (len cap : Nat) (hc : Cu.Code w.heap.size w (.slice a len cap) len) :
    Calls Tryz.prog 25 #[.slice a len cap] w fun e w' => ∃ v l fp, e = .returned (.agg #[v]) ∧ Owns w' v (peersD T0 l) fp ∧ (∀ q ∈ fp, w.heap.size ≤ q) ∧ RingX l ∧ Below w.heap.size w w' := by
  have hb1 := (Below.refl w.heap.size w).alloc (Nat.le_refl _) (.cells #[.slice none 0 0] 26)
  have A0 := Blk.new w #[.slice none 0 0] 26
  have HC1 := hide (code_at hc hb1)
  have HB1 := hide hb1
  clear hc hb1
  go_enter Tryz.func25, Tryz.ntmps25
  go_upto_region 1 with fail
  obtain ⟨s, es⟩ : ∃ s, s = w.heap.size := ⟨_, rfl⟩
  rw [← es] at A0 ⊢
  have HS : Hid (w.heap.size = s) := es.symm
  clear es
  generalize w.alloc (.cells #[.slice none 0 0] 26) = w1 at *
  go_wp2_with fail
  refine (new_calls w1 a len cap HC1.out).mono ?_
  rintro e w2 ⟨rfl, hc2, hb2⟩
  have HC2 := hide hc2
  have A2 := A0.below hb2 A0.lt
  have HB2 := hide (HB1.out.trans (hb2.mono HB1.out.size))
  have h1s := A0.lt
  clear hc2 hb2 A0
  obtain ⟨g0, eg0⟩ : ∃ g, g = w1.heap.size := ⟨_, rfl⟩
  rw [← eg0] at HC2 h1s ⊢
  have HG0 : Hid (w.heap.size ≤ g0) := by show _ ≤ _; have := HB1.out.size; omega
  clear eg0
  go_wp2_with fail
  refine (below_calls _ _ w2 HC2.out 3 (by decide) (by decide)).mono ?_
  rintro e w3 ⟨y, hy, rfl, hc3, hg3⟩
  have HC3 := hide hc3
  have A3 := Cu_blk A2 hg3 (by omega)
  have HB3 := hide (HB2.out.trans (below_of_grown hg3 HG0.out HB2.out.size))
  clear hc3 hg3 A2 HC2 HB2
  go_wp2_with fail
  refine (any_calls _ _ w3 HC3.out).mono ?_
  rintro e w4 ⟨v, l, id, fp, rfl, ho, hf, hr, hc4, hg4⟩
  obtain ⟨av, cv, hsh⟩ := peers_sl ho
  subst hsh
  have A4 := Cu_blk A3 hg4 (by omega)
  have HB4 := hide (HB3.out.trans (below_of_grown hg4 HG0.out HB3.out.size))
  have h3z := HB3.out.size
  have h3s := A3.lt
  have hgw4 := hc4.2.1
  clear hg4 A3 HC3
  go_upto_region 4 with fail
  have YB := Blk.new w4 #[.slice av l.length cv] 26
  have hba := (Below.refl w4.heap.size w4).alloc (Nat.le_refl _) (.cells #[.slice av l.length cv] 26)
  have A5 := A4.below hba A4.lt
  have HO5 := hide (owns_below ho hba)
  have HB5 := hide (HB4.out.trans (hba.mono HB4.out.size))
  have HC5 := hide (cur_below hc4 hba hgw4)
  have HF := hide hf
  have HR := hide hr
  have hsb := A4.lt
  clear ho hf hr A4 hba HB4 hc4
  have y0 := blk_free_cell YB 0 rfl
  have yl := YB.lt
  obtain ⟨br, ebr⟩ : ∃ b, b = w4.heap.size := ⟨_, rfl⟩
  rw [← ebr] at y0 yl hsb ⊢
  clear ebr YB
  generalize w4.alloc (.cells #[.slice av l.length cv] 26) = w5 at *
  by_cases hk : y = 0
  · have hkd : ((y : Int) == 0) = true := by simpa using hk
    clear hk y0 yl HO5 HF HR
    go_wp2_with fail
    refine (start_calls _ g0 w5 HC5.out).mono ?_
    rintro e w6 ⟨vs, ls, hls, rfl, hos, hc6, hg6⟩
    have HB6 := hide (HB5.out.trans (below_of_grown hg6 HG0.out HB5.out.size))
    have A6 := Cu_blk A5 hg6 (by omega)
    have HRN := hide (specRingNew_calls w6 vs ls (IntsAt.of_own hos) (Nat.le_trans (starts_len ls hls) (by decide)))
    have HRD := hide (starts_ring ls hls)
    clear hc6 hg6 A5 HC5 hos hls
    go_wp2_with fail
    refine HRN.out.mono ?_
    rintro e w7 ⟨v7, f7, rfl, ho, hfp, hb7⟩
    obtain ⟨a7, c7, hsh⟩ := peers_sl ho
    subst hsh
    have A7 := A6.below hb7 A6.lt
    have HB7 := hide (HB6.out.trans (hb7.mono HB6.out.size))
    have h6s := A6.lt
    have h6z := HB6.out.size
    have HO := hide ho
    have HF := hide hfp
    clear HRN ho hfp hb7 A6
    generalize ringNew ls = m at *
    have z0 := blk_free_cell A7 0 rfl
    have zf := A7.free 0
    have zl := A7.lt
    go_wp2_with fail
    have Rd := A7.set 0 (.slice a7 m.length c7)
    have x0 := blk_free_cell Rd 0 rfl
    have hs := HS.out
    refine bodyPost_ret (v := .agg #[.slice a7 m.length c7]) (by simp [results, Tryz.results25, go_sem, x0]) rfl ⟨_, m, f7, rfl, owns_set (b := s) (i := 0) HO.out (fun q hq => by have := HF.out q hq; omega) _, fun q hq => by have := HF.out q hq; omega, HRD.out.x, HB7.out.setCell (p := ⟨s, 0, none⟩) (by show _ ≤ s; omega) _⟩
  · have hkd : ((y : Int) == 0) = false := by simpa using hk
    have z0 := blk_free_cell A5 0 rfl
    have zf := A5.free 0
    have zl := A5.lt
    clear hk HC5
    go_wp2_with fail
    have Rd := A5.set 0 (.slice av l.length cv)
    have x0 := blk_free_cell Rd 0 rfl
    have hs := HS.out
    refine bodyPost_ret (v := .agg #[.slice av l.length cv]) (by simp [results, Tryz.results25, go_sem, x0]) rfl ⟨_, l, fp, rfl, owns_set (b := s) (i := 0) HO5.out (fun q hq => by have := HF.out q hq; omega) _, fun q hq => by have := HF.out q hq; omega, HR.out, HB5.out.setCell (p := ⟨s, 0, none⟩) (by show _ ≤ s; omega) _⟩
end Go.Proofs.YteladljgnbfcnaaGreatDoor.P9
