/- What the draws of rings want: a drawn Bool, a text picked out of a list that lies somewhere, the rings that are begun with; no condition.
A ring that is drawn, step by step: what holds between two steps; no condition.
The draw of a ring: some ring of at least four and at most eight peers, of Ids of their own on the ring, short, in memory of its own.
The beginning of an owned row; one datum of it that was written and is put back; no condition.
A drawn ring that is turned in one place: what holds behind it; no condition.
The draw of any ring, right or not: some ring of at least three and at most eight peers, of Ids of their own on the ring, short, in memory of its own.
What chapter 9's laws draw: a ring and an Id, a peer, a list of Ids; in memory of their own. -/
import Derived.Test.YteladljgnbfcnaaGreatZRK
import Derived.Test.YteladljgnbfcnaaGreatZRD
import Derived.Test.YteladljgnbfcnaaGreatZRA
import Derived.Test.YteladljgnbfcnaaGreatZJ
namespace Go.Proofs.YteladljgnbfcnaaGreat.P9
set_option maxRecDepth 8000
open Go.RowKit P1 P8 Da Ap Rr Rc Cu

theorem onceD_calls (B g : Nat) (w : World) (hc : Cur B w g) (n : Nat) (hn : 0 < n) (hm : n ≤ 256) :
    Calls Tryz.prog 76 #[.pointer (some ⟨g, 0, none⟩), .int .i64 n] w fun e w' => ∃ b : Bool, e = .returned (.bool b) ∧ Cur B w' g ∧ w.grownBy w' (some g) := by
  have HC := hide hc
  clear hc
  go_enter Tryz.func76, Tryz.ntmps76
  go_wp2_with fail
  refine (below_calls B g _ HC.out n hn (by omega)).mono ?_
  rintro e w2 ⟨x, hx, rfl, hc2, hg2⟩
  have HC2 := hide hc2
  have HG2 := hide hg2
  clear hc2 hg2
  go_wp2_with fail
  go_ret
  exact ⟨_, rfl, HC2.out, HG2.out⟩

set_option maxHeartbeats 400000 in
theorem pickAt_calls (B g gl : Nat) (w1 : World) (hc : Cur B w1 g) (l : List (List UInt8)) (hl0 : 0 < l.length) (hl : l.length ≤ 65536) (n : Nat) (hn : n = l.length) (hcell : ∀ j (hj : j < l.length), w1.cell? ⟨gl, j, none⟩ = some (.string ⟨(l[j]).toArray⟩)) (hglt : gl < w1.heap.size) (hne : gl ≠ g) :
    Calls Tryz.prog 75 #[.pointer (some ⟨g, 0, none⟩), .slice (some ⟨gl, 0, none⟩) n n] w1 fun e w' => PickS B g l w1 e w' := by
  have HC := hide hc
  have HCell := hide hcell
  clear hc hcell
  subst hn
  go_enter Tryz.func75, Tryz.ntmps75
  go_wp2_with fail
  refine (below_calls B g _ HC.out l.length hl0 (by omega)).mono ?_
  rintro e w2 ⟨x, hx, rfl, hc2, hg2⟩
  have hcx := HCell.out x hx
  have hcx2 : w2.cell? ⟨gl, x, none⟩ = some (.string ⟨(l[x]).toArray⟩) := by
    rw [World.cell?_of_block (w := w1) (hg2.block gl hglt (by intro h; cases h; exact hne rfl))]
    exact hcx
  have hmem : l[x] ∈ l := List.getElem_mem _
  have HC2 := hide hc2
  have HG2 := hide hg2
  obtain ⟨z, Ez⟩ : ∃ z, Hid (z = l[x]) := ⟨_, hide rfl⟩
  rw [← Ez.out] at hcx2 hmem
  have HME := hide hmem
  clear hc2 hg2 hcx hmem Ez
  go_wp2
  go_ret
  exact ⟨z, HME.out, rfl, HC2.out, HG2.out⟩

def tinyB (p : Pr) : Bool := decide (p.behind.length ≤ 8) && decide (p.fingers.length ≤ 8) && p.shelves.isEmpty

theorem tinyB_tiny {p : Pr} (h : tinyB p = true) : Tiny p := by
  unfold tinyB at h
  simp only [Bool.and_eq_true, decide_eq_true_eq, List.isEmpty_iff] at h
  exact ⟨Nat.le_trans h.1.1 (by decide), Nat.le_trans h.1.2 (by decide), by rw [h.2]; exact Nat.zero_le _, fun x hx => by rw [h.2] at hx; cases hx⟩

def ringB (l : List Pr) : Bool := decide (4 ≤ l.length) && decide (l.length ≤ 8) && l.all tinyB && (idsOf l).all onR && decide (idsOf l).Nodup && ringOk l

theorem ringB_ring {l : List Pr} (h : ringB l = true) : RingD l := by
  unfold ringB at h
  simp only [Bool.and_eq_true, decide_eq_true_eq] at h
  obtain ⟨⟨⟨⟨⟨h1, h2⟩, h3⟩, h4⟩, h5⟩, h6⟩ := h
  exact ⟨h1, h2, fun p hp => tinyB_tiny (List.all_eq_true.1 h3 p hp), fun x hx => List.all_eq_true.1 h4 x hx, h5, (rok_iff l).1 h6⟩

theorem starts_ring : ∀ l ∈ starts, RingD (ringNew l) := by
  intro l hl
  simp only [starts, List.mem_cons, List.not_mem_nil, or_false] at hl
  rcases hl with rfl | rfl | rfl | rfl | rfl <;> exact ringB_ring (by decide +kernel)

theorem starts_len : ∀ l ∈ starts, l.length ≤ 8 := by
  intro l hl
  simp only [starts, List.mem_cons, List.not_mem_nil, or_false] at hl
  rcases hl with rfl | rfl | rfl | rfl | rfl <;> decide

theorem only_of_grown {w w' : World} {g : Nat} (h : w.grownBy w' (some g)) : Only [g] w w' :=
  ⟨h.os, h.tape, h.output, h.size, fun q hq hn => h.block q hq (fun e => hn (by cases e; simp))⟩

theorem cell_of_id {W : World} {g n c i : Nat} {l : List Pr} {fp : List Nat} (h : Owns W (.slice (some ⟨g, 0, none⟩) n c) (peersD T0 l) fp) (hi : i < l.length) : W.cell? ⟨g, i * 6, none⟩ = some (.int .i64 l[i].id) := by
  obtain ⟨u3, u4, u5, hc⟩ := cells_of_peer ⟨T0, h.reads⟩ hi
  exact hc.id

/-- The three texts of the draws. -/
def threeTexts : List (List UInt8) := [[97], [98], [99]]

theorem threeTexts_le (x : List UInt8) (h : x ∈ threeTexts) : x.length ≤ 600 := by
  simp only [threeTexts, List.mem_cons, List.not_mem_nil, or_false] at h
  rcases h with rfl | rfl | rfl <;> decide

theorem item_lit (w : World) (x : List UInt8) (b : Bool) : ItemsAt (w.alloc (.cells #[.string ⟨x.toArray⟩, .bool b] 86)) (.slice (some ⟨w.heap.size, 0, none⟩) 1 1) [⟨x, b⟩] := by
  have h : (w.alloc (.cells #[.string ⟨x.toArray⟩, .bool b] 86)).ownsRow w.heap.size 86 2 (.slice (some ⟨w.heap.size, 0, none⟩) 1 1) ([⟨x, b⟩] : List It).length (cellsT [⟨x, b⟩]) :=
    World.ownsRow_lit (base := w.heap.size) (e := 86) (size := 2) w #[.string ⟨x.toArray⟩, .bool b] 1 (Nat.le_refl _) (by decide) rfl
  obtain ⟨f, h1, -⟩ := items_owned h
  exact ⟨T0, h1.reads⟩
end Go.Proofs.YteladljgnbfcnaaGreat.P9
namespace Go.Proofs.YteladljgnbfcnaaGreat.P9
open Go.RowKit P1 P8 Da Ap Rr Rc Cu

/-- The ring l lies in block br, the result's block s is as it was made, the cursor's is g. -/
structure RS (B g s br : Nat) (w wr : World) (v : Value) (l : List Pr) (fp : List Nat) : Prop where
  gs : g < w.heap.size
  ws : w.heap.size ≤ s
  sb : s < br
  blk : Blk wr br [v] 28
  res : Blk wr s [.slice none 0 0] 28
  own : Owns wr v (peersD T0 l) fp
  apart : ∀ q ∈ fp, w.heap.size ≤ q ∧ q ≠ br ∧ q ≠ s
  ring : RingD l
  cur : Cur B wr g
  grown : w.grownBy wr (some g)

theorem RS.draw {B g s br : Nat} {w wr w' : World} {v : Value} {l : List Pr} {fp : List Nat} (h : RS B g s br w wr v l fp) (hc : Cur B w' g) (hg : wr.grownBy w' (some g)) : RS B g s br w w' v l fp :=
  ⟨h.gs, h.ws, h.sb, Cu_blk h.blk hg (by have := h.gs; have := h.ws; have := h.sb; omega), Cu_blk h.res hg (by have := h.gs; have := h.ws; omega),
    h.own.stay (fun q hq => hg.block q (h.own.lt q hq) (fun e => by have := (h.apart q hq).1; have := h.gs; cases e; omega)), h.apart, h.ring, hc, grown_trans h.grown hg⟩

theorem RS.below {B g s br : Nat} {w wr w' : World} {v : Value} {l : List Pr} {fp : List Nat} (h : RS B g s br w wr v l fp) (hb : Below wr.heap.size wr w') : RS B g s br w w' v l fp :=
  ⟨h.gs, h.ws, h.sb, h.blk.below hb h.blk.lt, h.res.below hb h.res.lt, owns_below h.own hb, h.apart, h.ring, cur_below h.cur hb h.cur.2.1, grown_more h.grown hb h.grown.size⟩

theorem RS.put {B g s br : Nat} {w wr w' : World} {v v' : Value} {l l' : List Pr} {fp fp' : List Nat} (h : RS B g s br w wr v l fp) (hb : Below wr.heap.size wr w') (ho : Owns w' v' (peersD T0 l') fp') (hf : ∀ q ∈ fp', wr.heap.size ≤ q) (hr : RingD l') :
    RS B g s br w (w'.setCell ⟨br, 0, none⟩ v') v' l' fp' := by
  have h1 := h.below hb
  have hbl := h.blk.lt
  have hsl := h.res.lt
  have hwz := h.grown.size
  have hne : g ≠ br := by have := h.gs; have := h.ws; have := h.sb; omega
  have hap : ∀ q ∈ fp', w.heap.size ≤ q ∧ q ≠ br ∧ q ≠ s := fun q hq => by
    have := hf q hq
    exact ⟨by omega, by omega, by omega⟩
  have hbw : Below w.heap.size w' (w'.setCell ⟨br, 0, none⟩ v') := by
    have := (Below.refl w.heap.size w').setCell (p := ⟨br, 0, none⟩) (by show w.heap.size ≤ br; have := h.ws; have := h.sb; omega) v'
    exact this
  refine ⟨h.gs, h.ws, h.sb, ?_, ?_, owns_set (b := br) (i := 0) ho (fun q hq => (hap q hq).2.1) v', hap, hr, cur_below h1.cur hbw h.gs, grown_more h1.grown hbw (Nat.le_refl _)⟩
  · exact h1.blk.set 0 v'
  · exact h1.res.other (p := ⟨br, 0, none⟩) (by have := h.sb; show s ≠ br; omega) v'

theorem RS.peers {B g s br : Nat} {w wr : World} {v : Value} {l : List Pr} {fp : List Nat} (h : RS B g s br w wr v l fp) : PeersAt wr v l := ⟨T0, h.own.reads⟩
end Go.Proofs.YteladljgnbfcnaaGreat.P9
namespace Go.Proofs.YteladljgnbfcnaaGreat.P9
set_option maxRecDepth 8000
open Go.RowKit P1 P8 Da Ap Rr Rc Cu

set_option maxRecDepth 100000 in
set_option maxHeartbeats 8000000 in
theorem ring_calls (B g : Nat) (w : World) (hc : Cur B w g) (most : Nat) (hm : most ≤ 1000) :
    Calls Tryz.prog 60 #[.pointer (some ⟨g, 0, none⟩), .int .i64 most] w fun e w' => ∃ v l fp, e = .returned (.agg #[v]) ∧ Owns w' v (peersD T0 l) fp ∧ (∀ q ∈ fp, w.heap.size ≤ q) ∧ RingD l ∧ Cur B w' g ∧ w.grownBy w' (some g) := by
  have hgw := hc.2.1
  have hb1 := (Below.refl w.heap.size w).alloc (Nat.le_refl _) (.cells #[.slice none 0 0] 28)
  have A0 := Blk.new w #[.slice none 0 0] 28
  have HC1 := hide (cur_below hc hb1 hgw)
  have HG1 := hide (grown_more (grown_refl w (some g)) hb1 (Nat.le_refl _))
  clear hc hb1
  go_enter Tryz.func60, Tryz.ntmps60
  go_upto_region 1 with fail
  obtain ⟨s, es⟩ : ∃ s, s = w.heap.size := ⟨_, rfl⟩
  rw [← es] at A0 ⊢
  have HS : Hid (w.heap.size = s) := es.symm
  have hgs : g < s := by omega
  clear es
  generalize w.alloc (.cells #[.slice none 0 0] 28) = w1 at *
  go_wp2_with fail
  refine (start_calls B g w1 HC1.out).mono ?_
  rintro e w2 ⟨vs, ls, hls, rfl, hos, hc2, hg2⟩
  have HC2 := hide hc2
  have HG2 := hide (grown_trans HG1.out hg2)
  have A2 := Cu_blk A0 hg2 (by omega)
  have HRN := hide (specRingNew_calls w2 vs ls (IntsAt.of_own hos) (Nat.le_trans (starts_len ls hls) (by decide)))
  have HRD := hide (starts_ring ls hls)
  clear hc2 hg2 A0 HC1 HG1 hos hls
  go_wp2_with fail
  refine HRN.out.mono ?_
  rintro e w3 ⟨v, fp, rfl, ho, hfp, hb3⟩
  obtain ⟨av, cv, hsh⟩ := peers_sl ho
  subst hsh
  clear HRN
  go_upto_region 2 with fail
  have hba := (Below.refl w3.heap.size w3).alloc (Nat.le_refl _) (.cells #[.slice av (ringNew ls).length cv] 28)
  have hb24 := hb3.trans (hba.mono hb3.size)
  have YB := Blk.new w3 #[.slice av (ringNew ls).length cv] 28
  have h2s := A2.lt
  have h3s := hb3.size
  have hflt := ho.lt
  have hg2z := HG2.out.size
  have hw0 := HS.out
  have HRS := hide (show RS B g s w3.heap.size w (w3.alloc (.cells #[.slice av (ringNew ls).length cv] 28)) (.slice av (ringNew ls).length cv) (ringNew ls) fp from
    ⟨by omega, by omega, by omega, YB, A2.below hb24 A2.lt, owns_below ho hba, fun q hq => by have := hfp q hq; have := hflt q hq; exact ⟨by omega, by omega, by omega⟩, HRD.out, cur_below HC2.out hb24 HC2.out.2.1, grown_more HG2.out hb24 hg2z⟩)
  obtain ⟨br, ebr⟩ : ∃ b, b = w3.heap.size := ⟨_, rfl⟩
  rw [← ebr] at HRS ⊢
  clear ebr YB hba hb24 hb3 ho hfp A2 HC2 HG2 HRD h2s h3s hflt hg2z
  generalize w3.alloc (.cells #[.slice av (ringNew ls).length cv] 28) = w4 at *
  go_wp2_with fail
  go_loopw [6] (fun iv wr => ∃ (k : Nat) (v : Value) (l : List Pr) (fp : List Nat), k ≤ most ∧ iv = .int .i64 k ∧ Hid (RS B g s br w wr v l fp)) (fun iv _ => most - (intOf iv).toNat)
  case atStart => exact ⟨0, _, _, fp, Nat.zero_le _, rfl, HRS.out⟩
  case round =>
    clear HRS
    obtain ⟨k, v, l, fq, hk, rfl, HRr⟩ := hrel
    by_cases hlt : k < most
    · obtain ⟨gp, cp, hsh⟩ := peers_shape HRr.out.own (by have := HRr.out.ring.least; omega)
      subst hsh
      have hl4 := HRr.out.ring.least
      have hl8 := HRr.out.ring.most
      have hsb := HRr.out.sb
      have n0 : ∀ p : NOnly [g] wr, p.w.cell? ⟨br, 0, none⟩ = some (.slice (some ⟨gp, 0, none⟩) l.length cp) := fun p => blk_free_cell (only_blk p.h HRr.out.blk (by simp; omega)) 0 rfl
      have hnn := NOnly.some [g] wr
      go_upto_region 5 with fail
      refine wp_region_open (fun wd => ∃ p : Near wr.heap.size wr, wd = p.w) ⟨⟨_, (Below.refl _ _).drew⟩, rfl⟩ (by kernel_rfl) ?_
      rintro wd ⟨pd, rfl⟩
      refine wpAny_of_K (c := 10) (D := fun w' => ∃ p : NOnly [g] wr, w' = p.w) _ _ _ _ ?_
      refine wpAnyK_seg_lit4 0 6 8 5 rfl (by decide) (by decide) (by kernel_rfl) (by kernel_rfl) (by kernel_rfl) (by kernel_rfl) (fun _ _ _ _ _ h => h) ⟨⟨_, Only.of_below pd.h⟩, rfl⟩ ?_
      simp only [List.take_succ_cons, List.take_zero, List.drop_zero]
      repeat (go_big_quiet_step (fail))
      refine wpQuiet_nil ?_
      have HRp := hide (HRr.out.below pd.h)
      refine wpAnyK_call 6 (by kernel_rfl) rfl rfl 35 _ _ rfl (run_enter Tryz.func35 (by kernel_rfl) (by kernel_rfl)) #[.pointer (some ⟨g, 0, none⟩), .int .i64 (l.length : Nat)] rfl (fun u' w' => ∃ x : Nat, x < l.length ∧ u' = .int .i64 x ∧ Cur B w' g ∧ pd.w.grownBy w' (some g)) ((below_calls B g pd.w HRp.out.cur l.length (by omega) (by omega)).mono (fun e w' ⟨x, hx, he, h1, h2⟩ => ⟨_, he, x, hx, rfl, h1, h2⟩)) ?_
      rintro u' w6 ⟨x, hx, rfl, hc6, hg6⟩
      have HR6 := hide (HRp.out.draw hc6 hg6)
      have ho6 : Only [g] wr w6 := (Only.of_below pd.h).trans (only_of_grown hg6)
      refine ⟨⟨⟨w6, ho6⟩, rfl⟩, ?_⟩
      simp only [Act.put, List.setIfInBounds_toArray, List.set_cons_succ, List.set_cons_zero]
      have ni : ∀ p : NOnly [g] wr, p.w.cell? ⟨gp, x * 6, none⟩ = some (.int .i64 l[x].id) := fun p => cell_of_id (owns_only HRr.out.own p.h (fun q hq => by have := (HRr.out.apart q hq).1; simp; omega)) hx
      refine wpAnyK_seg_lit4 7 3 8 1 rfl (by decide) (by decide) (by kernel_rfl) (by kernel_rfl) (by kernel_rfl) (by kernel_rfl) (fun _ _ _ _ _ h => h) ⟨⟨w6, ho6⟩, rfl⟩ ?_
      simp only [List.take_succ_cons, List.take_zero, List.drop_succ_cons, List.drop_zero]
      repeat (go_big_quiet_step (fail))
      refine wpQuiet_nil ?_
      refine wpAnyK_last (by kernel_rfl) (by decide) ?_
      refine wpAny_rest 10 rfl (by kernel_rfl) ?_
      simp only [List.drop_succ_cons, List.drop_zero]
      clear n0 ni hnn hc6 hg6 ho6 HRp HRr
      generalize l[x].id = idv at *
      go_wp2_with fail
      refine (below_calls B g w6 HR6.out.cur 8 (by decide) (by decide)).mono ?_
      rintro e w7 ⟨x8, hx8, rfl, hc7, hg7⟩
      have HR7 := hide (HR6.out.draw hc7 hg7)
      have c7 := blk_free_cell HR7.out.blk 0 rfl
      have l7 := HR7.out.blk.lt
      clear hc7 hg7 HR6
      have h8 : x8 = 0 ∨ x8 = 1 ∨ x8 = 2 ∨ x8 = 3 ∨ x8 = 4 ∨ x8 = 5 ∨ x8 = 6 ∨ x8 = 7 := by omega
      clear hx8
      rcases h8 with rfl | rfl | rfl | rfl | rfl | rfl | rfl | rfl
      · have n0 : ∀ p : NOnly [g] w7, p.w.cell? ⟨br, 0, none⟩ = some (.slice (some ⟨gp, 0, none⟩) l.length cp) := fun p => blk_free_cell (only_blk p.h HR7.out.blk (by simp; omega)) 0 rfl
        have hnn := NOnly.some [g] w7
        go_upto_region 11 with fail
        clear c7 l7
        refine wp_region_open (fun wd => ∃ p : Near w7.heap.size w7, wd = p.w) ⟨⟨_, (Below.refl _ _).drew⟩, rfl⟩ (by kernel_rfl) ?_
        rintro wd ⟨pe, rfl⟩
        refine wpAny_of_K (c := 10) (D := fun w' => ∃ p : NOnly [g] w7, w' = p.w) _ _ _ _ ?_
        refine wpAnyK_seg_lit4 0 5 8 9 rfl (by decide) (by decide) (by kernel_rfl) (by kernel_rfl) (by kernel_rfl) (by kernel_rfl) (fun _ _ _ _ _ h => h) ⟨⟨_, Only.of_below pe.h⟩, rfl⟩ ?_
        simp only [List.take_succ_cons, List.take_zero, List.drop_zero]
        repeat (go_big_quiet_step (fail))
        refine wpQuiet_nil ?_
        have HRe := hide (HR7.out.below pe.h)
        refine wpAnyK_call 5 (by kernel_rfl) rfl rfl 35 _ _ rfl (run_enter Tryz.func35 (by kernel_rfl) (by kernel_rfl)) #[.pointer (some ⟨g, 0, none⟩), .int .i64 4] rfl (fun u' w' => ∃ y : Nat, y < 4 ∧ u' = .int .i64 y ∧ Cur B w' g ∧ pe.w.grownBy w' (some g)) ((below_calls B g pe.w HRe.out.cur 4 (by decide) (by decide)).mono (fun e w' ⟨y, hy, he, h1, h2⟩ => ⟨_, he, y, hy, rfl, h1, h2⟩)) ?_
        rintro u' w8 ⟨y, hy, rfl, hc8, hg8⟩
        have HR8 := hide (HRe.out.draw hc8 hg8)
        have ho8 : Only [g] w7 w8 := (Only.of_below pe.h).trans (only_of_grown hg8)
        refine ⟨⟨⟨w8, ho8⟩, rfl⟩, ?_⟩
        simp only [Act.put, List.setIfInBounds_toArray, List.set_cons_succ, List.set_cons_zero]
        have hyl : y < l.length := by omega
        have ni : ∀ p : NOnly [g] w7, p.w.cell? ⟨gp, y * 6, none⟩ = some (.int .i64 l[y].id) := fun p => cell_of_id (owns_only HR7.out.own p.h (fun q hq => by have := (HR7.out.apart q hq).1; simp; omega)) hyl
        refine wpAnyK_seg_lit4 6 3 8 5 rfl (by decide) (by decide) (by kernel_rfl) (by kernel_rfl) (by kernel_rfl) (by kernel_rfl) (fun _ _ _ _ _ h => h) ⟨⟨w8, ho8⟩, rfl⟩ ?_
        simp only [List.take_succ_cons, List.take_zero, List.drop_succ_cons, List.drop_zero]
        repeat (go_big_quiet_step (fail))
        refine wpQuiet_nil ?_
        clear n0 ni hnn hc8 hg8
        generalize l[y].id = bid at *
        have CC := hide (specJoined_calls w8 _ l idv bid HR8.out.peers HR8.out.ring.len HR8.out.ring.small HR8.out.ring.ring)
        refine wpAnyK_call 9 (by kernel_rfl) rfl rfl 71 _ _ rfl (run_enter Tryz.func71 (by kernel_rfl) (by kernel_rfl)) #[.agg #[.slice (some ⟨gp, 0, none⟩) l.length cp], .int .i64 idv, .int .i64 bid] rfl (fun u' w' => ∃ v' fp', u' = .tuple #[.agg #[v'], .bool (joined l idv bid).2] ∧ Owns w' v' (peersD T0 (joined l idv bid).1) fp' ∧ (∀ q ∈ fp', w8.heap.size ≤ q) ∧ Below w8.heap.size w8 w') (CC.out.mono (fun e w' ⟨v', fp', he, h1, h2, h3⟩ => ⟨_, he, v', fp', rfl, h1, h2, h3⟩)) ?_
        rintro u' wn ⟨v', fp', rfl, ho, hfp', hb⟩
        have hon : Only [g] w7 wn := ho8.trans (Only.of_below hb)
        refine ⟨⟨⟨wn, hon⟩, rfl⟩, ?_⟩
        simp only [Act.put, List.setIfInBounds_toArray, List.set_cons_succ, List.set_cons_zero]
        have hnn : Nonempty World := ⟨wn⟩
        refine wpAnyK_last (by kernel_rfl) (by decide) ?_
        refine wpAny_seg_lit 10 3 1 rfl (by decide) (by kernel_rfl) (by kernel_rfl) (fun _ _ _ _ _ h => h) ?_
        simp only [List.take_succ_cons, List.take_zero, List.drop_succ_cons, List.drop_zero]
        repeat (go_big_quiet_step (fail))
        refine wpQuiet_nil ?_
        refine wpAny_rest 13 rfl (by kernel_rfl) ?_
        simp only [List.drop_succ_cons, List.drop_zero]
        clear hnn hon ho8 HRe HR7
        obtain ⟨an, cn, hsh⟩ := peers_sl ho
        subst hsh
        have HJ := hide (HR8.out.ring.joined idv bid)
        have HPn := hide (HR8.out.put hb ho hfp' HJ.out)
        have hbk := (HR8.out.below hb).blk
        have c0 := blk_free_cell hbk 0 rfl
        have cf := hbk.free 0
        have cl := hbk.lt
        clear hbk hb ho hfp' HJ CC
        go_wp2
        go_roundw
        case rel => exact ⟨k + 1, _, _, _, by omega, by go_num, HPn.out⟩
        case measure => simp [intOf]; omega
      · have n0 : ∀ p : NOnly [g] w7, p.w.cell? ⟨br, 0, none⟩ = some (.slice (some ⟨gp, 0, none⟩) l.length cp) := fun p => blk_free_cell (only_blk p.h HR7.out.blk (by simp; omega)) 0 rfl
        have hnn := NOnly.some [g] w7
        go_upto_region 11 with fail
        clear c7 l7
        refine wp_region_open (fun wd => ∃ p : Near w7.heap.size w7, wd = p.w) ⟨⟨_, (Below.refl _ _).drew⟩, rfl⟩ (by kernel_rfl) ?_
        rintro wd ⟨pe, rfl⟩
        refine wpAny_of_K (c := 10) (D := fun w' => ∃ p : NOnly [g] w7, w' = p.w) _ _ _ _ ?_
        refine wpAnyK_seg_lit4 0 5 8 9 rfl (by decide) (by decide) (by kernel_rfl) (by kernel_rfl) (by kernel_rfl) (by kernel_rfl) (fun _ _ _ _ _ h => h) ⟨⟨_, Only.of_below pe.h⟩, rfl⟩ ?_
        simp only [List.take_succ_cons, List.take_zero, List.drop_zero]
        repeat (go_big_quiet_step (fail))
        refine wpQuiet_nil ?_
        have HRe := hide (HR7.out.below pe.h)
        refine wpAnyK_call 5 (by kernel_rfl) rfl rfl 35 _ _ rfl (run_enter Tryz.func35 (by kernel_rfl) (by kernel_rfl)) #[.pointer (some ⟨g, 0, none⟩), .int .i64 4] rfl (fun u' w' => ∃ y : Nat, y < 4 ∧ u' = .int .i64 y ∧ Cur B w' g ∧ pe.w.grownBy w' (some g)) ((below_calls B g pe.w HRe.out.cur 4 (by decide) (by decide)).mono (fun e w' ⟨y, hy, he, h1, h2⟩ => ⟨_, he, y, hy, rfl, h1, h2⟩)) ?_
        rintro u' w8 ⟨y, hy, rfl, hc8, hg8⟩
        have HR8 := hide (HRe.out.draw hc8 hg8)
        have ho8 : Only [g] w7 w8 := (Only.of_below pe.h).trans (only_of_grown hg8)
        refine ⟨⟨⟨w8, ho8⟩, rfl⟩, ?_⟩
        simp only [Act.put, List.setIfInBounds_toArray, List.set_cons_succ, List.set_cons_zero]
        have hyl : y < l.length := by omega
        have ni : ∀ p : NOnly [g] w7, p.w.cell? ⟨gp, y * 6, none⟩ = some (.int .i64 l[y].id) := fun p => cell_of_id (owns_only HR7.out.own p.h (fun q hq => by have := (HR7.out.apart q hq).1; simp; omega)) hyl
        refine wpAnyK_seg_lit4 6 3 8 5 rfl (by decide) (by decide) (by kernel_rfl) (by kernel_rfl) (by kernel_rfl) (by kernel_rfl) (fun _ _ _ _ _ h => h) ⟨⟨w8, ho8⟩, rfl⟩ ?_
        simp only [List.take_succ_cons, List.take_zero, List.drop_succ_cons, List.drop_zero]
        repeat (go_big_quiet_step (fail))
        refine wpQuiet_nil ?_
        clear n0 ni hnn hc8 hg8
        generalize l[y].id = bid at *
        have CC := hide (specJoined_calls w8 _ l idv bid HR8.out.peers HR8.out.ring.len HR8.out.ring.small HR8.out.ring.ring)
        refine wpAnyK_call 9 (by kernel_rfl) rfl rfl 71 _ _ rfl (run_enter Tryz.func71 (by kernel_rfl) (by kernel_rfl)) #[.agg #[.slice (some ⟨gp, 0, none⟩) l.length cp], .int .i64 idv, .int .i64 bid] rfl (fun u' w' => ∃ v' fp', u' = .tuple #[.agg #[v'], .bool (joined l idv bid).2] ∧ Owns w' v' (peersD T0 (joined l idv bid).1) fp' ∧ (∀ q ∈ fp', w8.heap.size ≤ q) ∧ Below w8.heap.size w8 w') (CC.out.mono (fun e w' ⟨v', fp', he, h1, h2, h3⟩ => ⟨_, he, v', fp', rfl, h1, h2, h3⟩)) ?_
        rintro u' wn ⟨v', fp', rfl, ho, hfp', hb⟩
        have hon : Only [g] w7 wn := ho8.trans (Only.of_below hb)
        refine ⟨⟨⟨wn, hon⟩, rfl⟩, ?_⟩
        simp only [Act.put, List.setIfInBounds_toArray, List.set_cons_succ, List.set_cons_zero]
        have hnn : Nonempty World := ⟨wn⟩
        refine wpAnyK_last (by kernel_rfl) (by decide) ?_
        refine wpAny_seg_lit 10 3 1 rfl (by decide) (by kernel_rfl) (by kernel_rfl) (fun _ _ _ _ _ h => h) ?_
        simp only [List.take_succ_cons, List.take_zero, List.drop_succ_cons, List.drop_zero]
        repeat (go_big_quiet_step (fail))
        refine wpQuiet_nil ?_
        refine wpAny_rest 13 rfl (by kernel_rfl) ?_
        simp only [List.drop_succ_cons, List.drop_zero]
        clear hnn hon ho8 HRe HR7
        obtain ⟨an, cn, hsh⟩ := peers_sl ho
        subst hsh
        have HJ := hide (HR8.out.ring.joined idv bid)
        have HPn := hide (HR8.out.put hb ho hfp' HJ.out)
        have hbk := (HR8.out.below hb).blk
        have c0 := blk_free_cell hbk 0 rfl
        have cf := hbk.free 0
        have cl := hbk.lt
        clear hbk hb ho hfp' HJ CC
        go_wp2
        go_roundw
        case rel => exact ⟨k + 1, _, _, _, by omega, by go_num, HPn.out⟩
        case measure => simp [intOf]; omega
      · have n0 : ∀ p : NOnly [g] w7, p.w.cell? ⟨br, 0, none⟩ = some (.slice (some ⟨gp, 0, none⟩) l.length cp) := fun p => blk_free_cell (only_blk p.h HR7.out.blk (by simp; omega)) 0 rfl
        have hnn := NOnly.some [g] w7
        go_upto_region 11 with fail
        clear c7 l7
        refine wp_region_open (fun wd => ∃ p : Near w7.heap.size w7, wd = p.w) ⟨⟨_, (Below.refl _ _).drew⟩, rfl⟩ (by kernel_rfl) ?_
        rintro wd ⟨pe, rfl⟩
        refine wpAny_of_K (c := 10) (D := fun w' => ∃ p : NOnly [g] w7, w' = p.w) _ _ _ _ ?_
        refine wpAnyK_seg_lit4 0 5 8 9 rfl (by decide) (by decide) (by kernel_rfl) (by kernel_rfl) (by kernel_rfl) (by kernel_rfl) (fun _ _ _ _ _ h => h) ⟨⟨_, Only.of_below pe.h⟩, rfl⟩ ?_
        simp only [List.take_succ_cons, List.take_zero, List.drop_zero]
        repeat (go_big_quiet_step (fail))
        refine wpQuiet_nil ?_
        have HRe := hide (HR7.out.below pe.h)
        refine wpAnyK_call 5 (by kernel_rfl) rfl rfl 35 _ _ rfl (run_enter Tryz.func35 (by kernel_rfl) (by kernel_rfl)) #[.pointer (some ⟨g, 0, none⟩), .int .i64 4] rfl (fun u' w' => ∃ y : Nat, y < 4 ∧ u' = .int .i64 y ∧ Cur B w' g ∧ pe.w.grownBy w' (some g)) ((below_calls B g pe.w HRe.out.cur 4 (by decide) (by decide)).mono (fun e w' ⟨y, hy, he, h1, h2⟩ => ⟨_, he, y, hy, rfl, h1, h2⟩)) ?_
        rintro u' w8 ⟨y, hy, rfl, hc8, hg8⟩
        have HR8 := hide (HRe.out.draw hc8 hg8)
        have ho8 : Only [g] w7 w8 := (Only.of_below pe.h).trans (only_of_grown hg8)
        refine ⟨⟨⟨w8, ho8⟩, rfl⟩, ?_⟩
        simp only [Act.put, List.setIfInBounds_toArray, List.set_cons_succ, List.set_cons_zero]
        have hyl : y < l.length := by omega
        have ni : ∀ p : NOnly [g] w7, p.w.cell? ⟨gp, y * 6, none⟩ = some (.int .i64 l[y].id) := fun p => cell_of_id (owns_only HR7.out.own p.h (fun q hq => by have := (HR7.out.apart q hq).1; simp; omega)) hyl
        refine wpAnyK_seg_lit4 6 3 8 5 rfl (by decide) (by decide) (by kernel_rfl) (by kernel_rfl) (by kernel_rfl) (by kernel_rfl) (fun _ _ _ _ _ h => h) ⟨⟨w8, ho8⟩, rfl⟩ ?_
        simp only [List.take_succ_cons, List.take_zero, List.drop_succ_cons, List.drop_zero]
        repeat (go_big_quiet_step (fail))
        refine wpQuiet_nil ?_
        clear n0 ni hnn hc8 hg8
        generalize l[y].id = bid at *
        have CC := hide (specJoined_calls w8 _ l idv bid HR8.out.peers HR8.out.ring.len HR8.out.ring.small HR8.out.ring.ring)
        refine wpAnyK_call 9 (by kernel_rfl) rfl rfl 71 _ _ rfl (run_enter Tryz.func71 (by kernel_rfl) (by kernel_rfl)) #[.agg #[.slice (some ⟨gp, 0, none⟩) l.length cp], .int .i64 idv, .int .i64 bid] rfl (fun u' w' => ∃ v' fp', u' = .tuple #[.agg #[v'], .bool (joined l idv bid).2] ∧ Owns w' v' (peersD T0 (joined l idv bid).1) fp' ∧ (∀ q ∈ fp', w8.heap.size ≤ q) ∧ Below w8.heap.size w8 w') (CC.out.mono (fun e w' ⟨v', fp', he, h1, h2, h3⟩ => ⟨_, he, v', fp', rfl, h1, h2, h3⟩)) ?_
        rintro u' wn ⟨v', fp', rfl, ho, hfp', hb⟩
        have hon : Only [g] w7 wn := ho8.trans (Only.of_below hb)
        refine ⟨⟨⟨wn, hon⟩, rfl⟩, ?_⟩
        simp only [Act.put, List.setIfInBounds_toArray, List.set_cons_succ, List.set_cons_zero]
        have hnn : Nonempty World := ⟨wn⟩
        refine wpAnyK_last (by kernel_rfl) (by decide) ?_
        refine wpAny_seg_lit 10 3 1 rfl (by decide) (by kernel_rfl) (by kernel_rfl) (fun _ _ _ _ _ h => h) ?_
        simp only [List.take_succ_cons, List.take_zero, List.drop_succ_cons, List.drop_zero]
        repeat (go_big_quiet_step (fail))
        refine wpQuiet_nil ?_
        refine wpAny_rest 13 rfl (by kernel_rfl) ?_
        simp only [List.drop_succ_cons, List.drop_zero]
        clear hnn hon ho8 HRe HR7
        obtain ⟨an, cn, hsh⟩ := peers_sl ho
        subst hsh
        have HJ := hide (HR8.out.ring.joined idv bid)
        have HPn := hide (HR8.out.put hb ho hfp' HJ.out)
        have hbk := (HR8.out.below hb).blk
        have c0 := blk_free_cell hbk 0 rfl
        have cf := hbk.free 0
        have cl := hbk.lt
        clear hbk hb ho hfp' HJ CC
        go_wp2
        go_roundw
        case rel => exact ⟨k + 1, _, _, _, by omega, by go_num, HPn.out⟩
        case measure => simp [intOf]; omega
      · have CC := hide (specGone_calls w7 _ l idv HR7.out.peers HR7.out.ring.len HR7.out.ring.small)
        go_wp2_with fail
        refine CC.out.mono ?_
        rintro e wn ⟨v', fp', rfl, ho, hfp', hb⟩

        obtain ⟨an, cn, hsh⟩ := peers_sl ho
        subst hsh
        have HJ := hide (HR7.out.ring.gone idv)
        have HPn := hide (HR7.out.put hb ho hfp' HJ.out)
        have hbk := (HR7.out.below hb).blk
        have c0 := blk_free_cell hbk 0 rfl
        have cf := hbk.free 0
        have cl := hbk.lt
        clear hbk hb ho hfp' HJ CC
        go_wp2
        go_roundw
        case rel => exact ⟨k + 1, _, _, _, by omega, by go_num, HPn.out⟩
        case measure => simp [intOf]; omega
      · have CC := hide (specFingered_calls w7 _ l idv HR7.out.peers HR7.out.ring.len HR7.out.ring.small HR7.out.ring.ring)
        go_wp2_with fail
        refine CC.out.mono ?_
        rintro e wn ⟨v', fp', rfl, ho, hfp', hb⟩

        obtain ⟨an, cn, hsh⟩ := peers_sl ho
        subst hsh
        have HJ := hide (HR7.out.ring.fingered idv)
        have HPn := hide (HR7.out.put hb ho hfp' HJ.out)
        have hbk := (HR7.out.below hb).blk
        have c0 := blk_free_cell hbk 0 rfl
        have cf := hbk.free 0
        have cl := hbk.lt
        clear hbk hb ho hfp' HJ CC
        go_wp2
        go_roundw
        case rel => exact ⟨k + 1, _, _, _, by omega, by go_num, HPn.out⟩
        case measure => simp [intOf]; omega
      · have n0 : ∀ p : NOnly [g] w7, p.w.cell? ⟨br, 0, none⟩ = some (.slice (some ⟨gp, 0, none⟩) l.length cp) := fun p => blk_free_cell (only_blk p.h HR7.out.blk (by simp; omega)) 0 rfl
        have hnn := NOnly.some [g] w7
        go_upto_region 17 with fail
        clear c7 l7
        refine wp_region_open (fun wd => ∃ p : Near w7.heap.size w7, wd = p.w) ⟨⟨_, (Below.refl _ _).drew⟩, rfl⟩ (by kernel_rfl) ?_
        rintro wd ⟨pe, rfl⟩
        refine wpAny_of_K (c := 12) (D := fun w' => ∃ p : NOnly [g] w7, w' = p.w) _ _ _ _ ?_
        have hDp : ∃ p : NOnly [g] w7, pe.w = p.w := ⟨⟨_, Only.of_below pe.h⟩, rfl⟩
        refine wpAnyK_seg_lit4 0 3 10 13 rfl (by decide) (by decide) (by kernel_rfl) (by kernel_rfl) (by kernel_rfl) (by kernel_rfl) (fun _ _ _ _ _ h => h) hDp ?_
        simp only [List.take_succ_cons, List.take_zero, List.drop_zero]
        repeat (go_big_quiet_step (fail))
        refine wpQuiet_nil ?_
        refine wpAnyK_seg_lit4 4 1 10 12 rfl (by decide) (by decide) (by kernel_rfl) (by kernel_rfl) (by kernel_rfl) (by kernel_rfl) (fun _ _ _ _ _ h => h) hDp ?_
        simp only [List.take_succ_cons, List.take_zero, List.drop_succ_cons, List.drop_zero]
        repeat (go_big_quiet_step (fail))
        refine wpQuiet_nil ?_
        refine wpAnyK_seg_lit4 7 1 10 11 rfl (by decide) (by decide) (by kernel_rfl) (by kernel_rfl) (by kernel_rfl) (by kernel_rfl) (fun _ _ _ _ _ h => h) hDp ?_
        simp only [List.take_succ_cons, List.take_zero, List.drop_succ_cons, List.drop_zero]
        repeat (go_big_quiet_step (fail))
        refine wpQuiet_nil ?_
        have HRe := hide (HR7.out.below pe.h)
        have HOe := hide (Only.of_below (fp := [g]) pe.h)
        have hge := HRe.out.cur.2.1
        clear n0 hnn hDp HR7
        refine wpAnyK_pair 3 5 (by kernel_rfl) rfl rfl ?first ?second
        case' first =>
          go_wp2_with fail
          refine (below_calls B g pe.w HRe.out.cur 256 (by decide) (by decide)).mono ?_
          rintro e w8 ⟨xk, hxk, rfl, hc8, hg8⟩
          have HR8 := HRe.out.draw hc8 hg8
          have ho8 := HOe.out.trans (only_of_grown hg8)
          go_wp2_with fail
          refine ⟨⟨⟨w8, ho8⟩, rfl⟩, ?_⟩
          refine wpAnyK_one 5 (by kernel_rfl) rfl ?_
          go_wp2_with fail
          have hb8 := (Below.refl w8.heap.size w8).alloc (Nat.le_refl _) (.cells #[.string ⟨#[97]⟩, .string ⟨#[98]⟩, .string ⟨#[99]⟩] 9)
          have HR9 := hide (HR8.below hb8)
          have HO9 := hide (ho8.trans (Only.of_below hb8))
          have hgl : g < w8.heap.size := hc8.2.1
          have YL := Blk.new w8 #[.string ⟨#[97]⟩, .string ⟨#[98]⟩, .string ⟨#[99]⟩] 9
          refine ⟨⟨⟨_, HO9.out⟩, rfl⟩, ?_⟩
          obtain ⟨gl, egl⟩ : ∃ b, b = w8.heap.size := ⟨_, rfl⟩
          rw [← egl] at YL hgl ⊢
          clear egl hb8 HR8 ho8 hc8 hg8 HRe HOe
          generalize w8.alloc (.cells #[.string ⟨#[97]⟩, .string ⟨#[98]⟩, .string ⟨#[99]⟩] 9) = w9 at *
        case' second =>
          go_wp2_with fail
          have hb8 := (Below.refl pe.w.heap.size pe.w).alloc (Nat.le_refl _) (.cells #[.string ⟨#[97]⟩, .string ⟨#[98]⟩, .string ⟨#[99]⟩] 9)
          have HR8 := HRe.out.below hb8
          have ho8 := HOe.out.trans (Only.of_below hb8)
          have YL8 := Blk.new pe.w #[.string ⟨#[97]⟩, .string ⟨#[98]⟩, .string ⟨#[99]⟩] 9
          have hgl : g < pe.w.heap.size := hge
          refine ⟨⟨⟨_, ho8⟩, rfl⟩, ?_⟩
          obtain ⟨gl, egl⟩ : ∃ b, b = pe.w.heap.size := ⟨_, rfl⟩
          rw [← egl] at YL8 hgl ⊢
          clear egl hb8
          generalize pe.w.alloc (.cells #[.string ⟨#[97]⟩, .string ⟨#[98]⟩, .string ⟨#[99]⟩] 9) = w8 at *
          refine wpAnyK_one 3 (by kernel_rfl) rfl ?_
          go_wp2_with fail
          refine (below_calls B g w8 HR8.cur 256 (by decide) (by decide)).mono ?_
          rintro e w9 ⟨xk, hxk, rfl, hc8, hg8⟩
          have HR9 := hide (HR8.draw hc8 hg8)
          have HO9 := hide (ho8.trans (only_of_grown hg8))
          have YL := Cu_blk YL8 hg8 (by omega)
          go_wp2_with fail
          refine ⟨⟨⟨_, HO9.out⟩, rfl⟩, ?_⟩
          clear HR8 ho8 hc8 hg8 HRe HOe YL8
        all_goals
          have hcl : ∀ j (hj : j < threeTexts.length), w9.cell? ⟨gl, j, none⟩ = some (.string ⟨(threeTexts[j]).toArray⟩) := fun j hj => by
            have h3 : j = 0 ∨ j = 1 ∨ j = 2 := by simp [threeTexts] at hj; omega
            rcases h3 with rfl | rfl | rfl
            · exact blk_free_cell YL 0 rfl
            · exact blk_free_cell YL 1 rfl
            · exact blk_free_cell YL 2 rfl
          have HPK := hide (pickAt_calls B g gl w9 HR9.out.cur threeTexts (by decide) (by decide) 3 rfl hcl YL.lt (by omega))
          clear hcl YL
          refine wpAnyK_call 6 (by kernel_rfl) rfl rfl 75 _ _ rfl (run_enter Tryz.func75 (by kernel_rfl) (by kernel_rfl)) #[.pointer (some ⟨g, 0, none⟩), .slice (some ⟨gl, 0, none⟩) 3 3] rfl (fun u' w' => ∃ z, z ∈ threeTexts ∧ u' = .string ⟨z.toArray⟩ ∧ Cur B w' g ∧ w9.grownBy w' (some g)) (HPK.out.mono (fun e w' ⟨z, hz, he, h1, h2⟩ => ⟨_, he, z, hz, rfl, h1, h2⟩)) ?_
          rintro u' w10 ⟨z, hz, rfl, hc10, hg10⟩
          have HR10 := hide (HR9.out.draw hc10 hg10)
          have HO10 := hide (HO9.out.trans (only_of_grown hg10))
          refine ⟨⟨⟨w10, HO10.out⟩, rfl⟩, ?_⟩
          simp only [Act.put, List.setIfInBounds_toArray, List.set_cons_succ, List.set_cons_zero]
          clear HR9 HO9 hc10 hg10 HPK
          refine wpAnyK_call 8 (by kernel_rfl) rfl rfl 76 _ _ rfl (run_enter Tryz.func76 (by kernel_rfl) (by kernel_rfl)) #[.pointer (some ⟨g, 0, none⟩), .int .i64 4] rfl (fun u' w' => ∃ b : Bool, u' = .bool b ∧ Cur B w' g ∧ w10.grownBy w' (some g)) ((onceD_calls B g w10 HR10.out.cur 4 (by decide) (by decide)).mono (fun e w' ⟨b, he, h1, h2⟩ => ⟨_, he, b, rfl, h1, h2⟩)) ?_
          rintro u' w11 ⟨gb, rfl, hc11, hg11⟩
          have HR11 := hide (HR10.out.draw hc11 hg11)
          have HO11 := hide (HO10.out.trans (only_of_grown hg11))
          refine ⟨⟨⟨w11, HO11.out⟩, rfl⟩, ?_⟩
          simp only [Act.put, List.setIfInBounds_toArray, List.set_cons_succ, List.set_cons_zero]
          clear HR10 HO10 hc11 hg11
          have hb11 := (Below.refl w11.heap.size w11).alloc (Nat.le_refl _) (.cells #[.string ⟨z.toArray⟩, .bool gb] 86)
          have HR12 := hide (HR11.out.below hb11)
          have HO12 := hide (HO11.out.trans (Only.of_below hb11))
          have HIT := hide (item_lit w11 z gb)
          refine wpAnyK_value (i := 9) (v := .agg #[.string ⟨z.toArray⟩, .bool gb]) (w' := w11) (by kernel_rfl) rfl rfl (by simp [execOp, go_sem]) ⟨⟨_, HO11.out⟩, rfl⟩ ?_
          simp only [Act.put, List.setIfInBounds_toArray, List.set_cons_succ, List.set_cons_zero]
          refine wpAnyK_value (i := 10) (v := .slice (some ⟨w11.heap.size, 0, none⟩) 1 1) (w' := w11.alloc (.cells #[.string ⟨z.toArray⟩, .bool gb] 86)) (by kernel_rfl) rfl rfl (by simp [execOp, go_sem]) ⟨⟨_, HO12.out⟩, rfl⟩ ?_
          simp only [Act.put, List.setIfInBounds_toArray, List.set_cons_succ, List.set_cons_zero]
          obtain ⟨bi, ebi⟩ : ∃ b, b = w11.heap.size := ⟨_, rfl⟩
          rw [← ebi] at HIT ⊢
          clear ebi hb11 HR11 HO11
          generalize w11.alloc (.cells #[.string ⟨z.toArray⟩, .bool gb] 86) = w12 at *
          have CC := hide (specPublish_calls w12 (.slice (some ⟨gp, 0, none⟩) l.length cp) (.slice (some ⟨bi, 0, none⟩) 1 1) l idv xk [⟨z, gb⟩] HR12.out.peers HR12.out.ring.x HIT.out (by simp) (fun y hy => by
            have e : y = ⟨z, gb⟩ := by simpa using hy
            rw [e]; exact threeTexts_le z hz))
          refine wpAnyK_call 11 (by kernel_rfl) rfl rfl 74 _ _ rfl (run_enter Tryz.func74 (by kernel_rfl) (by kernel_rfl)) #[.agg #[.slice (some ⟨gp, 0, none⟩) l.length cp], .int .i64 idv, .int .i64 xk, .slice (some ⟨bi, 0, none⟩) 1 1] rfl (fun u' w' => ∃ v' fp', u' = .tuple #[.agg #[v'], .int .i64 ((publish l idv xk [⟨z, gb⟩]).1.2 : Nat)] ∧ Owns w' v' (peersD T0 (publish l idv xk [⟨z, gb⟩]).1.1) fp' ∧ (∀ q ∈ fp', w12.heap.size ≤ q) ∧ Below w12.heap.size w12 w') (CC.out.mono (fun e w' ⟨v', fp', he, h1, h2, h3⟩ => ⟨_, he, v', fp', rfl, h1, h2, h3⟩)) ?_
          rintro u' wn ⟨v', fp', rfl, ho, hfp', hb⟩
          have hon : Only [g] w7 wn := HO12.out.trans (Only.of_below hb)
          refine ⟨⟨⟨wn, hon⟩, rfl⟩, ?_⟩
          simp only [Act.put, List.setIfInBounds_toArray, List.set_cons_succ, List.set_cons_zero]
          have hnn : Nonempty World := ⟨wn⟩
          refine wpAnyK_last (by kernel_rfl) (by decide) ?_
          refine wpAny_seg_lit 12 3 1 rfl (by decide) (by kernel_rfl) (by kernel_rfl) (fun _ _ _ _ _ h => h) ?_
          simp only [List.take_succ_cons, List.take_zero, List.drop_succ_cons, List.drop_zero]
          repeat (go_big_quiet_step (fail))
          refine wpQuiet_nil ?_
          refine wpAny_rest 15 rfl (by kernel_rfl) ?_
          simp only [List.drop_succ_cons, List.drop_zero]
          clear hnn hon HO12 hz HIT
          obtain ⟨an, cn, hsh⟩ := peers_sl ho
          subst hsh
          have HJ := hide (HR12.out.ring.publish idv xk [⟨z, gb⟩])
          have HPn := hide (HR12.out.put hb ho hfp' HJ.out)
          have hbk := (HR12.out.below hb).blk
          have c0 := blk_free_cell hbk 0 rfl
          have cf := hbk.free 0
          have cl := hbk.lt
          clear hbk hb ho hfp' HJ CC
          go_wp2
          go_roundw
          case rel => exact ⟨k + 1, _, _, _, by omega, by go_num, HPn.out⟩
          case measure => simp [intOf]; omega
      · have CC := hide (specSettle_calls w7 _ l idv HR7.out.peers HR7.out.ring.len HR7.out.ring.small)
        go_wp2_with fail
        refine CC.out.mono ?_
        rintro e wn ⟨v', fp', rfl, ho, hfp', hb⟩

        obtain ⟨an, cn, hsh⟩ := peers_sl ho
        subst hsh
        have HJ := hide (HR7.out.ring.settle idv)
        have HPn := hide (HR7.out.put hb ho hfp' HJ.out)
        have hbk := (HR7.out.below hb).blk
        have c0 := blk_free_cell hbk 0 rfl
        have cf := hbk.free 0
        have cl := hbk.lt
        clear hbk hb ho hfp' HJ CC
        go_wp2
        go_roundw
        case rel => exact ⟨k + 1, _, _, _, by omega, by go_num, HPn.out⟩
        case measure => simp [intOf]; omega
      · have CC := hide (specSettle_calls w7 _ l idv HR7.out.peers HR7.out.ring.len HR7.out.ring.small)
        go_wp2_with fail
        refine CC.out.mono ?_
        rintro e wn ⟨v', fp', rfl, ho, hfp', hb⟩

        obtain ⟨an, cn, hsh⟩ := peers_sl ho
        subst hsh
        have HJ := hide (HR7.out.ring.settle idv)
        have HPn := hide (HR7.out.put hb ho hfp' HJ.out)
        have hbk := (HR7.out.below hb).blk
        have c0 := blk_free_cell hbk 0 rfl
        have cf := hbk.free 0
        have cl := hbk.lt
        clear hbk hb ho hfp' HJ CC
        go_wp2
        go_roundw
        case rel => exact ⟨k + 1, _, _, _, by omega, by go_num, HPn.out⟩
        case measure => simp [intOf]; omega
    · obtain rfl : k = most := by omega
      obtain ⟨av', cv', hsh⟩ := peers_sl HRr.out.own
      subst hsh
      have c0 := blk_free_cell HRr.out.blk 0 rfl
      have l0 := HRr.out.blk.lt
      have z0 := blk_free_cell HRr.out.res 0 rfl
      have y0 := HRr.out.res.free 0
      have zl := HRr.out.res.lt
      go_wp2_with fail
      have Rd := HRr.out.res.set 0 (.slice av' l.length cv')
      have x0 := blk_free_cell Rd 0 rfl
      have hbw : Below w.heap.size wr (wr.setCell ⟨s, 0, none⟩ (.slice av' l.length cv')) := (Below.refl w.heap.size wr).setCell (p := ⟨s, 0, none⟩) (by show w.heap.size ≤ s; omega) _
      refine bodyPost_ret (v := .agg #[.slice av' l.length cv']) (by simp [results, Tryz.results60, go_sem, x0]) rfl ⟨_, l, fq, rfl, owns_set (b := s) (i := 0) HRr.out.own (fun q hq => (HRr.out.apart q hq).2.2) _, fun q hq => (HRr.out.apart q hq).1, HRr.out.ring, cur_below HRr.out.cur hbw HRr.out.gs, grown_more HRr.out.grown hbw (Nat.le_refl _)⟩
end Go.Proofs.YteladljgnbfcnaaGreat.P9
namespace Go.Proofs.YteladljgnbfcnaaGreat.Da
open Go.RowKit P1 Rc Rr Ap

theorem OwnsAll.over {W : World} {cur : Array Value} : ∀ {ds : List Dt} {k : Nat} {fp : List Nat} {i : Nat} {d : Dt}, OwnsAll W cur k ds fp → ds[i]? = some d →
    ∃ u f, cur[k + i]? = some u ∧ Owns W u d f ∧ (∀ q ∈ f, q ∈ fp) ∧ ∀ (W' : World) (u' : Value) (d' : Dt) (f' : List Nat), Owns W' u' d' f' → (∀ q ∈ fp, q ∉ f → W'.heap[q]? = W.heap[q]?) → (∀ q ∈ f', q ∈ f ∨ q ∉ fp) →
      ∃ fp', OwnsAll W' (cur.setIfInBounds (k + i) u') k (ds.set i d') fp' ∧ ∀ q ∈ fp', q ∈ fp ∨ q ∈ f' := by
  intro ds
  induction ds with
  | nil => intro k fp i d _ h; simp at h
  | cons x ds ih =>
    intro k fp i d h hi
    unfold OwnsAll at h
    obtain ⟨u0, f1, f2, h1, h2, h3, rfl, h5⟩ := h
    have hlt : k < cur.size := (Array.getElem?_eq_some_iff.1 h1).1
    cases i with
    | zero =>
      obtain rfl : x = d := by simpa using hi
      refine ⟨u0, f1, h1, h2, fun q hq => by simp [hq], fun W' u' d' f' hd hk hf => ⟨f' ++ f2, ?_, fun q hq => ?_⟩⟩
      · rw [List.set_cons_zero]
        unfold OwnsAll
        have h3' : OwnsAll W' (cur.setIfInBounds k u') (k + 1) ds f2 := OwnsAll.cur_ne _ (h3.stay (fun q hq => hk q (by simp [hq]) (fun e => h5 q e hq))) (by omega)
        refine ⟨u', f', f2, by rw [Nat.add_zero]; simp [hlt], hd, by rw [Nat.add_zero]; exact h3', rfl, fun q hq h' => ?_⟩
        rcases hf q hq with h6 | h6
        · exact h5 q h6 h'
        · exact h6 (by simp [h'])
      · rcases List.mem_append.1 hq with hq | hq
        · exact .inr hq
        · exact .inl (by simp [hq])
    | succ i =>
      obtain ⟨u, f, h6, h7, h8, h9⟩ := ih h3 (i := i) (d := d) (by simpa using hi)
      refine ⟨u, f, by rw [show k + (i + 1) = k + 1 + i by omega]; exact h6, h7, fun q hq => by simp [h8 q hq], fun W' u' d' f' hd hk hf => ?_⟩
      obtain ⟨fp', k1, k2⟩ := h9 W' u' d' f' hd (fun q hq hn => hk q (by simp [hq]) hn) (fun q hq => (hf q hq).imp id (fun h hm => h (by simp [hm])))
      refine ⟨f1 ++ fp', ?_, fun q hq => ?_⟩
      · rw [List.set_cons_succ, show k + (i + 1) = k + 1 + i by omega]
        unfold OwnsAll
        refine ⟨u0, f1, fp', ?_, h2.stay (fun q hq => hk q (by simp [hq]) (fun e => h5 q hq (h8 q e))), k1, rfl, fun q hq h' => ?_⟩
        · rw [Array.getElem?_setIfInBounds_ne (by omega)]
          exact h1
        · rcases k2 q h' with h10 | h10
          · exact h5 q hq h10
          · rcases hf q h10 with h11 | h11
            · exact h5 q hq (h8 q h11)
            · exact h11 (by simp [hq])
      · rcases List.mem_append.1 hq with hq | hq
        · exact .inl (by simp [hq])
        · rcases k2 q hq with h10 | h10
          · exact .inl (by simp [h10])
          · exact .inr h10

theorem Owns.over {W : World} {g n cap : Nat} {e : TypeId} {sz : Nat} {ds : List Dt} {fp : List Nat} (h : Owns W (.slice (some ⟨g, 0, none⟩) n cap) (.row e sz ds) fp) {i : Nat} {d : Dt} (hi : ds[i]? = some d) :
    ∃ u f, W.cell? ⟨g, i, none⟩ = some u ∧ Owns W u d f ∧ (∀ q ∈ f, q ∈ fp ∧ q ≠ g) ∧ ∀ (W' : World) (u' : Value) (d' : Dt) (f' : List Nat), Owns W' u' d' f' → Only f W W' → (∀ q ∈ f', q ∈ f ∨ W.heap.size ≤ q) →
      ∃ fp', Owns (W'.setCell ⟨g, i, none⟩ u') (.slice (some ⟨g, 0, none⟩) n cap) (.row e sz (ds.set i d')) fp' ∧ ∀ q ∈ fp', q ∈ fp ∨ q ∈ f' := by
  have hlt := h.lt
  unfold Owns at h
  rcases h with ⟨h, _⟩ | ⟨g', n', cap', cur, fps, h1, h2, h3, h4, h5, h6, rfl, h8, h9⟩
  · cases h
  · cases h1
    obtain ⟨u, f, k1, k2, k3, k4⟩ := h9.over hi
    rw [Nat.zero_add] at k1
    refine ⟨u, f, by simp only [World.cell?, h2]; exact k1, k2, fun q hq => ⟨by simp [k3 q hq], fun e => h8 (e ▸ k3 q hq)⟩, fun W' u' d' f' hd ho hf => ?_⟩
    have hgl := hlt g (by simp)
    have hgf : g ∉ f := fun e => h8 (k3 g e)
    have hg' : g ∉ f' := fun e => by
      rcases hf g e with h | h
      · exact hgf h
      · omega
    have hother : ∀ q, q ≠ g → (W'.setCell ⟨g, i, none⟩ u').heap[q]? = W'.heap[q]? := fun q hq => Below.heap_setCell _ _ _ _ hq
    obtain ⟨fp', m1, m2⟩ := k4 (W'.setCell ⟨g, i, none⟩ u') u' d' f' (hd.stay (fun q hq => hother q (fun e => hg' (e ▸ hq)))) (fun q hq hn => (hother q (fun e => h8 (e ▸ hq))).trans (ho.block q (hlt q (by simp [hq])) hn)) (fun q hq => (hf q hq).imp id (fun h hm => by have := hlt q (by simp [hm]); omega))
    rw [Nat.zero_add] at m1
    refine ⟨g :: fp', ?_, fun q hq => ?_⟩
    · unfold Owns
      refine .inr ⟨g, n, cap, cur.setIfInBounds i u', fp', rfl, heap_setCell_same ((ho.block g hgl hgf).trans h2) u', h3, h4, by simpa using h5, by simpa using h6, rfl, fun h' => ?_, m1⟩
      rcases m2 g h' with h10 | h10
      · exact h8 h10
      · exact hg' h10
    · rcases List.mem_cons.1 hq with rfl | hq
      · exact .inl (by simp)
      · rcases m2 q hq with h10 | h10
        · exact .inl (by simp [h10])
        · exact .inr h10

theorem OwnsAll.take {W : World} {cur : Array Value} : ∀ {ds : List Dt} {k : Nat} {fp : List Nat} (m : Nat), OwnsAll W cur k ds fp → ∃ fp', OwnsAll W cur k (ds.take m) fp' ∧ ∀ q ∈ fp', q ∈ fp := by
  intro ds
  induction ds with
  | nil => intro k fp m h; exact ⟨fp, by simpa using h, fun q hq => hq⟩
  | cons x ds ih =>
    intro k fp m h
    cases m with
    | zero => exact ⟨[], by rw [List.take_zero]; unfold OwnsAll; rfl, fun q hq => by cases hq⟩
    | succ m =>
      unfold OwnsAll at h
      obtain ⟨u0, f1, f2, h1, h2, h3, rfl, h5⟩ := h
      obtain ⟨f', k1, k2⟩ := ih m h3
      refine ⟨f1 ++ f', ?_, fun q hq => ?_⟩
      · rw [List.take_succ_cons]
        unfold OwnsAll
        exact ⟨u0, f1, f', h1, h2, k1, rfl, fun q hq h' => h5 q hq (k2 q h')⟩
      · rcases List.mem_append.1 hq with hq | hq
        · simp [hq]
        · simp [k2 q hq]

theorem Owns.take {W : World} {g n cap m : Nat} {e : TypeId} {sz : Nat} {ds : List Dt} {fp : List Nat} (h : Owns W (.slice (some ⟨g, 0, none⟩) n cap) (.row e sz ds) fp) (hm : m ≤ n) : ∃ fp', Owns W (.slice (some ⟨g, 0, none⟩) m cap) (.row e sz (ds.take (m * sz))) fp' ∧ ∀ q ∈ fp', q ∈ fp := by
  unfold Owns at h
  rcases h with ⟨h, _⟩ | ⟨g', n', cap', cur, fps, h1, h2, h3, h4, h5, h6, rfl, h8, h9⟩
  · cases h
  · cases h1
    obtain ⟨f', k1, k2⟩ := h9.take (m * sz)
    refine ⟨g :: f', ?_, fun q hq => ?_⟩
    · unfold Owns
      refine .inr ⟨g, m, cap, cur, f', rfl, h2, by omega, h4, h5, ?_, rfl, fun h => h8 (k2 g h), k1⟩
      rw [List.length_take, h6, Nat.min_eq_left (Nat.mul_le_mul_right _ hm)]
    · rcases List.mem_cons.1 hq with rfl | hq
      · simp
      · simp [k2 q hq]

/-- What is owned is a row that can be appended to. -/
theorem RowD.of_owns {W : World} {e : TypeId} {sz n : Nat} {v : Value} {ds : List Dt} {fp : List Nat} (h : Owns W v (.row e sz ds) fp) (hn : ds.length = n * sz) (hs : 0 < sz) : ∃ X fps, RowD W 0 e sz v n X ds fps ∧ ∀ q, v.ownBlock = some q ∨ q ∈ fps → q ∈ fp := by
  unfold Owns at h
  rcases h with ⟨rfl, rfl, rfl⟩ | ⟨g, n', cap, cur, fps, rfl, h2, h3, h4, h5, h6, rfl, h8, h9⟩
  · have e0 : n = 0 := by
      rcases Nat.eq_zero_or_pos n with h | h
      · exact h
      · have := Nat.mul_pos h hs
        simp at hn
        omega
    subst e0
    exact ⟨[], [], RowD.nil W 0 e sz, fun q hq => by rcases hq with h | h <;> cases h⟩
  · have e0 : n' = n := Nat.eq_of_mul_eq_mul_right hs (h6.symm.trans hn)
    subst e0
    have hXl : (cur.toList.take (n' * sz)).length = n' * sz := by
      rw [List.length_take, Array.length_toList, h5, Nat.min_eq_left (Nat.mul_le_mul_right _ h3)]
    refine ⟨cur.toList.take (n' * sz), fps, ⟨⟨hXl, .inr ⟨g, cap, cur, rfl, Nat.zero_le _, h2, h3, h4, h5, rfl⟩⟩, ?_, fun q hq hm => ?_, h6⟩, fun q hq => ?_⟩
    · refine h9.ext (fun i hi => ?_)
      rw [Nat.zero_add]
      simp only [List.getElem?_toArray]
      rw [List.getElem?_take_of_lt (by omega)]
      simp
    · have : g = q := by simpa [Value.ownBlock] using hq
      subst this
      exact h8 hm
    · rcases hq with h | h
      · have : g = q := by simpa [Value.ownBlock] using h
        subst this
        simp
      · simp [h]
end Go.Proofs.YteladljgnbfcnaaGreat.Da
namespace Go.Proofs.YteladljgnbfcnaaGreat.P9
open Go.RowKit P1 P8 Da Ap Rr Rc Cu

theorem RingX.take {l : List Pr} (h : RingD l) : RingX (l.take 3) :=
  ⟨by rw [List.length_take]; have := h.least; omega, by rw [List.length_take]; omega, fun p hp => h.tiny p (List.mem_of_mem_take hp),
    fun x hx => h.on x (by
      unfold idsOf at hx ⊢
      rw [List.map_take] at hx
      exact List.mem_of_mem_take hx), by
      unfold idsOf
      rw [List.map_take]
      exact h.nodup.sublist (List.take_sublist _ _), fun p hp => h.self p (List.mem_of_mem_take hp), by
      have e : heres (l.take 3) = heres l := by unfold heres; rw [List.map_take, List.take_take]; rfl
      rw [e]
      exact h.two⟩

def setHere (l : List Pr) (i : Nat) (b : Bool) : List Pr := l.modify i fun p => { p with here := b }
def addShelf (l : List Pr) (i : Nat) (key : Int) : List Pr := l.modify i fun p => { p with shelves := p.shelves ++ [⟨key, []⟩] }

theorem heres_ahead (l : List Pr) (i : Nat) (a : Int) : heres (setAhead l i a) = heres l := here_modify (f := fun p => { p with ahead := a }) fun _ => rfl
theorem heres_behind (l : List Pr) (i : Nat) (b : List Int) : heres (setBehind l i b) = heres l := here_modify (f := fun p => { p with behind := b }) fun _ => rfl
theorem heres_fing (l : List Pr) (i : Nat) (b : List Int) : heres (setFingers l i b) = heres l := here_modify (f := fun p => { p with fingers := b }) fun _ => rfl
theorem heres_shelf (l : List Pr) (i : Nat) (key : Int) : heres (addShelf l i key) = heres l := here_modify (f := fun p => { p with shelves := p.shelves ++ [⟨key, []⟩] }) fun _ => rfl

theorem two_flip (i : Nat) (b : Bool) : 2 ≤ (([true, true, true] : List Bool).set i b).count true := by
  match i with
  | 0 => cases b <;> decide
  | 1 => cases b <;> decide
  | 2 => cases b <;> decide
  | i + 3 => simp

theorem two_here {l : List Pr} (h : RingD l) (i : Nat) (b : Bool) : 2 ≤ (heres (setHere l i b)).count true := by
  unfold setHere
  rcases Nat.lt_or_ge i l.length with hi | hi
  · rw [modify_set _ l i hi]
    have e := h.heres
    unfold heres at e ⊢
    rw [List.map_set, List.take_set, e]
    exact two_flip i b
  · rw [List.modify_eq_self hi]
    exact h.two

theorem RingX.ahead {l : List Pr} (h : RingD l) (i : Nat) (a : Int) : RingX (setAhead l i a) := RingX.same h (ids_ahead l i a) (tiny_modify h.tiny i fun _ hp => ⟨hp.b, hp.f, hp.s, hp.i⟩) (self_modify h.self i fun _ hp => hp) (by rw [heres_ahead]; exact h.two)
theorem RingX.behind {l : List Pr} (h : RingD l) {i : Nat} (hi : i < l.length) {b : List Int} (hb : b.length ≤ 16) (hs : l[i].id ∉ b) : RingX (setBehind l i b) := RingX.same h (ids_behind l i b) (tiny_modify h.tiny i fun _ hp => ⟨hb, hp.f, hp.s, hp.i⟩) (by unfold setBehind; rw [modify_set _ _ _ hi]; exact self_set h.self i hs) (by rw [heres_behind]; exact h.two)
theorem RingX.fingers {l : List Pr} (h : RingD l) (i : Nat) {b : List Int} (hb : b.length ≤ 16) : RingX (setFingers l i b) := RingX.same h (ids_fingers l i b) (tiny_modify h.tiny i fun _ hp => ⟨hp.b, hb, hp.s, hp.i⟩) (self_modify h.self i fun _ hp => hp) (by rw [heres_fing]; exact h.two)
theorem RingX.here {l : List Pr} (h : RingD l) (i : Nat) (b : Bool) : RingX (setHere l i b) := RingX.same h (ids_modify (f := fun p => { p with here := b }) fun _ => rfl) (tiny_modify h.tiny i fun _ hp => ⟨hp.b, hp.f, hp.s, hp.i⟩) (self_modify h.self i fun _ hp => hp) (two_here h i b)

theorem RingX.shelf {l : List Pr} (h : RingD l) {i : Nat} (hi : i < l.length) (key : Int) : RingX (addShelf l i key) := by
  refine RingX.same h (ids_modify (f := fun p => { p with shelves := p.shelves ++ [⟨key, []⟩] }) fun _ => rfl) ?_ (self_modify h.self i fun _ hp => hp) (by rw [heres_shelf]; exact h.two)
  unfold addShelf
  rw [modify_set _ _ _ hi]
  have ht := h.tiny l[i] (List.getElem_mem hi)
  refine tiny_set h.tiny i ⟨ht.b, ht.f, ?_, fun x hx => ?_⟩
  · have := (h.strict (List.getElem_mem hi)).2
    show (l[i].shelves ++ [(⟨key, []⟩ : Shf)]).length ≤ _
    simp
    omega
  · rcases List.mem_append.1 hx with hx | hx
    · exact ht.i x hx
    · have e : x = ⟨key, []⟩ := by simpa using hx
      rw [e]
      exact ⟨Nat.zero_le _, fun y hy => by cases hy⟩

theorem put_here {W : World} {T : Tys} {g n c i : Nat} {l : List Pr} {fp : List Nat} (h : Owns W (.slice (some ⟨g, 0, none⟩) n c) (peersD T l) fp) (hi : i < l.length) (b : Bool) :
    Owns (W.setCell ⟨g, i * 6 + 1, none⟩ (.bool b)) (.slice (some ⟨g, 0, none⟩) n c) (peersD T (setHere l i b)) fp := by
  have h1 := (h.put_leaf (i := i * 6 + 1) (v0 := .bool l[i].here) (prC_get hi (by decide)) (.bool b)).1
  unfold peersD setHere
  rw [modify_set _ _ _ hi, ← flatMap_set (prC T) 6 (fun _ => rfl) l i 1 hi (by decide) _ (.leaf (.bool b)) rfl]
  exact h1

/-- A shelf more of a peer, put where its shelves were. -/
theorem over_shelves {W : World} {g n c i : Nat} {l : List Pr} {fp : List Nat} (h : Owns W (.slice (some ⟨g, 0, none⟩) n c) (peersD T0 l) fp) (hi : i < l.length) :
    ∃ u f, W.cell? ⟨g, i * 6 + 5, none⟩ = some u ∧ Owns W u (shelvesD T0 l[i].shelves) f ∧ (∀ q ∈ f, q ∈ fp ∧ q ≠ g) ∧ ∀ (W' : World) (u' : Value) (f' : List Nat) (key : Int), Owns W' u' (shelvesD T0 (l[i].shelves ++ [⟨key, []⟩])) f' → Only f W W' → (∀ q ∈ f', q ∈ f ∨ W.heap.size ≤ q) →
      ∃ fp', Owns (W'.setCell ⟨g, i * 6 + 5, none⟩ u') (.slice (some ⟨g, 0, none⟩) n c) (peersD T0 (addShelf l i key)) fp' ∧ ∀ q ∈ fp', q ∈ fp ∨ q ∈ f' := by
  obtain ⟨u, f, h1, h2, h3, h4⟩ := Owns.over (i := i * 6 + 5) (d := shelvesD T0 l[i].shelves) h (prC_get hi (by decide))
  refine ⟨u, f, h1, h2, h3, fun W' u' f' key ho hx hf => ?_⟩
  obtain ⟨fp', k1, k2⟩ := h4 W' u' _ f' ho hx hf
  refine ⟨fp', ?_, k2⟩
  unfold addShelf
  rw [modify_set _ _ _ hi]
  unfold peersD
  rw [← flatMap_set (prC T0) 6 (fun _ => rfl) l i 5 hi (by decide) { l[i] with shelves := l[i].shelves ++ [⟨key, []⟩] } (shelvesD T0 (l[i].shelves ++ [⟨key, []⟩])) rfl]
  exact k1

theorem flat_take_n {α β : Type} (f : α → List β) (n : Nat) (hf : ∀ x, (f x).length = n) : ∀ (l : List α) (m : Nat), (l.flatMap f).take (m * n) = (l.take m).flatMap f
  | [], m => by simp
  | x :: l, 0 => by simp
  | x :: l, m + 1 => by
    rw [List.flatMap_cons, List.take_succ_cons, List.flatMap_cons, Nat.add_mul, Nat.one_mul, Nat.add_comm, ← hf x, List.take_length_add_append, hf x, flat_take_n f n hf l m]

theorem owns_room {W : World} {g n c : Nat} {e : TypeId} {sz : Nat} {ds : List Dt} {fp : List Nat} (h : Owns W (.slice (some ⟨g, 0, none⟩) n c) (.row e sz ds) fp) : n ≤ c := by
  unfold Owns at h
  rcases h with ⟨h, _⟩ | ⟨g', n', cap', cur, fps, h1, h2, h3, h4, h5, h6, rfl, h8, h9⟩
  · cases h
  · cases h1
    exact h3

theorem shelf_snoc (l : List Shf) (key : Int) : shelvesD T0 (l ++ [⟨key, []⟩]) = .row 72 2 (l.flatMap (shC T0) ++ shC T0 ⟨key, []⟩) := by
  unfold shelvesD
  rw [List.flatMap_append]
  simp only [List.flatMap_cons, List.flatMap_nil, List.append_nil]
  rfl

/-- What holds behind it. -/
structure FS (B g s br : Nat) (w wr : World) (v : Value) (l : List Pr) (fp : List Nat) : Prop where
  gs : g < w.heap.size
  ws : w.heap.size ≤ s
  sb : s < br
  blk : Blk wr br [v] 28
  res : Blk wr s [.slice none 0 0] 28
  own : Owns wr v (peersD T0 l) fp
  apart : ∀ q ∈ fp, w.heap.size ≤ q ∧ q ≠ br ∧ q ≠ s
  ring : RingX l
  cur : Cur B wr g
  grown : w.grownBy wr (some g)

theorem RS.final {B g s br : Nat} {w wr : World} {v : Value} {l : List Pr} {fp : List Nat} (h : RS B g s br w wr v l fp) : FS B g s br w wr v l fp :=
  ⟨h.gs, h.ws, h.sb, h.blk, h.res, h.own, h.apart, h.ring.x, h.cur, h.grown⟩

theorem FS.make {B g s br : Nat} {w wr wm : World} {v : Value} {l l' : List Pr} {fp fp' fs : List Nat} (h : RS B g s br w wr v l fp) (ho : Only fs wr wm) (hfs : ∀ q ∈ fs, q ∈ fp) {gp o : Nat} {u : Value} (hg : gp ∈ fp)
    (hown : Owns (wm.setCell ⟨gp, o, none⟩ u) v (peersD T0 l') fp') (hf : ∀ q ∈ fp', q ∈ fp ∨ wr.heap.size ≤ q) (hr : RingX l') : FS B g s br w (wm.setCell ⟨gp, o, none⟩ u) v l' fp' := by
  have hgp := h.apart gp hg
  have hwz := h.grown.size
  have hbm : Below w.heap.size wr wm := ho.below hwz (fun q hq => (h.apart q (hfs q hq)).1)
  have hb : Below w.heap.size wr (wm.setCell ⟨gp, o, none⟩ u) := hbm.setCell (p := ⟨gp, o, none⟩) hgp.1 u
  have hbl := h.blk.lt
  have hsl := h.res.lt
  refine ⟨h.gs, h.ws, h.sb, ?_, ?_, hown, fun q hq => ?_, hr, cur_below h.cur hb h.gs, grown_more h.grown hb (Nat.le_refl _)⟩
  · exact (only_blk ho h.blk (fun hm => (h.apart br (hfs br hm)).2.1 rfl)).other (p := ⟨gp, o, none⟩) (fun e => hgp.2.1 e.symm) u
  · exact (only_blk ho h.res (fun hm => (h.apart s (hfs s hm)).2.2 rfl)).other (p := ⟨gp, o, none⟩) (fun e => hgp.2.2 e.symm) u
  · rcases hf q hq with h1 | h1
    · exact h.apart q h1
    · exact ⟨by omega, by omega, by omega⟩

theorem FS.cut {B g s br : Nat} {w wr : World} {l l' : List Pr} {fp fp' : List Nat} {v v' : Value} (h : RS B g s br w wr v l fp) (hown : Owns wr v' (peersD T0 l') fp') (hf : ∀ q ∈ fp', q ∈ fp) (hr : RingX l') : FS B g s br w (wr.setCell ⟨br, 0, none⟩ v') v' l' fp' := by
  have hb : Below w.heap.size wr (wr.setCell ⟨br, 0, none⟩ v') := (Below.refl w.heap.size wr).setCell (p := ⟨br, 0, none⟩) (by show w.heap.size ≤ br; have := h.ws; have := h.sb; omega) v'
  refine ⟨h.gs, h.ws, h.sb, h.blk.set 0 v', h.res.other (p := ⟨br, 0, none⟩) (by have := h.sb; show s ≠ br; omega) v', owns_set (b := br) (i := 0) hown (fun q hq => (h.apart q (hf q hq)).2.1) v', fun q hq => h.apart q (hf q hq), hr, cur_below h.cur hb h.gs, grown_more h.grown hb (Nat.le_refl _)⟩
end Go.Proofs.YteladljgnbfcnaaGreat.P9
namespace Go.Proofs.YteladljgnbfcnaaGreat.P9
set_option maxRecDepth 8000
open Go.RowKit P1 P8 Da Ap Rr Rc Cu

set_option maxRecDepth 100000 in
set_option maxHeartbeats 8000000 in
theorem any_calls (B g : Nat) (w : World) (hc : Cur B w g) :
    Calls Tryz.prog 34 #[.pointer (some ⟨g, 0, none⟩)] w fun e w' => ∃ v l id fp, e = .returned (.tuple #[.agg #[v], .int .i64 id]) ∧ Owns w' v (peersD T0 l) fp ∧ (∀ q ∈ fp, w.heap.size ≤ q) ∧ RingX l ∧ Cur B w' g ∧ w.grownBy w' (some g) := by
  have hgw := hc.2.1
  have hb1 := (Below.refl w.heap.size w).alloc (Nat.le_refl _) (.cells #[.slice none 0 0] 28)
  have A0 := Blk.new w #[.slice none 0 0] 28
  have HC1 := hide (cur_below hc hb1 hgw)
  have HG1 := hide (grown_more (grown_refl w (some g)) hb1 (Nat.le_refl _))
  clear hc hb1
  go_enter Tryz.func34, Tryz.ntmps34
  go_upto_region 1 with fail
  obtain ⟨s, es⟩ : ∃ s, s = w.heap.size := ⟨_, rfl⟩
  rw [← es] at A0 ⊢
  have HS : Hid (w.heap.size = s) := es.symm
  have hgs : g < s := by omega
  clear es
  generalize w.alloc (.cells #[.slice none 0 0] 28) = w1 at *
  go_wp2_with fail
  refine (below_calls B g w1 HC1.out 14 (by decide) (by decide)).mono ?_
  rintro e w2 ⟨kk, hkk, rfl, hc2, hg2⟩
  have HC2 := hide hc2
  have HG2 := hide (grown_trans HG1.out hg2)
  have A2 := Cu_blk A0 hg2 (by omega)
  clear A0 HC1 HG1 hc2 hg2
  go_wp2_with fail
  refine (below_calls B g w2 HC2.out 60 (by decide) (by decide)).mono ?_
  rintro e w3 ⟨y, hy, rfl, hc3, hg3⟩
  have HC3 := hide hc3
  have HG3 := hide (grown_trans HG2.out hg3)
  have A3 := Cu_blk A2 hg3 (by omega)
  clear A2 HC2 HG2 hc3 hg3
  go_wp2_with fail
  refine (below_calls B g w3 HC3.out 12 (by decide) (by decide)).mono ?_
  rintro e w4 ⟨most, hmost, rfl, hc4, hg4⟩
  have HC4 := hide hc4
  have HG4 := hide (grown_trans HG3.out hg4)
  have A4 := Cu_blk A3 hg4 (by omega)
  clear A3 HC3 HG3 hc4 hg4
  go_wp2_with fail
  refine (ring_calls B g w4 HC4.out most (by omega)).mono ?_
  rintro e w5 ⟨v5, l, fp5, rfl, ho5, hf5, hrd, hc5, hg5⟩
  have HRD := hide hrd
  have HC5 := hide hc5
  have HG5 := hide (grown_trans HG4.out hg5)
  have A5 := Cu_blk A4 hg5 (by omega)
  have CC := hide (copyRing_calls w5 v5 l ⟨T0, ho5.reads⟩ hrd.len hrd.small)
  clear A4 HC4 HG4 hc5 hg5 ho5 hf5 hrd
  go_wp2_with fail
  refine CC.out.mono ?_
  rintro e w6 ⟨v, fp, rfl, ho, hfp, hb6⟩
  obtain ⟨gp, cp, hsh⟩ := peers_shape ho (by have := HRD.out.least; omega)
  subst hsh
  clear CC
  go_upto_region 4 with fail
  have hba := (Below.refl w6.heap.size w6).alloc (Nat.le_refl _) (.cells #[.slice (some ⟨gp, 0, none⟩) l.length cp] 28)
  have hb57 := hb6.trans (hba.mono hb6.size)
  have YB := Blk.new w6 #[.slice (some ⟨gp, 0, none⟩) l.length cp] 28
  have h5s := A5.lt
  have h6s := hb6.size
  have hflt := ho.lt
  have hg5z := HG5.out.size
  have hw0 := HS.out
  have HRS := hide (show RS B g s w6.heap.size w (w6.alloc (.cells #[.slice (some ⟨gp, 0, none⟩) l.length cp] 28)) (.slice (some ⟨gp, 0, none⟩) l.length cp) l fp from
    ⟨by omega, by omega, by omega, YB, A5.below hb57 A5.lt, owns_below ho hba, fun q hq => by have := hfp q hq; have := hflt q hq; exact ⟨by omega, by omega, by omega⟩, HRD.out, cur_below HC5.out hb57 HC5.out.2.1, grown_more HG5.out hb57 hg5z⟩)
  obtain ⟨br, ebr⟩ : ∃ b, b = w6.heap.size := ⟨_, rfl⟩
  rw [← ebr] at HRS ⊢
  clear ebr YB hba hb57 hb6 ho hfp A5 HC5 HG5 HRD h5s h6s hflt hg5z
  generalize w6.alloc (.cells #[.slice (some ⟨gp, 0, none⟩) l.length cp] 28) = w7 at *
  have hl4 := HRS.out.ring.least
  have hl8 := HRS.out.ring.most
  have c0 := blk_free_cell HRS.out.blk 0 rfl
  have l0 := HRS.out.blk.lt
  have hi : y % l.length < l.length := Nat.mod_lt _ (by omega)
  go_upto_region 5 with fail
  rw [show ((y : Int) % (l.length : Int)) = ((y % l.length : Nat) : Int) by simp]
  generalize y % l.length = i at *
  have ci := cell_of_id HRS.out.own hi
  have hmem := (peer_cell HRS.out.own hi (j := 0) (by decide)).2.2.2
  have hgl := (peer_cell HRS.out.own hi (j := 0) (by decide)).2.2.1
  generalize eid : l[i].id = idv at ci
  clear eid
  go_upto_region 6 with fail
  clear ci
  have h14 : kk = 0 ∨ kk = 1 ∨ kk = 2 ∨ kk = 3 ∨ kk = 4 ∨ kk = 5 ∨ kk = 6 ∨ kk = 7 ∨ kk = 8 ∨ kk = 9 ∨ kk = 10 ∨ kk = 11 ∨ kk = 12 ∨ kk = 13 := by omega
  clear hkk
  rcases h14 with rfl | rfl | rfl | rfl | rfl | rfl | rfl | rfl | rfl | rfl | rfl | rfl | rfl | rfl
  · obtain ⟨⟨u2, k2⟩, q2, hlg, -⟩ := peer_cell HRS.out.own hi (j := 2) (by decide)
    go_upto_region 21 with fail
    have HF := hide (FS.make HRS.out (Only.refl [] w7) (fun q hq => by cases hq) hmem (put_ahead HRS.out.own hi ((y : Int) * 5 - 2)) (fun q hq => .inl hq) (RingX.ahead HRS.out.ring i _))
    clear c0 l0 k2 q2 hlg
    generalize w7.setCell ⟨gp, i * 6 + 2, none⟩ (.int .i64 ((y : Int) * 5 - 2)) = wn at *

    have c0 := blk_free_cell HF.out.blk 0 rfl
    have l0 := HF.out.blk.lt
    have z0 := blk_free_cell HF.out.res 0 rfl
    have z1 := HF.out.res.free 0
    have zl := HF.out.res.lt
    go_wp2_with fail
    have Rd := HF.out.res.set 0 (.slice (some ⟨gp, 0, none⟩) l.length cp)
    have x0 := blk_free_cell Rd 0 rfl
    have hbw : Below w.heap.size wn (wn.setCell ⟨s, 0, none⟩ (.slice (some ⟨gp, 0, none⟩) l.length cp)) := (Below.refl w.heap.size wn).setCell (p := ⟨s, 0, none⟩) (by show w.heap.size ≤ s; omega) _
    refine bodyPost_ret (v := .tuple #[.agg #[.slice (some ⟨gp, 0, none⟩) l.length cp], .int .i64 idv]) (by simp [results, Tryz.results34, go_sem, x0]) rfl ⟨_, _, _, _, rfl, owns_set (b := s) (i := 0) HF.out.own (fun q hq => (HF.out.apart q hq).2.2) _, fun q hq => (HF.out.apart q hq).1, HF.out.ring, cur_below HF.out.cur hbw HF.out.gs, grown_more HF.out.grown hbw (Nat.le_refl _)⟩
  · have hj : (i + 2) % l.length < l.length := Nat.mod_lt _ (by omega)
    have n0 : ∀ p : Near w7.heap.size w7, p.w.cell? ⟨br, 0, none⟩ = some (.slice (some ⟨gp, 0, none⟩) l.length cp) := fun p => blk_free_cell (HRS.out.blk.below p.h HRS.out.blk.lt) 0 rfl
    have hnn := Near.some w7.heap.size w7
    obtain ⟨i0, hi0, hz0, hz1, hz2⟩ := info_parts info_i64
    have nid : ∀ p : Near w7.heap.size w7, p.w.cell? ⟨gp, (i + 2) % l.length * 6, none⟩ = some (.int .i64 l[(i + 2) % l.length].id) := fun p => cell_of_id (owns_below HRS.out.own p.h) hj
    have ej : ((i : Int) + 2) % (l.length : Int) = (((i + 2) % l.length : Nat) : Int) := by simp
    have hne : l[i].id ≠ l[(i + 2) % l.length].id := fun e => by
      have := ids_inj HRS.out.ring.nodup hi hj e
      rcases Nat.lt_or_ge (i + 2) l.length with h1 | h1
      · rw [Nat.mod_eq_of_lt h1] at this
        omega
      · rw [Nat.mod_eq_sub_mod h1, Nat.mod_eq_of_lt (by omega)] at this
        omega
    have HNS : Hid (l[i].id ∉ l[(i + 2) % l.length].id :: l[i].behind) := fun hm => by
      rcases List.mem_cons.1 hm with h1 | h1
      · exact hne h1
      · exact HRS.out.ring.self _ (List.getElem_mem hi) h1
    clear hne
    generalize l[(i + 2) % l.length].id = jd at *
    generalize (i + 2) % l.length = j at *
    obtain ⟨u3, u4, u5, hcl⟩ := cells_of_peer HRS.out.peers hi
    have hbe := hcl.behind
    have HBE := hide hbe
    have htl := (HRS.out.ring.tiny l[i] (List.getElem_mem hi)).b
    have HXB : Hid (l[i].behind.length ≤ 8) := Nat.le_trans (HRS.out.ring.strict (List.getElem_mem hi)).1 (by decide)
    obtain ⟨a3, c3, e3, -⟩ := hbe
    subst e3
    have n3 : ∀ p : Near w7.heap.size w7, p.w.cell? ⟨gp, i * 6 + 3, none⟩ = some (.slice a3 l[i].behind.length c3) := fun p => (p.h.cell (p := ⟨gp, i * 6 + 3, none⟩) hgl).trans hcl.c3
    clear hcl htl
    generalize l[i].behind = xb at *
    go_upto_region 10 with fail
    clear c0 l0
    refine wp_region_open (fun wd => ∃ p : Near w7.heap.size w7, wd = p.w) ⟨⟨_, (Below.refl _ _).drew⟩, rfl⟩ (by kernel_rfl) ?_
    rintro wd ⟨pd, rfl⟩
    refine wpAny_of_K (c := 22) (D := fun w' => ∃ p : Near w7.heap.size w7, w' = p.w) _ _ _ _ ?_
    refine wpAnyK_seg_lit4 0 11 8 14 rfl (by decide) (by decide) (by kernel_rfl) (by kernel_rfl) (by kernel_rfl) (by kernel_rfl) (fun _ _ _ _ _ h => h) ⟨pd, rfl⟩ ?_
    simp only [List.take_succ_cons, List.take_zero, List.drop_zero]
    repeat (go_big_quiet_step (fail))
    refine wpQuiet_nil ?_
    rw [ej]
    refine wpAnyK_seg_lit4 11 3 8 11 rfl (by decide) (by decide) (by kernel_rfl) (by kernel_rfl) (by kernel_rfl) (by kernel_rfl) (fun _ _ _ _ _ h => h) ⟨pd, rfl⟩ ?_
    simp only [List.take_succ_cons, List.take_zero, List.drop_succ_cons, List.drop_zero]
    repeat (go_big_quiet_step (fail))
    refine wpQuiet_nil ?_
    refine wpAnyK_seg_lit4 15 6 8 5 rfl (by decide) (by decide) (by kernel_rfl) (by kernel_rfl) (by kernel_rfl) (by kernel_rfl) (fun _ _ _ _ _ h => h) ⟨pd, rfl⟩ ?_
    simp only [List.take_succ_cons, List.take_zero, List.drop_succ_cons, List.drop_zero]
    repeat (go_big_quiet_step (fail))
    refine wpQuiet_nil ?_
    clear n0 nid n3 hnn ej
    have hps := pd.h.size
    have hxb := HXB.out
    refine wpAnyK_value (i := 14) (v := .slice (some ⟨pd.w.heap.size, 0, none⟩) 1 1) (w' := pd.w.alloc (.cells #[.int .i64 jd] 3)) (by kernel_rfl) rfl rfl (by simp [execOp, go_sem]) ⟨⟨_, pd.h.alloc hps _⟩, rfl⟩ ?_
    simp only [Act.put, List.setIfInBounds_toArray, List.set_cons_succ, List.set_cons_zero]
    have hbA := (Below.refl pd.w.heap.size pd.w).alloc (Nat.le_refl _) (.cells #[.int .i64 jd] 3)
    have hoI : (pd.w.alloc (.cells #[.int .i64 jd] 3)).ownsRow w7.heap.size 3 1 (.slice (some ⟨pd.w.heap.size, 0, none⟩) 1 1) 1 [.int .i64 jd] := own_mono (World.ownsRow_lit (base := pd.w.heap.size) (e := 3) (size := 1) pd.w #[.int .i64 jd] 1 (Nat.le_refl _) (by decide) rfl) hps
    have hqI := pd.h.trans (hbA.mono hps)
    have H3I := hide (HBE.out.below hqI (Nat.le_refl _))
    have hsz : w7.heap.size ≤ (pd.w.alloc (.cells #[.int .i64 jd] 3)).heap.size := hqI.size
    refine wpAnyK_one 21 (by kernel_rfl) rfl ?_
    refine wpList_append_any rfl (.tmp 56) (.tmp 62) 24 rfl w7.heap.size 3 i0 (.int .i64 0) 1 8 Tryz.underlying24 hi0 hz0 hz1 hz2 rfl (by decide) _ _ _ rfl hoI a3 xb.length c3 rfl (cellsI xb) (cellsI_len xb) (ints_news H3I.out) (cellsI_one xb) (by unfold maxLen; omega) (by omega) hsz ?_
    intro v2 w6' hown hgr
    have hq6 := hqI.grown hgr hsz (fun k hk => (hoI.lt k hk).1)
    have hX : w6'.ownsRow w7.heap.size 3 1 v2 (jd :: xb).length (cellsI (jd :: xb)) := by
      rw [List.length_cons, Nat.add_comm]
      exact hown
    obtain ⟨a6, c6, hsh⟩ := own_sh hX
    subst hsh
    refine ⟨⟨⟨_, hq6⟩, rfl⟩, ?_⟩
    simp only [Act.put, List.setIfInBounds_toArray, List.set_cons_succ, List.set_cons_zero]
    obtain ⟨f6, o6, g6⟩ := ints_owned hX
    have HRp := hide (HRS.out.below hq6)
    have hxl : (jd :: xb).length ≤ 16 := by rw [List.length_cons]; omega
    clear hown hgr hX hqI hoI H3I hsz hps hbA HBE
    refine wpAnyK_last (by kernel_rfl) (by decide) ?_
    refine wpAny_rest 22 rfl (by kernel_rfl) ?_
    simp only [List.drop_succ_cons, List.drop_zero]
    obtain ⟨⟨u4, k4⟩, q4, hlg, -⟩ := peer_cell HRp.out.own hi (j := 3) (by decide)
    obtain ⟨fq, HPq, hfq⟩ := put_behind HRp.out.own hi o6 (fun q hq h => by have := HRS.out.own.lt q h; have := g6 q hq; omega)
    have HF := hide (FS.make HRS.out (Only.of_below (fp := []) hq6) (fun q hq => by cases hq) hmem HPq (fun q hq => (hfq q hq).imp id (fun h => g6 q h)) (RingX.behind HRS.out.ring hi hxl HNS.out))
    clear HPq hfq o6 g6 HRp hq6
    go_upto_region 21 with fail
    clear k4 q4 hlg
    generalize w6'.setCell ⟨gp, i * 6 + 3, none⟩ (.slice a6 (jd :: xb).length c6) = wn at *

    have c0 := blk_free_cell HF.out.blk 0 rfl
    have l0 := HF.out.blk.lt
    have z0 := blk_free_cell HF.out.res 0 rfl
    have z1 := HF.out.res.free 0
    have zl := HF.out.res.lt
    go_wp2_with fail
    have Rd := HF.out.res.set 0 (.slice (some ⟨gp, 0, none⟩) l.length cp)
    have x0 := blk_free_cell Rd 0 rfl
    have hbw : Below w.heap.size wn (wn.setCell ⟨s, 0, none⟩ (.slice (some ⟨gp, 0, none⟩) l.length cp)) := (Below.refl w.heap.size wn).setCell (p := ⟨s, 0, none⟩) (by show w.heap.size ≤ s; omega) _
    refine bodyPost_ret (v := .tuple #[.agg #[.slice (some ⟨gp, 0, none⟩) l.length cp], .int .i64 idv]) (by simp [results, Tryz.results34, go_sem, x0]) rfl ⟨_, _, _, _, rfl, owns_set (b := s) (i := 0) HF.out.own (fun q hq => (HF.out.apart q hq).2.2) _, fun q hq => (HF.out.apart q hq).1, HF.out.ring, cur_below HF.out.cur hbw HF.out.gs, grown_more HF.out.grown hbw (Nat.le_refl _)⟩
  · have n0 : ∀ p : Near w7.heap.size w7, p.w.cell? ⟨br, 0, none⟩ = some (.slice (some ⟨gp, 0, none⟩) l.length cp) := fun p => blk_free_cell (HRS.out.blk.below p.h HRS.out.blk.lt) 0 rfl
    have hnn := Near.some w7.heap.size w7
    obtain ⟨i0, hi0, hz0, hz1, hz2⟩ := info_parts info_i64
    go_upto_region 12 with fail
    clear c0 l0
    refine wp_region_open (fun wd => ∃ p : Near w7.heap.size w7, wd = p.w) ⟨⟨_, (Below.refl _ _).drew⟩, rfl⟩ (by kernel_rfl) ?_
    rintro wd ⟨pd, rfl⟩
    refine wpAny_of_K (c := 6) (D := fun w' => ∃ p : Near w7.heap.size w7, w' = p.w) _ _ _ _ ?_
    refine wpAnyK_seg_lit4 0 3 8 6 rfl (by decide) (by decide) (by kernel_rfl) (by kernel_rfl) (by kernel_rfl) (by kernel_rfl) (fun _ _ _ _ _ h => h) ⟨pd, rfl⟩ ?_
    simp only [List.take_succ_cons, List.take_zero, List.drop_zero]
    repeat (go_big_quiet_step (fail))
    refine wpQuiet_nil ?_
    clear n0 hnn
    have hps := pd.h.size
    refine wpAnyK_pair 3 4 (by kernel_rfl) rfl rfl ?first ?second
    case' first =>
      go_wp2_with fail
      have hbA := (Below.refl pd.w.heap.size pd.w).alloc (Nat.le_refl _) (.cells #[] 3)
      have hoA := own_lit0 pd.w
      refine ⟨⟨⟨_, pd.h.trans (hbA.mono hps)⟩, rfl⟩, ?_⟩
      obtain ⟨ba, eba⟩ : ∃ b, b = pd.w.heap.size := ⟨_, rfl⟩
      have hba : w7.heap.size ≤ ba := by omega
      have hqA := pd.h.trans (hbA.mono hps)
      rw [← eba] at hoA ⊢
      clear eba hbA
      generalize pd.w.alloc (.cells #[] 3) = wA at *
      refine wpAnyK_one 4 (by kernel_rfl) rfl ?_
      go_wp2_with fail
      have hbI := (Below.refl wA.heap.size wA).alloc (Nat.le_refl _) (.cells #[.int .i64 5] 3)
      have hoI := own_mono (own_below hoA hbI) hba
      have h5 : IntsAt (wA.alloc (.cells #[.int .i64 5] 3)) (.slice (some ⟨wA.heap.size, 0, none⟩) 1 1) [5] := IntsAt.of_own (B := wA.heap.size) (World.ownsRow_lit (base := wA.heap.size) (e := 3) (size := 1) wA #[.int .i64 5] 1 (Nat.le_refl _) (by decide) rfl)
      have hqI := hqA.trans (hbI.mono hqA.size)
      refine ⟨⟨⟨_, hqI⟩, rfl⟩, ?_⟩
      obtain ⟨bb, ebb⟩ : ∃ b, b = wA.heap.size := ⟨_, rfl⟩
      rw [← ebb] at h5 ⊢
      clear ebb hoA hqA hbI
      generalize wA.alloc (.cells #[.int .i64 5] 3) = wI at *
    case' second =>
      go_wp2_with fail
      have hbA := (Below.refl pd.w.heap.size pd.w).alloc (Nat.le_refl _) (.cells #[.int .i64 5] 3)
      have h5A : (pd.w.alloc (.cells #[.int .i64 5] 3)).ownsRow pd.w.heap.size 3 1 (.slice (some ⟨pd.w.heap.size, 0, none⟩) 1 1) ([5] : List Int).length (cellsI [5]) := World.ownsRow_lit (base := pd.w.heap.size) (e := 3) (size := 1) pd.w #[.int .i64 5] 1 (Nat.le_refl _) (by decide) rfl
      have hqA := pd.h.trans (hbA.mono hps)
      refine ⟨⟨⟨_, hqA⟩, rfl⟩, ?_⟩
      obtain ⟨bb, ebb⟩ : ∃ b, b = pd.w.heap.size := ⟨_, rfl⟩
      rw [← ebb] at h5A ⊢
      clear ebb hbA
      generalize pd.w.alloc (.cells #[.int .i64 5] 3) = wA at *
      refine wpAnyK_one 3 (by kernel_rfl) rfl ?_
      go_wp2_with fail
      have hbI := (Below.refl wA.heap.size wA).alloc (Nat.le_refl _) (.cells #[] 3)
      have hoI := own_mono (own_lit0 wA) hqA.size
      have h5 := IntsAt.of_own (own_below h5A hbI)
      have hqI := hqA.trans (hbI.mono hqA.size)
      refine ⟨⟨⟨_, hqI⟩, rfl⟩, ?_⟩
      obtain ⟨ba, eba⟩ : ∃ b, b = wA.heap.size := ⟨_, rfl⟩
      rw [← eba] at hoI ⊢
      clear eba h5A hqA hbI
      generalize wA.alloc (.cells #[] 3) = wI at *
    all_goals
      have hsz : w7.heap.size ≤ wI.heap.size := hqI.size
      refine wpAnyK_one 5 (by kernel_rfl) rfl ?_
      refine wpList_append_any rfl (.tmp 71) (.tmp 72) 24 rfl w7.heap.size 3 i0 (.int .i64 0) 1 8 Tryz.underlying24 hi0 hz0 hz1 hz2 rfl (by decide) _ _ _ rfl hoI (some ⟨bb, 0, none⟩) 1 1 rfl (cellsI [5]) rfl (ints_news (l := [5]) h5) (cellsI_one [5]) (by decide) (by decide) hsz ?_
      intro v2 w6' hown hgr
      have hq6 := hqI.grown hgr hsz (fun k hk => (hoI.lt k hk).1)
      have hX : w6'.ownsRow w7.heap.size 3 1 v2 ([5] : List Int).length (cellsI [5]) := hown
      obtain ⟨a6, c6, hsh⟩ := own_sh hX
      subst hsh
      refine ⟨⟨⟨_, hq6⟩, rfl⟩, ?_⟩
      simp only [Act.put, List.setIfInBounds_toArray, List.set_cons_succ, List.set_cons_zero]
      obtain ⟨f6, o6, g6⟩ := ints_owned hX
      have HRp := hide (HRS.out.below hq6)
      clear hown hgr hX hqI hoI h5 hsz hps
      refine wpAnyK_last (by kernel_rfl) (by decide) ?_
      refine wpAny_rest 6 rfl (by kernel_rfl) ?_
      simp only [List.drop_succ_cons, List.drop_zero]
      obtain ⟨⟨u4, k4⟩, q4, hlg, -⟩ := peer_cell HRp.out.own hi (j := 4) (by decide)
      obtain ⟨fq, HPq, hfq⟩ := put_fingers HRp.out.own hi o6 (fun q hq h => by have := HRS.out.own.lt q h; have := g6 q hq; omega)
      have HF := hide (FS.make HRS.out (Only.of_below (fp := []) hq6) (fun q hq => by cases hq) hmem HPq (fun q hq => (hfq q hq).imp id (fun h => g6 q h)) (RingX.fingers HRS.out.ring i (by decide)))
      clear HPq hfq o6 g6 HRp hq6
      go_upto_region 21 with fail
      clear k4 q4 hlg
      generalize w6'.setCell ⟨gp, i * 6 + 4, none⟩ (.slice a6 1 c6) = wn at *
      have c0 := blk_free_cell HF.out.blk 0 rfl
      have l0 := HF.out.blk.lt
      have z0 := blk_free_cell HF.out.res 0 rfl
      have z1 := HF.out.res.free 0
      have zl := HF.out.res.lt
      go_wp2_with fail
      have Rd := HF.out.res.set 0 (.slice (some ⟨gp, 0, none⟩) l.length cp)
      have x0 := blk_free_cell Rd 0 rfl
      have hbw : Below w.heap.size wn (wn.setCell ⟨s, 0, none⟩ (.slice (some ⟨gp, 0, none⟩) l.length cp)) := (Below.refl w.heap.size wn).setCell (p := ⟨s, 0, none⟩) (by show w.heap.size ≤ s; omega) _
      refine bodyPost_ret (v := .tuple #[.agg #[.slice (some ⟨gp, 0, none⟩) l.length cp], .int .i64 idv]) (by simp [results, Tryz.results34, go_sem, x0]) rfl ⟨_, _, _, _, rfl, owns_set (b := s) (i := 0) HF.out.own (fun q hq => (HF.out.apart q hq).2.2) _, fun q hq => (HF.out.apart q hq).1, HF.out.ring, cur_below HF.out.cur hbw HF.out.gs, grown_more HF.out.grown hbw (Nat.le_refl _)⟩
  · have n0 : ∀ p : Near w7.heap.size w7, p.w.cell? ⟨br, 0, none⟩ = some (.slice (some ⟨gp, 0, none⟩) l.length cp) := fun p => blk_free_cell (HRS.out.blk.below p.h HRS.out.blk.lt) 0 rfl
    have hnn := Near.some w7.heap.size w7
    have n1 : ∀ p : Near w7.heap.size w7, p.w.cell? ⟨gp, i * 6 + 1, none⟩ = some (.bool l[i].here) := fun p => by
      obtain ⟨_, _, _, hcl⟩ := cells_of_peer ⟨T0, (owns_below HRS.out.own p.h).reads⟩ hi
      exact hcl.here
    generalize l[i].here = hb at *
    go_upto_region 14 with fail
    clear c0 l0
    refine wp_region_open (fun wd => ∃ p : Near w7.heap.size w7, wd = p.w) ⟨⟨_, (Below.refl _ _).drew⟩, rfl⟩ (by kernel_rfl) ?_
    rintro wd ⟨pd, rfl⟩
    refine wpAny_of_K (c := 10) (D := fun w' => ∃ p : Near w7.heap.size w7, w' = p.w) _ _ _ _ ?_
    refine wpAnyK_seg_lit4 0 10 8 3 rfl (by decide) (by decide) (by kernel_rfl) (by kernel_rfl) (by kernel_rfl) (by kernel_rfl) (fun _ _ _ _ _ h => h) ⟨pd, rfl⟩ ?_
    simp only [List.take_succ_cons, List.take_zero, List.drop_zero]
    repeat (go_big_quiet_step (fail))
    refine wpQuiet_nil ?_
    refine wpAnyK_last (by kernel_rfl) (by decide) ?_
    refine wpAny_rest 10 rfl (by kernel_rfl) ?_
    simp only [List.drop_succ_cons, List.drop_zero]
    clear n0 n1 hnn
    have HRp := hide (HRS.out.below pd.h)
    obtain ⟨⟨u1, k1⟩, q1, hlg, -⟩ := peer_cell HRp.out.own hi (j := 1) (by decide)
    go_upto_region 21 with fail
    have HF := hide (FS.make HRp.out (Only.refl [] pd.w) (fun q hq => by cases hq) hmem (put_here HRp.out.own hi (!hb)) (fun q hq => .inl hq) (RingX.here HRS.out.ring i _))
    clear k1 q1 hlg
    generalize pd.w.setCell ⟨gp, i * 6 + 1, none⟩ (.bool (!hb)) = wn at *

    have c0 := blk_free_cell HF.out.blk 0 rfl
    have l0 := HF.out.blk.lt
    have z0 := blk_free_cell HF.out.res 0 rfl
    have z1 := HF.out.res.free 0
    have zl := HF.out.res.lt
    go_wp2_with fail
    have Rd := HF.out.res.set 0 (.slice (some ⟨gp, 0, none⟩) l.length cp)
    have x0 := blk_free_cell Rd 0 rfl
    have hbw : Below w.heap.size wn (wn.setCell ⟨s, 0, none⟩ (.slice (some ⟨gp, 0, none⟩) l.length cp)) := (Below.refl w.heap.size wn).setCell (p := ⟨s, 0, none⟩) (by show w.heap.size ≤ s; omega) _
    refine bodyPost_ret (v := .tuple #[.agg #[.slice (some ⟨gp, 0, none⟩) l.length cp], .int .i64 idv]) (by simp [results, Tryz.results34, go_sem, x0]) rfl ⟨_, _, _, _, rfl, owns_set (b := s) (i := 0) HF.out.own (fun q hq => (HF.out.apart q hq).2.2) _, fun q hq => (HF.out.apart q hq).1, HF.out.ring, cur_below HF.out.cur hbw HF.out.gs, grown_more HF.out.grown hbw (Nat.le_refl _)⟩
  · obtain ⟨is, hh0, hh1, hh2, hh3⟩ := info_parts info_shelf
    obtain ⟨u5, f5, c5, o5, m5, HO⟩ := over_shelves HRS.out.own hi
    have HOV := hide HO
    have htl := (HRS.out.ring.tiny l[i] (List.getElem_mem hi)).s
    have HTL := hide htl
    obtain ⟨X, fps, hR, hRf⟩ := RowD.of_owns (n := l[i].shelves.length) o5 (flatMap_length _ 2 (fun _ => rfl) l[i].shelves) (by decide)
    obtain ⟨a5, cc5, hsh⟩ := own_sh hR.row
    subst hsh
    clear HO htl o5
    have C5 := hide c5
    have Q5 := hide ((peer_cell HRS.out.own hi (j := 5) (by decide)).2.1)
    generalize l[i].shelves = sh at *
    have hbrn : br ∉ (Value.slice a5 sh.length cc5).ownBlock.toList := fun hm => (HRS.out.apart br (m5 br (hRf br (.inl (by simpa using hm)))).1).2.1 rfl
    have hgpn : gp ∉ (Value.slice a5 sh.length cc5).ownBlock.toList := fun hm => (m5 gp (hRf gp (.inl (by simpa using hm)))).2 rfl
    have n0 : ∀ p : NOnly (Value.slice a5 sh.length cc5).ownBlock.toList w7, p.w.cell? ⟨br, 0, none⟩ = some (.slice (some ⟨gp, 0, none⟩) l.length cp) := fun p => blk_free_cell (only_blk p.h HRS.out.blk hbrn) 0 rfl
    have n5 : ∀ p : NOnly (Value.slice a5 sh.length cc5).ownBlock.toList w7, p.w.cell? ⟨gp, i * 6 + 5, none⟩ = some (.slice a5 sh.length cc5) := fun p => (only_cell p.h (p := ⟨gp, i * 6 + 5, none⟩) hgl hgpn).trans c5
    have hnn := NOnly.some (Value.slice a5 sh.length cc5).ownBlock.toList w7
    go_upto_region 16 with fail
    clear c0 l0
    refine wp_region_open (fun wd => ∃ p : Near w7.heap.size w7, wd = p.w) ⟨⟨_, (Below.refl _ _).drew⟩, rfl⟩ (by kernel_rfl) ?_
    rintro wd ⟨pd, rfl⟩
    refine wpAny_of_K (c := 14) (D := fun w' => ∃ p : NOnly (Value.slice a5 sh.length cc5).ownBlock.toList w7, w' = p.w) _ _ _ _ ?_
    refine wpAnyK_seg_lit4 0 12 8 5 rfl (by decide) (by decide) (by kernel_rfl) (by kernel_rfl) (by kernel_rfl) (by kernel_rfl) (fun _ _ _ _ _ h => h) ⟨⟨_, Only.of_below pd.h⟩, rfl⟩ ?_
    simp only [List.take_succ_cons, List.take_zero, List.drop_zero]
    repeat (go_big_quiet_step (fail))
    refine wpQuiet_nil ?_
    clear n0 n5 hnn c5
    have hps := pd.h.size
    obtain ⟨ky, eky⟩ : ∃ ky : Int, ky = (y : Int) * 5 := ⟨_, rfl⟩
    rw [← eky]
    refine wpAnyK_value (i := 12) (v := .slice (some ⟨pd.w.heap.size, 0, none⟩) 1 1) (w' := pd.w.alloc (.cells #[.int .i64 ky, .slice none 0 0] 72)) (by kernel_rfl) rfl rfl (by simp [execOp, go_sem]) ⟨⟨_, Only.of_below (pd.h.alloc hps _)⟩, rfl⟩ ?_
    simp only [Act.put, List.setIfInBounds_toArray, List.set_cons_succ, List.set_cons_zero]
    refine wpAnyK_one 13 (by kernel_rfl) rfl ?_
    have HRd := hide (hR.below pd.h)
    have hsl := HTL.out
    refine wpList_append_keep (B := 0) (cs := #[.int .i64 ky, .slice none 0 0]) (Nat.zero_le _) rfl (.tmp 100) (.tmp 104) 35 rfl 72 is (.agg #[.int .i64 0, .slice none 0 0]) 2 32 Tryz.underlying35 hh0 hh1 hh2 hh3 rfl (by decide) rfl (by simp [Value.oneCell']) (.slice a5 sh.length cc5) _ _ rfl HRd.out.row 1 rfl (by omega) (by omega) ?_
    intro v2 wx hown hgrew
    obtain ⟨a6, c6, hsh⟩ := own_sh hown
    subst hsh
    have hOx := (Only.of_below pd.h).trans (only_by hgrew.by_)
    refine ⟨⟨⟨wx, hOx⟩, rfl⟩, ?_⟩
    simp only [Act.put, List.setIfInBounds_toArray, List.set_cons_succ, List.set_cons_zero]
    have hRx := HRd.out.append (owns_shelf (key := ky) (l := []) (owns_nil _ _)) rfl (fun q hq => by cases hq) hown hgrew
    obtain ⟨f6, o6, hm6⟩ := hRx.owns
    replace o6 : Owns wx (.slice a6 (sh.length + 1) c6) (shelvesD T0 (sh ++ [⟨ky, []⟩])) f6 := by rw [shelf_snoc]; exact o6
    have hOf : Only f5 w7 wx := hOx.mono (fun q hq => hRf q (.inl (by simpa using hq)))
    have hf6 : ∀ q ∈ f6, q ∈ f5 ∨ w7.heap.size ≤ q := fun q hq => by
      rcases (hm6 q).1 hq with h | h
      · rcases hgrew with ⟨g0, cap0, e1, e2, _⟩ | ⟨e1, _⟩
        · rw [e2] at h
          refine .inl (hRf q (.inl ?_))
          rw [e1]
          simpa [Value.ownBlock] using h
        · exact .inr (Nat.le_trans hps (e1 q h))
      · exact .inl (hRf q (.inr (by simpa using h)))
    obtain ⟨fq, HPq, hfq⟩ := HOV.out wx _ f6 ky o6 hOf hf6
    have HF := hide (FS.make HRS.out hOf (fun q hq => (m5 q hq).1) hmem HPq (fun q hq => by
      rcases hfq q hq with h | h
      · exact .inl h
      · exact (hf6 q h).imp (fun h => (m5 q h).1) id) (RingX.shelf HRS.out.ring hi ky))
    have k5 : ∃ u, wx.cell? ⟨gp, i * 6 + 5, none⟩ = some u := ⟨_, (only_cell hOx (p := ⟨gp, i * 6 + 5, none⟩) hgl hgpn).trans C5.out⟩
    have q5 : wx.frozen? ⟨gp, i * 6 + 5, none⟩ = false := (frozen_of_block (hOx.block gp hgl hgpn)).trans Q5.out
    have hlg : gp < wx.heap.size := Nat.lt_of_lt_of_le hgl hOx.size
    obtain ⟨u6, k5⟩ := k5
    clear HPq hfq o6 hf6 hOf hm6 hRx hOx hown hgrew HRd hR hRf m5 hbrn hgpn
    refine wpAnyK_last (by kernel_rfl) (by decide) ?_
    refine wpAny_rest 14 rfl (by kernel_rfl) ?_
    simp only [List.drop_succ_cons, List.drop_zero]
    go_upto_region 21 with fail
    clear k5 q5 hlg
    generalize wx.setCell ⟨gp, i * 6 + 5, none⟩ (.slice a6 (sh.length + 1) c6) = wn at *

    have c0 := blk_free_cell HF.out.blk 0 rfl
    have l0 := HF.out.blk.lt
    have z0 := blk_free_cell HF.out.res 0 rfl
    have z1 := HF.out.res.free 0
    have zl := HF.out.res.lt
    go_wp2_with fail
    have Rd := HF.out.res.set 0 (.slice (some ⟨gp, 0, none⟩) l.length cp)
    have x0 := blk_free_cell Rd 0 rfl
    have hbw : Below w.heap.size wn (wn.setCell ⟨s, 0, none⟩ (.slice (some ⟨gp, 0, none⟩) l.length cp)) := (Below.refl w.heap.size wn).setCell (p := ⟨s, 0, none⟩) (by show w.heap.size ≤ s; omega) _
    refine bodyPost_ret (v := .tuple #[.agg #[.slice (some ⟨gp, 0, none⟩) l.length cp], .int .i64 idv]) (by simp [results, Tryz.results34, go_sem, x0]) rfl ⟨_, _, _, _, rfl, owns_set (b := s) (i := 0) HF.out.own (fun q hq => (HF.out.apart q hq).2.2) _, fun q hq => (HF.out.apart q hq).1, HF.out.ring, cur_below HF.out.cur hbw HF.out.gs, grown_more HF.out.grown hbw (Nat.le_refl _)⟩
  · go_upto_region 21 with fail
    have HF := hide HRS.out.final
    clear c0 l0
    generalize w7 = wn at *

    have c0 := blk_free_cell HF.out.blk 0 rfl
    have l0 := HF.out.blk.lt
    have z0 := blk_free_cell HF.out.res 0 rfl
    have z1 := HF.out.res.free 0
    have zl := HF.out.res.lt
    go_wp2_with fail
    have Rd := HF.out.res.set 0 (.slice (some ⟨gp, 0, none⟩) l.length cp)
    have x0 := blk_free_cell Rd 0 rfl
    have hbw : Below w.heap.size wn (wn.setCell ⟨s, 0, none⟩ (.slice (some ⟨gp, 0, none⟩) l.length cp)) := (Below.refl w.heap.size wn).setCell (p := ⟨s, 0, none⟩) (by show w.heap.size ≤ s; omega) _
    refine bodyPost_ret (v := .tuple #[.agg #[.slice (some ⟨gp, 0, none⟩) l.length cp], .int .i64 (y : Int)]) (by simp [results, Tryz.results34, go_sem, x0]) rfl ⟨_, _, _, _, rfl, owns_set (b := s) (i := 0) HF.out.own (fun q hq => (HF.out.apart q hq).2.2) _, fun q hq => (HF.out.apart q hq).1, HF.out.ring, cur_below HF.out.cur hbw HF.out.gs, grown_more HF.out.grown hbw (Nat.le_refl _)⟩
  · have y0 := HRS.out.blk.free 0
    have hcp : 3 ≤ cp := by have := owns_room HRS.out.own; omega
    obtain ⟨f3, o3, g3⟩ := Owns.take (m := 3) HRS.out.own (by omega)
    have e3 : (l.flatMap (prC T0)).take (3 * 6) = (l.take 3).flatMap (prC T0) := flat_take_n (prC T0) 6 (fun _ => rfl) l 3
    rw [e3] at o3
    have HF := hide (FS.cut (v' := .slice (some ⟨gp, 0, none⟩) 3 cp) (l' := l.take 3) HRS.out o3 g3 (RingX.take HRS.out.ring))
    clear o3 g3 e3
    go_upto_region 21 with fail
    clear c0 l0 y0
    generalize w7.setCell ⟨br, 0, none⟩ (.slice (some ⟨gp, 0, none⟩) 3 cp) = wn at *

    have c0 := blk_free_cell HF.out.blk 0 rfl
    have l0 := HF.out.blk.lt
    have z0 := blk_free_cell HF.out.res 0 rfl
    have z1 := HF.out.res.free 0
    have zl := HF.out.res.lt
    go_wp2_with fail
    have Rd := HF.out.res.set 0 (.slice (some ⟨gp, 0, none⟩) 3 cp)
    have x0 := blk_free_cell Rd 0 rfl
    have hbw : Below w.heap.size wn (wn.setCell ⟨s, 0, none⟩ (.slice (some ⟨gp, 0, none⟩) 3 cp)) := (Below.refl w.heap.size wn).setCell (p := ⟨s, 0, none⟩) (by show w.heap.size ≤ s; omega) _
    refine bodyPost_ret (v := .tuple #[.agg #[.slice (some ⟨gp, 0, none⟩) 3 cp], .int .i64 idv]) (by simp [results, Tryz.results34, go_sem, x0]) rfl ⟨_, _, _, _, rfl, owns_set (b := s) (i := 0) HF.out.own (fun q hq => (HF.out.apart q hq).2.2) _, fun q hq => (HF.out.apart q hq).1, HF.out.ring, cur_below HF.out.cur hbw HF.out.gs, grown_more HF.out.grown hbw (Nat.le_refl _)⟩
  · go_upto_region 21 with fail
    have HF := hide HRS.out.final
    clear c0 l0
    generalize w7 = wn at *

    have c0 := blk_free_cell HF.out.blk 0 rfl
    have l0 := HF.out.blk.lt
    have z0 := blk_free_cell HF.out.res 0 rfl
    have z1 := HF.out.res.free 0
    have zl := HF.out.res.lt
    go_wp2_with fail
    have Rd := HF.out.res.set 0 (.slice (some ⟨gp, 0, none⟩) l.length cp)
    have x0 := blk_free_cell Rd 0 rfl
    have hbw : Below w.heap.size wn (wn.setCell ⟨s, 0, none⟩ (.slice (some ⟨gp, 0, none⟩) l.length cp)) := (Below.refl w.heap.size wn).setCell (p := ⟨s, 0, none⟩) (by show w.heap.size ≤ s; omega) _
    refine bodyPost_ret (v := .tuple #[.agg #[.slice (some ⟨gp, 0, none⟩) l.length cp], .int .i64 idv]) (by simp [results, Tryz.results34, go_sem, x0]) rfl ⟨_, _, _, _, rfl, owns_set (b := s) (i := 0) HF.out.own (fun q hq => (HF.out.apart q hq).2.2) _, fun q hq => (HF.out.apart q hq).1, HF.out.ring, cur_below HF.out.cur hbw HF.out.gs, grown_more HF.out.grown hbw (Nat.le_refl _)⟩
  · go_upto_region 21 with fail
    have HF := hide HRS.out.final
    clear c0 l0
    generalize w7 = wn at *

    have c0 := blk_free_cell HF.out.blk 0 rfl
    have l0 := HF.out.blk.lt
    have z0 := blk_free_cell HF.out.res 0 rfl
    have z1 := HF.out.res.free 0
    have zl := HF.out.res.lt
    go_wp2_with fail
    have Rd := HF.out.res.set 0 (.slice (some ⟨gp, 0, none⟩) l.length cp)
    have x0 := blk_free_cell Rd 0 rfl
    have hbw : Below w.heap.size wn (wn.setCell ⟨s, 0, none⟩ (.slice (some ⟨gp, 0, none⟩) l.length cp)) := (Below.refl w.heap.size wn).setCell (p := ⟨s, 0, none⟩) (by show w.heap.size ≤ s; omega) _
    refine bodyPost_ret (v := .tuple #[.agg #[.slice (some ⟨gp, 0, none⟩) l.length cp], .int .i64 idv]) (by simp [results, Tryz.results34, go_sem, x0]) rfl ⟨_, _, _, _, rfl, owns_set (b := s) (i := 0) HF.out.own (fun q hq => (HF.out.apart q hq).2.2) _, fun q hq => (HF.out.apart q hq).1, HF.out.ring, cur_below HF.out.cur hbw HF.out.gs, grown_more HF.out.grown hbw (Nat.le_refl _)⟩
  · go_upto_region 21 with fail
    have HF := hide HRS.out.final
    clear c0 l0
    generalize w7 = wn at *

    have c0 := blk_free_cell HF.out.blk 0 rfl
    have l0 := HF.out.blk.lt
    have z0 := blk_free_cell HF.out.res 0 rfl
    have z1 := HF.out.res.free 0
    have zl := HF.out.res.lt
    go_wp2_with fail
    have Rd := HF.out.res.set 0 (.slice (some ⟨gp, 0, none⟩) l.length cp)
    have x0 := blk_free_cell Rd 0 rfl
    have hbw : Below w.heap.size wn (wn.setCell ⟨s, 0, none⟩ (.slice (some ⟨gp, 0, none⟩) l.length cp)) := (Below.refl w.heap.size wn).setCell (p := ⟨s, 0, none⟩) (by show w.heap.size ≤ s; omega) _
    refine bodyPost_ret (v := .tuple #[.agg #[.slice (some ⟨gp, 0, none⟩) l.length cp], .int .i64 idv]) (by simp [results, Tryz.results34, go_sem, x0]) rfl ⟨_, _, _, _, rfl, owns_set (b := s) (i := 0) HF.out.own (fun q hq => (HF.out.apart q hq).2.2) _, fun q hq => (HF.out.apart q hq).1, HF.out.ring, cur_below HF.out.cur hbw HF.out.gs, grown_more HF.out.grown hbw (Nat.le_refl _)⟩
  · go_upto_region 21 with fail
    have HF := hide HRS.out.final
    clear c0 l0
    generalize w7 = wn at *

    have c0 := blk_free_cell HF.out.blk 0 rfl
    have l0 := HF.out.blk.lt
    have z0 := blk_free_cell HF.out.res 0 rfl
    have z1 := HF.out.res.free 0
    have zl := HF.out.res.lt
    go_wp2_with fail
    have Rd := HF.out.res.set 0 (.slice (some ⟨gp, 0, none⟩) l.length cp)
    have x0 := blk_free_cell Rd 0 rfl
    have hbw : Below w.heap.size wn (wn.setCell ⟨s, 0, none⟩ (.slice (some ⟨gp, 0, none⟩) l.length cp)) := (Below.refl w.heap.size wn).setCell (p := ⟨s, 0, none⟩) (by show w.heap.size ≤ s; omega) _
    refine bodyPost_ret (v := .tuple #[.agg #[.slice (some ⟨gp, 0, none⟩) l.length cp], .int .i64 idv]) (by simp [results, Tryz.results34, go_sem, x0]) rfl ⟨_, _, _, _, rfl, owns_set (b := s) (i := 0) HF.out.own (fun q hq => (HF.out.apart q hq).2.2) _, fun q hq => (HF.out.apart q hq).1, HF.out.ring, cur_below HF.out.cur hbw HF.out.gs, grown_more HF.out.grown hbw (Nat.le_refl _)⟩
  · go_upto_region 21 with fail
    have HF := hide HRS.out.final
    clear c0 l0
    generalize w7 = wn at *

    have c0 := blk_free_cell HF.out.blk 0 rfl
    have l0 := HF.out.blk.lt
    have z0 := blk_free_cell HF.out.res 0 rfl
    have z1 := HF.out.res.free 0
    have zl := HF.out.res.lt
    go_wp2_with fail
    have Rd := HF.out.res.set 0 (.slice (some ⟨gp, 0, none⟩) l.length cp)
    have x0 := blk_free_cell Rd 0 rfl
    have hbw : Below w.heap.size wn (wn.setCell ⟨s, 0, none⟩ (.slice (some ⟨gp, 0, none⟩) l.length cp)) := (Below.refl w.heap.size wn).setCell (p := ⟨s, 0, none⟩) (by show w.heap.size ≤ s; omega) _
    refine bodyPost_ret (v := .tuple #[.agg #[.slice (some ⟨gp, 0, none⟩) l.length cp], .int .i64 idv]) (by simp [results, Tryz.results34, go_sem, x0]) rfl ⟨_, _, _, _, rfl, owns_set (b := s) (i := 0) HF.out.own (fun q hq => (HF.out.apart q hq).2.2) _, fun q hq => (HF.out.apart q hq).1, HF.out.ring, cur_below HF.out.cur hbw HF.out.gs, grown_more HF.out.grown hbw (Nat.le_refl _)⟩
  · go_upto_region 21 with fail
    have HF := hide HRS.out.final
    clear c0 l0
    generalize w7 = wn at *

    have c0 := blk_free_cell HF.out.blk 0 rfl
    have l0 := HF.out.blk.lt
    have z0 := blk_free_cell HF.out.res 0 rfl
    have z1 := HF.out.res.free 0
    have zl := HF.out.res.lt
    go_wp2_with fail
    have Rd := HF.out.res.set 0 (.slice (some ⟨gp, 0, none⟩) l.length cp)
    have x0 := blk_free_cell Rd 0 rfl
    have hbw : Below w.heap.size wn (wn.setCell ⟨s, 0, none⟩ (.slice (some ⟨gp, 0, none⟩) l.length cp)) := (Below.refl w.heap.size wn).setCell (p := ⟨s, 0, none⟩) (by show w.heap.size ≤ s; omega) _
    refine bodyPost_ret (v := .tuple #[.agg #[.slice (some ⟨gp, 0, none⟩) l.length cp], .int .i64 idv]) (by simp [results, Tryz.results34, go_sem, x0]) rfl ⟨_, _, _, _, rfl, owns_set (b := s) (i := 0) HF.out.own (fun q hq => (HF.out.apart q hq).2.2) _, fun q hq => (HF.out.apart q hq).1, HF.out.ring, cur_below HF.out.cur hbw HF.out.gs, grown_more HF.out.grown hbw (Nat.le_refl _)⟩
  · go_upto_region 21 with fail
    have HF := hide HRS.out.final
    clear c0 l0
    generalize w7 = wn at *

    have c0 := blk_free_cell HF.out.blk 0 rfl
    have l0 := HF.out.blk.lt
    have z0 := blk_free_cell HF.out.res 0 rfl
    have z1 := HF.out.res.free 0
    have zl := HF.out.res.lt
    go_wp2_with fail
    have Rd := HF.out.res.set 0 (.slice (some ⟨gp, 0, none⟩) l.length cp)
    have x0 := blk_free_cell Rd 0 rfl
    have hbw : Below w.heap.size wn (wn.setCell ⟨s, 0, none⟩ (.slice (some ⟨gp, 0, none⟩) l.length cp)) := (Below.refl w.heap.size wn).setCell (p := ⟨s, 0, none⟩) (by show w.heap.size ≤ s; omega) _
    refine bodyPost_ret (v := .tuple #[.agg #[.slice (some ⟨gp, 0, none⟩) l.length cp], .int .i64 idv]) (by simp [results, Tryz.results34, go_sem, x0]) rfl ⟨_, _, _, _, rfl, owns_set (b := s) (i := 0) HF.out.own (fun q hq => (HF.out.apart q hq).2.2) _, fun q hq => (HF.out.apart q hq).1, HF.out.ring, cur_below HF.out.cur hbw HF.out.gs, grown_more HF.out.grown hbw (Nat.le_refl _)⟩
end Go.Proofs.YteladljgnbfcnaaGreat.P9
namespace Go.Proofs.YteladljgnbfcnaaGreat.P9
set_option maxRecDepth 8000
open Go.RowKit P1 P8 Da Ap Rr Rc Cu

theorem code_at {w w' : World} {v : Value} {n : Nat} (h : Cu.Code w.heap.size w v n) (hb : Below w.heap.size w w') : Cu.Code w'.heap.size w' v n := (h.below (fun k hk => hb.block k hk)).more hb.size

set_option maxHeartbeats 1000000 in
theorem drawPeerAt_calls (w : World) (a : Option Addr) (len cap : Nat) (hc : Cu.Code w.heap.size w (.slice a len cap) len) :
    Calls Tryz.prog 11 #[.slice a len cap] w fun e w' => ∃ v l id fp, e = .returned (.tuple #[.agg #[v], .int .i64 id]) ∧ Owns w' v (peersD T0 l) fp ∧ (∀ q ∈ fp, w.heap.size ≤ q) ∧ RingX l ∧ Below w.heap.size w w' := by
  have hb1 := (Below.refl w.heap.size w).alloc (Nat.le_refl _) (.cells #[.slice none 0 0] 28)
  have A0 := Blk.new w #[.slice none 0 0] 28
  have HC1 := hide (code_at hc hb1)
  have HB1 := hide hb1
  clear hc hb1
  go_enter Tryz.func11, Tryz.ntmps11
  go_upto_region 1 with fail
  obtain ⟨s, es⟩ : ∃ s, s = w.heap.size := ⟨_, rfl⟩
  rw [← es] at A0 ⊢
  have HS : Hid (w.heap.size = s) := es.symm
  clear es
  generalize w.alloc (.cells #[.slice none 0 0] 28) = w1 at *
  go_wp2_with fail
  refine (new_calls w1 a len cap HC1.out).mono ?_
  rintro e w2 ⟨rfl, hc2, hb2⟩
  have HC2 := hide hc2
  have A2 := A0.below hb2 A0.lt
  have HB2 := hide (HB1.out.trans (hb2.mono HB1.out.size))
  have h12 := hb2.size
  have h1s := A0.lt
  clear hc2 hb2 A0
  go_wp2_with fail
  refine (any_calls _ _ w2 HC2.out).mono ?_
  rintro e w3 ⟨v, l, id, fp, rfl, ho, hf, hr, hc3, hg3⟩
  obtain ⟨av, cv, hsh⟩ := peers_sl ho
  subst hsh
  have A3 := Cu_blk A2 hg3 (by omega)
  have HO := hide ho
  have HF := hide hf
  have HR := hide hr
  have HB3 := hide (HB2.out.trans (below_of_grown hg3 (by have := HS.out; have := HB1.out.size; omega) HB2.out.size))
  have z0 := blk_free_cell A3 0 rfl
  have zf := A3.free 0
  have zl := A3.lt
  clear ho hf hr hc3 hg3 A2 HC2
  go_wp2_with fail
  have Rd := A3.set 0 (.slice av l.length cv)
  have x0 := blk_free_cell Rd 0 rfl
  have hs := HS.out
  have h2z := HB2.out.size
  refine bodyPost_ret (v := .tuple #[.agg #[.slice av l.length cv], .int .i64 id]) (by simp [results, Tryz.results11, go_sem, x0]) rfl ⟨_, l, id, fp, rfl, owns_set (b := s) (i := 0) HO.out (fun q hq => by have := HF.out q hq; omega) _, fun q hq => by have := HF.out q hq; omega, HR.out, HB3.out.setCell (p := ⟨s, 0, none⟩) (by show _ ≤ s; omega) _⟩

set_option maxHeartbeats 4000000 in
theorem drawPeerOk_calls (w : World) (a : Option Addr) (len cap : Nat) (hc : Cu.Code w.heap.size w (.slice a len cap) len) :
    Calls Tryz.prog 13 #[.slice a len cap] w fun e w' => ∃ (g i : Nat) (l : List Pr) (c : Nat) (fp : List Nat) (hi : i < l.length) (u3 u4 u5 : Value), e = .returned (prV l[i] u3 u4 u5) ∧ Owns w' (.slice (some ⟨g, 0, none⟩) l.length c) (peersD T0 l) fp ∧ (∀ q ∈ fp, w.heap.size ≤ q) ∧ PeerCells w' g (i * 6) l[i] u3 u4 u5 ∧ RingX l ∧ Below w.heap.size w w' := by
  have hb1 := (Below.refl w.heap.size w).alloc (Nat.le_refl _) (.cells #[.int .i64 0, .bool false, .int .i64 0, .slice none 0 0, .slice none 0 0, .slice none 0 0] 37)
  have A0 := Blk.new w #[.int .i64 0, .bool false, .int .i64 0, .slice none 0 0, .slice none 0 0, .slice none 0 0] 37
  have HC1 := hide (code_at hc hb1)
  have HB1 := hide hb1
  clear hc hb1
  go_enter Tryz.func13, Tryz.ntmps13
  go_upto_region 1 with fail
  obtain ⟨s, es⟩ : ∃ s, s = w.heap.size := ⟨_, rfl⟩
  rw [← es] at A0 ⊢
  have HS : Hid (w.heap.size = s) := es.symm
  clear es
  generalize w.alloc (.cells #[.int .i64 0, .bool false, .int .i64 0, .slice none 0 0, .slice none 0 0, .slice none 0 0] 37) = w1 at *
  go_wp2_with fail
  refine (new_calls w1 a len cap HC1.out).mono ?_
  rintro e w2 ⟨rfl, hc2, hb2⟩
  have HC2 := hide hc2
  have A2 := A0.below hb2 A0.lt
  have HB2 := hide (HB1.out.trans (hb2.mono HB1.out.size))
  have h12 := hb2.size
  have h1s := A0.lt
  clear hc2 hb2 A0
  obtain ⟨g0, eg0⟩ : ∃ g, g = w1.heap.size := ⟨_, rfl⟩
  rw [← eg0] at HC2 h1s ⊢
  have HG0 : Hid (w.heap.size ≤ g0) := by show _ ≤ _; have := HB1.out.size; omega
  clear eg0 h12
  go_wp2_with fail
  refine (below_calls _ _ w2 HC2.out 8 (by decide) (by decide)).mono ?_
  rintro e w3 ⟨y, hy, rfl, hc3, hg3⟩
  have HC3 := hide hc3
  have A3 := Cu_blk A2 hg3 (by omega)
  have HB3 := hide (HB2.out.trans (below_of_grown hg3 HG0.out HB2.out.size))
  clear hc3 hg3 A2 HC2 HB2
  go_wp2_with fail
  refine (any_calls _ _ w3 HC3.out).mono ?_
  rintro e w4 ⟨v, l, id, fp, rfl, ho, hf, hr, hc4, hg4⟩
  obtain ⟨gp, cp, hsh⟩ := peers_shape ho (by have := hr.least; omega)
  subst hsh
  have A4 := Cu_blk A3 hg4 (by omega)
  have HB4 := hide (HB3.out.trans (below_of_grown hg4 HG0.out HB3.out.size))
  have h3z := HB3.out.size
  have h3s := A3.lt
  clear hc4 hg4 A3 HC3
  go_upto_region 4 with fail
  have YB := Blk.new w4 #[.slice (some ⟨gp, 0, none⟩) l.length cp] 28
  have hba := (Below.refl w4.heap.size w4).alloc (Nat.le_refl _) (.cells #[.slice (some ⟨gp, 0, none⟩) l.length cp] 28)
  have A5 := A4.below hba A4.lt
  have HO5 := hide (owns_below ho hba)
  have HB5 := hide (HB4.out.trans (hba.mono HB4.out.size))
  have HF := hide hf
  have HR := hide hr
  obtain ⟨br, ebr⟩ : ∃ b, b = w4.heap.size := ⟨_, rfl⟩
  rw [← ebr] at YB ⊢
  have hsbr : s < br := by have := A4.lt; omega
  clear ebr hba ho hf hr A4 HB4
  generalize w4.alloc (.cells #[.slice (some ⟨gp, 0, none⟩) l.length cp] 28) = w5 at *
  have hl3 := HR.out.least
  have hl8 := HR.out.most
  have hi : y % l.length < l.length := Nat.mod_lt _ (by omega)
  have ei : ((y : Int) % (l.length : Int)) = ((y % l.length : Nat) : Int) := by simp
  obtain ⟨u3, u4, u5, hcl⟩ := cells_of_peer ⟨T0, HO5.out.reads⟩ hi
  have hgl := (peer_cell HO5.out hi (j := 0) (by decide)).2.2.1
  have hgm := (peer_cell HO5.out hi (j := 0) (by decide)).2.2.2
  obtain ⟨i, hei⟩ : ∃ i, i = y % l.length := ⟨_, rfl⟩
  have hi' : i < l.length := by omega
  have HCL : Hid (PeerCells w5 gp (i * 6) l[i] u3 u4 u5) := by subst hei; exact hcl
  rw [← hei] at ei
  clear hcl hi hei
  obtain ⟨a3, c3, e3, -⟩ := HCL.out.behind
  obtain ⟨a4, c4, e4, -⟩ := HCL.out.fingers
  obtain ⟨a5, c5, e5, -⟩ := HCL.out.shelves.open_
  subst e3 e4 e5
  have n0 : ∀ p : Near w5.heap.size w5, p.w.cell? ⟨br, 0, none⟩ = some (.slice (some ⟨gp, 0, none⟩) l.length cp) := fun p => blk_free_cell (YB.below p.h YB.lt) 0 rfl
  have k0 : ∀ p : Near w5.heap.size w5, p.w.cell? ⟨gp, i * 6, none⟩ = some (.int .i64 l[i].id) := fun p => (p.h.cell (p := ⟨gp, i * 6, none⟩) hgl).trans HCL.out.id
  have k1 : ∀ p : Near w5.heap.size w5, p.w.cell? ⟨gp, i * 6 + 1, none⟩ = some (.bool l[i].here) := fun p => (p.h.cell (p := ⟨gp, i * 6 + 1, none⟩) hgl).trans HCL.out.here
  have k2 : ∀ p : Near w5.heap.size w5, p.w.cell? ⟨gp, i * 6 + 2, none⟩ = some (.int .i64 l[i].ahead) := fun p => (p.h.cell (p := ⟨gp, i * 6 + 2, none⟩) hgl).trans HCL.out.ahead
  have k3 : ∀ p : Near w5.heap.size w5, p.w.cell? ⟨gp, i * 6 + 3, none⟩ = some (.slice a3 l[i].behind.length c3) := fun p => (p.h.cell (p := ⟨gp, i * 6 + 3, none⟩) hgl).trans HCL.out.c3
  have k4 : ∀ p : Near w5.heap.size w5, p.w.cell? ⟨gp, i * 6 + 4, none⟩ = some (.slice a4 l[i].fingers.length c4) := fun p => (p.h.cell (p := ⟨gp, i * 6 + 4, none⟩) hgl).trans HCL.out.c4
  have k5 : ∀ p : Near w5.heap.size w5, p.w.cell? ⟨gp, i * 6 + 5, none⟩ = some (.slice a5 l[i].shelves.length c5) := fun p => (p.h.cell (p := ⟨gp, i * 6 + 5, none⟩) hgl).trans HCL.out.c5
  have hnn := Near.some w5.heap.size w5
  refine wp_region_open (fun wd => ∃ p : Near w5.heap.size w5, wd = p.w) ⟨⟨_, (Below.refl _ _).drew⟩, rfl⟩ (by kernel_rfl) ?_
  rintro wd ⟨pd, rfl⟩
  refine wpAny_of_K (c := 9) (D := fun w' => ∃ p : Near w5.heap.size w5, w' = p.w) _ _ _ _ ?_
  refine wpAnyK_seg_lit4 0 7 8 3 rfl (by decide) (by decide) (by kernel_rfl) (by kernel_rfl) (by kernel_rfl) (by kernel_rfl) (fun _ _ _ _ _ h => h) ⟨pd, rfl⟩ ?_
  simp only [List.take_succ_cons, List.take_zero, List.drop_zero]
  repeat (go_big_quiet_step (fail))
  refine wpQuiet_nil ?_
  rw [ei]
  refine wpAnyK_seg_lit4 7 2 8 1 rfl (by decide) (by decide) (by kernel_rfl) (by kernel_rfl) (by kernel_rfl) (by kernel_rfl) (fun _ _ _ _ _ h => h) ⟨pd, rfl⟩ ?_
  simp only [List.take_succ_cons, List.take_zero, List.drop_succ_cons, List.drop_zero]
  repeat (go_big_quiet_step (fail))
  refine wpQuiet_nil ?_
  refine wpAnyK_last (by kernel_rfl) (by decide) ?_
  refine wpAny_rest 9 rfl (by kernel_rfl) ?_
  simp only [List.drop_succ_cons, List.drop_zero]
  clear n0 k0 k1 k2 k3 k4 k5 hnn ei
  have D1 := A5.below pd.h A5.lt
  have z0 := blk_free_cell D1 0 rfl
  have z1 := blk_free_cell D1 1 rfl
  have z2 := blk_free_cell D1 2 rfl
  have z3 := blk_free_cell D1 3 rfl
  have z4 := blk_free_cell D1 4 rfl
  have z5 := blk_free_cell D1 5 rfl
  have y0 := D1.free 0
  have y1 := D1.free 1
  have y2 := D1.free 2
  have y3 := D1.free 3
  have y4 := D1.free 4
  have y5 := D1.free 5
  have zl := D1.lt
  have HOp := hide (owns_below HO5.out pd.h)
  have HBp := hide (HB5.out.trans (pd.h.mono HB5.out.size))
  have HPl := hide hgl
  have HPd := hide pd.h
  go_wp2_with fail
  have Rd := six_set D1 (.int .i64 l[i].id) (.bool l[i].here) (.int .i64 l[i].ahead) (.slice a3 l[i].behind.length c3) (.slice a4 l[i].fingers.length c4) (.slice a5 l[i].shelves.length c5)
  have r0 := blk_free_cell Rd 0 rfl
  have r1 := blk_free_cell Rd 1 rfl
  have r2 := blk_free_cell Rd 2 rfl
  have r3 := blk_free_cell Rd 3 rfl
  have r4 := blk_free_cell Rd 4 rfl
  have r5 := blk_free_cell Rd 5 rfl
  have hs := HS.out
  have hfs : ∀ q ∈ fp, q ≠ s := fun q hq => by have := HF.out q hq; omega
  have hOf := HOp.out.stay (W' := ((((((pd.w.setCell ⟨s, 0, none⟩ (.int .i64 l[i].id)).setCell ⟨s, 1, none⟩ (.bool l[i].here)).setCell ⟨s, 2, none⟩ (.int .i64 l[i].ahead)).setCell ⟨s, 3, none⟩ (.slice a3 l[i].behind.length c3)).setCell ⟨s, 4, none⟩ (.slice a4 l[i].fingers.length c4)).setCell ⟨s, 5, none⟩ (.slice a5 l[i].shelves.length c5))) (fun q hq => six_other (hfs q hq))
  obtain ⟨v3, v4, v5, hcx⟩ := cells_of_peer ⟨T0, hOf.reads⟩ hi'
  have hgw : ∀ o, ((((((pd.w.setCell ⟨s, 0, none⟩ (.int .i64 l[i].id)).setCell ⟨s, 1, none⟩ (.bool l[i].here)).setCell ⟨s, 2, none⟩ (.int .i64 l[i].ahead)).setCell ⟨s, 3, none⟩ (.slice a3 l[i].behind.length c3)).setCell ⟨s, 4, none⟩ (.slice a4 l[i].fingers.length c4)).setCell ⟨s, 5, none⟩ (.slice a5 l[i].shelves.length c5)).cell? ⟨gp, o, none⟩ = w5.cell? ⟨gp, o, none⟩ := fun o =>
    World.cell?_of_block (w := w5) ((six_other (hfs gp hgm)).trans (HPd.out.block gp HPl.out))
  have e3 : v3 = .slice a3 l[i].behind.length c3 := by have := hcx.c3; rw [hgw, HCL.out.c3] at this; exact (Option.some.inj this).symm
  have e4 : v4 = .slice a4 l[i].fingers.length c4 := by have := hcx.c4; rw [hgw, HCL.out.c4] at this; exact (Option.some.inj this).symm
  have e5 : v5 = .slice a5 l[i].shelves.length c5 := by have := hcx.c5; rw [hgw, HCL.out.c5] at this; exact (Option.some.inj this).symm
  subst e3 e4 e5
  refine bodyPost_ret (v := prV l[i] (.slice a3 l[i].behind.length c3) (.slice a4 l[i].fingers.length c4) (.slice a5 l[i].shelves.length c5)) (by simp [results, Tryz.results13, go_sem, r0, r1, r2, r3, r4, r5]) rfl ⟨gp, i, l, cp, fp, hi', _, _, _, rfl, hOf, fun q hq => by have := HF.out q hq; omega, hcx, HR.out, six_below HBp.out (by omega) _ _ _ _ _ _⟩

theorem ints_take {w : World} {a : Option Addr} {c : Nat} {l : List Int} (h : IntsAt w (.slice a l.length c) l) {m : Nat} (hm : m ≤ l.length) : IntsAt w (.slice a m c) (l.take m) := by
  obtain ⟨a', c', e, H⟩ := h
  cases e
  refine ⟨a, c, by rw [List.length_take, Nat.min_eq_left hm], fun j hj => ?_⟩
  have hjm : j < m := by rw [List.length_take] at hj; omega
  obtain ⟨g, off, e1, e2, e3⟩ := H j (by omega)
  exact ⟨g, off, e1, e2, by rw [List.getElem_take]; exact e3⟩

theorem starts_four : ∀ l ∈ starts, 4 ≤ l.length := by
  intro l hl
  simp only [starts, List.mem_cons, List.not_mem_nil, or_false] at hl
  rcases hl with rfl | rfl | rfl | rfl | rfl <;> decide

set_option maxHeartbeats 4000000 in
theorem drawRingNew_calls (w : World) (a : Option Addr) (len cap : Nat) (hc : Cu.Code w.heap.size w (.slice a len cap) len) :
    Calls Tryz.prog 12 #[.slice a len cap] w fun e w' => ∃ v ids, e = .returned v ∧ IntsAt w' v ids ∧ ids.length ≤ 20 ∧ (∀ q, v.ownBlock = some q → w.heap.size ≤ q) ∧ Below w.heap.size w w' := by
  obtain ⟨i0, hi0, hz0, hz1, hz2⟩ := info_parts info_i64
  have HC := hide hc
  clear hc
  go_enter Tryz.func12, Tryz.ntmps12
  go_wp2_with fail
  refine (new_calls w a len cap HC.out).mono ?_
  rintro e w1 ⟨rfl, hc1, hb1⟩
  have HC1 := hide hc1
  have HB1 := hide hb1
  clear hc1 hb1 HC
  obtain ⟨g0, eg0⟩ : ∃ g, g = w.heap.size := ⟨_, rfl⟩
  rw [← eg0] at HC1 ⊢
  have HG0 : Hid (w.heap.size ≤ g0) := Nat.le_of_eq eg0.symm
  have hg1 := HC1.out.2.1
  clear eg0
  go_wp2_with fail
  have HBa := hide ((Below.refl w1.heap.size w1).alloc (Nat.le_refl _) (.cells #[] 3))
  have HC2 := hide (cur_below HC1.out HBa.out hg1)
  have HOa := hide (own_lit0 w1)
  obtain ⟨ba, eba⟩ : ∃ b, b = w1.heap.size := ⟨_, rfl⟩
  rw [← eba] at HOa hg1 ⊢
  have HBA := hide eba
  clear eba
  generalize w1.alloc (.cells #[] 3) = w2 at *
  refine (start_calls g0 g0 w2 HC2.out).mono ?_
  rintro e w3 ⟨vs, l, hls, rfl, hos, hc3, hg3⟩
  have hl4 := starts_four l hls
  have hl8 := starts_len l hls
  have hoA := own_only HOa.out (only_of_grown hg3) (fun q hq => by
    have e : ba = q := by simpa [Value.ownBlock] using hq
    simp
    omega)
  have hvs := IntsAt.of_own hos
  have hbw3 := (HB1.out.trans (HBa.out.mono HB1.out.size)).trans (below_of_grown hg3 HG0.out (by have := HB1.out.size; have := HBa.out.size; omega))
  have hz3 : ba ≤ w3.heap.size := by have := HBa.out.size; have := hg3.size; have := HBA.out; omega
  obtain ⟨as_, cs_, hsh⟩ := own_sh hos
  subst hsh
  have HC3 := hide hc3
  have HB3 := hide hbw3
  clear hos hc3 hg3 hbw3 HC2 HOa HBa
  go_wp2_with (at_builtin; refine wpList_append_any rfl (.tmp 7) (.tmp 9) 24 rfl ba 3 i0 (.int .i64 0) 1 8 Tryz.underlying24 hi0 hz0 hz1 hz2 rfl (by decide) _ _ _ rfl hoA as_ l.length cs_ rfl (cellsI l) (cellsI_len l) (ints_news hvs) (cellsI_one l) (by unfold maxLen; simp; omega) (by simp; omega) hz3 ?_)
  intro v4 w4 hown hgr
  have hown' : w4.ownsRow ba 3 1 v4 l.length (cellsI l) := by simpa [cellsI] using hown
  have hb34 : Below ba w3 w4 := (Below.refl ba w3).grown hgr hz3 (fun k hk => (hoA.lt k hk).1)
  have HC4 := hide (cur_below HC3.out hb34 hg1)
  have hwba : w.heap.size ≤ ba := by have := HB1.out.size; have := HBA.out; omega
  have HB4 := hide (HB3.out.trans (hb34.mono hwba))
  have HO4 := hide hown'
  have hz4 : ba ≤ w4.heap.size := Nat.le_trans hz3 hb34.size
  clear hown hgr hown' hb34 hoA hvs HB3 HC3
  obtain ⟨a4, c4, hsh⟩ := own_sh HO4.out
  subst hsh
  go_wp2_with fail
  refine (below_calls _ _ w4 HC4.out 5 (by decide) (by decide)).mono ?_
  rintro e w5 ⟨x, hx, rfl, hc5, hg5⟩
  have HO5 := hide (own_only HO4.out (only_of_grown hg5) (fun q hq => by have := (HO4.out.lt q hq).1; simp; omega))
  have HB5 := hide (HB4.out.trans (below_of_grown hg5 HG0.out HB4.out.size))
  have hz5 : ba ≤ w5.heap.size := Nat.le_trans hz4 hg5.size
  clear hc5 hg5 HC4 HO4 HB4
  have h5 : x = 0 ∨ x = 1 ∨ x = 2 ∨ x = 3 ∨ x = 4 := by omega
  clear hx
  obtain ⟨gq, cq, eq_, hgq, hgl, hcap, hcell, -⟩ := own_at HO5.out (by omega)
  cases eq_
  have hc0 : w5.cell? ⟨gq, 0, none⟩ = some (.int .i64 l[0]) := by
    rw [hcell 0 (by omega)]
    simp [cellsI]
  have h3c : 3 ≤ c4 := by omega
  clear hcell
  generalize l[0] = z at *
  rcases h5 with rfl | rfl | rfl | rfl | rfl
  · go_wp2
    go_ret
    exact ⟨_, l.take 3, rfl, ints_take (IntsAt.of_own HO5.out) (by omega), by rw [List.length_take]; omega, fun q hq => by
      have e : gq = q := by simpa [Value.ownBlock] using hq
      omega, HB5.out⟩
  · have HBl := hide ((Below.refl w5.heap.size w5).alloc (Nat.le_refl _) (.cells #[.int .i64 z, .int .i64 (-1), .int .i64 256, .int .i64 77] 3))
    have HOl := hide (own_below HO5.out HBl.out)
    have hlit : (w5.alloc (.cells #[.int .i64 z, .int .i64 (-1), .int .i64 256, .int .i64 77] 3)).ownsRow w5.heap.size 3 1 (.slice (some ⟨w5.heap.size, 0, none⟩) 4 4) ([z, -1, 256, 77] : List Int).length (cellsI [z, -1, 256, 77]) := World.ownsRow_lit (base := w5.heap.size) (e := 3) (size := 1) w5 #[.int .i64 z, .int .i64 (-1), .int .i64 256, .int .i64 77] 4 (Nat.le_refl _) (by decide) rfl
    have h4 := IntsAt.of_own hlit
    have hsz : ba ≤ (w5.alloc (.cells #[.int .i64 z, .int .i64 (-1), .int .i64 256, .int .i64 77] 3)).heap.size := Nat.le_trans hz5 HBl.out.size
    go_wp2_with (at_builtin; refine wpList_append_any rfl (.tmp 19) (.tmp 23) 24 rfl ba 3 i0 (.int .i64 0) 1 8 Tryz.underlying24 hi0 hz0 hz1 hz2 rfl (by decide) _ _ _ rfl HOl.out (some ⟨w5.heap.size, 0, none⟩) 4 4 rfl (cellsI [z, -1, 256, 77]) rfl (ints_news (l := [z, -1, 256, 77]) h4) (cellsI_one [z, -1, 256, 77]) (by unfold maxLen; omega) (by omega) hsz ?_)
    intro v6 w6 hown hgr
    have hX : w6.ownsRow ba 3 1 v6 (l ++ [z, -1, 256, 77]).length (cellsI (l ++ [z, -1, 256, 77])) := by
      rw [← cellsI_append, List.length_append]
      exact hown
    have hb56 : Below ba w5 w6 := (HBl.out.mono hz5).grown hgr hsz (fun k hk => (HOl.out.lt k hk).1)
    have HX := hide hX
    have HB6 := hide (HB5.out.trans (hb56.mono hwba))
    clear hown hgr hX hb56 HOl HBl hlit h4 hsz
    go_wp2
    go_ret
    exact ⟨_, l ++ [z, -1, 256, 77], rfl, IntsAt.of_own HX.out, by simp; omega, fun q hq => Nat.le_trans hwba (HX.out.lt q hq).1, HB6.out⟩
  · have HBl := hide ((Below.refl w5.heap.size w5).alloc (Nat.le_refl _) (.cells #[.int .i64 z] 3))
    have HOl := hide (own_below HO5.out HBl.out)
    have hlit : (w5.alloc (.cells #[.int .i64 z] 3)).ownsRow ba 3 1 (.slice (some ⟨w5.heap.size, 0, none⟩) 1 1) 1 [.int .i64 z] := own_mono (World.ownsRow_lit (base := w5.heap.size) (e := 3) (size := 1) w5 #[.int .i64 z] 1 (Nat.le_refl _) (by decide) rfl) hz5
    have h4 := IntsAt.of_own HOl.out
    have hsz : ba ≤ (w5.alloc (.cells #[.int .i64 z] 3)).heap.size := Nat.le_trans hz5 HBl.out.size
    go_wp2_with (at_builtin; refine wpList_append_any rfl (.tmp 30) (.tmp 31) 24 rfl ba 3 i0 (.int .i64 0) 1 8 Tryz.underlying24 hi0 hz0 hz1 hz2 rfl (by decide) _ _ _ rfl hlit (some ⟨gq, 0, none⟩) l.length c4 rfl (cellsI l) (cellsI_len l) (ints_news h4) (cellsI_one l) (by unfold maxLen; omega) (by omega) hsz ?_)
    intro v6 w6 hown hgr
    have hX : w6.ownsRow ba 3 1 v6 (z :: l).length (cellsI (z :: l)) := by
      rw [List.length_cons, Nat.add_comm]
      exact hown
    have hb56 : Below ba w5 w6 := (HBl.out.mono hz5).grown hgr hsz (fun k hk => (hlit.lt k hk).1)
    have HX := hide hX
    have HB6 := hide (HB5.out.trans (hb56.mono hwba))
    clear hown hgr hX hb56 HOl HBl hlit h4 hsz
    go_wp2
    go_ret
    exact ⟨_, z :: l, rfl, IntsAt.of_own HX.out, by simp; omega, fun q hq => Nat.le_trans hwba (HX.out.lt q hq).1, HB6.out⟩
  · go_wp2
    go_ret
    exact ⟨_, l, rfl, IntsAt.of_own HO5.out, by omega, fun q hq => Nat.le_trans hwba (HO5.out.lt q hq).1, HB5.out⟩
  · go_wp2
    go_ret
    exact ⟨_, l, rfl, IntsAt.of_own HO5.out, by omega, fun q hq => Nat.le_trans hwba (HO5.out.lt q hq).1, HB5.out⟩
end Go.Proofs.YteladljgnbfcnaaGreat.P9
