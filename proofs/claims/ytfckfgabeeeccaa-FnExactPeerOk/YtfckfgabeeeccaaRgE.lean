/- The laws' toPeer: a copy in memory of its own; condition: lists of at most 2^20. -/
import Derived.Test.YtfckfgabeeeccaaRgD
namespace Go.Proofs.Ytfckfgabeeeccaa.P9
set_option maxRecDepth 8000
open Go.RowKit P1 P8 Da Rr

theorem ints_owns {W : World} {B : Nat} {v : Value} {l : List Int} (h : W.ownsRow B 3 1 v l.length (cellsI l)) : ∃ fp, Owns W v (intsD l) fp ∧ ∀ q ∈ fp, B ≤ q := by
  obtain ⟨fp, h1, h2⟩ := owns_of_row h
  have e : (cellsI l).map Dt.leaf = l.map intD := by simp [cellsI, intD]
  rw [e] at h1
  exact ⟨fp, h1, fun q hq => (h.lt q ((h2 q).1 hq)).1⟩

/-- A peer that a call owns: the blocks of its three lists. -/
structure PeerOwn (W : World) (B : Nat) (p : Pr) (v3 v4 v5 : Value) (f3 f4 f5 : List Nat) : Prop where
  o3 : Owns W v3 (intsD p.behind) f3
  o4 : Owns W v4 (intsD p.fingers) f4
  o5 : Owns W v5 (shelvesD T0 p.shelves) f5
  b3 : ∀ q ∈ f3, B ≤ q
  b4 : ∀ q ∈ f4, B ≤ q
  b5 : ∀ q ∈ f5, B ≤ q
  d34 : ∀ q ∈ f3, q ∉ f4
  d35 : ∀ q ∈ f3, q ∉ f5
  d45 : ∀ q ∈ f4, q ∉ f5

theorem owns_set {W : World} {v : Value} {d : Dt} {fp : List Nat} (h : Owns W v d fp) {b i : Nat} (hb : ∀ q ∈ fp, q ≠ b) (u : Value) : Owns (W.setCell ⟨b, i, none⟩ u) v d fp :=
  h.stay (fun q hq => Below.heap_setCell _ _ _ _ (hb q hq))

theorem owns_below {W W' : World} {v : Value} {d : Dt} {fp : List Nat} (h : Owns W v d fp) (hb : Below W.heap.size W W') : Owns W' v d fp :=
  h.stay (fun q hq => hb.block q (h.lt q hq))

set_option maxHeartbeats 2000000 in
theorem toPeer_calls (w : World) (p : Pr) (u3 u4 u5 : Value) (h3 : IntsAt w u3 p.behind) (h4 : IntsAt w u4 p.fingers) (h5 : ShelvesAt w u5 p.shelves) (hp : Small p) :
    Calls Try.prog 7 #[prV p u3 u4 u5] w fun e w' => ∃ a3 c3 a4 c4 a5 c5 f3 f4 f5, e = .returned (prV p (.slice a3 p.behind.length c3) (.slice a4 p.fingers.length c4) (.slice a5 p.shelves.length c5)) ∧ PeerOwn w' w.heap.size p (.slice a3 p.behind.length c3) (.slice a4 p.fingers.length c4) (.slice a5 p.shelves.length c5) f3 f4 f5 ∧ Below w.heap.size w w' := by
  obtain ⟨id, here, ahead, be, fi, sh⟩ := p
  have hs3 := hp.b
  have hs4 := hp.f
  have hs5 := hp.s
  have hs6 := hp.i
  dsimp only at h3 h4 h5 hs3 hs4 hs5 hs6
  dsimp only [prV]
  have H3 := hide h3
  have H4 := hide h4
  have H5 := hide h5
  have HS := hide hs6
  obtain ⟨a3, c3, rfl, -⟩ := h3
  obtain ⟨a4, c4, rfl, -⟩ := h4
  obtain ⟨a5, c5, e5, -⟩ := h5.open_
  subst e5
  clear h5 hp hs6
  go_enter Try.func7, Try.ntmps7
  go_upto_region 5 with fail
  have h1 := (Below.refl w.heap.size w).alloc (Nat.le_refl _) (.cells #[.int .i64 id, .bool here, .int .i64 ahead, .slice a3 be.length c3, .slice a4 fi.length c4, .slice a5 sh.length c5] 25)
  have h2 := h1.alloc h1.size (.cells #[.int .i64 0, .bool false, .int .i64 0, .slice none 0 0, .slice none 0 0, .slice none 0 0] 30)
  have h3 := h2.alloc h2.size (.cells #[.int .i64 id, .bool here, .int .i64 ahead, .slice none 0 0, .slice none 0 0, .slice none 0 0] 30)
  have A := Blk.new w #[.int .i64 id, .bool here, .int .i64 ahead, .slice a3 be.length c3, .slice a4 fi.length c4, .slice a5 sh.length c5] 25
  have A := A.below ((Below.refl _ _).alloc (Nat.le_refl _) (.cells #[.int .i64 0, .bool false, .int .i64 0, .slice none 0 0, .slice none 0 0, .slice none 0 0] 30)) A.lt
  have A := A.below ((Below.refl _ _).alloc (Nat.le_refl _) (.cells #[.int .i64 id, .bool here, .int .i64 ahead, .slice none 0 0, .slice none 0 0, .slice none 0 0] 30)) A.lt
  have R := Blk.new (w.alloc (.cells #[.int .i64 id, .bool here, .int .i64 ahead, .slice a3 be.length c3, .slice a4 fi.length c4, .slice a5 sh.length c5] 25)) #[.int .i64 0, .bool false, .int .i64 0, .slice none 0 0, .slice none 0 0, .slice none 0 0] 30
  have R := R.below ((Below.refl _ _).alloc (Nat.le_refl _) (.cells #[.int .i64 id, .bool here, .int .i64 ahead, .slice none 0 0, .slice none 0 0, .slice none 0 0] 30)) R.lt
  rw [show (w.alloc (.cells #[.int .i64 id, .bool here, .int .i64 ahead, .slice a3 be.length c3, .slice a4 fi.length c4, .slice a5 sh.length c5] 25)).heap.size = w.heap.size + 1 from by simp [go_sem]] at R
  have O := Blk.new ((w.alloc (.cells #[.int .i64 id, .bool here, .int .i64 ahead, .slice a3 be.length c3, .slice a4 fi.length c4, .slice a5 sh.length c5] 25)).alloc (.cells #[.int .i64 0, .bool false, .int .i64 0, .slice none 0 0, .slice none 0 0, .slice none 0 0] 30)) #[.int .i64 id, .bool here, .int .i64 ahead, .slice none 0 0, .slice none 0 0, .slice none 0 0] 30
  rw [show ((w.alloc (.cells #[.int .i64 id, .bool here, .int .i64 ahead, .slice a3 be.length c3, .slice a4 fi.length c4, .slice a5 sh.length c5] 25)).alloc (.cells #[.int .i64 0, .bool false, .int .i64 0, .slice none 0 0, .slice none 0 0, .slice none 0 0] 30)).heap.size = w.heap.size + 1 + 1 from by simp [go_sem]] at O
  have HB := hide h3
  have hsz : (((w.alloc (.cells #[.int .i64 id, .bool here, .int .i64 ahead, .slice a3 be.length c3, .slice a4 fi.length c4, .slice a5 sh.length c5] 25)).alloc (.cells #[.int .i64 0, .bool false, .int .i64 0, .slice none 0 0, .slice none 0 0, .slice none 0 0] 30)).alloc (.cells #[.int .i64 id, .bool here, .int .i64 ahead, .slice none 0 0, .slice none 0 0, .slice none 0 0] 30)).heap.size = w.heap.size + 1 + 1 + 1 := by simp [go_sem]
  obtain ⟨b3, e3⟩ : ∃ b, b = w.heap.size + 1 + 1 := ⟨_, rfl⟩
  obtain ⟨b2, e2⟩ : ∃ b, b = w.heap.size + 1 := ⟨_, rfl⟩
  obtain ⟨b1, e1⟩ : ∃ b, b = w.heap.size := ⟨_, rfl⟩
  rw [← e3] at O ⊢
  rw [← e2] at R ⊢
  rw [← e1] at A ⊢
  have hb2 : w.heap.size ≤ b2 := by omega
  have hb3 : w.heap.size ≤ b3 := by omega
  have hn : b2 ≠ b3 := by omega
  have hn1 : b1 ≠ b3 := by omega
  have HZ : Hid (b2 < (((w.alloc (.cells #[.int .i64 id, .bool here, .int .i64 ahead, .slice a3 be.length c3, .slice a4 fi.length c4, .slice a5 sh.length c5] 25)).alloc (.cells #[.int .i64 0, .bool false, .int .i64 0, .slice none 0 0, .slice none 0 0, .slice none 0 0] 30)).alloc (.cells #[.int .i64 id, .bool here, .int .i64 ahead, .slice none 0 0, .slice none 0 0, .slice none 0 0] 30)).heap.size ∧ b3 < (((w.alloc (.cells #[.int .i64 id, .bool here, .int .i64 ahead, .slice a3 be.length c3, .slice a4 fi.length c4, .slice a5 sh.length c5] 25)).alloc (.cells #[.int .i64 0, .bool false, .int .i64 0, .slice none 0 0, .slice none 0 0, .slice none 0 0] 30)).alloc (.cells #[.int .i64 id, .bool here, .int .i64 ahead, .slice none 0 0, .slice none 0 0, .slice none 0 0] 30)).heap.size) := ⟨by omega, by omega⟩
  clear h1 h2 h3 e1 e2 e3 hsz
  generalize ((w.alloc (.cells #[.int .i64 id, .bool here, .int .i64 ahead, .slice a3 be.length c3, .slice a4 fi.length c4, .slice a5 sh.length c5] 25)).alloc (.cells #[.int .i64 0, .bool false, .int .i64 0, .slice none 0 0, .slice none 0 0, .slice none 0 0] 30)).alloc (.cells #[.int .i64 id, .bool here, .int .i64 ahead, .slice none 0 0, .slice none 0 0, .slice none 0 0] 30) = wa at *
  have A3 := blk_free_cell A 3 rfl
  have la := A.lt
  have o1 := blk_free_cell O 3 rfl
  have of1 := O.free 3
  have lo := O.lt
  have HC := hide (toInts_calls wa _ be (H3.out.below HB.out (Nat.le_refl _)) (by omega))
  go_wp2_with fail
  refine HC.out.mono ?_
  rintro e wb ⟨v3, rfl, hown, hbb⟩
  obtain ⟨f3, hfp, hfb⟩ := ints_owns hown
  obtain ⟨x3, y3, hsh⟩ := own_sh hown
  subst hsh
  clear hown
  have Ob := O.below hbb O.lt
  have Rb := R.below hbb R.lt
  have Ab := A.below hbb A.lt
  have HBb := hide (HB.out.trans (hbb.mono HB.out.size))
  have hsz := hbb.size
  have HZb : Hid (b2 < wb.heap.size ∧ b3 < wb.heap.size) := ⟨Nat.lt_of_lt_of_le HZ.out.1 hsz, Nat.lt_of_lt_of_le HZ.out.2 hsz⟩
  have HQb : Hid (∀ q ∈ f3, q ≠ b2 ∧ q ≠ b3) := fun q hq => by
    have h1 := hfb q hq
    have h2 := HZ.out
    omega
  have HLb : Hid (∀ q ∈ f3, w.heap.size ≤ q) := fun q hq => Nat.le_trans HB.out.size (hfb q hq)
  have K3 := hide hfp
  clear hbb hfp hfb A3 la o1 of1 lo HC HB O R A hsz HZ
  have o1 := blk_free_cell Ob 3 rfl
  have of1 := Ob.free 3
  have ol := Ob.lt
  go_upto_region 6 with fail
  have O := Ob.set 3 (.slice x3 be.length y3)
  have R := Rb.other (p := ⟨b3, 3, none⟩) hn (.slice x3 be.length y3)
  have A := Ab.other (p := ⟨b3, 3, none⟩) hn1 (.slice x3 be.length y3)
  have HB := hide (HBb.out.setCell (p := ⟨b3, 3, none⟩) hb3 (.slice x3 be.length y3))
  have HZ : Hid (b2 < (wb.setCell ⟨b3, 3, none⟩ (.slice x3 be.length y3)).heap.size ∧ b3 < (wb.setCell ⟨b3, 3, none⟩ (.slice x3 be.length y3)).heap.size) := by
    show _ ∧ _
    have := HZb.out
    simpa [World.setCell] using this
  have K3 := hide (owns_set K3.out (b := b3) (i := 3) (fun q hq => (HQb.out q hq).2) (.slice x3 be.length y3))
  have Q3 := HQb
  have L3 := HLb
  clear Ob Rb Ab HBb HZb HQb HLb o1 of1 ol
  generalize wb.setCell ⟨b3, 3, none⟩ (.slice x3 be.length y3) = wa at *
  have A4 := blk_free_cell A 4 rfl
  have la := A.lt
  have o1 := blk_free_cell O 4 rfl
  have of1 := O.free 4
  have lo := O.lt
  have HC := hide (toInts_calls wa _ fi (H4.out.below HB.out (Nat.le_refl _)) (by omega))
  go_wp2_with fail
  refine HC.out.mono ?_
  rintro e wb ⟨v4, rfl, hown, hbb⟩
  obtain ⟨f4, hfp, hfb⟩ := ints_owns hown
  obtain ⟨x4, y4, hsh⟩ := own_sh hown
  subst hsh
  clear hown
  have Ob := O.below hbb O.lt
  have Rb := R.below hbb R.lt
  have Ab := A.below hbb A.lt
  have HBb := hide (HB.out.trans (hbb.mono HB.out.size))
  have hsz := hbb.size
  have HZb : Hid (b2 < wb.heap.size ∧ b3 < wb.heap.size) := ⟨Nat.lt_of_lt_of_le HZ.out.1 hsz, Nat.lt_of_lt_of_le HZ.out.2 hsz⟩
  have HQb : Hid (∀ q ∈ f4, q ≠ b2 ∧ q ≠ b3) := fun q hq => by
    have h1 := hfb q hq
    have h2 := HZ.out
    omega
  have HLb : Hid (∀ q ∈ f4, w.heap.size ≤ q) := fun q hq => Nat.le_trans HB.out.size (hfb q hq)
  have K4 := hide hfp
  have D34 : Hid (∀ q ∈ f3, q ∉ f4) := fun q hq h => by
    have h1 := hfb q h
    have h2 := K3.out.lt q hq
    omega
  have K3 := hide (owns_below K3.out hbb)
  clear hbb hfp hfb A4 la o1 of1 lo HC HB O R A hsz HZ
  have o1 := blk_free_cell Ob 4 rfl
  have of1 := Ob.free 4
  have ol := Ob.lt
  go_upto_region 7 with fail
  have O := Ob.set 4 (.slice x4 fi.length y4)
  have R := Rb.other (p := ⟨b3, 4, none⟩) hn (.slice x4 fi.length y4)
  have A := Ab.other (p := ⟨b3, 4, none⟩) hn1 (.slice x4 fi.length y4)
  have HB := hide (HBb.out.setCell (p := ⟨b3, 4, none⟩) hb3 (.slice x4 fi.length y4))
  have HZ : Hid (b2 < (wb.setCell ⟨b3, 4, none⟩ (.slice x4 fi.length y4)).heap.size ∧ b3 < (wb.setCell ⟨b3, 4, none⟩ (.slice x4 fi.length y4)).heap.size) := by
    show _ ∧ _
    have := HZb.out
    simpa [World.setCell] using this
  have K3 := hide (owns_set K3.out (b := b3) (i := 4) (fun q hq => (Q3.out q hq).2) (.slice x4 fi.length y4))
  have K4 := hide (owns_set K4.out (b := b3) (i := 4) (fun q hq => (HQb.out q hq).2) (.slice x4 fi.length y4))
  have Q4 := HQb
  have L4 := HLb
  clear Ob Rb Ab HBb HZb HQb HLb o1 of1 ol
  generalize wb.setCell ⟨b3, 4, none⟩ (.slice x4 fi.length y4) = wa at *
  have A5 := blk_free_cell A 5 rfl
  have la := A.lt
  have o1 := blk_free_cell O 5 rfl
  have of1 := O.free 5
  have lo := O.lt
  have HC := hide (toShelves_calls wa _ sh (H5.out.below HB.out (Nat.le_refl _)) hs5 (fun x hx => (HS.out x hx).1))
  go_wp2_with fail
  refine HC.out.mono ?_
  rintro e wb ⟨x5, y5, f5, rfl, hfp, hfb, hbb⟩
  have Ob := O.below hbb O.lt
  have Rb := R.below hbb R.lt
  have Ab := A.below hbb A.lt
  have HBb := hide (HB.out.trans (hbb.mono HB.out.size))
  have hsz := hbb.size
  have HZb : Hid (b2 < wb.heap.size ∧ b3 < wb.heap.size) := ⟨Nat.lt_of_lt_of_le HZ.out.1 hsz, Nat.lt_of_lt_of_le HZ.out.2 hsz⟩
  have HQb : Hid (∀ q ∈ f5, q ≠ b2 ∧ q ≠ b3) := fun q hq => by
    have h1 := hfb q hq
    have h2 := HZ.out
    omega
  have HLb : Hid (∀ q ∈ f5, w.heap.size ≤ q) := fun q hq => Nat.le_trans HB.out.size (hfb q hq)
  have K5 := hide hfp
  have D35 : Hid (∀ q ∈ f3, q ∉ f5) := fun q hq h => by
    have h1 := hfb q h
    have h2 := K3.out.lt q hq
    omega
  have K3 := hide (owns_below K3.out hbb)
  have D45 : Hid (∀ q ∈ f4, q ∉ f5) := fun q hq h => by
    have h1 := hfb q h
    have h2 := K4.out.lt q hq
    omega
  have K4 := hide (owns_below K4.out hbb)
  clear hbb hfp hfb A5 la o1 of1 lo HC HB O R A hsz HZ
  have o1 := blk_free_cell Ob 5 rfl
  have of1 := Ob.free 5
  have ol := Ob.lt
  go_upto_region 8 with fail
  have O := Ob.set 5 (.slice x5 sh.length y5)
  have R := Rb.other (p := ⟨b3, 5, none⟩) hn (.slice x5 sh.length y5)
  have A := Ab.other (p := ⟨b3, 5, none⟩) hn1 (.slice x5 sh.length y5)
  have HB := hide (HBb.out.setCell (p := ⟨b3, 5, none⟩) hb3 (.slice x5 sh.length y5))
  have HZ : Hid (b2 < (wb.setCell ⟨b3, 5, none⟩ (.slice x5 sh.length y5)).heap.size ∧ b3 < (wb.setCell ⟨b3, 5, none⟩ (.slice x5 sh.length y5)).heap.size) := by
    show _ ∧ _
    have := HZb.out
    simpa [World.setCell] using this
  have K3 := hide (owns_set K3.out (b := b3) (i := 5) (fun q hq => (Q3.out q hq).2) (.slice x5 sh.length y5))
  have K4 := hide (owns_set K4.out (b := b3) (i := 5) (fun q hq => (Q4.out q hq).2) (.slice x5 sh.length y5))
  have K5 := hide (owns_set K5.out (b := b3) (i := 5) (fun q hq => (HQb.out q hq).2) (.slice x5 sh.length y5))
  have Q5 := HQb
  have L5 := HLb
  clear Ob Rb Ab HBb HZb HQb HLb o1 of1 ol
  generalize wb.setCell ⟨b3, 5, none⟩ (.slice x5 sh.length y5) = wa at *
  have p0 := blk_free_cell O 0 rfl
  have r0 := blk_free_cell R 0 rfl
  have rf0 := R.free 0
  have p1 := blk_free_cell O 1 rfl
  have r1 := blk_free_cell R 1 rfl
  have rf1 := R.free 1
  have p2 := blk_free_cell O 2 rfl
  have r2 := blk_free_cell R 2 rfl
  have rf2 := R.free 2
  have p3 := blk_free_cell O 3 rfl
  have r3 := blk_free_cell R 3 rfl
  have rf3 := R.free 3
  have p4 := blk_free_cell O 4 rfl
  have r4 := blk_free_cell R 4 rfl
  have rf4 := R.free 4
  have p5 := blk_free_cell O 5 rfl
  have r5 := blk_free_cell R 5 rfl
  have rf5 := R.free 5
  have pl := O.lt
  have rl := R.lt
  go_wp2_with fail
  have Rd := ((((((R.set 0 (.int .i64 id)).set 1 (.bool here)).set 2 (.int .i64 ahead)).set 3 (.slice x3 be.length y3)).set 4 (.slice x4 fi.length y4)).set 5 (.slice x5 sh.length y5))
  have z0 := blk_free_cell Rd 0 rfl
  have z1 := blk_free_cell Rd 1 rfl
  have z2 := blk_free_cell Rd 2 rfl
  have z3 := blk_free_cell Rd 3 rfl
  have z4 := blk_free_cell Rd 4 rfl
  have z5 := blk_free_cell Rd 5 rfl
  refine bodyPost_ret (v := .agg #[.int .i64 id, .bool here, .int .i64 ahead, .slice x3 be.length y3, .slice x4 fi.length y4, .slice x5 sh.length y5]) (by simp [results, Try.results7, go_sem, z0, z1, z2, z3, z4, z5]) rfl ⟨x3, y3, x4, y4, x5, y5, f3, f4, f5, rfl, ⟨(owns_set (owns_set (owns_set (owns_set (owns_set (owns_set K3.out (b := b2) (i := 0) (fun q hq => (Q3.out q hq).1) (.int .i64 id)) (b := b2) (i := 1) (fun q hq => (Q3.out q hq).1) (.bool here)) (b := b2) (i := 2) (fun q hq => (Q3.out q hq).1) (.int .i64 ahead)) (b := b2) (i := 3) (fun q hq => (Q3.out q hq).1) (.slice x3 be.length y3)) (b := b2) (i := 4) (fun q hq => (Q3.out q hq).1) (.slice x4 fi.length y4)) (b := b2) (i := 5) (fun q hq => (Q3.out q hq).1) (.slice x5 sh.length y5)), (owns_set (owns_set (owns_set (owns_set (owns_set (owns_set K4.out (b := b2) (i := 0) (fun q hq => (Q4.out q hq).1) (.int .i64 id)) (b := b2) (i := 1) (fun q hq => (Q4.out q hq).1) (.bool here)) (b := b2) (i := 2) (fun q hq => (Q4.out q hq).1) (.int .i64 ahead)) (b := b2) (i := 3) (fun q hq => (Q4.out q hq).1) (.slice x3 be.length y3)) (b := b2) (i := 4) (fun q hq => (Q4.out q hq).1) (.slice x4 fi.length y4)) (b := b2) (i := 5) (fun q hq => (Q4.out q hq).1) (.slice x5 sh.length y5)), (owns_set (owns_set (owns_set (owns_set (owns_set (owns_set K5.out (b := b2) (i := 0) (fun q hq => (Q5.out q hq).1) (.int .i64 id)) (b := b2) (i := 1) (fun q hq => (Q5.out q hq).1) (.bool here)) (b := b2) (i := 2) (fun q hq => (Q5.out q hq).1) (.int .i64 ahead)) (b := b2) (i := 3) (fun q hq => (Q5.out q hq).1) (.slice x3 be.length y3)) (b := b2) (i := 4) (fun q hq => (Q5.out q hq).1) (.slice x4 fi.length y4)) (b := b2) (i := 5) (fun q hq => (Q5.out q hq).1) (.slice x5 sh.length y5)), L3.out, L4.out, L5.out, D34.out, D35.out, D45.out⟩, ((((((HB.out.setCell (p := ⟨b2, 0, none⟩) hb2 _).setCell (p := ⟨b2, 1, none⟩) hb2 _).setCell (p := ⟨b2, 2, none⟩) hb2 _).setCell (p := ⟨b2, 3, none⟩) hb2 _).setCell (p := ⟨b2, 4, none⟩) hb2 _).setCell (p := ⟨b2, 5, none⟩) hb2 _)⟩
end Go.Proofs.Ytfckfgabeeeccaa.P9
