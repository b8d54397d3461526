/- What is owned stays where nothing but other blocks are written; a shelf as a record; no condition.
The specification's copy of a peer; condition: lists of at most 2^20, texts of at most 2^20 bytes.
The specification's copy of a ring; condition: at most 2^20 peers, their lists of at most 2^20, texts of at most 2^20 bytes.
Who goes, and who asks the one behind, as plain mathematics; no condition.
The specification's l11Not, l11Behind; condition: lists of at most 2^20.
The specification's l09Few of any list, and l11Behind; condition: lists of at most 2^20.
A peer of a ring that the call owns: one of its fields written over; no condition.
The specification's Settle; condition: at most 2^20 peers, their lists of at most 2^20, texts of at most 2^20 bytes.
A peer of a ring that the call owns, written over whole; no condition.
The specification's Gone; condition: at most 2^20 peers, their lists of at most 2^20, texts of at most 2^20 bytes.
Who joins, and whom one's fingers are, as plain mathematics; a ring's Ids, and that its lists are short, through each change; no condition. -/
import Derived.Test.YteladljgnbfcnaaGreatZRC
import Derived.Test.YteladljgnbfcnaaGreatZRD
import Derived.Test.YteladljgnbfcnaaGreatZRH
import Derived.Test.YteladljgnbfcnaaGreatZA
import Derived.Test.YteladljgnbfcnaaGreatZRA
import Derived.Test.YteladljgnbfcnaaGreatZRB
import Derived.Deep.CutRange
namespace Go.Proofs.YteladljgnbfcnaaGreat.P9
open Go.RowKit P1 P8 Da Ap Rr Rc

theorem owns_only {W W' : World} {v : Value} {d : Dt} {fp fs : List Nat} (h : Owns W v d fp) (ho : Only fs W W') (hn : ∀ q ∈ fp, q ∉ fs) : Owns W' v d fp :=
  h.stay (fun q hq => ho.block q (h.lt q hq) (hn q hq))

theorem ints_owned {W : World} {B : Nat} {v : Value} {l : List Int} (h : W.ownsRow B 3 1 v l.length (cellsI l)) : ∃ fp, Owns W v (intsD l) fp ∧ ∀ q ∈ fp, B ≤ q := by
  obtain ⟨fp, h1, h2⟩ := owns_of_row h
  have e : (cellsI l).map Dt.leaf = l.map intD := by
    unfold cellsI
    rw [List.map_map]
    rfl
  rw [e] at h1
  exact ⟨fp, h1, fun q hq => (h.lt q ((h2 q).1 hq)).1⟩

theorem cellsT_eq (l : List It) : cellsT l = (l.map itV).flatten := by
  rw [cellsT, List.flatMap_def]
  rfl

theorem items_owned {W : World} {B : Nat} {v : Value} {l : List It} (h : W.ownsRow B 86 2 v l.length (cellsT l)) : ∃ fp, Owns W v (itemsD T0 l) fp ∧ ∀ q ∈ fp, B ≤ q := by
  rw [cellsT_eq] at h
  exact items_owns h

theorem owns_shelf {W : World} {key : Int} {u : Value} {l : List It} {f : List Nat} (h : Owns W u (itemsD T0 l) f) : OwnsAll W #[.int .i64 key, u] 0 (shC T0 ⟨key, l⟩) f := by
  unfold shC
  unfold OwnsAll
  refine ⟨.int .i64 key, [], f, rfl, owns_leaf _, ?_, by simp, by simp⟩
  unfold OwnsAll
  refine ⟨u, f, [], rfl, h, ?_, by simp, by simp⟩
  unfold OwnsAll
  rfl

theorem items_lit0 (w : World) : (w.alloc (.cells #[] 86)).ownsRow w.heap.size 86 2 (.slice (some ⟨w.heap.size, 0, none⟩) 0 0) ([] : List It).length (cellsT []) :=
  World.ownsRow_lit (base := w.heap.size) (e := 86) (size := 2) w #[] 0 (Nat.le_refl _) (by decide) rfl

theorem shelves_lit0 (w : World) : RowD (w.alloc (.cells #[] 72)) w.heap.size 72 2 (.slice (some ⟨w.heap.size, 0, none⟩) 0 0) 0 [] [] [] :=
  ⟨World.ownsRow_lit (base := w.heap.size) (e := 72) (size := 2) w #[] 0 (Nat.le_refl _) (by decide) rfl, (by unfold OwnsAll; rfl), (fun g _ h => by cases h), rfl⟩

/-- The six cells of a struct written over. -/
theorem six_set {w : World} {b : Nat} {z0 z1 z2 z3 z4 z5 : Value} {t : TypeId} (h : Blk w b [z0, z1, z2, z3, z4, z5] t) (v0 v1 v2 v3 v4 v5 : Value) :
    Blk ((((((w.setCell ⟨b, 0, none⟩ v0).setCell ⟨b, 1, none⟩ v1).setCell ⟨b, 2, none⟩ v2).setCell ⟨b, 3, none⟩ v3).setCell ⟨b, 4, none⟩ v4).setCell ⟨b, 5, none⟩ v5) b [v0, v1, v2, v3, v4, v5] t :=
  (((((h.set 0 v0).set 1 v1).set 2 v2).set 3 v3).set 4 v4).set 5 v5

theorem six_below {w0 w : World} {B b : Nat} (h : Below B w0 w) (hb : B ≤ b) (v0 v1 v2 v3 v4 v5 : Value) :
    Below B w0 ((((((w.setCell ⟨b, 0, none⟩ v0).setCell ⟨b, 1, none⟩ v1).setCell ⟨b, 2, none⟩ v2).setCell ⟨b, 3, none⟩ v3).setCell ⟨b, 4, none⟩ v4).setCell ⟨b, 5, none⟩ v5) :=
  (((((h.setCell (p := ⟨b, 0, none⟩) hb v0).setCell (p := ⟨b, 1, none⟩) hb v1).setCell (p := ⟨b, 2, none⟩) hb v2).setCell (p := ⟨b, 3, none⟩) hb v3).setCell (p := ⟨b, 4, none⟩) hb v4).setCell (p := ⟨b, 5, none⟩) hb v5
end Go.Proofs.YteladljgnbfcnaaGreat.P9
namespace Go.Proofs.YteladljgnbfcnaaGreat.P9
set_option maxRecDepth 8000
open Go.RowKit P1 P8 Da Ap Rr Rc

set_option maxRecDepth 100000 in
set_option maxHeartbeats 4000000 in
theorem copyPeer_calls (w : World) (p : Pr) (u3 u4 u5 : Value) (h3 : IntsAt w u3 p.behind) (h4 : IntsAt w u4 p.fingers) (h5 : ShelvesAt w u5 p.shelves) (hp : Small p) :
    Calls Tryz.prog 70 #[prV p u3 u4 u5] w fun e w' => ∃ v3 v4 v5 f3 f4 f5, e = .returned (prV p v3 v4 v5) ∧ PeerOwn w' w.heap.size p v3 v4 v5 f3 f4 f5 ∧ Below w.heap.size w w' := by
  obtain ⟨id, here, ahead, be, fi, sh⟩ := p
  have hs3 := hp.b
  have hs4 := hp.f
  have hs5 := hp.s
  have HI := hide hp.i
  dsimp only at h3 h4 h5 hs3 hs4 hs5 HI
  unfold prV
  have H3 := hide h3
  have H4 := hide h4
  have H5 := hide h5
  obtain ⟨a3, c3, rfl, -⟩ := h3
  obtain ⟨a4, c4, rfl, -⟩ := h4
  obtain ⟨a5, c5, e5, -⟩ := h5.open_
  subst e5
  clear h5 hp
  obtain ⟨i0, hi0, hz0, hz1, hz2⟩ := info_parts info_i64
  obtain ⟨it, ht0, ht1, ht2, ht3⟩ := info_parts info_item
  obtain ⟨is, hh0, hh1, hh2, hh3⟩ := info_parts info_shelf
  have hb1 := (Below.refl w.heap.size w).alloc (Nat.le_refl _) (.cells #[.int .i64 id, .bool here, .int .i64 ahead, .slice a3 be.length c3, .slice a4 fi.length c4, .slice a5 sh.length c5] 37)
  have hb2 := hb1.alloc hb1.size (.cells #[.int .i64 0, .bool false, .int .i64 0, .slice none 0 0, .slice none 0 0, .slice none 0 0] 37)
  have hb3 := hb2.alloc hb2.size (.cells #[.int .i64 id, .bool here, .int .i64 ahead, .slice a3 be.length c3, .slice a4 fi.length c4, .slice a5 sh.length c5] 37)
  have A0 := Blk.new w #[.int .i64 id, .bool here, .int .i64 ahead, .slice a3 be.length c3, .slice a4 fi.length c4, .slice a5 sh.length c5] 37
  have A1 := Blk.new (w.alloc (.cells #[.int .i64 id, .bool here, .int .i64 ahead, .slice a3 be.length c3, .slice a4 fi.length c4, .slice a5 sh.length c5] 37)) #[.int .i64 0, .bool false, .int .i64 0, .slice none 0 0, .slice none 0 0, .slice none 0 0] 37
  have A2 := Blk.new ((w.alloc (.cells #[.int .i64 id, .bool here, .int .i64 ahead, .slice a3 be.length c3, .slice a4 fi.length c4, .slice a5 sh.length c5] 37)).alloc (.cells #[.int .i64 0, .bool false, .int .i64 0, .slice none 0 0, .slice none 0 0, .slice none 0 0] 37)) #[.int .i64 id, .bool here, .int .i64 ahead, .slice a3 be.length c3, .slice a4 fi.length c4, .slice a5 sh.length c5] 37
  have hn (wq : World) (o : Obj) : Below wq.heap.size wq (wq.alloc o) := (Below.refl _ _).alloc (Nat.le_refl _) o
  have A0' := (A0.below (hn _ (.cells #[.int .i64 0, .bool false, .int .i64 0, .slice none 0 0, .slice none 0 0, .slice none 0 0] 37)) A0.lt)
  have A0'' := A0'.below (hn _ (.cells #[.int .i64 id, .bool here, .int .i64 ahead, .slice a3 be.length c3, .slice a4 fi.length c4, .slice a5 sh.length c5] 37)) A0'.lt
  have A1' := A1.below (hn _ (.cells #[.int .i64 id, .bool here, .int .i64 ahead, .slice a3 be.length c3, .slice a4 fi.length c4, .slice a5 sh.length c5] 37)) A1.lt
  have e1 : (w.alloc (.cells #[.int .i64 id, .bool here, .int .i64 ahead, .slice a3 be.length c3, .slice a4 fi.length c4, .slice a5 sh.length c5] 37)).heap.size = w.heap.size + 1 := by simp
  have e2 : ((w.alloc (.cells #[.int .i64 id, .bool here, .int .i64 ahead, .slice a3 be.length c3, .slice a4 fi.length c4, .slice a5 sh.length c5] 37)).alloc (.cells #[.int .i64 0, .bool false, .int .i64 0, .slice none 0 0, .slice none 0 0, .slice none 0 0] 37)).heap.size = w.heap.size + 1 + 1 := by simp
  have e3 : (((w.alloc (.cells #[.int .i64 id, .bool here, .int .i64 ahead, .slice a3 be.length c3, .slice a4 fi.length c4, .slice a5 sh.length c5] 37)).alloc (.cells #[.int .i64 0, .bool false, .int .i64 0, .slice none 0 0, .slice none 0 0, .slice none 0 0] 37)).alloc (.cells #[.int .i64 id, .bool here, .int .i64 ahead, .slice a3 be.length c3, .slice a4 fi.length c4, .slice a5 sh.length c5] 37)).heap.size = w.heap.size + 1 + 1 + 1 := by simp
  rw [e1] at A1'
  rw [e2] at A2
  have HB := hide hb3
  clear hb1 hb2 hb3 A0 A1 A0' hn e1 e2
  go_enter Tryz.func70, Tryz.ntmps70
  go_upto_region 2 with fail
  obtain ⟨s, es⟩ : ∃ s, s = w.heap.size := ⟨_, rfl⟩
  rw [← es] at A0'' A1' A2 e3 ⊢
  have HS : Hid (w.heap.size = s) := es.symm
  clear es
  generalize ((w.alloc (.cells #[.int .i64 id, .bool here, .int .i64 ahead, .slice a3 be.length c3, .slice a4 fi.length c4, .slice a5 sh.length c5] 37)).alloc (.cells #[.int .i64 0, .bool false, .int .i64 0, .slice none 0 0, .slice none 0 0, .slice none 0 0] 37)).alloc (.cells #[.int .i64 id, .bool here, .int .i64 ahead, .slice a3 be.length c3, .slice a4 fi.length c4, .slice a5 sh.length c5] 37) = w1 at *
  have H3a := hide (H3.out.below HB.out (Nat.le_refl _))
  have hs1 := HS.out
  have HZ1 := hide e3
  have hz1' : s < w1.heap.size ∧ s + 1 < w1.heap.size ∧ s + 1 + 1 < w1.heap.size := by omega
  clear e3
  clear H3
  -- what stands behind it
  have c03 := blk_free_cell A0'' 3 rfl
  have l0 := A0''.lt
  have HO := hide (own_lit0 w1)
  have HL := hide ((Below.refl w1.heap.size w1).alloc (Nat.le_refl _) (.cells #[] 3))
  have H3b := hide (H3a.out.below HL.out (Nat.le_refl _))
  have hz := HL.out.size
  have m03 := (HL.out.cell (p := ⟨s, 3, none⟩) l0).trans c03
  have m0l : s < (w1.alloc (.cells #[] 3)).heap.size := by omega
  go_wp2_with (at_builtin; refine wpList_append_any rfl (.tmp 6) (.tmp 8) 24 rfl w1.heap.size 3 i0 (.int .i64 0) 1 8 Tryz.underlying24 hi0 hz0 hz1 hz2 rfl (by decide) _ _ _ rfl HO.out a3 be.length c3 rfl (cellsI be) (cellsI_len be) (ints_news H3b.out) (cellsI_one be) (by unfold maxLen; simp; omega) (by simp; omega) hz ?_)
  intro v3 w4 hown hgr
  have hb4 : Below w1.heap.size w1 w4 := HL.out.grown hgr hz (fun k hk => by cases hk; exact Nat.le_refl _)
  have hown' : w4.ownsRow w1.heap.size 3 1 v3 be.length (cellsI be) := by simpa [cellsI] using hown
  obtain ⟨a6, c6, hsh⟩ := own_sh hown'
  subst hsh
  obtain ⟨f3, o3, g3⟩ := ints_owned hown'
  have B2 := A2.below hb4 A2.lt
  have B0 := A0''.below hb4 A0''.lt
  have B1 := A1'.below hb4 A1'.lt
  have HB4 := hide (HB.out.trans (hb4.mono HB.out.size))
  have hz4 := hb4.size
  have fr3 := B2.free 3
  have k3 := B2.cell 3
  have k2l := B2.lt
  clear hown hgr hown' hb4 HO HL H3b hz m03 m0l c03 l0 HB H3a A0'' A1' A2
  go_upto_region 3 with fail
  have D2 := B2.set 3 (.slice a6 be.length c6)
  have D0 := B0.other (p := ⟨s + 1 + 1, 3, none⟩) (by show s ≠ s + 1 + 1; omega) (.slice a6 be.length c6)
  have D1 := B1.other (p := ⟨s + 1 + 1, 3, none⟩) (by show s + 1 ≠ s + 1 + 1; omega) (.slice a6 be.length c6)
  simp only [List.set_cons_succ, List.set_cons_zero] at D2
  have o3' := owns_set o3 (b := s + 1 + 1) (i := 3) (fun q hq => by have := g3 q hq; omega) (.slice a6 be.length c6)
  have HB5 := hide (HB4.out.setCell (p := ⟨s + 1 + 1, 3, none⟩) (by show _ ≤ s + 1 + 1; omega) (.slice a6 be.length c6))
  have HF3 : Hid (∀ q ∈ f3, s + 1 + 1 < q) := fun q hq => by have := g3 q hq; omega
  have hz5 : s + 1 + 1 < (w4.setCell ⟨s + 1 + 1, 3, none⟩ (.slice a6 be.length c6)).heap.size := by
    have : (w4.setCell ⟨s + 1 + 1, 3, none⟩ (.slice a6 be.length c6)).heap.size = w4.heap.size := by simp
    omega
  have HO3 := hide o3'
  clear o3 o3' g3 B0 B1 B2 fr3 k3 k2l HB4 hz4 hz1' HZ1
  generalize w4.setCell ⟨s + 1 + 1, 3, none⟩ (.slice a6 be.length c6) = w5 at *
  -- its fingers
  have c04 := blk_free_cell D0 4 rfl
  have l0 := D0.lt
  have HO := hide (own_lit0 w5)
  have HL := hide ((Below.refl w5.heap.size w5).alloc (Nat.le_refl _) (.cells #[] 3))
  have H4b := hide (H4.out.below (HB5.out.trans (HL.out.mono HB5.out.size)) (Nat.le_refl _))
  have hz := HL.out.size
  have m04 := (HL.out.cell (p := ⟨s, 4, none⟩) l0).trans c04
  have m0l : s < (w5.alloc (.cells #[] 3)).heap.size := by omega
  go_wp2_with (at_builtin; refine wpList_append_any rfl (.tmp 11) (.tmp 13) 24 rfl w5.heap.size 3 i0 (.int .i64 0) 1 8 Tryz.underlying24 hi0 hz0 hz1 hz2 rfl (by decide) _ _ _ rfl HO.out a4 fi.length c4 rfl (cellsI fi) (cellsI_len fi) (ints_news H4b.out) (cellsI_one fi) (by unfold maxLen; simp; omega) (by simp; omega) hz ?_)
  intro v4 w6 hown hgr
  have hb6 : Below w5.heap.size w5 w6 := HL.out.grown hgr hz (fun k hk => by cases hk; exact Nat.le_refl _)
  have hown' : w6.ownsRow w5.heap.size 3 1 v4 fi.length (cellsI fi) := by simpa [cellsI] using hown
  obtain ⟨a7, c7, hsh⟩ := own_sh hown'
  subst hsh
  obtain ⟨f4, o4, g4⟩ := ints_owned hown'
  have o3 := owns_below HO3.out hb6
  have B2 := D2.below hb6 D2.lt
  have B0 := D0.below hb6 D0.lt
  have B1 := D1.below hb6 D1.lt
  have HB6 := hide (HB5.out.trans (hb6.mono HB5.out.size))
  have hz6 := hb6.size
  have fr4 := B2.free 4
  have k4 := B2.cell 4
  have k2l := B2.lt
  have hd34 : ∀ q ∈ f3, q ∉ f4 := fun q h3 h4 => by
    have := HO3.out.lt q h3
    have := g4 q h4
    omega
  clear hown hgr hown' hb6 HO HL H4b hz m04 m0l c04 l0 HB5 D0 D1 D2 HO3 H4
  go_upto_region 4 with fail
  have D2 := B2.set 4 (.slice a7 fi.length c7)
  have D0 := B0.other (p := ⟨s + 1 + 1, 4, none⟩) (by show s ≠ s + 1 + 1; omega) (.slice a7 fi.length c7)
  have D1 := B1.other (p := ⟨s + 1 + 1, 4, none⟩) (by show s + 1 ≠ s + 1 + 1; omega) (.slice a7 fi.length c7)
  simp only [List.set_cons_succ, List.set_cons_zero] at D2
  have o3' := owns_set o3 (b := s + 1 + 1) (i := 4) (fun q hq => by have := HF3.out q hq; omega) (.slice a7 fi.length c7)
  have o4' := owns_set o4 (b := s + 1 + 1) (i := 4) (fun q hq => by have := g4 q hq; omega) (.slice a7 fi.length c7)
  have HB7 := hide (HB6.out.setCell (p := ⟨s + 1 + 1, 4, none⟩) (by show _ ≤ s + 1 + 1; omega) (.slice a7 fi.length c7))
  have HF4 : Hid (∀ q ∈ f4, s + 1 + 1 < q) := fun q hq => by have := g4 q hq; omega
  have HD34 := hide hd34
  have hz7 : s + 1 + 1 < (w6.setCell ⟨s + 1 + 1, 4, none⟩ (.slice a7 fi.length c7)).heap.size := by
    have : (w6.setCell ⟨s + 1 + 1, 4, none⟩ (.slice a7 fi.length c7)).heap.size = w6.heap.size := by simp
    omega
  have HO3 := hide o3'
  have HO4 := hide o4'
  clear o3 o3' o4 o4' g4 B0 B1 B2 fr4 k4 k2l HB6 hz6 hd34 hz5
  generalize w6.setCell ⟨s + 1 + 1, 4, none⟩ (.slice a7 fi.length c7) = w7 at *
  have fr5 := D2.free 5
  have k5 := D2.cell 5
  have k2l := D2.lt
  go_upto_region 5 with fail
  have e78 : (w7.setCell ⟨s + 1 + 1, 5, none⟩ (.slice (some ⟨w7.heap.size, 0, none⟩) 0 0)).heap.size = w7.heap.size := by simp
  have Q9 := D2.set 5 (.slice (some ⟨w7.heap.size, 0, none⟩) 0 0)
  simp only [List.set_cons_succ, List.set_cons_zero] at Q9
  have hO8 : Only [s + 1 + 1] w7 (w7.setCell ⟨s + 1 + 1, 5, none⟩ (.slice (some ⟨w7.heap.size, 0, none⟩) 0 0)) := (Only.refl [s + 1 + 1] w7).setCell (p := ⟨s + 1 + 1, 5, none⟩) (by simp) _
  have hR9 := shelves_lit0 (w7.setCell ⟨s + 1 + 1, 5, none⟩ (.slice (some ⟨w7.heap.size, 0, none⟩) 0 0))
  rw [e78] at hR9
  have hba := (Below.refl (w7.setCell ⟨s + 1 + 1, 5, none⟩ (.slice (some ⟨w7.heap.size, 0, none⟩) 0 0)).heap.size (w7.setCell ⟨s + 1 + 1, 5, none⟩ (.slice (some ⟨w7.heap.size, 0, none⟩) 0 0))).alloc (Nat.le_refl _) (.cells #[] 72)
  have Q10 := hide (Q9.below hba Q9.lt)
  have HO9 := hide (hO8.trans (Only.of_below hba))
  have HR9 := hide hR9
  have HD0 := hide D0
  have HD1 := hide D1
  clear e78 Q9 hO8 hR9 hba D0 D1 D2 fr5 k5 k2l
  obtain ⟨z, ez⟩ : ∃ z, z = w7.heap.size := ⟨_, rfl⟩
  rw [← ez] at Q10 HO9 HR9 hz7 ⊢
  have HEZ := hide ez
  clear ez
  generalize (w7.setCell ⟨s + 1 + 1, 5, none⟩ (.slice (some ⟨z, 0, none⟩) 0 0)).alloc (.cells #[] 72) = w9 at *
  go_wp2_with fail
  go_loopw [4] (fun i wr => ∃ k : Nat, k ≤ sh.length ∧ i = .int .i64 k ∧ ∃ rv X fps, Hid (Blk wr (s + 1 + 1) [.int .i64 id, .bool here, .int .i64 ahead, .slice a6 be.length c6, .slice a7 fi.length c7, rv] 37) ∧ Hid (RowD wr z 72 2 rv k X ((sh.take k).flatMap (shC T0)) fps) ∧ Hid (Only [s + 1 + 1] w7 wr) ∧ Hid (∀ q ∈ fps, z ≤ q)) (fun i _ => sh.length - (intOf i).toNat)
  case atStart => exact ⟨0, Nat.zero_le _, rfl, _, [], [], Q10.out, HR9.out, HO9.out, fun q hq => by cases hq⟩
  case round =>
    clear Q10 HR9 HO9
    obtain ⟨k, hk, rfl, rv, X, fps, HQ, HR, HOn, HFP⟩ := hrel
    obtain ⟨ar, cr, hsh⟩ := own_sh HR.out.row
    subst hsh
    have hzw := HEZ.out
    have hB7 : Below w.heap.size w7 wr := HOn.out.below (by have := HB7.out.size; omega) (fun q hq => by simp at hq; omega)
    have HBr := hide (HB7.out.trans hB7)
    have D0r := only_blk HOn.out HD0.out (by simp; omega)
    have hzr : z ≤ wr.heap.size := by have := hB7.size; omega
    clear hB7 hzw
    by_cases hlt : k < sh.length
    · obtain ⟨ax, cx, hax, HA⟩ := (H5.out.below HBr.out (Nat.le_refl _)).open_
      cases hax
      obtain ⟨g, off, u, rfl, hg, f0, f1, hit⟩ := HA k hlt
      have hsm := HI.out sh[k] (List.getElem_mem hlt)
      have HT := hide (flat_take (shC T0) (List.getElem?_eq_getElem hlt))
      clear HA
      generalize sh[k] = q at *
      obtain ⟨key, its⟩ := q
      dsimp only at f0 f1 hit hsm HT
      have HIT := hide hit
      obtain ⟨ai, ci, hsi, -⟩ := hit.open_
      subst hsi
      have hil := hsm.1
      clear hit hsm
      have n5 : ∀ p : Near wr.heap.size wr, p.w.cell? ⟨s, 5, none⟩ = some (.slice (some ⟨g, off, none⟩) sh.length c5) := fun p => by rw [(D0r.below p.h D0r.lt).cell 5]; rfl
      have n2 : ∀ p : Near wr.heap.size wr, p.w.cell? ⟨s + 1 + 1, 5, none⟩ = some (.slice ar k cr) := fun p => by rw [(HQ.out.below p.h HQ.out.lt).cell 5]; rfl
      have nk : ∀ p : Near wr.heap.size wr, p.w.cell? ⟨g, off + k * 2, none⟩ = some (.int .i64 key) := fun p => (p.h.cell (p := ⟨g, off + k * 2, none⟩) hg).trans f0
      have nu : ∀ p : Near wr.heap.size wr, p.w.cell? ⟨g, off + k * 2 + 1, none⟩ = some (.slice ai its.length ci) := fun p => (p.h.cell (p := ⟨g, off + k * 2 + 1, none⟩) hg).trans f1
      have hnn := Near.some wr.heap.size wr
      have m5 : wr.cell? ⟨s, 5, none⟩ = some (.slice (some ⟨g, off, none⟩) sh.length c5) := by rw [D0r.cell 5]; rfl
      have ml := D0r.lt
      clear f0 f1
      go_upto_region 8 with fail
      clear m5 ml
      refine wp_region_open (fun wd => ∃ p : Near wr.heap.size wr, wd = p.w) ⟨⟨_, (Below.refl _ _).drew⟩, rfl⟩ (by kernel_rfl) ?_
      rintro wd ⟨pd, rfl⟩
      refine wpAny_of_K (c := 18) (D := fun w' => ∃ p : Near wr.heap.size wr, w' = p.w) _ _ _ _ ?_
      refine wpAnyK_seg_lit4 0 8 6 13 rfl (by decide) (by decide) (by kernel_rfl) (by kernel_rfl) (by kernel_rfl) (by kernel_rfl) (fun _ _ _ _ _ h => h) ⟨pd, rfl⟩ ?_
      simp only [List.take_succ_cons, List.take_zero, List.drop_zero]
      repeat (go_big_quiet_step (fail))
      refine wpQuiet_nil ?_
      refine wpAnyK_seg_lit4 9 6 6 7 rfl (by decide) (by decide) (by kernel_rfl) (by kernel_rfl) (by kernel_rfl) (by kernel_rfl) (fun _ _ _ _ _ h => h) ⟨pd, rfl⟩ ?_
      simp only [List.take_succ_cons, List.take_zero, List.drop_succ_cons, List.drop_zero]
      repeat (go_big_quiet_step (fail))
      refine wpQuiet_nil ?_
      clear n5 n2 nk nu hnn
      have hpb := pd.h
      have hps := pd.h.size
      refine wpAnyK_value (i := 8) (v := .slice (some ⟨pd.w.heap.size, 0, none⟩) 0 0) (w' := pd.w.alloc (.cells #[] 86)) (by kernel_rfl) rfl rfl (by simp [execOp, go_sem]) ⟨⟨_, pd.h.alloc hps _⟩, rfl⟩ ?_
      have HS0 := hide (items_lit0 pd.w)
      have HBl := hide ((Below.refl pd.w.heap.size pd.w).alloc (Nat.le_refl _) (.cells #[] 86))
      have HITl := hide ((HIT.out.below hpb (Nat.le_refl _)).below HBl.out (Nat.le_refl _))
      have hsz : pd.w.heap.size ≤ (pd.w.alloc (.cells #[] 86)).heap.size := HBl.out.size
      refine wpAnyK_one 15 (by kernel_rfl) rfl ?_
      refine wpList_append_any rfl (.tmp 33) (.tmp 39) 70 rfl pd.w.heap.size 86 it (.agg #[.string ByteArray.empty, .bool false]) 2 24 Tryz.underlying70 ht0 ht1 ht2 ht3 rfl (by decide) _ _ _ rfl HS0.out ai its.length ci rfl (cellsT its) (cellsT_len its) (items_news HITl.out) (cellsT_one its) (by unfold maxLen; simp; omega) (by simp; omega) hsz ?_
      intro v8 wq hown8 hgr8
      have hb8 : Below pd.w.heap.size pd.w wq := HBl.out.grown hgr8 (by simp) (fun k hk => by cases hk; exact Nat.le_refl _)
      have hown8' : wq.ownsRow pd.w.heap.size 86 2 v8 its.length (cellsT its) := by simpa [cellsT] using hown8
      obtain ⟨a9, c9, hsh9⟩ := own_sh hown8'
      subst hsh9
      obtain ⟨f9, o9, g9⟩ := items_owned hown8'
      have hbq := hpb.trans (hb8.mono hps)
      clear hown8 hgr8 HS0 HBl HITl hsz hown8'
      refine ⟨⟨⟨_, hbq⟩, rfl⟩, ?_⟩
      simp only [Act.put, List.setIfInBounds_toArray, List.set_cons_succ, List.set_cons_zero]
      refine wpAnyK_value (i := 16) (v := .agg #[.int .i64 key, .slice a9 its.length c9]) (w' := wq) (by kernel_rfl) rfl rfl (by simp [execOp, go_sem]) ⟨⟨_, hbq⟩, rfl⟩ ?_
      simp only [Act.put, List.setIfInBounds_toArray, List.set_cons_succ, List.set_cons_zero]
      refine wpAnyK_value (i := 17) (v := .slice (some ⟨wq.heap.size, 0, none⟩) 1 1) (w' := wq.alloc (.cells #[.int .i64 key, .slice a9 its.length c9] 72)) (by kernel_rfl) rfl rfl (by simp [execOp, go_sem]) ⟨⟨_, hbq.alloc (by have := hbq.size; omega) _⟩, rfl⟩ ?_
      refine wpAnyK_last (by kernel_rfl) (by decide) ?_
      refine wpAny_rest 18 rfl (by kernel_rfl) ?_
      simp only [List.drop_succ_cons, List.drop_zero]
      have HRq := hide (HR.out.below hbq)
      have HQq := hide (HQ.out.below hbq HQ.out.lt)
      have HOq := hide (HOn.out.trans (Only.of_below hbq))
      have hCq : z ≤ wq.heap.size := by have := hbq.size; omega
      have HOA := hide (owns_shelf (key := key) o9)
      have HG9 : Hid (∀ q ∈ f9, wr.heap.size ≤ q) := fun q hq => by have := g9 q hq; omega
      have HRl := hide HR.out.lt
      clear HR HQ HOn hbq hb8 o9 g9 D0r hg HIT hpb hps
      go_wp2_with (at_builtin; refine wpList_append_keep (cs := #[.int .i64 key, .slice a9 its.length c9]) hCq rfl (.tmp 26) (.tmp 42) 35 rfl 72 is (.agg #[.int .i64 0, .slice none 0 0]) 2 32 Tryz.underlying35 hh0 hh1 hh2 hh3 rfl (by decide) rfl (by simp [Value.oneCell']) _ _ _ rfl HRq.out.row 1 rfl (by omega) (by omega) ?_)
      intro vx wx hown hgrew
      obtain ⟨a2, c2, hsh2⟩ := own_sh hown
      subst hsh2
      have hRx := HRq.out.append HOA.out rfl (fun q hq => by
        have h1 := HG9.out q hq
        exact ⟨fun h => by have := HRl.out.2 q h; omega, fun h => by have := HRl.out.1 q h; omega⟩) hown hgrew
      rw [← HT.out] at hRx
      have hne6 : ∀ q, (Value.slice ar k cr).ownBlock = some q → z ≤ q := fun q hq => (HRq.out.row.lt q hq).1
      have hQx := blk_grownR HQq.out hgrew.by_ (fun e => by have := hne6 _ e; omega)
      have hOx := only_grown HOq.out hgrew.by_ (fun q hq => by have := hne6 q hq; have := HEZ.out; omega)
      have hrx : ∀ q, (Value.slice a2 (k + 1) c2).ownBlock = some q → z ≤ q := fun q hq => (hown.lt q hq).1
      have HFPx : Hid (∀ q ∈ fps ++ f9, z ≤ q) := fun q hq => (List.mem_append.1 hq).elim (HFP.out q) (fun h => by have := HG9.out q h; omega)
      have c5b := blk_free_cell hQx 5 rfl
      have f5b := hQx.free 5
      have l5b := hQx.lt
      have HQy := hide (hQx.set 5 (.slice a2 (k + 1) c2))
      have HRy := hide (hRx.stay (W' := wx.setCell ⟨s + 1 + 1, 5, none⟩ (.slice a2 (k + 1) c2)) (fun q hq => Below.heap_setCell _ _ _ _ (by have := hrx q hq; show q ≠ s + 1 + 1; omega)) (fun q hq => Below.heap_setCell _ _ _ _ (by have := HFPx.out q hq; show q ≠ s + 1 + 1; omega)))
      have HOy := hide (hOx.setCell (p := ⟨s + 1 + 1, 5, none⟩) (by simp) (.slice a2 (k + 1) c2))
      clear hown hgrew hRx hne6 hQx hOx hrx HRq HQq HOq HOA HG9 HFP HRl
      go_wp2
      go_roundw
      case rel => exact ⟨k + 1, by omega, by go_num, _, _, _, HQy.out, HRy.out, HOy.out, HFPx.out⟩
      case measure => simp [intOf]; omega
    · obtain rfl : k = sh.length := by omega
      have hR := HR.out
      rw [List.take_length] at hR
      obtain ⟨f5, o5, hm5⟩ := hR.owns
      have HG5 : Hid (∀ q ∈ f5, z ≤ q) := fun q hq => ((hm5 q).1 hq).elim (fun h => (hR.row.lt q h).1) (HFP.out q)
      have O3 := owns_only HO3.out HOn.out (fun q hq => by have := HF3.out q hq; simp; omega)
      have O4 := owns_only HO4.out HOn.out (fun q hq => by have := HF4.out q hq; simp; omega)
      have D1r := only_blk HOn.out HD1.out (by simp)
      have HL3 := hide HO3.out.lt
      have HL4 := hide HO4.out.lt
      have m5 : wr.cell? ⟨s, 5, none⟩ = some (.slice a5 sh.length c5) := by rw [D0r.cell 5]; rfl
      have ml := D0r.lt
      have q0 := blk_free_cell HQ.out 0 rfl
      have q1 := blk_free_cell HQ.out 1 rfl
      have q2 := blk_free_cell HQ.out 2 rfl
      have q3 := blk_free_cell HQ.out 3 rfl
      have q4 := blk_free_cell HQ.out 4 rfl
      have q5 := blk_free_cell HQ.out 5 rfl
      have ql := HQ.out.lt
      have z0 := blk_free_cell D1r 0 rfl
      have z1 := blk_free_cell D1r 1 rfl
      have z2 := blk_free_cell D1r 2 rfl
      have z3 := blk_free_cell D1r 3 rfl
      have z4 := blk_free_cell D1r 4 rfl
      have z5 := blk_free_cell D1r 5 rfl
      have y0 := D1r.free 0
      have y1 := D1r.free 1
      have y2 := D1r.free 2
      have y3 := D1r.free 3
      have y4 := D1r.free 4
      have y5 := D1r.free 5
      have zl := D1r.lt
      clear hR HR HOn HO3 HO4 HD1 HD0 hm5
      go_wp2_with fail
      have Rd := six_set D1r (.int .i64 id) (.bool here) (.int .i64 ahead) (.slice a6 be.length c6) (.slice a7 fi.length c7) (.slice ar sh.length cr)
      have x0 := blk_free_cell Rd 0 rfl
      have x1 := blk_free_cell Rd 1 rfl
      have x2 := blk_free_cell Rd 2 rfl
      have x3 := blk_free_cell Rd 3 rfl
      have x4 := blk_free_cell Rd 4 rfl
      have x5 := blk_free_cell Rd 5 rfl
      have hws := HS.out
      refine bodyPost_ret (v := .agg #[.int .i64 id, .bool here, .int .i64 ahead, .slice a6 be.length c6, .slice a7 fi.length c7, .slice ar sh.length cr]) (by simp [results, Tryz.results70, go_sem, x0, x1, x2, x3, x4, x5]) rfl ⟨_, _, _, f3, f4, f5, rfl, ⟨O3.stay (fun q hq => six_other (by have := HF3.out q hq; omega)), O4.stay (fun q hq => six_other (by have := HF4.out q hq; omega)), o5.stay (fun q hq => six_other (by have := HG5.out q hq; omega)), fun q hq => by have := HF3.out q hq; omega, fun q hq => by have := HF4.out q hq; omega, fun q hq => by have := HG5.out q hq; omega, HD34.out, fun q h3 h5 => by
        have k1 := HL3.out q h3
        have k2 := HG5.out q h5
        have k3 := HEZ.out
        omega, fun q h4 h5 => by
        have k1 := HL4.out q h4
        have k2 := HG5.out q h5
        have k3 := HEZ.out
        omega⟩, six_below HBr.out (by omega) _ _ _ _ _ _⟩
end Go.Proofs.YteladljgnbfcnaaGreat.P9
namespace Go.Proofs.YteladljgnbfcnaaGreat.P9
set_option maxRecDepth 8000
open Go.RowKit P1 P8 Da Ap Rr Rc

set_option maxRecDepth 100000 in
set_option maxHeartbeats 4000000 in
theorem copyRing_calls (w : World) (v : Value) (l : List Pr) (hv : PeersAt w v l) (hl : l.length ≤ 1048576) (hsm : ∀ p ∈ l, Small p) :
    Calls Tryz.prog 59 #[.agg #[v]] w fun e w' => ∃ v' fp, e = .returned (.agg #[v']) ∧ Owns w' v' (peersD T0 l) fp ∧ (∀ q ∈ fp, w.heap.size ≤ q) ∧ Below w.heap.size w w' := by
  have HV := hide hv
  have HSM := hide hsm
  obtain ⟨a, cap, rfl, -⟩ := hv.open_
  clear hv hsm
  obtain ⟨ip, hpi, hpz0, hpz1, hpz2⟩ := info_parts info_peer
  have hb1 := (Below.refl w.heap.size w).alloc (Nat.le_refl _) (.cells #[.slice a l.length cap] 28)
  have hb2 := hb1.alloc hb1.size (.cells #[.slice none 0 0] 28)
  have hb3 := hb2.alloc hb2.size (.cells #[.slice none 0 0] 28)
  have A0 := Blk.new w #[.slice a l.length cap] 28
  have A1 := Blk.new (w.alloc (.cells #[.slice a l.length cap] 28)) #[.slice none 0 0] 28
  have A2 := Blk.new ((w.alloc (.cells #[.slice a l.length cap] 28)).alloc (.cells #[.slice none 0 0] 28)) #[.slice none 0 0] 28
  have hn (wq : World) (o : Obj) : Below wq.heap.size wq (wq.alloc o) := (Below.refl _ _).alloc (Nat.le_refl _) o
  have A0' := (A0.below (hn _ (.cells #[.slice none 0 0] 28)) A0.lt)
  have A0'' := A0'.below (hn _ (.cells #[.slice none 0 0] 28)) A0'.lt
  have A1' := A1.below (hn _ (.cells #[.slice none 0 0] 28)) A1.lt
  have e1 : (w.alloc (.cells #[.slice a l.length cap] 28)).heap.size = w.heap.size + 1 := by simp
  have e2 : ((w.alloc (.cells #[.slice a l.length cap] 28)).alloc (.cells #[.slice none 0 0] 28)).heap.size = w.heap.size + 1 + 1 := by simp
  have e3 : (((w.alloc (.cells #[.slice a l.length cap] 28)).alloc (.cells #[.slice none 0 0] 28)).alloc (.cells #[.slice none 0 0] 28)).heap.size = w.heap.size + 1 + 1 + 1 := by simp
  rw [e1] at A1'
  rw [e2] at A2
  have HB := hide hb3
  clear hb1 hb2 hb3 A0 A1 A0' hn e1 e2
  go_enter Tryz.func59, Tryz.ntmps59
  go_upto_region 2 with fail
  obtain ⟨s, es⟩ : ∃ s, s = w.heap.size := ⟨_, rfl⟩
  rw [← es] at A0'' A1' A2 e3 ⊢
  have HS : Hid (w.heap.size = s) := es.symm
  clear es
  generalize ((w.alloc (.cells #[.slice a l.length cap] 28)).alloc (.cells #[.slice none 0 0] 28)).alloc (.cells #[.slice none 0 0] 28) = w1 at *
  obtain ⟨z, ez⟩ : ∃ z, z = w1.heap.size := ⟨_, rfl⟩
  have hz : s + 1 + 1 < z := by omega
  have HEZ := hide ez
  have HD0 := hide A0''
  have HD1 := hide A1'
  have HD2 := hide A2
  clear ez e3 A0'' A1' A2
  go_wp2_with fail
  go_loopw [4] (fun i wr => ∃ k : Nat, k ≤ l.length ∧ i = .int .i64 k ∧ ∃ rv X fps, Hid (Blk wr (s + 1 + 1) [rv] 28) ∧ Hid (RowD wr z 37 6 rv k X ((l.take k).flatMap (prC T0)) fps) ∧ Hid (Only [s + 1 + 1] w1 wr) ∧ Hid (∀ q ∈ fps, z ≤ q)) (fun i _ => l.length - (intOf i).toNat)
  case atStart => exact ⟨0, Nat.zero_le _, rfl, _, [], [], HD2.out, RowD.nil _ _ _ _, Only.refl _ _, fun q hq => by cases hq⟩
  case round =>
    clear HD2
    obtain ⟨k, hk, rfl, rv, X, fps, HQ, HR, HOn, HFP⟩ := hrel
    obtain ⟨ar, cr, hsh⟩ := own_sh HR.out.row
    subst hsh
    have hws := HS.out
    have hB7 : Below w.heap.size w1 wr := HOn.out.below (by have := HB.out.size; omega) (fun q hq => by simp at hq; omega)
    have HBr := hide (HB.out.trans hB7)
    have D0r := only_blk HOn.out HD0.out (by simp; omega)
    have hzr : z ≤ wr.heap.size := by have := hB7.size; have := HEZ.out; omega
    clear hB7 hws
    have m0 : wr.cell? ⟨s, 0, none⟩ = some (.slice a l.length cap) := by rw [D0r.cell 0]; rfl
    have ml := D0r.lt
    by_cases hlt : k < l.length
    · obtain ⟨ax, cx, hax, HA⟩ := (HV.out.below HBr.out (Nat.le_refl _)).open_
      cases hax
      obtain ⟨g, off, u3, u4, u5, rfl, hg, hc⟩ := HA k hlt
      have hsmk := HSM.out l[k] (List.getElem_mem hlt)
      have HT := hide (flat_take (prC T0) (List.getElem?_eq_getElem hlt))
      clear HA
      generalize l[k] = q at *
      have H3 := hide hc.behind
      have H4 := hide hc.fingers
      have H5 := hide hc.shelves
      have n0 : ∀ p : Near wr.heap.size wr, p.w.cell? ⟨s, 0, none⟩ = some (.slice (some ⟨g, off, none⟩) l.length cap) := fun p => by rw [(D0r.below p.h D0r.lt).cell 0]; rfl
      have n2 : ∀ p : Near wr.heap.size wr, p.w.cell? ⟨s + 1 + 1, 0, none⟩ = some (.slice ar k cr) := fun p => by rw [(HQ.out.below p.h HQ.out.lt).cell 0]; rfl
      have k0 : ∀ p : Near wr.heap.size wr, p.w.cell? ⟨g, off + k * 6, none⟩ = some (.int .i64 q.id) := fun p => (p.h.cell (p := ⟨g, off + k * 6, none⟩) hg).trans hc.id
      have k1 : ∀ p : Near wr.heap.size wr, p.w.cell? ⟨g, off + k * 6 + 1, none⟩ = some (.bool q.here) := fun p => (p.h.cell (p := ⟨g, off + k * 6 + 1, none⟩) hg).trans hc.here
      have k2 : ∀ p : Near wr.heap.size wr, p.w.cell? ⟨g, off + k * 6 + 2, none⟩ = some (.int .i64 q.ahead) := fun p => (p.h.cell (p := ⟨g, off + k * 6 + 2, none⟩) hg).trans hc.ahead
      have k3 : ∀ p : Near wr.heap.size wr, p.w.cell? ⟨g, off + k * 6 + 3, none⟩ = some u3 := fun p => (p.h.cell (p := ⟨g, off + k * 6 + 3, none⟩) hg).trans hc.c3
      have k4 : ∀ p : Near wr.heap.size wr, p.w.cell? ⟨g, off + k * 6 + 4, none⟩ = some u4 := fun p => (p.h.cell (p := ⟨g, off + k * 6 + 4, none⟩) hg).trans hc.c4
      have k5 : ∀ p : Near wr.heap.size wr, p.w.cell? ⟨g, off + k * 6 + 5, none⟩ = some u5 := fun p => (p.h.cell (p := ⟨g, off + k * 6 + 5, none⟩) hg).trans hc.c5
      have hnn := Near.some wr.heap.size wr
      obtain ⟨a3, c3, e3, -⟩ := hc.behind
      obtain ⟨a4, c4, e4, -⟩ := hc.fingers
      obtain ⟨a5, c5, e5, -⟩ := hc.shelves.open_
      subst e3 e4 e5
      clear hc
      go_upto_region 5 with fail
      clear m0 ml
      refine wp_region_open (fun wd => ∃ p : Near wr.heap.size wr, wd = p.w) ⟨⟨_, (Below.refl _ _).drew⟩, rfl⟩ (by kernel_rfl) ?_
      rintro wd ⟨pd, rfl⟩
      refine wpAny_of_K (c := 9) (D := fun w' => ∃ p : Near wr.heap.size wr, w' = p.w) _ _ _ _ ?_
      refine wpAnyK_seg_lit4 0 7 6 5 rfl (by decide) (by decide) (by kernel_rfl) (by kernel_rfl) (by kernel_rfl) (by kernel_rfl) (fun _ _ _ _ _ h => h) ⟨pd, rfl⟩ ?_
      simp only [List.take_succ_cons, List.take_zero, List.drop_zero]
      repeat (go_big_quiet_step (fail))
      refine wpQuiet_nil ?_
      clear n0 n2 k0 k1 k2 k3 k4 k5 hnn
      have hpb := pd.h
      have hps := pd.h.size
      have HC := hide (copyPeer_calls pd.w q _ _ _ (H3.out.below hpb (Nat.le_refl _)) (H4.out.below hpb (Nat.le_refl _)) (H5.out.below hpb (Nat.le_refl _)) hsmk)
      unfold prV at HC
      refine wpAnyK_call 7 (by kernel_rfl) rfl rfl 70 _ _ rfl (run_enter Tryz.func70 (by kernel_rfl) (by kernel_rfl)) #[.agg #[.int .i64 q.id, .bool q.here, .int .i64 q.ahead, .slice a3 q.behind.length c3, .slice a4 q.fingers.length c4, .slice a5 q.shelves.length c5]] rfl (fun u' w' => ∃ v3 v4 v5 f3 f4 f5, u' = .agg #[.int .i64 q.id, .bool q.here, .int .i64 q.ahead, v3, v4, v5] ∧ PeerOwn w' pd.w.heap.size q v3 v4 v5 f3 f4 f5 ∧ Below pd.w.heap.size pd.w w') (HC.out.mono (fun e w' ⟨v3, v4, v5, f3, f4, f5, he, ho, hb⟩ => ⟨_, he, v3, v4, v5, f3, f4, f5, rfl, ho, hb⟩)) ?_
      rintro u' wq ⟨v3, v4, v5, f3, f4, f5, rfl, hpo, hb8⟩
      have hbq := hpb.trans (hb8.mono hps)
      refine ⟨⟨⟨_, hbq⟩, rfl⟩, ?_⟩
      simp only [Act.put, List.setIfInBounds_toArray, List.set_cons_succ, List.set_cons_zero]
      have hsh3 : ∃ b3 m3 d3, v3 = .slice b3 m3 d3 := by
        obtain ⟨x, y, h, -⟩ := ints_of hpo.o3.reads
        exact ⟨_, _, _, h⟩
      have hsh4 : ∃ b3 m3 d3, v4 = .slice b3 m3 d3 := by
        obtain ⟨x, y, h, -⟩ := ints_of hpo.o4.reads
        exact ⟨_, _, _, h⟩
      have hsh5 : ∃ b3 m3 d3, v5 = .slice b3 m3 d3 := by
        obtain ⟨x, y, h, -⟩ := ShelvesAt.open_ ⟨_, hpo.o5.reads⟩
        exact ⟨_, _, _, h⟩
      obtain ⟨b3, m3, d3, rfl⟩ := hsh3
      obtain ⟨b4, m4, d4, rfl⟩ := hsh4
      obtain ⟨b5, m5, d5, rfl⟩ := hsh5
      refine wpAnyK_value (i := 8) (v := .slice (some ⟨wq.heap.size, 0, none⟩) 1 1) (w' := wq.alloc (.cells #[.int .i64 q.id, .bool q.here, .int .i64 q.ahead, .slice b3 m3 d3, .slice b4 m4 d4, .slice b5 m5 d5] 37)) (by kernel_rfl) rfl rfl (by simp [execOp, go_sem]) ⟨⟨_, hbq.alloc (by have := hbq.size; omega) _⟩, rfl⟩ ?_
      refine wpAnyK_last (by kernel_rfl) (by decide) ?_
      refine wpAny_rest 9 rfl (by kernel_rfl) ?_
      simp only [List.drop_succ_cons, List.drop_zero]
      have HRq := hide (HR.out.below hbq)
      have HQq := hide (HQ.out.below hbq HQ.out.lt)
      have HOq := hide (HOn.out.trans (Only.of_below hbq))
      have hCq : z ≤ wq.heap.size := by have := hbq.size; omega
      have HOA := hide (owns_six q hpo.o3 hpo.o4 hpo.o5 hpo.d34 hpo.d35 hpo.d45)
      have HG9 : Hid (∀ x ∈ f3 ++ (f4 ++ f5), wr.heap.size ≤ x) := fun x hx => by
        rcases List.mem_append.1 hx with h | h
        · have := hpo.b3 x h; omega
        · rcases List.mem_append.1 h with h | h
          · have := hpo.b4 x h; omega
          · have := hpo.b5 x h; omega
      have HRl := hide HR.out.lt
      clear HR HQ HOn hbq hb8 hpo D0r hg hpb hps HC H3 H4 H5
      go_wp2_with (at_builtin; refine wpList_append_keep (cs := #[.int .i64 q.id, .bool q.here, .int .i64 q.ahead, .slice b3 m3 d3, .slice b4 m4 d4, .slice b5 m5 d5]) hCq rfl (.tmp 14) (.tmp 21) 26 rfl 37 ip (.agg #[.int .i64 0, .bool false, .int .i64 0, .slice none 0 0, .slice none 0 0, .slice none 0 0]) 6 96 Tryz.underlying26 hpi hpz0 hpz1 hpz2 rfl (by decide) rfl (by simp [Value.oneCell']) _ _ _ rfl HRq.out.row 1 rfl (by omega) (by omega) ?_)
      intro vx wx hown hgrew
      obtain ⟨a2, c2, hsh2⟩ := own_sh hown
      subst hsh2
      have hRx := HRq.out.append HOA.out rfl (fun q hq => by
        have h1 := HG9.out q hq
        exact ⟨fun h => by have := HRl.out.2 q h; omega, fun h => by have := HRl.out.1 q h; omega⟩) hown hgrew
      rw [← HT.out] at hRx
      have hne6 : ∀ q, (Value.slice ar k cr).ownBlock = some q → z ≤ q := fun q hq => (HRq.out.row.lt q hq).1
      have hQx := blk_grownR HQq.out hgrew.by_ (fun e => by have := hne6 _ e; omega)
      have hOx := only_grown HOq.out hgrew.by_ (fun q hq => by have := hne6 q hq; have := HEZ.out; omega)
      have hrx : ∀ q, (Value.slice a2 (k + 1) c2).ownBlock = some q → z ≤ q := fun q hq => (hown.lt q hq).1
      have HFPx : Hid (∀ x ∈ fps ++ (f3 ++ (f4 ++ f5)), z ≤ x) := fun x hx => (List.mem_append.1 hx).elim (HFP.out x) (fun h => by have := HG9.out x h; omega)
      have c5b := blk_free_cell hQx 0 rfl
      have f5b := hQx.free 0
      have l5b := hQx.lt
      have HQy := hide (hQx.set 0 (.slice a2 (k + 1) c2))
      have HRy := hide (hRx.stay (W' := wx.setCell ⟨s + 1 + 1, 0, none⟩ (.slice a2 (k + 1) c2)) (fun q hq => Below.heap_setCell _ _ _ _ (by have := hrx q hq; show q ≠ s + 1 + 1; omega)) (fun q hq => Below.heap_setCell _ _ _ _ (by have := HFPx.out q hq; show q ≠ s + 1 + 1; omega)))
      have HOy := hide (hOx.setCell (p := ⟨s + 1 + 1, 0, none⟩) (by simp) (.slice a2 (k + 1) c2))
      clear hown hgrew hRx hne6 hQx hOx hrx HRq HQq HOq HOA HG9 HFP HRl
      go_wp2
      go_roundw
      case rel => exact ⟨k + 1, by omega, by go_num, _, _, _, HQy.out, HRy.out, HOy.out, HFPx.out⟩
      case measure => simp [intOf]; omega
    · obtain rfl : k = l.length := by omega
      have hR := HR.out
      rw [List.take_length] at hR
      obtain ⟨fp, ho, hm5⟩ := hR.owns
      have HG5 : Hid (∀ q ∈ fp, z ≤ q) := fun q hq => ((hm5 q).1 hq).elim (fun h => (hR.row.lt q h).1) (HFP.out q)
      have D1r := only_blk HOn.out HD1.out (by simp)
      have q0 := blk_free_cell HQ.out 0 rfl
      have ql := HQ.out.lt
      have z0 := blk_free_cell D1r 0 rfl
      have y0 := D1r.free 0
      have zl := D1r.lt
      have HOw := hide ho
      clear hR HR HOn HD1 HD0 hm5 ho
      go_wp2_with fail
      have Rd := D1r.set 0 (.slice ar l.length cr)
      have x0 := blk_free_cell Rd 0 rfl
      have hws := HS.out
      refine bodyPost_ret (v := .agg #[.slice ar l.length cr]) (by simp [results, Tryz.results59, go_sem, x0]) rfl ⟨_, fp, rfl, owns_set HOw.out (fun q hq => by have := HG5.out q hq; omega) _, fun q hq => by have := HG5.out q hq; omega, HBr.out.setCell (p := ⟨s + 1, 0, none⟩) (by show _ ≤ s + 1; omega) _⟩
end Go.Proofs.YteladljgnbfcnaaGreat.P9
namespace Go.Proofs.YteladljgnbfcnaaGreat.P9
open Go.RowKit P1 P8 Da

def emptyP (id : Int) : Pr := ⟨id, false, 0, [], [], []⟩

/-- Somebody that is there knows nobody that is. -/
def lonely (l : List Pr) (p : Pr) : Bool := p.here && decide (nextOf l p.id < 0)

def gone (l : List Pr) (id : Int) : List Pr × Bool :=
  if peerAt l id < 4 then (l, false)
  else if (l.set (peerAt l id).toNat (emptyP id)).any (lonely (l.set (peerAt l id).toNat (emptyP id))) then (l, false)
  else (l.set (peerAt l id).toNat (emptyP id), true)

/-- n, and whom it knows behind it, but for one. -/
def behindBut (l : List Pr) (n but : Int) : List Int :=
  ((n :: (match l[(peerAt l n).toNat]? with | none => [] | some p => p.behind)).filter fun x => decide (x ≠ but)).take 3

def aheadOf (l : List Pr) (n : Int) : Int := match l[(peerAt l n).toNat]? with | none => 0 | some p => p.ahead

/-- Whom the asking one takes for the next one. -/
def asked (l : List Pr) (id n : Int) : Int :=
  if 0 ≤ peerAt l (aheadOf l n) ∧ aheadOf l n ≠ n ∧ aheadOf l n ≠ id ∧ btw id (aheadOf l n) n = true then aheadOf l n else n

def setBehind (l : List Pr) (i : Nat) (b : List Int) : List Pr := l.modify i fun p => { p with behind := b }
def setAhead (l : List Pr) (i : Nat) (a : Int) : List Pr := l.modify i fun p => { p with ahead := a }
def setFingers (l : List Pr) (i : Nat) (f : List Int) : List Pr := l.modify i fun p => { p with fingers := f }

def settle (l : List Pr) (id : Int) : List Pr × Bool :=
  if peerAt l id < 0 ∨ nextOf l id < 0 then (l, false)
  else
    let n := asked l id (nextOf l id)
    let out := setBehind l (peerAt l id).toNat (behindBut l n id)
    if peerAt l (aheadOf l n) < 0 ∨ btw (aheadOf l n) id n = true then (setAhead out (peerAt l n).toNat id, true) else (out, true)
end Go.Proofs.YteladljgnbfcnaaGreat.P9
namespace Go.Proofs.YteladljgnbfcnaaGreat.P9
set_option maxRecDepth 8000
open Go.RowKit P1 P8 Da Ap Rc

/-- A list without a number. -/
def butL (l : List Int) (n : Int) : List Int := l.filter fun x => decide (x ≠ n)

set_option maxHeartbeats 1000000 in
theorem not_calls (w : World) (v : Value) (l : List Int) (n : Int) (hv : IntsAt w v l) (hl : l.length ≤ 2097152) :
    Calls Tryz.prog 104 #[v, .int .i64 n] w fun e w' => ∃ v', e = .returned v' ∧ w'.ownsRow w.heap.size 3 1 v' (butL l n).length (cellsI (butL l n)) ∧ Below w.heap.size w w' := by
  obtain ⟨i0, hi, hz0, hz1, hz2⟩ := info_parts info_i64
  have HV := hide hv
  obtain ⟨a, cap, rfl, -⟩ := hv
  obtain ⟨O, HO0, HOs, HOl, HOe⟩ : ∃ O : Nat → List Int, Hid (O 0 = []) ∧ Hid (∀ k (hk : k < l.length), O (k + 1) = if l[k] ≠ n then O k ++ [l[k]] else O k) ∧ Hid (∀ k, (O k).length ≤ l.length) ∧ Hid (O l.length = butL l n) := by
    refine ⟨fun k => (l.take k).filter fun x => decide (x ≠ n), rfl, fun k hk => ?_, fun k => ?_, ?_⟩
    · show (l.take (k + 1)).filter _ = _
      rw [List.take_succ_eq_append_getElem hk, List.filter_append]
      by_cases h : l[k] ≠ n
      · rw [if_pos h, List.filter_cons_of_pos (by simpa using h), List.filter_nil]
      · rw [if_neg h, List.filter_cons_of_neg (by simpa using h), List.filter_nil, List.append_nil]
    · exact Nat.le_trans (List.length_filter_le _ _) (by rw [List.length_take]; omega)
    · show (l.take l.length).filter _ = _
      rw [List.take_length]
      rfl
  have HS0 := hide (own_lit0 w)
  have HB0 := hide ((Below.refl w.heap.size w).alloc (Nat.le_refl _) (.cells #[] 3))
  go_enter Tryz.func104, Tryz.ntmps104
  go_upto_region 2 with fail
  obtain ⟨B, eB⟩ : ∃ B, B = w.heap.size := ⟨_, rfl⟩
  rw [← eB] at HS0 HB0 ⊢
  have hBw : w.heap.size ≤ B := by omega
  have HBw : Hid (B = w.heap.size) := eB
  clear eB
  generalize w.alloc (.cells #[] 3) = w2 at *
  go_wp2_with fail
  go_loopw [5, 6] (fun vm i wr => ∃ k : Nat, k ≤ l.length ∧ i = .int .i64 k ∧ Hid (wr.ownsRow B 3 1 vm (O k).length (cellsI (O k))) ∧ Hid (Below B w wr)) (fun _ i _ => l.length - (intOf i).toNat)
  case atStart => exact ⟨0, Nat.zero_le _, rfl, by show World.ownsRow _ _ _ _ _ _ _; rw [HO0.out]; exact HS0.out, HB0.out⟩
  case round =>
    clear HS0 HB0
    obtain ⟨k, hk, rfl, HO, HB⟩ := hrel
    by_cases hlt : k < l.length
    · have hBr : B ≤ wr.heap.size := by have := HB.out.size; have := HBw.out; omega
      obtain ⟨av2, cv2, hsh, HA⟩ := HV.out.below HB.out hBw
      cases hsh
      obtain ⟨ga, oa, rfl, ha2, ha3⟩ := HA k hlt
      have hs := HOs.out k hlt
      have hlo := HOl.out k
      obtain ⟨ao, co, hsh⟩ := own_sh HO.out
      subst hsh
      clear HA
      generalize l[k] = x at *
      generalize O k = M at *
      by_cases hx : x = n
      · have HN : Hid (O (k + 1) = M) := by show _ = _; rw [hs, if_neg (by simpa using hx)]
        have hd : (x != n) = false := by simpa using hx
        clear hs hx
        go_wp2_with fail
        go_roundw
        case rel => exact ⟨k + 1, by omega, by go_num, by show World.ownsRow _ _ _ _ _ _ _; rw [HN.out]; exact HO.out, HB.out⟩
        case measure => simp [intOf]; omega
      · have HN : Hid (O (k + 1) = M ++ [x]) := by show _ = _; rw [hs, if_pos hx]
        have hd : (x != n) = true := by simpa using hx
        clear hs hx
        go_wp2_with (at_builtin; refine wpList_append_one (cs := #[.int .i64 x]) (Below.refl B wr) hBr rfl (.tmp 20) (.tmp 25) 24 rfl 3 i0 (.int .i64 0) 1 8 Tryz.underlying24 hi hz0 hz1 hz2 rfl (by decide) rfl (by simp [Value.oneCell']) _ _ _ rfl HO.out 1 rfl (by omega) (by omega) ?_)
        intro v6 w6 hown hb
        have HX6 := hide (own_snocI hown)
        have HB6 := hide (HB.out.trans hb)
        clear hown hb HO HB
        go_wp2
        go_roundw
        case rel => exact ⟨k + 1, by omega, by go_num, by show World.ownsRow _ _ _ _ _ _ _; rw [HN.out]; exact HX6.out, HB6.out⟩
        case measure => simp [intOf]; omega
    · obtain rfl : k = l.length := by omega
      have hox := HO.out
      rw [HOe.out, HBw.out] at hox
      have hBx := HB.out
      rw [HBw.out] at hBx
      have HOx := hide hox
      have HBx := hide hBx
      clear hox hBx HB
      clear HO HO0 HOs HOl
      go_wp2_with fail
      go_ret
      exact ⟨_, rfl, HOx.out, HBx.out⟩

theorem behindBut_eq {l : List Pr} {n but : Int} {i : Nat} (hi : i < l.length) (h : peerAt l n = i) : behindBut l n but = (butL (n :: l[i].behind) but).take 3 := by
  unfold behindBut butL
  rw [h]
  simp only [Int.toNat_natCast, List.getElem?_eq_getElem hi]

end Go.Proofs.YteladljgnbfcnaaGreat.P9
namespace Go.Proofs.YteladljgnbfcnaaGreat.P9
set_option maxRecDepth 8000
open Go.RowKit P1 P8 Da Ap Rc

set_option maxHeartbeats 1000000 in
theorem few_calls (w : World) (l : List Int) (a : Option Addr) (c : Nat) (hv : IntsAt w (.slice a l.length c) l) (hl : l.length ≤ 2097152) (hc : l.length ≤ c) :
    Calls Tryz.prog 40 #[.slice a l.length c] w fun e w' => ∃ v', e = .returned v' ∧ w'.ownsRow w.heap.size 3 1 v' (l.take 3).length (cellsI (l.take 3)) ∧ Below w.heap.size w w' := by
  obtain ⟨i0, hi, hz0, hz1, hz2⟩ := info_parts info_i64
  have HS0 := hide (own_lit0 w)
  have HB0 := hide ((Below.refl w.heap.size w).alloc (Nat.le_refl _) (.cells #[] 3))
  have hsz : w.heap.size ≤ (w.alloc (.cells #[] 3)).heap.size := HB0.out.size
  have hnews := ints_news (hv.below HB0.out (Nat.le_refl _))
  by_cases h3 : 3 < l.length
  · have hlen : (l.take 3).length = 3 := by rw [List.length_take]; omega
    rw [hlen]
    obtain ⟨X, EX⟩ : ∃ X, X = l.take 3 := ⟨_, rfl⟩
    have HN : Hid (∀ j u, (cellsI X)[j]? = some u → ∃ g off, a = some ⟨g, off, none⟩ ∧ (w.alloc (.cells #[] 3)).cell? ⟨g, off + j, none⟩ = some u) := fun j u hj => hnews j u (by
      rw [← hj, EX]
      have hj' : j < 3 := by
        have := (List.getElem?_eq_some_iff.1 hj).1
        rw [cellsI_len, EX, hlen] at this
        omega
      simp [cellsI, hj'])
    have HX : Hid ((cellsI X).length = 3 * 1) := by show _ = _; rw [cellsI_len, EX, hlen]
    rw [← EX]
    obtain ⟨n, en⟩ : ∃ n, n = l.length := ⟨_, rfl⟩
    rw [← en] at h3 hc ⊢
    clear hv hlen EX hnews hl en
    go_enter Tryz.func40, Tryz.ntmps40
    go_wp2_with (at_builtin; refine wpList_append_any rfl (.tmp 8) (.tmp 9) 24 rfl w.heap.size 3 i0 (.int .i64 0) 1 8 Tryz.underlying24 hi hz0 hz1 hz2 rfl (by decide) _ _ _ rfl HS0.out a 3 c rfl (cellsI X) HX.out HN.out (cellsI_one X) (by unfold maxLen; simp) (by simp) hsz ?_)
    intro v' w' hown hgr
    have HO : Hid (w'.ownsRow w.heap.size 3 1 v' 3 (cellsI X)) := by
      show World.ownsRow _ _ _ _ _ _ _
      simpa [cellsI] using hown
    have HB := hide (HB0.out.grown hgr (by simp) (fun k hk => by cases hk; exact Nat.le_refl _))
    clear hown hgr HS0 HB0 HN HX
    go_wp2
    go_ret
    exact ⟨_, rfl, HO.out, HB.out⟩
  · have hlen : l.take 3 = l := List.take_of_length_le (by omega)
    rw [hlen]
    have HN := hide hnews
    have HX := hide (cellsI_len l)
    obtain ⟨n, en⟩ : ∃ n, n = l.length := ⟨_, rfl⟩
    have hn3 : n ≤ 3 := by omega
    rw [← en] at hc HX ⊢
    have HEN := hide en
    clear hv hlen hnews hl en h3
    go_enter Tryz.func40, Tryz.ntmps40
    go_wp2_with (at_builtin; refine wpList_append_any rfl (.tmp 8) (.tmp 9) 24 rfl w.heap.size 3 i0 (.int .i64 0) 1 8 Tryz.underlying24 hi hz0 hz1 hz2 rfl (by decide) _ _ _ rfl HS0.out a n c rfl (cellsI l) HX.out HN.out (cellsI_one l) (by unfold maxLen; simp; omega) (by simp; omega) hsz ?_)
    intro v' w' hown hgr
    have HO : Hid (w'.ownsRow w.heap.size 3 1 v' n (cellsI l)) := by
      show World.ownsRow _ _ _ _ _ _ _
      simpa [cellsI] using hown
    have HB := hide (HB0.out.grown hgr (by simp) (fun k hk => by cases hk; exact Nat.le_refl _))
    clear hown hgr HS0 HB0 HN HX
    go_wp2
    go_ret
    exact ⟨_, rfl, HO.out, HB.out⟩

theorem own_cap {w : World} {B : Nat} {e : TypeId} {size n : Nat} {a : Option Addr} {m c : Nat} {xs : List Value} (h : w.ownsRow B e size (.slice a m c) n xs) : n ≤ c := by
  rcases h.2 with ⟨h1, rfl⟩ | ⟨g, cap, cur, h1, -, -, h2, -⟩
  · exact Nat.zero_le _
  · cases h1
    exact h2

set_option maxRecDepth 100000 in
set_option maxHeartbeats 4000000 in
theorem behind_calls' (w : World) (v : Value) (l : List Pr) (n but : Int) (i : Nat) (hv : PeersAt w v l) (hl : l.length ≤ 1048576) (hbl : ∀ p ∈ l, p.behind.length ≤ 1048576) (hi : i < l.length) (hp : peerAt l n = i) :
    Calls Tryz.prog 93 #[.agg #[v], .int .i64 n, .int .i64 but] w fun e w' => ∃ v', e = .returned v' ∧ w'.ownsRow w.heap.size 3 1 v' (behindBut l n but).length (cellsI (behindBut l n but)) ∧ Below w.heap.size w w' := by
  rw [behindBut_eq hi hp]
  have hb1 := (Below.refl w.heap.size w).alloc (Nat.le_refl _) (.cells #[v] 28)
  have HV := hide (hv.below hb1 (Nat.le_refl _))
  obtain ⟨a, cap, rfl, -⟩ := hv.open_
  have G := Blk.new w #[.slice a l.length cap] 28
  have HB := hide hb1
  have hbb := hbl l[i] (List.getElem_mem hi)
  clear hv hb1
  obtain ⟨i0, hi0, hz0, hz1, hz2⟩ := info_parts info_i64
  obtain ⟨xb, exb⟩ : ∃ x, x = l[i].behind := ⟨_, rfl⟩
  have HXB := hide exb
  rw [← exb] at hbb ⊢
  have hBl : (butL (n :: xb) but).length ≤ 2097152 := Nat.le_trans (List.length_filter_le _ _) (by simp; omega)
  obtain ⟨BL, eBL⟩ : ∃ x, x = butL (n :: xb) but := ⟨_, rfl⟩
  have HBLe := hide eBL
  rw [← eBL] at hBl ⊢
  clear exb hbl eBL
  go_enter Tryz.func93, Tryz.ntmps93
  go_upto_region 1 with fail
  obtain ⟨b0, e0⟩ : ∃ b, b = w.heap.size := ⟨_, rfl⟩
  rw [← e0] at G ⊢
  have HW0 := hide e0
  clear e0
  generalize w.alloc (.cells #[.slice a l.length cap] 28) = w1 at *
  have HG := hide G
  clear G
  have hlg := HG.out.lt
  obtain ⟨ax, cx, hax, HA⟩ := HV.out.open_
  cases hax
  obtain ⟨g, off, u3, u4, u5, rfl, hg, hc⟩ := HA i hi
  have n3 : Hid (∀ p : Near w1.heap.size w1, p.w.cell? ⟨g, off + i * 6 + 3, none⟩ = some u3) := fun p => (p.h.cell (p := ⟨g, off + i * 6 + 3, none⟩) hg).trans hc.c3
  have H3 := hide hc.behind
  obtain ⟨a3, c3, e3, -⟩ := hc.behind
  subst e3
  rw [← HXB.out] at n3 H3
  clear HA hc
  have n0 : ∀ p : Near w1.heap.size w1, p.w.cell? ⟨b0, 0, none⟩ = some (.slice (some ⟨g, off, none⟩) l.length cap) := fun p => by rw [(HG.out.below p.h hlg).cell 0]; rfl
  have hnn := Near.some w1.heap.size w1
  refine wp_region_open (fun wd => ∃ p : Near w1.heap.size w1, wd = p.w) ⟨⟨_, (Below.refl _ _).drew⟩, rfl⟩ (by kernel_rfl) ?_
  rintro wd ⟨pd, rfl⟩
  refine wpAny_of_K (c := 14) (D := fun w' => ∃ p : Near w1.heap.size w1, w' = p.w) _ _ _ _ ?_
  refine wpAnyK_seg_lit4 0 1 6 14 rfl (by decide) (by decide) (by kernel_rfl) (by kernel_rfl) (by kernel_rfl) (by kernel_rfl) (fun _ _ _ _ _ h => h) ⟨pd, rfl⟩ ?_
  simp only [List.take_succ_cons, List.take_zero, List.drop_zero]
  repeat (go_big_quiet_step (fail))
  refine wpQuiet_nil ?_
  refine wpAnyK_seg_lit4 2 4 6 10 rfl (by decide) (by decide) (by kernel_rfl) (by kernel_rfl) (by kernel_rfl) (by kernel_rfl) (fun _ _ _ _ _ h => h) ⟨pd, rfl⟩ ?_
  simp only [List.take_succ_cons, List.take_zero, List.drop_succ_cons, List.drop_zero]
  repeat (go_big_quiet_step (fail))
  refine wpQuiet_nil ?_
  refine wpAnyK_seg_lit4 11 1 6 9 rfl (by decide) (by decide) (by kernel_rfl) (by kernel_rfl) (by kernel_rfl) (by kernel_rfl) (fun _ _ _ _ _ h => h) ⟨pd, rfl⟩ ?_
  simp only [List.take_succ_cons, List.take_zero, List.drop_succ_cons, List.drop_zero]
  repeat (go_big_quiet_step (fail))
  refine wpQuiet_nil ?_
  clear n0
  have hpb := pd.h
  have hps := pd.h.size
  have HPA := hide (fun wq (hq : Below w1.heap.size w1 wq) => specPeerAt_calls wq _ l n (HV.out.below hq (Nat.le_refl _)) hl)
  rw [hp] at HPA
  refine wpAnyK_pair 1 6 (by kernel_rfl) rfl rfl ?first ?second
  case' first =>
    go_wp2_with fail
    have hqA := hpb.alloc hps (.cells #[.int .i64 n] 3)
    have hoA : (pd.w.alloc (.cells #[.int .i64 n] 3)).ownsRow w1.heap.size 3 1 (.slice (some ⟨pd.w.heap.size, 0, none⟩) 1 1) 1 [.int .i64 n] := own_mono (World.ownsRow_lit (base := pd.w.heap.size) (e := 3) (size := 1) pd.w #[.int .i64 n] 1 (Nat.le_refl _) (by decide) rfl) hps
    refine ⟨⟨⟨_, hqA⟩, rfl⟩, ?_⟩
    obtain ⟨L, eL⟩ : ∃ L, L = pd.w.heap.size := ⟨_, rfl⟩
    rw [← eL] at hoA ⊢
    clear eL
    generalize pd.w.alloc (.cells #[.int .i64 n] 3) = wA at *
    refine wpAnyK_one 6 (by kernel_rfl) rfl ?_
    go_wp2_with fail
    refine (HPA.out wA hqA).mono ?_
    rintro e wI ⟨rfl, hbI⟩
    have hqI := hqA.trans (hbI.mono hqA.size)
    have hoI := own_below hoA hbI
    go_wp2_with fail
    refine ⟨⟨⟨_, hqI⟩, rfl⟩, ?_⟩
    have n3x := n3.out
    refine wpAnyK_seg_lit4 7 3 6 4 rfl (by decide) (by decide) (by kernel_rfl) (by kernel_rfl) (by kernel_rfl) (by kernel_rfl) (fun _ _ _ _ _ h => h) ⟨⟨_, hqI⟩, rfl⟩ ?_
    simp only [List.take_succ_cons, List.take_zero, List.drop_succ_cons, List.drop_zero]
    repeat (go_big_quiet_step (fail))
    refine wpQuiet_nil ?_
    clear n3x
    clear hqA hoA hbI wA
  case' second =>
    go_wp2_with fail
    refine (HPA.out pd.w hpb).mono ?_
    rintro e wB ⟨rfl, hbB⟩
    have hqB := hpb.trans (hbB.mono hps)
    go_wp2_with fail
    refine ⟨⟨⟨_, hqB⟩, rfl⟩, ?_⟩
    have n3x := n3.out
    refine wpAnyK_seg_lit4 7 3 6 5 rfl (by decide) (by decide) (by kernel_rfl) (by kernel_rfl) (by kernel_rfl) (by kernel_rfl) (fun _ _ _ _ _ h => h) ⟨⟨_, hqB⟩, rfl⟩ ?_
    simp only [List.take_succ_cons, List.take_zero, List.drop_succ_cons, List.drop_zero]
    repeat (go_big_quiet_step (fail))
    refine wpQuiet_nil ?_
    clear n3x
    refine wpAnyK_one 1 (by kernel_rfl) rfl ?_
    go_wp2_with fail
    have hqI := hqB.alloc hqB.size (.cells #[.int .i64 n] 3)
    have hoI : (wB.alloc (.cells #[.int .i64 n] 3)).ownsRow w1.heap.size 3 1 (.slice (some ⟨wB.heap.size, 0, none⟩) 1 1) 1 [.int .i64 n] := own_mono (World.ownsRow_lit (base := wB.heap.size) (e := 3) (size := 1) wB #[.int .i64 n] 1 (Nat.le_refl _) (by decide) rfl) hqB.size
    refine ⟨⟨⟨_, hqI⟩, rfl⟩, ?_⟩
    obtain ⟨L, eL⟩ : ∃ L, L = wB.heap.size := ⟨_, rfl⟩
    rw [← eL] at hoI ⊢
    clear eL
    generalize wB.alloc (.cells #[.int .i64 n] 3) = wI at *
    clear hbB hqB
  all_goals
    have H3I := hide (H3.out.below hqI (Nat.le_refl _))
    have hsz : w1.heap.size ≤ wI.heap.size := hqI.size
    refine wpAnyK_one 10 (by kernel_rfl) rfl ?_
    refine wpList_append_any rfl (.tmp 8) (.tmp 16) 24 rfl w1.heap.size 3 i0 (.int .i64 0) 1 8 Tryz.underlying24 hi0 hz0 hz1 hz2 rfl (by decide) _ _ _ rfl hoI a3 xb.length c3 rfl (cellsI xb) (cellsI_len xb) (ints_news H3I.out) (cellsI_one xb) (by unfold maxLen; omega) (by omega) hsz ?_
    intro v2 w6 hown hgr
    have hq6 := hqI.grown hgr hsz (fun k hk => (hoI.lt k hk).1)
    have hX : w6.ownsRow w1.heap.size 3 1 v2 (n :: xb).length (cellsI (n :: xb)) := by
      rw [List.length_cons, Nat.add_comm]
      exact hown
    obtain ⟨a6, c6, hsh⟩ := own_sh hX
    subst hsh
    have HX := hide (IntsAt.of_own hX)
    refine ⟨⟨⟨_, hq6⟩, rfl⟩, ?_⟩
    simp only [Act.put, List.setIfInBounds_toArray, List.set_cons_succ, List.set_cons_zero]
    have HN := hide (not_calls w6 _ (n :: xb) but HX.out (by simp; omega))
    rw [← HBLe.out] at HN
    clear hown hgr hX hqI hoI H3I hsz
    refine wpAnyK_call 12 (by kernel_rfl) rfl rfl 104 _ _ rfl (run_enter Tryz.func104 (by kernel_rfl) (by kernel_rfl)) #[.slice a6 (n :: xb).length c6, .int .i64 but] rfl (fun u' w' => w'.ownsRow w6.heap.size 3 1 u' BL.length (cellsI BL) ∧ Below w6.heap.size w6 w') (HN.out.mono (fun e w' ⟨v', he, ho, hb⟩ => ⟨_, he, ho, hb⟩)) ?_
    rintro u' w7 ⟨ho7, hb7⟩
    have hq7 := hq6.trans (hb7.mono hq6.size)
    refine ⟨⟨⟨_, hq7⟩, rfl⟩, ?_⟩
    simp only [Act.put, List.setIfInBounds_toArray, List.set_cons_succ, List.set_cons_zero]
    obtain ⟨a7, c7, hsh⟩ := own_sh ho7
    subst hsh
    have HF := hide (few_calls w7 BL a7 c7 (IntsAt.of_own ho7) hBl (own_cap ho7))
    clear ho7 hb7 HN HX hq6
    refine wpAnyK_call 13 (by kernel_rfl) rfl rfl 40 _ _ rfl (run_enter Tryz.func40 (by kernel_rfl) (by kernel_rfl)) #[.slice a7 BL.length c7] rfl (fun u' w' => w'.ownsRow w7.heap.size 3 1 u' (BL.take 3).length (cellsI (BL.take 3)) ∧ Below w7.heap.size w7 w') (HF.out.mono (fun e w' ⟨v', he, ho, hb⟩ => ⟨_, he, ho, hb⟩)) ?_
    rintro u' w8 ⟨ho8, hb8⟩
    have hq8 := hq7.trans (hb8.mono hq7.size)
    refine ⟨⟨⟨_, hq8⟩, rfl⟩, ?_⟩
    simp only [Act.put, List.setIfInBounds_toArray, List.set_cons_succ, List.set_cons_zero]
    have HB8 := hide (HB.out.trans (hq8.mono HB.out.size))
    have hws := HB.out.size
    have HO8 := hide (own_mono ho8 (by have := hq7.size; omega : w.heap.size ≤ w7.heap.size))
    refine wpAnyK_last (by kernel_rfl) (by decide) ?_
    refine wpAny_rest 14 rfl (by kernel_rfl) ?_
    simp only [List.drop_succ_cons, List.drop_zero]
    clear HF hb8 ho8 hq7 hq8 hws
    go_wp2_with fail
    go_ret
    exact ⟨_, rfl, HO8.out, HB8.out⟩
end Go.Proofs.YteladljgnbfcnaaGreat.P9
namespace Go.Proofs.YteladljgnbfcnaaGreat.P9
open Go.RowKit P1 P8 Da Ap Rr Rc

theorem flatMap_set {α : Type} (f : α → List Dt) (n : Nat) (hf : ∀ x, (f x).length = n) : ∀ (l : List α) (i j : Nat) (hi : i < l.length), j < n → ∀ (x' : α) (d' : Dt), f x' = (f l[i]).set j d' → (l.flatMap f).set (i * n + j) d' = (l.set i x').flatMap f
  | x :: l, 0, j, _, hj, x', d', h => by
    rw [List.flatMap_cons, Nat.zero_mul, Nat.zero_add, List.set_append_left _ _ (by rw [hf]; exact hj), List.set_cons_zero, List.flatMap_cons, h]
    rfl
  | x :: l, i + 1, j, hi, hj, x', d', h => by
    rw [List.flatMap_cons, List.set_append_right _ _ (by rw [hf, Nat.add_mul, Nat.one_mul]; omega), hf, List.set_cons_succ, List.flatMap_cons]
    have := flatMap_set f n hf l i j (by simpa using hi) hj x' d' (by simpa using h)
    rw [← this]
    congr 2
    rw [Nat.add_mul, Nat.one_mul]
    omega

theorem modify_set {α : Type} (f : α → α) : ∀ (l : List α) (i : Nat) (hi : i < l.length), l.modify i f = l.set i (f l[i])
  | x :: l, 0, _ => by simp
  | x :: l, i + 1, hi => by
    have := modify_set f l i (by simpa using hi)
    simp only [List.modify_succ_cons, List.set_cons_succ, List.getElem_cons_succ, this]

theorem prC_get {T : Tys} {l : List Pr} {i j : Nat} (hi : i < l.length) (hj : j < 6) : (l.flatMap (prC T))[i * 6 + j]? = (prC T l[i])[j]? := flatMap_get (prC T) 6 (fun _ => rfl) l i j hi hj

theorem put_ahead {W : World} {T : Tys} {g n c i : Nat} {l : List Pr} {fp : List Nat} (h : Owns W (.slice (some ⟨g, 0, none⟩) n c) (peersD T l) fp) (hi : i < l.length) (a : Int) :
    Owns (W.setCell ⟨g, i * 6 + 2, none⟩ (.int .i64 a)) (.slice (some ⟨g, 0, none⟩) n c) (peersD T (setAhead l i a)) fp := by
  have h1 := (h.put_leaf (i := i * 6 + 2) (v0 := .int .i64 l[i].ahead) (prC_get hi (by decide)) (.int .i64 a)).1
  unfold peersD setAhead
  rw [modify_set _ _ _ hi, ← flatMap_set (prC T) 6 (fun _ => rfl) l i 2 hi (by decide) _ (.leaf (.int .i64 a)) rfl]
  exact h1

theorem put_row {W : World} {T : Tys} {g n c i j : Nat} {l : List Pr} {fp : List Nat} (h : Owns W (.slice (some ⟨g, 0, none⟩) n c) (peersD T l) fp) (hi : i < l.length) (hj : j < 6) {u : Value} {d : Dt} {f : List Nat} (hu : Owns W u d f) (hf : ∀ q ∈ f, q ∉ fp)
    (x' : Pr) (hx : prC T x' = (prC T l[i]).set j d) : ∃ fp', Owns (W.setCell ⟨g, i * 6 + j, none⟩ u) (.slice (some ⟨g, 0, none⟩) n c) (peersD T (l.set i x')) fp' ∧ ∀ q ∈ fp', q ∈ fp ∨ q ∈ f := by
  obtain ⟨fps, rfl⟩ := Owns.head h
  have hlen : (l.flatMap (prC T)).length = l.length * 6 := flatMap_length _ 6 (fun _ => rfl) l
  obtain ⟨fps', h1, h2⟩ := h.put (i := i * 6 + j) (by rw [hlen]; omega) hu (fun q hq => ⟨fun e => hf q hq (by simp [e]), fun e => hf q hq (by simp [e])⟩)
  refine ⟨g :: fps', ?_, fun q hq => ?_⟩
  · unfold peersD
    rw [← flatMap_set (prC T) 6 (fun _ => rfl) l i j hi hj x' d hx]
    exact h1
  · rcases List.mem_cons.1 hq with rfl | hq
    · exact .inl (by simp)
    · rcases h2 q hq with h3 | h3
      · exact .inl (by simp [h3])
      · exact .inr h3

theorem put_behind {W : World} {T : Tys} {g n c i : Nat} {l : List Pr} {fp : List Nat} (h : Owns W (.slice (some ⟨g, 0, none⟩) n c) (peersD T l) fp) (hi : i < l.length) {u : Value} {b : List Int} {f : List Nat} (hu : Owns W u (intsD b) f) (hf : ∀ q ∈ f, q ∉ fp) :
    ∃ fp', Owns (W.setCell ⟨g, i * 6 + 3, none⟩ u) (.slice (some ⟨g, 0, none⟩) n c) (peersD T (setBehind l i b)) fp' ∧ ∀ q ∈ fp', q ∈ fp ∨ q ∈ f := by
  have := put_row (j := 3) h hi (by decide) hu hf { l[i] with behind := b } rfl
  unfold setBehind
  rw [modify_set _ _ _ hi]
  exact this

theorem put_fingers {W : World} {T : Tys} {g n c i : Nat} {l : List Pr} {fp : List Nat} (h : Owns W (.slice (some ⟨g, 0, none⟩) n c) (peersD T l) fp) (hi : i < l.length) {u : Value} {b : List Int} {f : List Nat} (hu : Owns W u (intsD b) f) (hf : ∀ q ∈ f, q ∉ fp) :
    ∃ fp', Owns (W.setCell ⟨g, i * 6 + 4, none⟩ u) (.slice (some ⟨g, 0, none⟩) n c) (peersD T (setFingers l i b)) fp' ∧ ∀ q ∈ fp', q ∈ fp ∨ q ∈ f := by
  have := put_row (j := 4) h hi (by decide) hu hf { l[i] with fingers := b } rfl
  unfold setFingers
  rw [modify_set _ _ _ hi]
  exact this

/-- A cell of a peer: it is there, and may be written. -/
theorem peer_cell {W : World} {T : Tys} {g n c : Nat} {l : List Pr} {fp : List Nat} (h : Owns W (.slice (some ⟨g, 0, none⟩) n c) (peersD T l) fp) {i : Nat} (hi : i < l.length) {j : Nat} (hj : j < 6) :
    (∃ u, W.cell? ⟨g, i * 6 + j, none⟩ = some u) ∧ W.frozen? ⟨g, i * 6 + j, none⟩ = false ∧ g < W.heap.size ∧ g ∈ fp := by
  have hlen : (l.flatMap (prC T)).length = l.length * 6 := flatMap_length _ 6 (fun _ => rfl) l
  exact h.cellAt (i := i * 6 + j) (d := (l.flatMap (prC T))[i * 6 + j]'(by rw [hlen]; omega)) (by rw [List.getElem?_eq_getElem])

theorem setBehind_length (l : List Pr) (i : Nat) (b : List Int) : (setBehind l i b).length = l.length := by simp [setBehind]
/-- A ring's row of peers, where there is at least one. -/
theorem peers_shape {W : World} {v : Value} {T : Tys} {l : List Pr} {fp : List Nat} (h : Owns W v (peersD T l) fp) (hl : 0 < l.length) : ∃ g c, v = .slice (some ⟨g, 0, none⟩) l.length c := by
  rcases h.shape (flatMap_length _ 6 (fun _ => rfl) l) (by decide) with ⟨_, _, h0⟩ | ⟨g, c, e⟩
  · omega
  · exact ⟨g, c, e⟩
end Go.Proofs.YteladljgnbfcnaaGreat.P9
namespace Go.Proofs.YteladljgnbfcnaaGreat.P9
set_option maxRecDepth 8000
open Go.RowKit P1 P8 Da Ap Rr Rc

theorem peers_sl {W : World} {v : Value} {T : Tys} {l : List Pr} {fp : List Nat} (h : Owns W v (peersD T l) fp) : ∃ a c, v = .slice a l.length c := by
  rcases h.shape (flatMap_length _ 6 (fun _ => rfl) l) (by decide) with ⟨rfl, _, h0⟩ | ⟨g, c, rfl⟩
  · exact ⟨none, 0, by rw [h0]⟩
  · exact ⟨_, _, rfl⟩

theorem aheadOf_hit {l : List Pr} {n : Int} {i : Nat} (hi : i < l.length) (h : peerAt l n = i) : aheadOf l n = l[i].ahead := by
  unfold aheadOf
  rw [h]
  simp only [Int.toNat_natCast, List.getElem?_eq_getElem hi]

theorem peer_ahead {W : World} {l : List Pr} {g off n cap : Nat} (h : PeersAt W (.slice (some ⟨g, off, none⟩) n cap) l) {j : Nat} (hj : j < l.length) : W.cell? ⟨g, off + j * 6 + 2, none⟩ = some (.int .i64 l[j].ahead) ∧ g < W.heap.size := by
  obtain ⟨a2, c2, e, HA⟩ := h.open_
  cases e
  obtain ⟨g', off', u3, u4, u5, e', hg, hc⟩ := HA j hj
  cases e'
  exact ⟨hc.ahead, hg⟩

theorem peers_some {W : World} {a : Option Addr} {n cap : Nat} {l : List Pr} (h : PeersAt W (.slice a n cap) l) (hl : 0 < l.length) : ∃ g off, a = some ⟨g, off, none⟩ := by
  obtain ⟨a2, c2, e, HA⟩ := h.open_
  cases e
  obtain ⟨g', off', u3, u4, u5, e', hg, hc⟩ := HA 0 hl
  exact ⟨g', off', e'⟩

theorem if_pos_pair {α : Type} {c : Prop} [Decidable c] {a b : α} (h : c) : (if c then a else b, true) = (a, true) := by rw [if_pos h]
theorem if_neg_pair {α : Type} {c : Prop} [Decidable c] {a b : α} (h : ¬ c) : (if c then a else b, true) = (b, true) := by rw [if_neg h]

theorem settle_no {l : List Pr} {id : Int} (h : peerAt l id < 0 ∨ nextOf l id < 0) : settle l id = (l, false) := by
  unfold settle
  rw [if_pos h]

theorem settle_yes {l : List Pr} {id m : Int} {i j : Nat} (hi : peerAt l id = i) (hn : 0 ≤ nextOf l id) (hm : asked l id (nextOf l id) = m) (hj : peerAt l m = j) :
    settle l id = (if peerAt l (aheadOf l m) < 0 ∨ btw (aheadOf l m) id m = true then setAhead (setBehind l i (behindBut l m id)) j id else setBehind l i (behindBut l m id), true) := by
  unfold settle
  rw [if_neg (by omega)]
  simp only [hm, hi, hj, Int.toNat_natCast]
  split <;> rfl

set_option maxRecDepth 100000 in
set_option maxHeartbeats 8000000 in
theorem specSettle_calls (w : World) (v : Value) (l : List Pr) (id : Int) (hv : PeersAt w v l) (hl : l.length ≤ 1048576) (hsm : ∀ p ∈ l, Small p) :
    Calls Tryz.prog 77 #[.agg #[v], .int .i64 id] w fun e w' => ∃ v' fp, e = .returned (.tuple #[.agg #[v'], .bool (settle l id).2]) ∧ Owns w' v' (peersD T0 (settle l id).1) fp ∧ (∀ q ∈ fp, w.heap.size ≤ q) ∧ Below w.heap.size w w' := by
  obtain ⟨R, eR⟩ : ∃ R, R = settle l id := ⟨_, rfl⟩
  have HR1 : Hid (peerAt l id < 0 ∨ nextOf l id < 0 → R = (l, false)) := fun h => eR.trans (settle_no h)
  have HR2 : Hid (∀ (m : Int) (i j : Nat), peerAt l id = i → 0 ≤ nextOf l id → asked l id (nextOf l id) = m → peerAt l m = j → R = (if peerAt l (aheadOf l m) < 0 ∨ btw (aheadOf l m) id m = true then setAhead (setBehind l i (behindBut l m id)) j id else setBehind l i (behindBut l m id), true)) := fun m i j h1 h2 h3 h4 => eR.trans (settle_yes h1 h2 h3 h4)
  rw [← eR]
  clear eR
  have HSM := hide hsm
  have HBL : Hid (∀ p ∈ l, p.behind.length ≤ 1048576) := fun p hp => (hsm p hp).b
  have hb1 := (Below.refl w.heap.size w).alloc (Nat.le_refl _) (.cells #[v] 28)
  have hb2 := hb1.alloc hb1.size (.cells #[.slice none 0 0] 28)
  have HV1 := hide (hv.below hb2 (Nat.le_refl _))
  have HV := hide hv
  obtain ⟨a, cap, rfl, -⟩ := hv.open_
  have A0 := Blk.new w #[.slice a l.length cap] 28
  have A1 := Blk.new (w.alloc (.cells #[.slice a l.length cap] 28)) #[.slice none 0 0] 28
  have hba := (Below.refl (w.alloc (.cells #[.slice a l.length cap] 28)).heap.size (w.alloc (.cells #[.slice a l.length cap] 28))).alloc (Nat.le_refl _) (.cells #[.slice none 0 0] 28)
  have A0' := A0.below hba A0.lt
  have e1 : (w.alloc (.cells #[.slice a l.length cap] 28)).heap.size = w.heap.size + 1 := by simp
  rw [e1] at A1
  have HB1 := hide hb2
  clear hv hsm hb1 hb2 hba A0 e1
  go_enter Tryz.func77, Tryz.ntmps77
  go_upto_region 1 with fail
  obtain ⟨s, es⟩ : ∃ s, s = w.heap.size := ⟨_, rfl⟩
  rw [← es] at A0' A1 ⊢
  have HS : Hid (w.heap.size = s) := es.symm
  clear es
  generalize (w.alloc (.cells #[.slice a l.length cap] 28)).alloc (.cells #[.slice none 0 0] 28) = w1 at *
  have c0 := blk_free_cell A0' 0 rfl
  have l0 := A0'.lt
  go_wp2_with fail
  refine (copyRing_calls w1 _ l HV1.out hl HSM.out).mono ?_
  rintro e wc ⟨v', fp, rfl, ho, hfp, hbc⟩
  obtain ⟨ao, co, rfl⟩ := peers_sl ho
  clear c0 l0
  go_upto_region 2 with fail
  have XO := Blk.new wc #[.slice ao l.length co] 28
  have hbo := (Below.refl wc.heap.size wc).alloc (Nat.le_refl _) (.cells #[.slice ao l.length co] 28)
  have hb13 := hbc.trans (hbo.mono hbc.size)
  have X0 := A0'.below hb13 A0'.lt
  have X1 := A1.below hb13 A1.lt
  have HB3 := hide (HB1.out.trans (hb13.mono HB1.out.size))
  have HO3 := hide (owns_below ho hbo)
  have hl1 := A1.lt
  have hlt := ho.lt
  obtain ⟨bo, ebo⟩ : ∃ b, b = wc.heap.size := ⟨_, rfl⟩
  rw [← ebo] at XO hlt ⊢
  have HFP : Hid (∀ q ∈ fp, s + 1 < q ∧ q < bo) := fun q hq => by
    have := hfp q hq
    have := hlt q hq
    omega
  have hso : s + 1 < bo := by have := hbc.size; omega
  clear ebo hbo hb13 A0' A1 HB1 HV1 ho hfp hbc hlt hl1
  generalize wc.alloc (.cells #[.slice ao l.length co] 28) = w3 at *
  have HC0 : Hid (∀ wx, Below w3.heap.size w3 wx → wx.cell? ⟨s, 0, none⟩ = some (.slice a l.length cap) ∧ s < wx.heap.size) := fun wx hb => ⟨blk_free_cell (X0.below hb X0.lt) 0 rfl, (X0.below hb X0.lt).lt⟩
  have HCO : Hid (∀ wx, Below w3.heap.size w3 wx → wx.cell? ⟨bo, 0, none⟩ = some (.slice ao l.length co) ∧ bo < wx.heap.size) := fun wx hb => ⟨blk_free_cell (XO.below hb XO.lt) 0 rfl, (XO.below hb XO.lt).lt⟩
  have HZ0 : Hid (∀ wx, Below w3.heap.size w3 wx → Blk wx s [.slice a l.length cap] 28) := fun wx hb => X0.below hb X0.lt
  have HZO : Hid (∀ wx, Below w3.heap.size w3 wx → Blk wx bo [.slice ao l.length co] 28) := fun wx hb => XO.below hb XO.lt
  have HX1 : Hid (∀ wx, Below w3.heap.size w3 wx → Blk wx (s + 1) [.slice none 0 0] 28) := fun wx hb => X1.below hb X1.lt
  have HVx : Hid (∀ wx, Below w3.heap.size w3 wx → PeersAt wx (.slice a l.length cap) l) := fun wx hb => HV.out.below (HB3.out.trans (hb.mono HB3.out.size)) (Nat.le_refl _)
  have HOx : Hid (∀ wx, Below w3.heap.size w3 wx → Owns wx (.slice ao l.length co) (peersD T0 l) fp) := fun wx hb => owns_below HO3.out hb
  have HBx : Hid (∀ wx, Below w3.heap.size w3 wx → Below w.heap.size w wx) := fun wx hb => HB3.out.trans (hb.mono HB3.out.size)
  clear X0 X1 XO HO3
  have hw3 := Below.refl w3.heap.size w3
  obtain ⟨c0, l0⟩ := HC0.out w3 hw3
  go_wp2_with fail
  refine (specPeerAt_calls w3 _ l id (HVx.out w3 hw3) hl).mono ?_
  rintro e w4 ⟨rfl, hw4⟩
  clear c0 l0 hw3
  obtain ⟨c0, l0⟩ := HC0.out w4 hw4
  go_wp2_with fail
  refine (specNext_calls w4 _ l id (HVx.out w4 hw4) hl HBL.out).mono ?_
  rintro e w5 ⟨rfl, hb5⟩
  have hw5 := hw4.trans (hb5.mono hw4.size)
  clear c0 l0 hb5 hw4 w4
  by_cases hno : peerAt l id < 0 ∨ nextOf l id < 0
  · have HR := hide (HR1.out hno)
    obtain ⟨cO, lO⟩ := HCO.out w5 hw5
    have Y1 := HX1.out w5 hw5
    have y0 := blk_free_cell Y1 0 rfl
    have yf := Y1.free 0
    have yl := Y1.lt
    have HBw := hide (HBx.out w5 hw5)
    have HOw := hide (HOx.out w5 hw5)
    have hw0 := HS.out
    rcases Classical.em (peerAt l id < 0) with hp | hp
    · have hd : decide (peerAt l id < 0) = true := decide_eq_true hp
      clear HR1 HR2 hno hp
      generalize peerAt l id = pa at *
      generalize nextOf l id = nx at *
      go_wp2_with fail
      have Rd := Y1.set 0 (.slice ao l.length co)
      have x0 := blk_free_cell Rd 0 rfl
      refine bodyPost_ret (v := .tuple #[.agg #[.slice ao l.length co], .bool false]) (by simp [results, Tryz.results77, go_sem, x0]) rfl ⟨_, fp, by rw [HR.out], by rw [HR.out]; exact owns_set HOw.out (fun q hq => by have := HFP.out q hq; omega) _, fun q hq => by have := HFP.out q hq; omega, HBw.out.setCell (p := ⟨s + 1, 0, none⟩) (by show _ ≤ s + 1; omega) _⟩
    · have hd : decide (peerAt l id < 0) = false := decide_eq_false hp
      have hd2 : decide (nextOf l id < 0) = true := decide_eq_true (by omega)
      clear HR1 HR2 hno hp
      generalize peerAt l id = pa at *
      generalize nextOf l id = nx at *
      go_wp2_with fail
      have Rd := Y1.set 0 (.slice ao l.length co)
      have x0 := blk_free_cell Rd 0 rfl
      refine bodyPost_ret (v := .tuple #[.agg #[.slice ao l.length co], .bool false]) (by simp [results, Tryz.results77, go_sem, x0]) rfl ⟨_, fp, by rw [HR.out], by rw [HR.out]; exact owns_set HOw.out (fun q hq => by have := HFP.out q hq; omega) _, fun q hq => by have := HFP.out q hq; omega, HBw.out.setCell (p := ⟨s + 1, 0, none⟩) (by show _ ≤ s + 1; omega) _⟩
  · have hp0 : 0 ≤ peerAt l id := by omega
    have hn0 : 0 ≤ nextOf l id := by omega
    obtain ⟨i, hi, hpi⟩ : ∃ i : Nat, ∃ _ : i < l.length, peerAt l id = i := (peerAt_lt l id).resolve_left (by omega)
    obtain ⟨j0, hj0, hpj⟩ : ∃ j : Nat, ∃ _ : j < l.length, peerAt l (nextOf l id) = j := (peerAt_lt l _).resolve_left (by have := next_at hn0; omega)
    have HR3 : Hid (∀ (m : Int) (j : Nat), asked l id (nextOf l id) = m → peerAt l m = j → R = (if peerAt l (aheadOf l m) < 0 ∨ btw (aheadOf l m) id m = true then setAhead (setBehind l i (behindBut l m id)) j id else setBehind l i (behindBut l m id), true)) := fun m j h1 h2 => HR2.out m i j hpi hn0 h1 h2
    have hpos : 0 < l.length := by omega
    obtain ⟨go, co', esh⟩ := peers_shape (HOx.out w5 hw5) hpos
    cases esh
    obtain ⟨g, off, esh⟩ := peers_some (HVx.out w5 hw5) hpos
    cases esh
    have hd : decide ((i : Int) < 0) = false := decide_eq_false (by omega)
    have hd2 : decide (nextOf l id < 0) = false := decide_eq_false (by omega)
    rw [hpi]
    have HAH := hide (aheadOf_hit hj0 hpj)
    have HAS : Hid (asked l id (nextOf l id) = (if 0 ≤ peerAt l (aheadOf l (nextOf l id)) ∧ aheadOf l (nextOf l id) ≠ nextOf l id ∧ aheadOf l (nextOf l id) ≠ id ∧ btw id (aheadOf l (nextOf l id)) (nextOf l id) = true then aheadOf l (nextOf l id) else nextOf l id)) := rfl
    rw [HAH.out] at HAS
    clear HR1 HR2 hno hp0 hpi hn0 hpos HAH
    generalize nextOf l id = nx at *
    -- whom it asks knows one ahead of it
    have n0 : ∀ p : Near w5.heap.size w5, p.w.cell? ⟨s, 0, none⟩ = some (.slice (some ⟨g, off, none⟩) l.length cap) := fun p => (HC0.out p.w (hw5.trans (p.h.mono hw5.size))).1
    have hnn := Near.some w5.heap.size w5
    have hs5 := (HC0.out w5 hw5).2
    go_upto_region 6 with fail
    refine wp_region_open (fun wd => ∃ p : Near w5.heap.size w5, wd = p.w) ⟨⟨_, (Below.refl _ _).drew⟩, rfl⟩ (by kernel_rfl) ?_
    rintro wd ⟨pd, rfl⟩
    refine wpAny_of_K (c := 5) (D := fun w' => ∃ p : Near w5.heap.size w5, w' = p.w) _ _ _ _ ?_
    refine wpAnyK_seg_lit4 0 4 6 5 rfl (by decide) (by decide) (by kernel_rfl) (by kernel_rfl) (by kernel_rfl) (by kernel_rfl) (fun _ _ _ _ _ h => h) ⟨pd, rfl⟩ ?_
    simp only [List.take_succ_cons, List.take_zero, List.drop_zero]
    repeat (go_big_quiet_step (fail))
    refine wpQuiet_nil ?_
    clear n0 hnn hs5
    have hwd := hw5.trans (pd.h.mono hw5.size)
    have HPA := hide (specPeerAt_calls pd.w _ l nx (HVx.out pd.w hwd) hl)
    rw [hpj] at HPA
    refine wpAnyK_call 4 (by kernel_rfl) rfl rfl 15 _ _ rfl (run_enter Tryz.func15 (by kernel_rfl) (by kernel_rfl)) #[.agg #[.slice (some ⟨g, off, none⟩) l.length cap], .int .i64 nx] rfl (fun u' w' => u' = .int .i64 (j0 : Int) ∧ Below pd.w.heap.size pd.w w') (HPA.out.mono (fun e w' ⟨he, hb⟩ => ⟨_, he, rfl, hb⟩)) ?_
    rintro u' w6 ⟨rfl, hb6⟩
    have hw6 := hwd.trans (hb6.mono hwd.size)
    refine ⟨⟨⟨_, pd.h.trans (hb6.mono pd.h.size)⟩, rfl⟩, ?_⟩
    simp only [Act.put, List.setIfInBounds_toArray, List.set_cons_succ, List.set_cons_zero]
    refine wpAnyK_last (by kernel_rfl) (by decide) ?_
    refine wpAny_rest 5 rfl (by kernel_rfl) ?_
    simp only [List.drop_succ_cons, List.drop_zero]
    clear HPA hwd hw5 hb6
    obtain ⟨f2, l2⟩ := peer_ahead (HVx.out w6 hw6) hj0
    obtain ⟨c0, l0⟩ := HC0.out w6 hw6
    generalize l[j0].ahead = P at *
    go_wp2_with fail
    refine (specPeerAt_calls w6 _ l P (HVx.out w6 hw6) hl).mono ?_
    rintro e w7 ⟨rfl, hb7⟩
    have hw7 := hw6.trans (hb7.mono hw6.size)
    clear f2 l2 c0 l0 hb7 hw6
    have hpcase : peerAt l P < 0 ∨ ∃ j1 : Nat, ∃ _ : j1 < l.length, peerAt l P = j1 := (peerAt_lt l P).imp (fun h => by omega) (fun h => h)
    obtain ⟨c0, l0⟩ := HC0.out w7 hw7
    rcases hpcase with hp | ⟨j1, hj1, hp1⟩
    case' inl =>
      have hd3 : decide (peerAt l P ≥ 0) = false := decide_eq_false (by omega)
      have HM : Hid (asked l id nx = nx) := by show _ = _; rw [HAS.out, if_neg (by omega)]
      clear hp HAS
      generalize peerAt l P = pp at *
      go_upto_region 9 with fail
      obtain ⟨w8, e8⟩ : ∃ x, x = w7 := ⟨_, rfl⟩
      subst e8
      obtain ⟨m, em⟩ : ∃ m, m = nx := ⟨_, rfl⟩
      rw [← em] at hpj ⊢
      have HMM := hide (HM.out.trans em.symm)
      have hjm := hj0
      generalize j0 = j at *
      clear em
    case' inr =>
      rw [hp1]
      have hd3 : decide ((j1 : Int) ≥ 0) = true := decide_eq_true (by omega)
      have hpp : 0 ≤ peerAt l P := by omega
      by_cases hq1 : P = nx
      case' pos =>
        have hd4 : (P != nx) = false := by simpa using hq1
        have HM : Hid (asked l id nx = nx) := by show _ = _; rw [HAS.out, if_neg (fun h => h.2.1 hq1)]
        clear hp1 hpp HAS hq1
        go_upto_region 9 with fail
        obtain ⟨w8, e8⟩ : ∃ x, x = w7 := ⟨_, rfl⟩
        subst e8
        obtain ⟨m, em⟩ : ∃ m, m = nx := ⟨_, rfl⟩
        rw [← em] at hpj ⊢
        have HMM := hide (HM.out.trans em.symm)
        have hjm := hj0
        generalize j0 = j at *
        clear em
      case' neg =>
        have hd4 : (P != nx) = true := by simpa using hq1
        by_cases hq2 : P = id
        case' pos =>
          have hd5 : (P != id) = false := by simpa using hq2
          have HM : Hid (asked l id nx = nx) := by show _ = _; rw [HAS.out, if_neg (fun h => h.2.2.1 hq2)]
          clear hp1 hpp HAS hq1 hq2
          go_upto_region 9 with fail
          obtain ⟨w8, e8⟩ : ∃ x, x = w7 := ⟨_, rfl⟩
          subst e8
          obtain ⟨m, em⟩ : ∃ m, m = nx := ⟨_, rfl⟩
          rw [← em] at hpj ⊢
          have HMM := hide (HM.out.trans em.symm)
          have hjm := hj0
          generalize j0 = j at *
          clear em
        case' neg =>
          have hd5 : (P != id) = true := by simpa using hq2
          have CB := hide (fun wx => specBetween_calls id P nx wx)
          cases hbt : btw id P nx
          case' false =>
            have HM : Hid (asked l id nx = nx) := by show _ = _; rw [HAS.out, if_neg (fun h => by rw [hbt] at h; exact absurd h.2.2.2 (by decide))]
            rw [hbt] at CB
            clear hp1 hpp HAS hq1 hq2 hbt
            go_wp2_with fail
            refine (CB.out _).mono ?_
            rintro e w8 ⟨rfl, hw⟩
            subst hw
            clear CB
            go_upto_region 9 with fail
            obtain ⟨m, em⟩ : ∃ m, m = nx := ⟨_, rfl⟩
            rw [← em] at hpj ⊢
            have HMM := hide (HM.out.trans em.symm)
            have hjm := hj0
            generalize j0 = j at *
            clear em
          case' true =>
            have HM : Hid (asked l id nx = P) := by show _ = _; rw [HAS.out, if_pos ⟨hpp, hq1, hq2, hbt⟩]
            rw [hbt] at CB
            clear hpp HAS hq1 hq2 hbt hpj
            go_wp2_with fail
            refine (CB.out _).mono ?_
            rintro e w8 ⟨rfl, hw⟩
            subst hw
            clear CB
            go_upto_region 9 with fail
            obtain ⟨m, em⟩ : ∃ m, m = P := ⟨_, rfl⟩
            rw [← em] at hp1 ⊢
            have HMM := hide (HM.out.trans em.symm)
            have hpj := hp1
            have hjm := hj1
            generalize j1 = j at *
            clear em hp1
    all_goals
      have hR := HR3.out m j HMM.out hpj
      have HRm := hide hR
      have hno := (HZO.out w8 hw7).lt
      have hns := (HZ0.out w8 hw7).lt
      have n0 : ∀ p : Near w8.heap.size w8, p.w.cell? ⟨s, 0, none⟩ = some (.slice (some ⟨g, off, none⟩) l.length cap) := fun p => (HC0.out p.w (hw7.trans (p.h.mono hw7.size))).1
      have nO : ∀ p : Near w8.heap.size w8, p.w.cell? ⟨bo, 0, none⟩ = some (.slice (some ⟨go, 0, none⟩) l.length co) := fun p => (HCO.out p.w (hw7.trans (p.h.mono hw7.size))).1
      have hnn := Near.some w8.heap.size w8
      clear hR HR3 HMM HM c0 l0
      refine wp_region_open (fun wd => ∃ p : Near w8.heap.size w8, wd = p.w) ⟨⟨_, (Below.refl _ _).drew⟩, rfl⟩ (by kernel_rfl) ?_
      rintro wd ⟨pe, rfl⟩
      refine wpAny_of_K (c := 7) (D := fun w' => ∃ p : Near w8.heap.size w8, w' = p.w) _ _ _ _ ?_
      refine wpAnyK_seg_lit4 0 6 6 4 rfl (by decide) (by decide) (by kernel_rfl) (by kernel_rfl) (by kernel_rfl) (by kernel_rfl) (fun _ _ _ _ _ h => h) ⟨pe, rfl⟩ ?_
      simp only [List.take_succ_cons, List.take_zero, List.drop_zero]
      repeat (go_big_quiet_step (fail))
      refine wpQuiet_nil ?_
      clear n0 nO hnn hno hns
      have hwe := hw7.trans (pe.h.mono hw7.size)
      have HBH := hide (behind_calls' pe.w _ l m id j (HVx.out pe.w hwe) hl HBL.out hjm hpj)
      generalize behindBut l m id = NB at *
      refine wpAnyK_call 6 (by kernel_rfl) rfl rfl 93 _ _ rfl (run_enter Tryz.func93 (by kernel_rfl) (by kernel_rfl)) #[.agg #[.slice (some ⟨g, off, none⟩) l.length cap], .int .i64 m, .int .i64 id] rfl (fun u' w' => w'.ownsRow pe.w.heap.size 3 1 u' NB.length (cellsI NB) ∧ Below pe.w.heap.size pe.w w') (HBH.out.mono (fun e w' ⟨u, he, ho, hb⟩ => ⟨_, he, ho, hb⟩)) ?_
      rintro u' w9 ⟨ho9, hb9⟩
      have hw9 := hwe.trans (hb9.mono hwe.size)
      refine ⟨⟨⟨_, pe.h.trans (hb9.mono pe.h.size)⟩, rfl⟩, ?_⟩
      simp only [Act.put, List.setIfInBounds_toArray, List.set_cons_succ, List.set_cons_zero]
      refine wpAnyK_last (by kernel_rfl) (by decide) ?_
      refine wpAny_rest 7 rfl (by kernel_rfl) ?_
      simp only [List.drop_succ_cons, List.drop_zero]
      obtain ⟨a9, c9, hsh⟩ := own_sh ho9
      subst hsh
      obtain ⟨f9, O9, g9⟩ := ints_owned ho9
      have HP9 := HOx.out w9 hw9
      obtain ⟨⟨s3, hc3⟩, hf3, hlg, hmem⟩ := peer_cell HP9 hi (j := 3) (by decide)
      have hgo := HFP.out go hmem
      have hzo := (HZO.out w3 (Below.refl _ _)).lt
      have hez := hwe.size
      obtain ⟨fq, HPq, hfq⟩ := put_behind HP9 hi O9 (fun q h1 h2 => by
        have k1 := g9 q h1
        have k2 := HFP.out q h2
        omega)
      have hws := HS.out
      have HBq := hide ((HBx.out w9 hw9).setCell (p := ⟨go, i * 6 + 3, none⟩) (by show _ ≤ go; omega) (.slice a9 NB.length c9))
      have Q0 := (HZ0.out w9 hw9).other (p := ⟨go, i * 6 + 3, none⟩) (by show s ≠ go; omega) (.slice a9 NB.length c9)
      have QO := (HZO.out w9 hw9).other (p := ⟨go, i * 6 + 3, none⟩) (by show bo ≠ go; omega) (.slice a9 NB.length c9)
      have Q1 := (HX1.out w9 hw9).other (p := ⟨go, i * 6 + 3, none⟩) (by show s + 1 ≠ go; omega) (.slice a9 NB.length c9)
      have HFq : Hid (∀ q ∈ fq, s + 1 < q ∧ q ≠ bo) := fun q hq => by
        rcases hfq q hq with h | h
        · have := HFP.out q h; omega
        · have := g9 q h; omega
      have HPQ := hide HPq
      clear HBH ho9 hb9 HP9 O9 g9 HPq hfq hwe hez hzo hw9 hmem hws hw7
      go_upto_region 10 with fail
      clear hc3 hf3 hlg HZ0 HZO HX1 HOx HVx HC0 HCO HBx HFP
      generalize w9.setCell ⟨go, i * 6 + 3, none⟩ (.slice a9 NB.length c9) = wa at *
      have HVa := hide (HV.out.below HBq.out (Nat.le_refl _))
      have c0 := blk_free_cell Q0 0 rfl
      have l0 := Q0.lt
      have HPM := hide (specPeerAt_calls wa _ l m HVa.out hl)
      rw [hpj] at HPM
      have HA0 := hide (aheadOf_hit hjm hpj)
      rw [HA0.out] at HRm
      go_wp2_with fail
      refine HPM.out.mono ?_
      rintro e wb ⟨rfl, hbb⟩
      have HBb := hide (HBq.out.trans (hbb.mono HBq.out.size))
      have HVb := hide (HVa.out.below hbb (Nat.le_refl _))
      have P0 := Q0.below hbb Q0.lt
      have PO := QO.below hbb QO.lt
      have P1' := Q1.below hbb Q1.lt
      have HPb := hide (owns_below HPQ.out hbb)
      clear HPM HBq HVa HPQ Q0 QO Q1 hbb c0 l0 HA0
      have c0 := blk_free_cell P0 0 rfl
      have l0 := P0.lt
      obtain ⟨f2, l2⟩ := peer_ahead HVb.out hjm
      generalize l[j].ahead = A at *
      have HPA2 := hide (specPeerAt_calls wb _ l A HVb.out hl)
      have CB2 := hide (fun wx => specBetween_calls A id m wx)
      go_wp2_with fail
      refine HPA2.out.mono ?_
      rintro e wd ⟨rfl, hbd⟩
      have HBd := hide (HBb.out.trans (hbd.mono HBb.out.size))
      have D0 := P0.below hbd P0.lt
      have DO := PO.below hbd PO.lt
      have D1 := P1'.below hbd P1'.lt
      have HPd := hide (owns_below HPb.out hbd)
      clear HPA2 HBb HVb HPb P0 PO P1' hbd c0 l0 f2 l2
      have dO := blk_free_cell DO 0 rfl
      have dl := DO.lt
      have y0 := blk_free_cell D1 0 rfl
      have yf := D1.free 0
      have yl := D1.lt
      have hnbl : (setBehind l i NB).length = l.length := setBehind_length l i NB
      by_cases hpa : peerAt l A < 0
      · have hd9 : decide (peerAt l A < 0) = true := decide_eq_true hpa
        have HR := hide (HRm.out.trans (if_pos_pair (.inl hpa)))
        have hjb : j < (setBehind l i NB).length := by omega
        obtain ⟨⟨s2, hc2⟩, hf2, hlg2, hmem⟩ := peer_cell HPd.out hjb (j := 2) (by decide)
        have hgq := HFq.out go hmem
        have HPe := hide (put_ahead HPd.out hjb id)
        clear HRm HPd hnbl hjb hmem
        go_wp2_with fail
        have E1 := D1.other (p := ⟨go, j * 6 + 2, none⟩) (by show s + 1 ≠ go; omega) (.int .i64 id)
        have Rd := E1.set 0 (.slice (some ⟨go, 0, none⟩) l.length co)
        have x0 := blk_free_cell Rd 0 rfl
        have hws := HS.out
        refine bodyPost_ret (v := .tuple #[.agg #[.slice (some ⟨go, 0, none⟩) l.length co], .bool true]) (by simp [results, Tryz.results77, go_sem, x0]) rfl ⟨_, fq, by rw [HR.out], by rw [HR.out]; exact owns_set HPe.out (fun q hq => by have := HFq.out q hq; omega) _, fun q hq => by have := HFq.out q hq; omega, (HBd.out.setCell (p := ⟨go, j * 6 + 2, none⟩) (by show _ ≤ go; omega) _).setCell (p := ⟨s + 1, 0, none⟩) (by show _ ≤ s + 1; omega) _⟩
      · have hd9 : decide (peerAt l A < 0) = false := decide_eq_false hpa
        cases hbt2 : btw A id m with
        | true =>
          rw [hbt2] at CB2
          have HR := hide (HRm.out.trans (if_pos_pair (.inr hbt2)))
          have hjb : j < (setBehind l i NB).length := by omega
          obtain ⟨⟨s2, hc2⟩, hf2, hlg2, hmem⟩ := peer_cell HPd.out hjb (j := 2) (by decide)
          have hgq := HFq.out go hmem
          have HPe := hide (put_ahead HPd.out hjb id)
          clear HRm HPd hnbl hjb hmem
          go_wp2_with fail
          refine (CB2.out _).mono ?_
          rintro e wf ⟨rfl, hw⟩
          replace hw := hw.symm
          subst hw
          go_wp2_with fail
          have E1 := D1.other (p := ⟨go, j * 6 + 2, none⟩) (by show s + 1 ≠ go; omega) (.int .i64 id)
          have Rd := E1.set 0 (.slice (some ⟨go, 0, none⟩) l.length co)
          have x0 := blk_free_cell Rd 0 rfl
          have hws := HS.out
          refine bodyPost_ret (v := .tuple #[.agg #[.slice (some ⟨go, 0, none⟩) l.length co], .bool true]) (by simp [results, Tryz.results77, go_sem, x0]) rfl ⟨_, fq, by rw [HR.out], by rw [HR.out]; exact owns_set HPe.out (fun q hq => by have := HFq.out q hq; omega) _, fun q hq => by have := HFq.out q hq; omega, (HBd.out.setCell (p := ⟨go, j * 6 + 2, none⟩) (by show _ ≤ go; omega) _).setCell (p := ⟨s + 1, 0, none⟩) (by show _ ≤ s + 1; omega) _⟩
        | false =>
          rw [hbt2] at CB2
          have HR := hide (HRm.out.trans (if_neg_pair (fun h => h.elim hpa (by rw [hbt2]; simp))))
          clear HRm hnbl
          go_wp2_with fail
          refine (CB2.out _).mono ?_
          rintro e wf ⟨rfl, hw⟩
          replace hw := hw.symm
          subst hw
          go_wp2_with fail
          have Rd := D1.set 0 (.slice (some ⟨go, 0, none⟩) l.length co)
          have x0 := blk_free_cell Rd 0 rfl
          have hws := HS.out
          refine bodyPost_ret (v := .tuple #[.agg #[.slice (some ⟨go, 0, none⟩) l.length co], .bool true]) (by simp [results, Tryz.results77, go_sem, x0]) rfl ⟨_, fq, by rw [HR.out], by rw [HR.out]; exact owns_set HPd.out (fun q hq => by have := HFq.out q hq; omega) _, fun q hq => by have := HFq.out q hq; omega, HBd.out.setCell (p := ⟨s + 1, 0, none⟩) (by show _ ≤ s + 1; omega) _⟩
end Go.Proofs.YteladljgnbfcnaaGreat.P9
namespace Go.Proofs.YteladljgnbfcnaaGreat.P9
open Go.RowKit P1 P8 Da Ap Rr Rc

theorem set_get {α : Type} {l : List α} {i : Nat} (hi : i < l.length) (x : α) : (l.set i x)[i]'(by simpa using hi) = x := by simp

theorem put_peer {W : World} {T : Tys} {g n c i : Nat} {l : List Pr} {fp : List Nat} (h : Owns W (.slice (some ⟨g, 0, none⟩) n c) (peersD T l) fp) (hi : i < l.length) (x : Pr) {u3 u4 u5 : Value} {f3 f4 f5 : List Nat}
    (h3 : Owns W u3 (intsD x.behind) f3) (h4 : Owns W u4 (intsD x.fingers) f4) (h5 : Owns W u5 (shelvesD T x.shelves) f5)
    (n3 : ∀ q ∈ f3, q ∉ fp) (n4 : ∀ q ∈ f4, q ∉ fp) (n5 : ∀ q ∈ f5, q ∉ fp) (d34 : ∀ q ∈ f3, q ∉ f4) (d35 : ∀ q ∈ f3, q ∉ f5) (d45 : ∀ q ∈ f4, q ∉ f5) :
    ∃ fp', Owns ((((((W.setCell ⟨g, i * 6, none⟩ (.int .i64 x.id)).setCell ⟨g, i * 6 + 1, none⟩ (.bool x.here)).setCell ⟨g, i * 6 + 2, none⟩ (.int .i64 x.ahead)).setCell ⟨g, i * 6 + 3, none⟩ u3).setCell ⟨g, i * 6 + 4, none⟩ u4).setCell ⟨g, i * 6 + 5, none⟩ u5)
      (.slice (some ⟨g, 0, none⟩) n c) (peersD T (l.set i x)) fp' ∧ ∀ q ∈ fp', q ∈ fp ∨ q ∈ f3 ∨ q ∈ f4 ∨ q ∈ f5 := by
  have hg := (peer_cell h hi (j := 0) (by decide)).2.2.2
  have e3 : ∀ q ∈ f3, q ≠ g := fun q hq e => n3 q hq (by rw [e]; exact hg)
  have e4 : ∀ q ∈ f4, q ≠ g := fun q hq e => n4 q hq (by rw [e]; exact hg)
  have e5 : ∀ q ∈ f5, q ≠ g := fun q hq e => n5 q hq (by rw [e]; exact hg)
  obtain ⟨p0, k0, j0⟩ := put_row (j := 0) h hi (by decide) (owns_leaf (.int .i64 x.id)) (by simp) { l[i] with id := x.id } rfl
  have K3 := owns_set h3 (b := g) (i := i * 6) e3 (.int .i64 x.id)
  have K4 := owns_set h4 (b := g) (i := i * 6) e4 (.int .i64 x.id)
  have K5 := owns_set h5 (b := g) (i := i * 6) e5 (.int .i64 x.id)
  obtain ⟨p1, k1, j1⟩ := put_row (j := 1) k0 (by simpa using hi) (by decide) (owns_leaf (.bool x.here)) (by simp) { l[i] with id := x.id, here := x.here } (by rw [set_get hi]; rfl)
  have K3 := owns_set K3 (b := g) (i := i * 6 + 1) e3 (.bool x.here)
  have K4 := owns_set K4 (b := g) (i := i * 6 + 1) e4 (.bool x.here)
  have K5 := owns_set K5 (b := g) (i := i * 6 + 1) e5 (.bool x.here)
  rw [List.set_set] at k1
  obtain ⟨p2, k2, j2⟩ := put_row (j := 2) k1 (by simpa using hi) (by decide) (owns_leaf (.int .i64 x.ahead)) (by simp) { l[i] with id := x.id, here := x.here, ahead := x.ahead } (by rw [set_get hi]; rfl)
  have K3 := owns_set K3 (b := g) (i := i * 6 + 2) e3 (.int .i64 x.ahead)
  have K4 := owns_set K4 (b := g) (i := i * 6 + 2) e4 (.int .i64 x.ahead)
  have K5 := owns_set K5 (b := g) (i := i * 6 + 2) e5 (.int .i64 x.ahead)
  rw [List.set_set] at k2
  have in2 : ∀ q ∈ p2, q ∈ fp := fun q hq => by
    rcases j2 q hq with h | h
    · rcases j1 q h with h | h
      · rcases j0 q h with h | h
        · exact h
        · cases h
      · cases h
    · cases h
  obtain ⟨p3, k3, j3⟩ := put_row (j := 3) k2 (by simpa using hi) (by decide) K3 (fun q hq h => n3 q hq (in2 q h)) { l[i] with id := x.id, here := x.here, ahead := x.ahead, behind := x.behind } (by rw [set_get hi]; rfl)
  have K4 := owns_set K4 (b := g) (i := i * 6 + 3) e4 u3
  have K5 := owns_set K5 (b := g) (i := i * 6 + 3) e5 u3
  rw [List.set_set] at k3
  obtain ⟨p4, k4, j4⟩ := put_row (j := 4) k3 (by simpa using hi) (by decide) K4 (fun q hq h => (j3 q h).elim (fun h => n4 q hq (in2 q h)) (fun h => d34 q h hq)) { l[i] with id := x.id, here := x.here, ahead := x.ahead, behind := x.behind, fingers := x.fingers } (by rw [set_get hi]; rfl)
  have K5 := owns_set K5 (b := g) (i := i * 6 + 4) e5 u4
  rw [List.set_set] at k4
  obtain ⟨p5, k5, j5⟩ := put_row (j := 5) k4 (by simpa using hi) (by decide) K5 (fun q hq h => (j4 q h).elim (fun h => (j3 q h).elim (fun h => n5 q hq (in2 q h)) (fun h => d35 q h hq)) (fun h => d45 q h hq)) x (by rw [set_get hi]; rfl)
  rw [List.set_set] at k5
  refine ⟨p5, k5, fun q hq => ?_⟩
  rcases j5 q hq with h | h
  · rcases j4 q h with h | h
    · rcases j3 q h with h | h
      · exact .inl (in2 q h)
      · exact .inr (.inl h)
    · exact .inr (.inr (.inl h))
  · exact .inr (.inr (.inr h))

/-- A peer that is not there and has nothing. -/
theorem put_empty {W : World} {T : Tys} {g n c i : Nat} {l : List Pr} {fp : List Nat} (h : Owns W (.slice (some ⟨g, 0, none⟩) n c) (peersD T l) fp) (hi : i < l.length) (id : Int) :
    ∃ fp', Owns ((((((W.setCell ⟨g, i * 6, none⟩ (.int .i64 id)).setCell ⟨g, i * 6 + 1, none⟩ (.bool false)).setCell ⟨g, i * 6 + 2, none⟩ (.int .i64 0)).setCell ⟨g, i * 6 + 3, none⟩ (.slice none 0 0)).setCell ⟨g, i * 6 + 4, none⟩ (.slice none 0 0)).setCell ⟨g, i * 6 + 5, none⟩ (.slice none 0 0))
      (.slice (some ⟨g, 0, none⟩) n c) (peersD T (l.set i (emptyP id))) fp' ∧ ∀ q ∈ fp', q ∈ fp := by
  obtain ⟨fp', h1, h2⟩ := put_peer h hi (emptyP id) (owns_nil _ _) (owns_nil _ _) (owns_nil _ _) (by simp) (by simp) (by simp) (by simp) (by simp) (by simp)
  exact ⟨fp', h1, fun q hq => by simpa using h2 q hq⟩
end Go.Proofs.YteladljgnbfcnaaGreat.P9
namespace Go.Proofs.YteladljgnbfcnaaGreat.P9
set_option maxRecDepth 8000
open Go.RowKit P1 P8 Da Ap Rr Rc

theorem gone_few {l : List Pr} {id : Int} (h : peerAt l id < 4) : gone l id = (l, false) := by
  unfold gone
  rw [if_pos h]

theorem gone_lone {l : List Pr} {id : Int} {i k : Nat} (h1 : peerAt l id = i) (h2 : 4 ≤ i) (hk : k < (l.set i (emptyP id)).length) (h : lonely (l.set i (emptyP id)) (l.set i (emptyP id))[k] = true) : gone l id = (l, false) := by
  unfold gone
  rw [h1, if_neg (by omega)]
  simp only [Int.toNat_natCast]
  rw [if_pos (List.any_eq_true.2 ⟨_, List.getElem_mem hk, h⟩)]

theorem gone_ok {l : List Pr} {id : Int} {i : Nat} (h1 : peerAt l id = i) (h2 : 4 ≤ i) (h : ∀ k (hk : k < (l.set i (emptyP id)).length), lonely (l.set i (emptyP id)) (l.set i (emptyP id))[k] = false) : gone l id = (l.set i (emptyP id), true) := by
  unfold gone
  rw [h1, if_neg (by omega)]
  simp only [Int.toNat_natCast]
  rw [if_neg (by
    rw [List.any_eq_true]
    rintro ⟨p, hp, h3⟩
    obtain ⟨k, hk, rfl⟩ := List.getElem_of_mem hp
    rw [h k hk] at h3
    cases h3)]

theorem six_at {w0 w : World} {B g : Nat} (h : Below B w0 w) (hb : B ≤ g) (o : Nat) (v0 v1 v2 v3 v4 v5 : Value) :
    Below B w0 ((((((w.setCell ⟨g, o, none⟩ v0).setCell ⟨g, o + 1, none⟩ v1).setCell ⟨g, o + 2, none⟩ v2).setCell ⟨g, o + 3, none⟩ v3).setCell ⟨g, o + 4, none⟩ v4).setCell ⟨g, o + 5, none⟩ v5) :=
  (((((h.setCell (p := ⟨g, o, none⟩) hb v0).setCell (p := ⟨g, o + 1, none⟩) hb v1).setCell (p := ⟨g, o + 2, none⟩) hb v2).setCell (p := ⟨g, o + 3, none⟩) hb v3).setCell (p := ⟨g, o + 4, none⟩) hb v4).setCell (p := ⟨g, o + 5, none⟩) hb v5

theorem blk_six {w : World} {b g : Nat} {cs : List Value} {t : TypeId} (h : Blk w b cs t) (hb : b ≠ g) (o : Nat) (v0 v1 v2 v3 v4 v5 : Value) :
    Blk ((((((w.setCell ⟨g, o, none⟩ v0).setCell ⟨g, o + 1, none⟩ v1).setCell ⟨g, o + 2, none⟩ v2).setCell ⟨g, o + 3, none⟩ v3).setCell ⟨g, o + 4, none⟩ v4).setCell ⟨g, o + 5, none⟩ v5) b cs t :=
  (((((h.other (p := ⟨g, o, none⟩) hb v0).other (p := ⟨g, o + 1, none⟩) hb v1).other (p := ⟨g, o + 2, none⟩) hb v2).other (p := ⟨g, o + 3, none⟩) hb v3).other (p := ⟨g, o + 4, none⟩) hb v4).other (p := ⟨g, o + 5, none⟩) hb v5

set_option maxRecDepth 100000 in
set_option maxHeartbeats 8000000 in
theorem specGone_calls (w : World) (v : Value) (l : List Pr) (id : Int) (hv : PeersAt w v l) (hl : l.length ≤ 1048576) (hsm : ∀ p ∈ l, Small p) :
    Calls Tryz.prog 72 #[.agg #[v], .int .i64 id] w fun e w' => ∃ v' fp, e = .returned (.tuple #[.agg #[v'], .bool (gone l id).2]) ∧ Owns w' v' (peersD T0 (gone l id).1) fp ∧ (∀ q ∈ fp, w.heap.size ≤ q) ∧ Below w.heap.size w w' := by
  obtain ⟨R, eR⟩ : ∃ R, R = gone l id := ⟨_, rfl⟩
  have HR1 : Hid (peerAt l id < 4 → R = (l, false)) := fun h => eR.trans (gone_few h)
  have HR2 : Hid (∀ i : Nat, peerAt l id = i → 4 ≤ i → ∀ k (hk : k < (l.set i (emptyP id)).length), lonely (l.set i (emptyP id)) (l.set i (emptyP id))[k] = true → R = (l, false)) := fun i h1 h2 k hk h => eR.trans (gone_lone h1 h2 hk h)
  have HR3 : Hid (∀ i : Nat, peerAt l id = i → 4 ≤ i → (∀ k (hk : k < (l.set i (emptyP id)).length), lonely (l.set i (emptyP id)) (l.set i (emptyP id))[k] = false) → R = (l.set i (emptyP id), true)) := fun i h1 h2 h => eR.trans (gone_ok h1 h2 h)
  rw [← eR]
  clear eR
  have HSM := hide hsm
  have HBL : Hid (∀ p ∈ l, p.behind.length ≤ 1048576) := fun p hp => (hsm p hp).b
  have hb1 := (Below.refl w.heap.size w).alloc (Nat.le_refl _) (.cells #[v] 28)
  have hb2 := hb1.alloc hb1.size (.cells #[.slice none 0 0] 28)
  have HV1 := hide (hv.below hb2 (Nat.le_refl _))
  have HV := hide hv
  obtain ⟨a, cap, rfl, -⟩ := hv.open_
  have A0 := Blk.new w #[.slice a l.length cap] 28
  have A1 := Blk.new (w.alloc (.cells #[.slice a l.length cap] 28)) #[.slice none 0 0] 28
  have hba := (Below.refl (w.alloc (.cells #[.slice a l.length cap] 28)).heap.size (w.alloc (.cells #[.slice a l.length cap] 28))).alloc (Nat.le_refl _) (.cells #[.slice none 0 0] 28)
  have A0' := A0.below hba A0.lt
  have e1 : (w.alloc (.cells #[.slice a l.length cap] 28)).heap.size = w.heap.size + 1 := by simp
  rw [e1] at A1
  have HB1 := hide hb2
  clear hv hsm hb1 hb2 hba A0 e1
  go_enter Tryz.func72, Tryz.ntmps72
  go_upto_region 1 with fail
  obtain ⟨s, es⟩ : ∃ s, s = w.heap.size := ⟨_, rfl⟩
  rw [← es] at A0' A1 ⊢
  have HS : Hid (w.heap.size = s) := es.symm
  clear es
  generalize (w.alloc (.cells #[.slice a l.length cap] 28)).alloc (.cells #[.slice none 0 0] 28) = w1 at *
  have c0 := blk_free_cell A0' 0 rfl
  have l0 := A0'.lt
  go_wp2_with fail
  refine (copyRing_calls w1 _ l HV1.out hl HSM.out).mono ?_
  rintro e wc ⟨v', fp, rfl, ho, hfp, hbc⟩
  obtain ⟨ao, co, rfl⟩ := peers_sl ho
  clear c0 l0
  go_upto_region 2 with fail
  have XO := Blk.new wc #[.slice ao l.length co] 28
  have hbo := (Below.refl wc.heap.size wc).alloc (Nat.le_refl _) (.cells #[.slice ao l.length co] 28)
  have hb13 := hbc.trans (hbo.mono hbc.size)
  have X0 := A0'.below hb13 A0'.lt
  have X1 := A1.below hb13 A1.lt
  have HB3 := hide (HB1.out.trans (hb13.mono HB1.out.size))
  have HO3 := hide (owns_below ho hbo)
  have hl1 := A1.lt
  have hlt := ho.lt
  obtain ⟨bo, ebo⟩ : ∃ b, b = wc.heap.size := ⟨_, rfl⟩
  rw [← ebo] at XO hlt ⊢
  have HFP : Hid (∀ q ∈ fp, s + 1 < q ∧ q < bo) := fun q hq => by
    have := hfp q hq
    have := hlt q hq
    omega
  have hso : s + 1 < bo := by have := hbc.size; omega
  clear ebo hbo hb13 A0' A1 HB1 HV1 ho hfp hbc hlt hl1
  generalize wc.alloc (.cells #[.slice ao l.length co] 28) = w3 at *
  have HC0 : Hid (∀ wx, Below w3.heap.size w3 wx → wx.cell? ⟨s, 0, none⟩ = some (.slice a l.length cap) ∧ s < wx.heap.size) := fun wx hb => ⟨blk_free_cell (X0.below hb X0.lt) 0 rfl, (X0.below hb X0.lt).lt⟩
  have HCO : Hid (∀ wx, Below w3.heap.size w3 wx → wx.cell? ⟨bo, 0, none⟩ = some (.slice ao l.length co) ∧ bo < wx.heap.size) := fun wx hb => ⟨blk_free_cell (XO.below hb XO.lt) 0 rfl, (XO.below hb XO.lt).lt⟩
  have HZ0 : Hid (∀ wx, Below w3.heap.size w3 wx → Blk wx s [.slice a l.length cap] 28) := fun wx hb => X0.below hb X0.lt
  have HZO : Hid (∀ wx, Below w3.heap.size w3 wx → Blk wx bo [.slice ao l.length co] 28) := fun wx hb => XO.below hb XO.lt
  have HX1 : Hid (∀ wx, Below w3.heap.size w3 wx → Blk wx (s + 1) [.slice none 0 0] 28) := fun wx hb => X1.below hb X1.lt
  have HVx : Hid (∀ wx, Below w3.heap.size w3 wx → PeersAt wx (.slice a l.length cap) l) := fun wx hb => HV.out.below (HB3.out.trans (hb.mono HB3.out.size)) (Nat.le_refl _)
  have HOx : Hid (∀ wx, Below w3.heap.size w3 wx → Owns wx (.slice ao l.length co) (peersD T0 l) fp) := fun wx hb => owns_below HO3.out hb
  have HBx : Hid (∀ wx, Below w3.heap.size w3 wx → Below w.heap.size w wx) := fun wx hb => HB3.out.trans (hb.mono HB3.out.size)
  clear X0 X1 XO HO3
  have hw3 := Below.refl w3.heap.size w3
  obtain ⟨c0, l0⟩ := HC0.out w3 hw3
  go_wp2_with fail
  refine (specPeerAt_calls w3 _ l id (HVx.out w3 hw3) hl).mono ?_
  rintro e w5 ⟨rfl, hw5⟩
  clear c0 l0 hw3
  have Y1 := HX1.out w5 hw5
  have y0 := blk_free_cell Y1 0 rfl
  have yf := Y1.free 0
  have yl := Y1.lt
  obtain ⟨cO, lO⟩ := HCO.out w5 hw5
  have hw0 := HS.out
  by_cases hno : peerAt l id < 4
  · have HR := hide (HR1.out hno)
    have HBw := hide (HBx.out w5 hw5)
    have HOw := hide (HOx.out w5 hw5)
    have hd : decide (peerAt l id < 4) = true := decide_eq_true hno
    clear HR1 HR2 HR3 hno
    generalize peerAt l id = pa at *
    go_wp2_with fail
    have Rd := Y1.set 0 (.slice ao l.length co)
    have x0 := blk_free_cell Rd 0 rfl
    refine bodyPost_ret (v := .tuple #[.agg #[.slice ao l.length co], .bool false]) (by simp [results, Tryz.results72, go_sem, x0]) rfl ⟨_, fp, by rw [HR.out], by rw [HR.out]; exact owns_set HOw.out (fun q hq => by have := HFP.out q hq; omega) _, fun q hq => by have := HFP.out q hq; omega, HBw.out.setCell (p := ⟨s + 1, 0, none⟩) (by show _ ≤ s + 1; omega) _⟩
  · obtain ⟨i, hi, hpi⟩ : ∃ i : Nat, ∃ _ : i < l.length, peerAt l id = i := (peerAt_lt l id).resolve_left (by omega)
    have hi4 : 4 ≤ i := by omega
    have HRL := hide (HR2.out i hpi hi4)
    have HRO := hide (HR3.out i hpi hi4)
    obtain ⟨go, co', esh⟩ := peers_shape (HOx.out w5 hw5) (by omega)
    cases esh
    have hd : decide ((i : Int) < 4) = false := decide_eq_false (by omega)
    rw [hpi]
    clear HR1 HR2 HR3 hno hpi
    -- it goes
    have HP5 := HOx.out w5 hw5
    obtain ⟨⟨s0, k0⟩, q0, hlg, hmem⟩ := peer_cell HP5 hi (j := 0) (by decide)
    obtain ⟨⟨s1, k1⟩, q1, -, -⟩ := peer_cell HP5 hi (j := 1) (by decide)
    obtain ⟨⟨s2, k2⟩, q2, -, -⟩ := peer_cell HP5 hi (j := 2) (by decide)
    obtain ⟨⟨s3, k3⟩, q3, -, -⟩ := peer_cell HP5 hi (j := 3) (by decide)
    obtain ⟨⟨s4, k4⟩, q4, -, -⟩ := peer_cell HP5 hi (j := 4) (by decide)
    obtain ⟨⟨s5, k5⟩, q5, -, -⟩ := peer_cell HP5 hi (j := 5) (by decide)
    simp only [Nat.add_zero] at k0 q0
    have hgo := HFP.out go hmem
    obtain ⟨fq, HPq, hfq⟩ := put_empty HP5 hi id
    have HBq := hide (six_at (HBx.out w5 hw5) (g := go) (by omega) (i * 6) (.int .i64 id) (.bool false) (.int .i64 0) (.slice none 0 0) (.slice none 0 0) (.slice none 0 0))
    have Q0 := blk_six (HZ0.out w5 hw5) (g := go) (by omega) (i * 6) (.int .i64 id) (.bool false) (.int .i64 0) (.slice none 0 0) (.slice none 0 0) (.slice none 0 0)
    have QO := blk_six (HZO.out w5 hw5) (g := go) (by omega) (i * 6) (.int .i64 id) (.bool false) (.int .i64 0) (.slice none 0 0) (.slice none 0 0) (.slice none 0 0)
    have Q1 := blk_six Y1 (g := go) (by omega) (i * 6) (.int .i64 id) (.bool false) (.int .i64 0) (.slice none 0 0) (.slice none 0 0) (.slice none 0 0)
    have HFq : Hid (∀ q ∈ fq, s + 1 < q ∧ q ≠ bo) := fun q hq => by have := HFP.out q (hfq q hq); omega
    have HPQ := hide HPq
    have hLl : (l.set i (emptyP id)).length = l.length := by simp
    have HLB : Hid (∀ p ∈ l.set i (emptyP id), p.behind.length ≤ 1048576) := fun p hp => by
      rcases List.mem_or_eq_of_mem_set hp with h | h
      · exact HBL.out p h
      · rw [h]; simp [emptyP]
    clear HP5 hfq HPq hmem HZ0 HZO HX1 HOx HVx HC0 HCO HBx
    go_upto_region 6 with fail
    clear k0 k1 k2 k3 k4 k5 q0 q1 q2 q3 q4 q5 y0 yf yl cO lO hlg hw5 Y1
    generalize (((((w5.setCell ⟨go, i * 6, none⟩ (.int .i64 id)).setCell ⟨go, i * 6 + 1, none⟩ (.bool false)).setCell ⟨go, i * 6 + 2, none⟩ (.int .i64 0)).setCell ⟨go, i * 6 + 3, none⟩ (.slice none 0 0)).setCell ⟨go, i * 6 + 4, none⟩ (.slice none 0 0)).setCell ⟨go, i * 6 + 5, none⟩ (.slice none 0 0) = w6 at *
    generalize l.set i (emptyP id) = L at *
    have hZ0 := hide Q0
    have hZO := hide QO
    have hZ1 := hide Q1
    have hlO := QO.lt
    clear Q0 QO Q1
    go_wp2_with fail
    go_loopw [8] (fun iv wr => ∃ k : Nat, k ≤ L.length ∧ iv = .int .i64 k ∧ Hid (∀ j (hj : j < L.length), j < k → lonely L L[j] = false) ∧ Hid (Below w6.heap.size w6 wr)) (fun iv _ => L.length - (intOf iv).toNat)
    case atStart => exact ⟨0, Nat.zero_le _, rfl, fun j hj h => by omega, Below.refl _ _⟩
    case round =>
      obtain ⟨k, hk, rfl, HN, HBr⟩ := hrel
      have X0 := hZ0.out.below HBr.out hZ0.out.lt
      have XO := hZO.out.below HBr.out hZO.out.lt
      have X1 := hZ1.out.below HBr.out hZ1.out.lt
      have HPr := hide (owns_below HPQ.out HBr.out)
      have HBw := hide (HBq.out.trans (HBr.out.mono HBq.out.size))
      have cO := blk_free_cell XO 0 rfl
      have lO := XO.lt
      by_cases hlt : k < L.length
      · have HVr : Hid (PeersAt wr (.slice (some ⟨go, 0, none⟩) l.length co) L) := ⟨_, HPr.out.reads⟩
        obtain ⟨ax, cx, hax, HA⟩ := HVr.out.open_
        rw [hLl] at hax
        cases hax
        obtain ⟨g', off', u3, u4, u5, e', hg', hc⟩ := HA k hlt
        cases e'
        have f0 := hc.id
        have f1 := hc.here
        have HRk := hide (HRL.out k hlt)
        have HNx := hide (fun h : lonely L L[k] = false => fun j (hj : j < L.length) (h1 : j < k + 1) => (by
          rcases Nat.lt_or_ge j k with h2 | h2
          · exact HN.out j hj h2
          · obtain rfl : j = k := by omega
            exact h : lonely L L[j] = false))
        have HLO : Hid (lonely L L[k] = (L[k].here && decide (nextOf L L[k].id < 0))) := rfl
        have n0 : ∀ p : Near wr.heap.size wr, p.w.cell? ⟨bo, 0, none⟩ = some (.slice (some ⟨go, 0, none⟩) l.length co) := fun p => by rw [(XO.below p.h XO.lt).cell 0]; rfl
        have n1 : ∀ p : Near wr.heap.size wr, p.w.cell? ⟨go, 0 + k * 6, none⟩ = some (.int .i64 L[k].id) := fun p => (p.h.cell (p := ⟨go, 0 + k * 6, none⟩) hg').trans f0
        have n2 : ∀ p : Near wr.heap.size wr, p.w.cell? ⟨go, 0 + k * 6 + 1, none⟩ = some (.bool L[k].here) := fun p => (p.h.cell (p := ⟨go, 0 + k * 6 + 1, none⟩) hg').trans f1
        simp only [Nat.zero_add] at n1 n2
        have hnn := Near.some wr.heap.size wr
        clear HA hc HN f0 f1
        generalize L[k].id = x at *
        generalize L[k].here = hh at *
        generalize lonely L L[k] = lo at *
        have HNO := hide (fun p : Near wr.heap.size wr => specNext_calls p.w _ L x (HVr.out.below p.h (Nat.le_refl _)) (by rw [hLl]; exact hl) HLB.out)
        have hltl : k < l.length := by omega
        cases hh with
        | false =>
          have HL1 := hide (HNx.out (by rw [HLO.out]; rfl))
          clear HNx HRk HLO HRL HRO HNO
          go_upto_region 9 with fail
          refine wp_region_near wr.heap.size wr (Below.refl _ _) (by kernel_rfl) (by kernel_rfl) ?_
          repeat (go_big_quiet_step (fail))
          refine wpQuiet_nil ?_
          rintro w7 ⟨pq, rfl⟩
          have HBy := hide (HBr.out.trans (pq.h.mono HBr.out.size))
          clear n0 n1 n2 hnn
          go_wp2_with fail
          go_roundw
          case rel => exact ⟨k + 1, by omega, by go_num, HL1.out, HBy.out⟩
          case measure => simp [intOf]; omega
        | true =>
          by_cases hnx : nextOf L x < 0
          · have HR := hide (HRk.out (by rw [HLO.out, decide_eq_true hnx]; rfl))
            have hdn : decide (nextOf L x < 0) = true := decide_eq_true hnx
            clear HNx HRk HLO HRL HRO hnx
            generalize nextOf L x = nx at *
            go_upto_region 9 with fail
            refine wp_region_near wr.heap.size wr (Below.refl _ _) (by kernel_rfl) (by kernel_rfl) ?_
            repeat (go_big_quiet_step (fail))
            go_big_quiet_step (exact calls_near (Nat.le_refl _) (HNO.out _))
            repeat (go_big_quiet_step (fail))
            refine wpQuiet_nil ?_
            rintro w7 ⟨pq, rfl⟩
            have HBy := hide (HBw.out.trans (pq.h.mono HBw.out.size))
            have Y0 := X0.below pq.h X0.lt
            have Y1 := X1.below pq.h X1.lt
            have HVy := hide (HV.out.below HBy.out (Nat.le_refl _))
            have c0 := blk_free_cell Y0 0 rfl
            have l0 := Y0.lt
            have HCP := hide (copyRing_calls pq.w _ l HVy.out hl HSM.out)
            clear n0 n1 n2 hnn HNO HVr HPr X0 X1 XO cO lO
            go_wp2_with fail
            refine HCP.out.mono ?_
            rintro e w8 ⟨v8, f8, rfl, ho8, hf8, hb8⟩
            obtain ⟨a8, c8, rfl⟩ := peers_sl ho8
            have HB8 := hide (HBy.out.trans (hb8.mono HBy.out.size))
            have Z1 := Y1.below hb8 Y1.lt
            have y0 := blk_free_cell Z1 0 rfl
            have yf := Z1.free 0
            have yl := Z1.lt
            have hy1 := Y1.lt
            have HO8 := hide ho8
            have HF8 : Hid (∀ q ∈ f8, s + 1 < q) := fun q hq => by have := hf8 q hq; omega
            clear HCP hb8 ho8 hf8 c0 l0 HBy HVy
            go_wp2_with fail
            have Rd := Z1.set 0 (.slice a8 l.length c8)
            have x0 := blk_free_cell Rd 0 rfl
            refine bodyPost_ret (v := .tuple #[.agg #[.slice a8 l.length c8], .bool false]) (by simp [results, Tryz.results72, go_sem, x0]) rfl ⟨_, f8, by rw [HR.out], by rw [HR.out]; exact owns_set HO8.out (fun q hq => by have := HF8.out q hq; omega) _, fun q hq => by have := HF8.out q hq; omega, HB8.out.setCell (p := ⟨s + 1, 0, none⟩) (by show _ ≤ s + 1; omega) _⟩
          · have HL1 := hide (HNx.out (by rw [HLO.out, decide_eq_false hnx]; rfl))
            have hdn : decide (nextOf L x < 0) = false := decide_eq_false hnx
            clear HNx HRk HLO HRL HRO hnx
            generalize nextOf L x = nx at *
            go_upto_region 9 with fail
            refine wp_region_near wr.heap.size wr (Below.refl _ _) (by kernel_rfl) (by kernel_rfl) ?_
            repeat (go_big_quiet_step (fail))
            go_big_quiet_step (exact calls_near (Nat.le_refl _) (HNO.out _))
            repeat (go_big_quiet_step (fail))
            refine wpQuiet_nil ?_
            rintro w7 ⟨pq, rfl⟩
            have HBy := hide (HBr.out.trans (pq.h.mono HBr.out.size))
            clear n0 n1 n2 hnn
            go_wp2_with fail
            go_roundw
            case rel => exact ⟨k + 1, by omega, by go_num, HL1.out, HBy.out⟩
            case measure => simp [intOf]; omega
      · obtain rfl : k = L.length := by omega
        have HR := hide (HRO.out (fun j hj => HN.out j hj hj))
        have y0 := blk_free_cell X1 0 rfl
        have yf := X1.free 0
        have yl := X1.lt
        clear HRL HRO HN
        go_wp2_with fail
        have Rd := X1.set 0 (.slice (some ⟨go, 0, none⟩) l.length co)
        have x0 := blk_free_cell Rd 0 rfl
        refine bodyPost_ret (v := .tuple #[.agg #[.slice (some ⟨go, 0, none⟩) l.length co], .bool true]) (by simp [results, Tryz.results72, go_sem, x0]) rfl ⟨_, fq, by rw [HR.out], by rw [HR.out]; exact owns_set HPr.out (fun q hq => by have := HFq.out q hq; omega) _, fun q hq => by have := HFq.out q hq; omega, HBw.out.setCell (p := ⟨s + 1, 0, none⟩) (by show _ ≤ s + 1; omega) _⟩
end Go.Proofs.YteladljgnbfcnaaGreat.P9
namespace Go.Proofs.YteladljgnbfcnaaGreat.P9
open Go.RowKit P1 P8 Da

/-- The last one of the first k that has the Id and is not there. -/
def freeAt (l : List Pr) (id : Int) : Nat → Int
  | 0 => -1
  | k + 1 => match l[k]? with
    | some p => if p.id = id ∧ p.here = false then k else freeAt l id k
    | none => freeAt l id k

theorem freeAt_lt (l : List Pr) (id : Int) : ∀ k, freeAt l id k = -1 ∨ ∃ i : Nat, ∃ h : i < l.length, freeAt l id k = i ∧ i < k ∧ l[i].id = id ∧ l[i].here = false := by
  intro k
  induction k with
  | zero => exact .inl rfl
  | succ k ih =>
    unfold freeAt
    cases hk : l[k]? with
    | none =>
      rcases ih with h | ⟨i, h, h1, h2, h3⟩
      · exact .inl h
      · exact .inr ⟨i, h, h1, by omega, h3⟩
    | some p =>
      obtain ⟨hlt, rfl⟩ := List.getElem?_eq_some_iff.1 hk
      by_cases hp : l[k].id = id ∧ l[k].here = false
      · exact .inr ⟨k, hlt, by simp only [if_pos hp], by omega, hp⟩
      · simp only [if_neg hp]
        rcases ih with h | ⟨i, h, h1, h2, h3⟩
        · exact .inl h
        · exact .inr ⟨i, h, h1, by omega, h3⟩

theorem freeAt_step {l : List Pr} {id : Int} {k : Nat} (hk : k < l.length) : freeAt l id (k + 1) = if l[k].id = id ∧ l[k].here = false then (k : Int) else freeAt l id k := by
  show (match l[k]? with | some p => if p.id = id ∧ p.here = false then (k : Int) else freeAt l id k | none => freeAt l id k) = _
  rw [List.getElem?_eq_getElem hk]

/-- One who has just come, behind n. -/
def newP (l : List Pr) (id n : Int) : Pr := ⟨id, true, -1, behindBut l n id, List.replicate 8 (-1), []⟩

def joined (l : List Pr) (id by_ : Int) : List Pr × Bool :=
  match find l by_ id with
  | none => (l, false)
  | some (n, _) =>
    if freeAt l id l.length < 0 ∨ 0 ≤ peerAt l id ∨ peerAt l n < 0 then (l, false)
    else (l.set (freeAt l id l.length).toNat (newP l id n), true)

def fingerOf (l : List Pr) (id : Int) (k : Nat) : Int := match find l id (id + 2 ^ k) with | none => -1 | some (x, _) => x

def fingered (l : List Pr) (id : Int) : List Pr × Bool :=
  if peerAt l id < 0 then (l, false)
  else (setFingers l (peerAt l id).toNat ((List.range 8).map (fingerOf l id)), true)

/-! The Ids stay. -/
def idsOf (l : List Pr) : List Int := l.map (·.id)

theorem ids_set {l : List Pr} {i : Nat} (hi : i < l.length) {p : Pr} (h : p.id = l[i].id) : idsOf (l.set i p) = idsOf l := by
  unfold idsOf
  rw [List.map_set, h]
  apply List.ext_getElem (by simp)
  intro n h1 h2
  rw [List.getElem_set]
  split
  · rename_i e
    subst e
    simp
  · rfl

theorem ids_modify {l : List Pr} {i : Nat} {f : Pr → Pr} (h : ∀ p, (f p).id = p.id) : idsOf (l.modify i f) = idsOf l := by
  rcases Nat.lt_or_ge i l.length with hi | hi
  · rw [modify_set f l i hi]
    exact ids_set hi (h _)
  · rw [List.modify_eq_self hi]

theorem ids_behind (l : List Pr) (i : Nat) (b : List Int) : idsOf (setBehind l i b) = idsOf l := ids_modify (f := fun p => { p with behind := b }) fun _ => rfl
theorem ids_ahead (l : List Pr) (i : Nat) (a : Int) : idsOf (setAhead l i a) = idsOf l := ids_modify (f := fun p => { p with ahead := a }) fun _ => rfl
theorem ids_fingers (l : List Pr) (i : Nat) (b : List Int) : idsOf (setFingers l i b) = idsOf l := ids_modify (f := fun p => { p with fingers := b }) fun _ => rfl

theorem peerAt_id {l : List Pr} {id : Int} {i : Nat} (h : peerAt l id = i) : ∃ hi : i < l.length, l[i].here = true ∧ l[i].id = id := by
  unfold peerAt at h
  cases hf : l.findIdx? fun p => p.here && (p.id == id) with
  | none => rw [hf] at h; simp at h
  | some j =>
    rw [hf] at h
    simp at h
    have e : j = i := by omega
    subst e
    obtain ⟨hlt, h1, _⟩ := List.findIdx?_eq_some_iff_getElem.1 hf
    simp only [Bool.and_eq_true, beq_iff_eq] at h1
    exact ⟨hlt, h1⟩

theorem ids_gone (l : List Pr) (id : Int) : idsOf (gone l id).1 = idsOf l := by
  unfold gone
  split
  · rfl
  · rename_i h
    rcases peerAt_lt l id with hp | ⟨i, hi, hp⟩
    · omega
    · obtain ⟨_, _, hid⟩ := peerAt_id hp
      split
      · rfl
      · rw [hp]
        exact ids_set hi hid.symm

theorem ids_settle (l : List Pr) (id : Int) : idsOf (settle l id).1 = idsOf l := by
  unfold settle
  split
  · rfl
  · dsimp only
    split
    · exact (ids_ahead _ _ _).trans (ids_behind _ _ _)
    · exact ids_behind _ _ _

theorem ids_joined (l : List Pr) (id by_ : Int) : idsOf (joined l id by_).1 = idsOf l := by
  unfold joined
  split
  · rfl
  · split
    · rfl
    · rename_i h
      rcases freeAt_lt l id l.length with hp | ⟨i, hi, hp, -, hid, -⟩
      · omega
      · rw [hp]
        exact ids_set hi hid.symm

theorem ids_fingered (l : List Pr) (id : Int) : idsOf (fingered l id).1 = idsOf l := by
  unfold fingered
  split
  · rfl
  · exact ids_fingers _ _ _

theorem len_ids {l m : List Pr} (h : idsOf l = idsOf m) : l.length = m.length := by
  have := congrArg List.length h
  simpa [idsOf] using this

/-- Everybody of the ring is on it, there or not. -/
theorem on_ids {l : List Pr} (h : ∀ x ∈ idsOf l, onR x = true) : OnRing l := fun _ hp _ => h _ (List.mem_map_of_mem hp)

/-! The lists stay short. -/
theorem behindBut_len (l : List Pr) (n but : Int) : (behindBut l n but).length ≤ 3 := by
  unfold behindBut
  exact List.length_take_le _ _

end Go.Proofs.YteladljgnbfcnaaGreat.P9
