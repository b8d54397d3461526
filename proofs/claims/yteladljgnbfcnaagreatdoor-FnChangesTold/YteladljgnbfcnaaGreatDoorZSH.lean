/- The program's Gone; condition: a drawn ring, the error as it was laid.
The program's Fingered; condition: a drawn ring, the error as it was laid.
The program's Settle; condition: a drawn ring, the error as it was laid.
The program's Joined; condition: a drawn ring, the error as it was laid. -/
import Derived.Test.YteladljgnbfcnaaGreatDoorZSF
import Derived.Test.YteladljgnbfcnaaGreatDoorZRT
import Derived.Test.YteladljgnbfcnaaGreatDoorZSG
namespace Go.Proofs.YteladljgnbfcnaaGreatDoor.P9
set_option maxRecDepth 8000
open Go.RowKit P1 P8 Da Mp Ap Rr Rc

theorem gone_false {l : List Pr} {id : Int} (h : (gone l id).2 = false) : (gone l id).1 = l := by
  revert h
  unfold gone
  try dsimp only
  repeat' (first | split | (intro h; first | rfl | exact absurd (show true = false from h) (by decide)))

set_option maxHeartbeats 2000000 in
theorem goneC (W : World) (aE : Addr) (hS : Er.Sen1 W 0 aE) : GoneC W := by
  intro w v l id hW hv hx
  obtain ⟨a, cap, hsh, -⟩ := hv.open_
  subst hsh
  have hb1 := (Below.refl w.heap.size w).alloc (Nat.le_refl _) (.cells #[.slice a l.length cap] 26)
  have hb2 := hb1.alloc hb1.size (.cells #[.int .i64 id] 3)
  have hb3 := hb2.alloc hb2.size (.cells #[.slice none 0 0] 26)
  have hn (wq : World) (o : Obj) : Below wq.heap.size wq (wq.alloc o) := (Below.refl _ _).alloc (Nat.le_refl _) o
  have A0 := Blk.new w #[.slice a l.length cap] 26
  have A1 := Blk.new (w.alloc (.cells #[.slice a l.length cap] 26)) #[.int .i64 id] 3
  have A2 := Blk.new ((w.alloc (.cells #[.slice a l.length cap] 26)).alloc (.cells #[.int .i64 id] 3)) #[.slice none 0 0] 26
  have A0' := A0.below (hn _ (.cells #[.int .i64 id] 3)) A0.lt
  have A0'' := A0'.below (hn _ (.cells #[.slice none 0 0] 26)) A0'.lt
  have A1' := A1.below (hn _ (.cells #[.slice none 0 0] 26)) A1.lt
  have e1 : (w.alloc (.cells #[.slice a l.length cap] 26)).heap.size = w.heap.size + 1 := by simp
  have e2 : ((w.alloc (.cells #[.slice a l.length cap] 26)).alloc (.cells #[.int .i64 id] 3)).heap.size = w.heap.size + 1 + 1 := by simp
  rw [e1] at A1'
  rw [e2] at A2
  have HV := hide (hv.below hb3 (Nat.le_refl _))
  have HW := hide (hW.trans (hb3.mono hW.size))
  have HB := hide hb3
  have HX := hide hx
  have hW0 := hW.size
  clear hv hW hx hb1 hb2 hb3 A0 A0' A1 hn e1 e2
  go_enter Tryz.func9, Tryz.ntmps9
  go_upto_region 1 with fail
  obtain ⟨s, es⟩ : ∃ s, s = w.heap.size := ⟨_, rfl⟩
  rw [← es] at A0'' A1' A2 ⊢
  have HSs : Hid (w.heap.size = s) := es.symm
  clear es
  generalize ((w.alloc (.cells #[.slice a l.length cap] 26)).alloc (.cells #[.int .i64 id] 3)).alloc (.cells #[.slice none 0 0] 26) = w3 at *
  have hq1 : w3.cell? ⟨s + 1, 0, none⟩ = some (.int .i64 id) := blk_free_cell A1' 0 rfl
  have hl1 := A1'.lt
  have hl2 := A2.lt
  have HC := hide (changed_calls W aE hS w3 HW.out _ l (gone l id).1 (gone l id).2 HV.out HX.out.len HX.out.small 35 #[.pointer (some ⟨s + 1, 0, none⟩)] (run_enter Tryz.func35 (by kernel_rfl) (by kernel_rfl))
    (fun wx vx fp hb ho hf => goneFn_calls W aE hS wx (HW.out.trans (hb.mono HW.out.size)) vx l id (s + 1) ((hb.cell (p := ⟨s + 1, 0, none⟩) hl1).trans hq1) fp ho (fun q hq => Nat.le_trans HW.out.size (hf q hq)) HX.out))
  have hfl : (if (gone l id).2 = true then (gone l id).1 else l) = (gone l id).1 := by
    cases h : (gone l id).2 with
    | true => rfl
    | false => rw [gone_false h]; rfl
  rw [hfl] at HC
  have k0 := blk_free_cell A0'' 0 rfl
  have kl := A0''.lt
  have HA2 := hide A2
  clear A0'' A1' A2 hq1 hl1 hS hfl
  go_wp2_with fail
  refine HC.out.mono ?_
  rintro e w4 ⟨v4, fp, rfl, ho4, hf4, hb4⟩
  obtain ⟨a4, n4, c4, hsh⟩ : ∃ a n c, v4 = .slice a n c := by
    obtain ⟨a, c, h⟩ := peers_sl ho4
    exact ⟨_, _, _, h⟩
  subst hsh
  have G2 := HA2.out.below hb4 HA2.out.lt
  have HBE := hide (HB.out.trans (hb4.mono HB.out.size))
  have HO4 := hide ho4
  have HF4 : Hid (∀ q ∈ fp, s + 1 + 1 < q) := fun q hq => Nat.lt_of_lt_of_le hl2 (hf4 q hq)
  have z0 := blk_free_cell G2 0 rfl
  have y0 := G2.free 0
  have zl := G2.lt
  clear hb4 ho4 hf4 HC HA2 k0 kl HV HW HB
  go_wp2_with fail
  have Rd := G2.set 0 (.slice a4 n4 c4)
  have x0 := blk_free_cell Rd 0 rfl
  refine bodyPost_ret (v := .tuple #[.agg #[.slice a4 n4 c4], .bool (gone l id).2]) (by simp [results, Tryz.results9, go_sem, x0]) rfl ⟨_, fp, rfl, owns_set HO4.out (fun q hq => by have := HF4.out q hq; omega) _, fun q hq => by have := HF4.out q hq; have := HSs.out; omega, HBE.out.setCell (p := ⟨s + 1 + 1, 0, none⟩) (by have := HSs.out; show _ ≤ s + 1 + 1; omega) _⟩
end Go.Proofs.YteladljgnbfcnaaGreatDoor.P9
namespace Go.Proofs.YteladljgnbfcnaaGreatDoor.P9
set_option maxRecDepth 8000
open Go.RowKit P1 P8 Da Mp Ap Rr Rc

theorem fingered_false {l : List Pr} {id : Int} (h : (fingered l id).2 = false) : (fingered l id).1 = l := by
  revert h
  unfold fingered
  try dsimp only
  repeat' (first | split | (intro h; first | rfl | exact absurd (show true = false from h) (by decide)))

set_option maxHeartbeats 1000000 in
theorem fingeredFn_calls (W : World) (aE : Addr) (hS : Er.Sen1 W 0 aE) (w : World) (hW : Below W.heap.size W w) (v : Value) (l : List Pr) (id : Int) (b : Nat) (hb : w.cell? ⟨b, 0, none⟩ = some (.int .i64 id)) (fp : List Nat) (ho : Owns w v (peersD T0 l) fp) (hx : RingX l) :
    Calls Tryz.prog 39 #[.agg #[v], .pointer (some ⟨b, 0, none⟩)] w fun e w' => Outcome aE fp w v (fingered l id).1 (fingered l id).2 e w' := by
  obtain ⟨a, c, hsh⟩ := peers_sl ho
  subst hsh
  have hb1 := (Below.refl w.heap.size w).alloc (Nat.le_refl _) (.cells #[.slice a l.length c] 26)
  have G := Blk.new w #[.slice a l.length c] 26
  have HD := hide (finger_calls W aE hS (w.alloc (.cells #[.slice a l.length c] 26)) (hW.trans (hb1.mono hW.size)) _ l id fp (owns_below ho hb1) hx)
  have hbl := cell_lt' hb
  have hb2 := (hb1.cell (p := ⟨b, 0, none⟩) hbl).trans hb
  have hbl2 := cell_lt' hb2
  have HON := hide (Only.of_below (fp := fp) hb1)
  have HSZ : Hid (w.heap.size ≤ (w.alloc (.cells #[.slice a l.length c] 26)).heap.size) := hb1.size
  clear hb hbl ho hx hW hS hb1
  go_enter Tryz.func39, Tryz.ntmps39
  go_upto_region 1 with fail
  obtain ⟨b0, e0⟩ : ∃ b, b = w.heap.size := ⟨_, rfl⟩
  rw [← e0] at G ⊢
  clear e0
  generalize w.alloc (.cells #[.slice a l.length c] 26) = w1 at *
  have k0 := blk_free_cell G 0 rfl
  have kl := G.lt
  clear G
  go_wp2_with fail
  refine HD.out.mono ?_
  rintro e w2 h2
  cases hok : (fingered l id).2 with
  | false =>
    obtain rfl := h2.no hok
    go_wp2_with fail
    go_ret
    exact ⟨HON.out.trans h2.only, fun _ => rfl, fun h => by rw [hok] at h; cases h⟩
  | true =>
    obtain ⟨he, fp', h3, h4⟩ := h2.yes hok
    subst he
    go_wp2_with fail
    go_ret
    exact ⟨HON.out.trans h2.only, (fun h => by rw [hok] at h; cases h), fun _ => ⟨rfl, fp', h3, fun q hq => (h4 q hq).imp (fun h => h) (fun h => Nat.le_trans HSZ.out h)⟩⟩
set_option maxHeartbeats 2000000 in
theorem fingeredC (W : World) (aE : Addr) (hS : Er.Sen1 W 0 aE) : FingeredC W := by
  intro w v l id hW hv hx
  obtain ⟨a, cap, hsh, -⟩ := hv.open_
  subst hsh
  have hb1 := (Below.refl w.heap.size w).alloc (Nat.le_refl _) (.cells #[.slice a l.length cap] 26)
  have hb2 := hb1.alloc hb1.size (.cells #[.int .i64 id] 3)
  have hb3 := hb2.alloc hb2.size (.cells #[.slice none 0 0] 26)
  have hn (wq : World) (o : Obj) : Below wq.heap.size wq (wq.alloc o) := (Below.refl _ _).alloc (Nat.le_refl _) o
  have A0 := Blk.new w #[.slice a l.length cap] 26
  have A1 := Blk.new (w.alloc (.cells #[.slice a l.length cap] 26)) #[.int .i64 id] 3
  have A2 := Blk.new ((w.alloc (.cells #[.slice a l.length cap] 26)).alloc (.cells #[.int .i64 id] 3)) #[.slice none 0 0] 26
  have A0' := A0.below (hn _ (.cells #[.int .i64 id] 3)) A0.lt
  have A0'' := A0'.below (hn _ (.cells #[.slice none 0 0] 26)) A0'.lt
  have A1' := A1.below (hn _ (.cells #[.slice none 0 0] 26)) A1.lt
  have e1 : (w.alloc (.cells #[.slice a l.length cap] 26)).heap.size = w.heap.size + 1 := by simp
  have e2 : ((w.alloc (.cells #[.slice a l.length cap] 26)).alloc (.cells #[.int .i64 id] 3)).heap.size = w.heap.size + 1 + 1 := by simp
  rw [e1] at A1'
  rw [e2] at A2
  have HV := hide (hv.below hb3 (Nat.le_refl _))
  have HW := hide (hW.trans (hb3.mono hW.size))
  have HB := hide hb3
  have HX := hide hx
  have hW0 := hW.size
  clear hv hW hx hb1 hb2 hb3 A0 A0' A1 hn e1 e2
  go_enter Tryz.func11, Tryz.ntmps11
  go_upto_region 1 with fail
  obtain ⟨s, es⟩ : ∃ s, s = w.heap.size := ⟨_, rfl⟩
  rw [← es] at A0'' A1' A2 ⊢
  have HSs : Hid (w.heap.size = s) := es.symm
  clear es
  generalize ((w.alloc (.cells #[.slice a l.length cap] 26)).alloc (.cells #[.int .i64 id] 3)).alloc (.cells #[.slice none 0 0] 26) = w3 at *
  have hq1 : w3.cell? ⟨s + 1, 0, none⟩ = some (.int .i64 id) := blk_free_cell A1' 0 rfl
  have hl1 := A1'.lt
  have hl2 := A2.lt
  have HC := hide (changed_calls W aE hS w3 HW.out _ l (fingered l id).1 (fingered l id).2 HV.out HX.out.len HX.out.small 39 #[.pointer (some ⟨s + 1, 0, none⟩)] (run_enter Tryz.func39 (by kernel_rfl) (by kernel_rfl))
    (fun wx vx fp hb ho _ => fingeredFn_calls W aE hS wx (HW.out.trans (hb.mono HW.out.size)) vx l id (s + 1) ((hb.cell (p := ⟨s + 1, 0, none⟩) hl1).trans hq1) fp ho HX.out))
  have hfl : (if (fingered l id).2 = true then (fingered l id).1 else l) = (fingered l id).1 := by
    cases h : (fingered l id).2 with
    | true => rfl
    | false => rw [fingered_false h]; rfl
  rw [hfl] at HC
  have k0 := blk_free_cell A0'' 0 rfl
  have kl := A0''.lt
  have HA2 := hide A2
  clear A0'' A1' A2 hq1 hl1 hS hfl
  go_wp2_with fail
  refine HC.out.mono ?_
  rintro e w4 ⟨v4, fp, rfl, ho4, hf4, hb4⟩
  obtain ⟨a4, n4, c4, hsh⟩ : ∃ a n c, v4 = .slice a n c := by
    obtain ⟨a, c, h⟩ := peers_sl ho4
    exact ⟨_, _, _, h⟩
  subst hsh
  have G2 := HA2.out.below hb4 HA2.out.lt
  have HBE := hide (HB.out.trans (hb4.mono HB.out.size))
  have HO4 := hide ho4
  have HF4 : Hid (∀ q ∈ fp, s + 1 + 1 < q) := fun q hq => Nat.lt_of_lt_of_le hl2 (hf4 q hq)
  have z0 := blk_free_cell G2 0 rfl
  have y0 := G2.free 0
  have zl := G2.lt
  clear hb4 ho4 hf4 HC HA2 k0 kl HV HW HB
  go_wp2_with fail
  have Rd := G2.set 0 (.slice a4 n4 c4)
  have x0 := blk_free_cell Rd 0 rfl
  refine bodyPost_ret (v := .tuple #[.agg #[.slice a4 n4 c4], .bool (fingered l id).2]) (by simp [results, Tryz.results11, go_sem, x0]) rfl ⟨_, fp, rfl, owns_set HO4.out (fun q hq => by have := HF4.out q hq; omega) _, fun q hq => by have := HF4.out q hq; have := HSs.out; omega, HBE.out.setCell (p := ⟨s + 1 + 1, 0, none⟩) (by have := HSs.out; show _ ≤ s + 1 + 1; omega) _⟩
end Go.Proofs.YteladljgnbfcnaaGreatDoor.P9
namespace Go.Proofs.YteladljgnbfcnaaGreatDoor.P9
set_option maxRecDepth 8000
open Go.RowKit P1 P8 Da Mp Ap Rr Rc

theorem settle_false {l : List Pr} {id : Int} (h : (settle l id).2 = false) : (settle l id).1 = l := by
  revert h
  unfold settle
  try dsimp only
  repeat' (first | split | (intro h; first | rfl | exact absurd (show true = false from h) (by decide)))

set_option maxHeartbeats 1000000 in
theorem settleFn_calls (W : World) (aE : Addr) (hS : Er.Sen1 W 0 aE) (w : World) (hW : Below W.heap.size W w) (v : Value) (l : List Pr) (id : Int) (b : Nat) (hb : w.cell? ⟨b, 0, none⟩ = some (.int .i64 id)) (fp : List Nat) (ho : Owns w v (peersD T0 l) fp) (hx : RingX l) :
    Calls Tryz.prog 37 #[.agg #[v], .pointer (some ⟨b, 0, none⟩)] w fun e w' => Outcome aE fp w v (settle l id).1 (settle l id).2 e w' := by
  obtain ⟨a, c, hsh⟩ := peers_sl ho
  subst hsh
  have hb1 := (Below.refl w.heap.size w).alloc (Nat.le_refl _) (.cells #[.slice a l.length c] 26)
  have G := Blk.new w #[.slice a l.length c] 26
  have HD := hide (settleI_calls W aE hS (w.alloc (.cells #[.slice a l.length c] 26)) (hW.trans (hb1.mono hW.size)) _ l id fp (owns_below ho hb1) hx)
  have hbl := cell_lt' hb
  have hb2 := (hb1.cell (p := ⟨b, 0, none⟩) hbl).trans hb
  have hbl2 := cell_lt' hb2
  have HON := hide (Only.of_below (fp := fp) hb1)
  have HSZ : Hid (w.heap.size ≤ (w.alloc (.cells #[.slice a l.length c] 26)).heap.size) := hb1.size
  clear hb hbl ho hx hW hS hb1
  go_enter Tryz.func37, Tryz.ntmps37
  go_upto_region 1 with fail
  obtain ⟨b0, e0⟩ : ∃ b, b = w.heap.size := ⟨_, rfl⟩
  rw [← e0] at G ⊢
  clear e0
  generalize w.alloc (.cells #[.slice a l.length c] 26) = w1 at *
  have k0 := blk_free_cell G 0 rfl
  have kl := G.lt
  clear G
  go_wp2_with fail
  refine HD.out.mono ?_
  rintro e w2 h2
  cases hok : (settle l id).2 with
  | false =>
    obtain rfl := h2.no hok
    go_wp2_with fail
    go_ret
    exact ⟨HON.out.trans h2.only, fun _ => rfl, fun h => by rw [hok] at h; cases h⟩
  | true =>
    obtain ⟨he, fp', h3, h4⟩ := h2.yes hok
    subst he
    go_wp2_with fail
    go_ret
    exact ⟨HON.out.trans h2.only, (fun h => by rw [hok] at h; cases h), fun _ => ⟨rfl, fp', h3, fun q hq => (h4 q hq).imp (fun h => h) (fun h => Nat.le_trans HSZ.out h)⟩⟩
set_option maxHeartbeats 2000000 in
theorem settleC (W : World) (aE : Addr) (hS : Er.Sen1 W 0 aE) : SettleC W := by
  intro w v l id hW hv hx
  obtain ⟨a, cap, hsh, -⟩ := hv.open_
  subst hsh
  have hb1 := (Below.refl w.heap.size w).alloc (Nat.le_refl _) (.cells #[.slice a l.length cap] 26)
  have hb2 := hb1.alloc hb1.size (.cells #[.int .i64 id] 3)
  have hb3 := hb2.alloc hb2.size (.cells #[.slice none 0 0] 26)
  have hn (wq : World) (o : Obj) : Below wq.heap.size wq (wq.alloc o) := (Below.refl _ _).alloc (Nat.le_refl _) o
  have A0 := Blk.new w #[.slice a l.length cap] 26
  have A1 := Blk.new (w.alloc (.cells #[.slice a l.length cap] 26)) #[.int .i64 id] 3
  have A2 := Blk.new ((w.alloc (.cells #[.slice a l.length cap] 26)).alloc (.cells #[.int .i64 id] 3)) #[.slice none 0 0] 26
  have A0' := A0.below (hn _ (.cells #[.int .i64 id] 3)) A0.lt
  have A0'' := A0'.below (hn _ (.cells #[.slice none 0 0] 26)) A0'.lt
  have A1' := A1.below (hn _ (.cells #[.slice none 0 0] 26)) A1.lt
  have e1 : (w.alloc (.cells #[.slice a l.length cap] 26)).heap.size = w.heap.size + 1 := by simp
  have e2 : ((w.alloc (.cells #[.slice a l.length cap] 26)).alloc (.cells #[.int .i64 id] 3)).heap.size = w.heap.size + 1 + 1 := by simp
  rw [e1] at A1'
  rw [e2] at A2
  have HV := hide (hv.below hb3 (Nat.le_refl _))
  have HW := hide (hW.trans (hb3.mono hW.size))
  have HB := hide hb3
  have HX := hide hx
  have hW0 := hW.size
  clear hv hW hx hb1 hb2 hb3 A0 A0' A1 hn e1 e2
  go_enter Tryz.func10, Tryz.ntmps10
  go_upto_region 1 with fail
  obtain ⟨s, es⟩ : ∃ s, s = w.heap.size := ⟨_, rfl⟩
  rw [← es] at A0'' A1' A2 ⊢
  have HSs : Hid (w.heap.size = s) := es.symm
  clear es
  generalize ((w.alloc (.cells #[.slice a l.length cap] 26)).alloc (.cells #[.int .i64 id] 3)).alloc (.cells #[.slice none 0 0] 26) = w3 at *
  have hq1 : w3.cell? ⟨s + 1, 0, none⟩ = some (.int .i64 id) := blk_free_cell A1' 0 rfl
  have hl1 := A1'.lt
  have hl2 := A2.lt
  have HC := hide (changed_calls W aE hS w3 HW.out _ l (settle l id).1 (settle l id).2 HV.out HX.out.len HX.out.small 37 #[.pointer (some ⟨s + 1, 0, none⟩)] (run_enter Tryz.func37 (by kernel_rfl) (by kernel_rfl))
    (fun wx vx fp hb ho _ => settleFn_calls W aE hS wx (HW.out.trans (hb.mono HW.out.size)) vx l id (s + 1) ((hb.cell (p := ⟨s + 1, 0, none⟩) hl1).trans hq1) fp ho HX.out))
  have hfl : (if (settle l id).2 = true then (settle l id).1 else l) = (settle l id).1 := by
    cases h : (settle l id).2 with
    | true => rfl
    | false => rw [settle_false h]; rfl
  rw [hfl] at HC
  have k0 := blk_free_cell A0'' 0 rfl
  have kl := A0''.lt
  have HA2 := hide A2
  clear A0'' A1' A2 hq1 hl1 hS hfl
  go_wp2_with fail
  refine HC.out.mono ?_
  rintro e w4 ⟨v4, fp, rfl, ho4, hf4, hb4⟩
  obtain ⟨a4, n4, c4, hsh⟩ : ∃ a n c, v4 = .slice a n c := by
    obtain ⟨a, c, h⟩ := peers_sl ho4
    exact ⟨_, _, _, h⟩
  subst hsh
  have G2 := HA2.out.below hb4 HA2.out.lt
  have HBE := hide (HB.out.trans (hb4.mono HB.out.size))
  have HO4 := hide ho4
  have HF4 : Hid (∀ q ∈ fp, s + 1 + 1 < q) := fun q hq => Nat.lt_of_lt_of_le hl2 (hf4 q hq)
  have z0 := blk_free_cell G2 0 rfl
  have y0 := G2.free 0
  have zl := G2.lt
  clear hb4 ho4 hf4 HC HA2 k0 kl HV HW HB
  go_wp2_with fail
  have Rd := G2.set 0 (.slice a4 n4 c4)
  have x0 := blk_free_cell Rd 0 rfl
  refine bodyPost_ret (v := .tuple #[.agg #[.slice a4 n4 c4], .bool (settle l id).2]) (by simp [results, Tryz.results10, go_sem, x0]) rfl ⟨_, fp, rfl, owns_set HO4.out (fun q hq => by have := HF4.out q hq; omega) _, fun q hq => by have := HF4.out q hq; have := HSs.out; omega, HBE.out.setCell (p := ⟨s + 1 + 1, 0, none⟩) (by have := HSs.out; show _ ≤ s + 1 + 1; omega) _⟩
end Go.Proofs.YteladljgnbfcnaaGreatDoor.P9
namespace Go.Proofs.YteladljgnbfcnaaGreatDoor.P9
set_option maxRecDepth 8000
open Go.RowKit P1 P8 Da Mp Ap Rr Rc

theorem joined_false {l : List Pr} {id by_ : Int} (h : (joined l id by_).2 = false) : (joined l id by_).1 = l := by
  revert h
  unfold joined
  repeat' (first | split | (intro h; first | rfl | exact absurd (show true = false from h) (by decide)))

set_option maxHeartbeats 1000000 in
theorem joinedFn_calls (W : World) (aE : Addr) (hS : Er.Sen1 W 0 aE) (w : World) (hW : Below W.heap.size W w) (v : Value) (l : List Pr) (id by_ : Int) (b b2 : Nat) (hb : w.cell? ⟨b, 0, none⟩ = some (.int .i64 id)) (hb' : w.cell? ⟨b2, 0, none⟩ = some (.int .i64 by_)) (fp : List Nat) (ho : Owns w v (peersD T0 l) fp) (hx : RingX l) :
    Calls Tryz.prog 33 #[.agg #[v], .pointer (some ⟨b, 0, none⟩), .pointer (some ⟨b2, 0, none⟩)] w fun e w' => Outcome aE fp w v (joined l id by_).1 (joined l id by_).2 e w' := by
  obtain ⟨a, c, hsh⟩ := peers_sl ho
  subst hsh
  have hb1 := (Below.refl w.heap.size w).alloc (Nat.le_refl _) (.cells #[.slice a l.length c] 26)
  have G := Blk.new w #[.slice a l.length c] 26
  have HD := hide (join_calls W aE hS (w.alloc (.cells #[.slice a l.length c] 26)) (hW.trans (hb1.mono hW.size)) _ l id by_ fp (owns_below ho hb1) hx)
  have hbl := cell_lt' hb
  have hb2 := (hb1.cell (p := ⟨b, 0, none⟩) hbl).trans hb
  have hbl2 := cell_lt' hb2
  have hbm := cell_lt' hb'
  have hb3 := (hb1.cell (p := ⟨b2, 0, none⟩) hbm).trans hb'
  have hbl3 := cell_lt' hb3
  have HON := hide (Only.of_below (fp := fp) hb1)
  have HSZ : Hid (w.heap.size ≤ (w.alloc (.cells #[.slice a l.length c] 26)).heap.size) := hb1.size
  clear hb hbl hb' hbm ho hx hW hS hb1
  go_enter Tryz.func33, Tryz.ntmps33
  go_upto_region 1 with fail
  obtain ⟨b0, e0⟩ : ∃ b, b = w.heap.size := ⟨_, rfl⟩
  rw [← e0] at G ⊢
  clear e0
  generalize w.alloc (.cells #[.slice a l.length c] 26) = w1 at *
  have k0 := blk_free_cell G 0 rfl
  have kl := G.lt
  clear G
  go_wp2_with fail
  refine HD.out.mono ?_
  rintro e w2 h2
  cases hok : (joined l id by_).2 with
  | false =>
    obtain rfl := h2.no hok
    go_wp2_with fail
    go_ret
    exact ⟨HON.out.trans h2.only, fun _ => rfl, fun h => by rw [hok] at h; cases h⟩
  | true =>
    obtain ⟨he, fp', h3, h4⟩ := h2.yes hok
    subst he
    go_wp2_with fail
    go_ret
    exact ⟨HON.out.trans h2.only, (fun h => by rw [hok] at h; cases h), fun _ => ⟨rfl, fp', h3, fun q hq => (h4 q hq).imp (fun h => h) (fun h => Nat.le_trans HSZ.out h)⟩⟩

set_option maxHeartbeats 2000000 in
theorem joinedC (W : World) (aE : Addr) (hS : Er.Sen1 W 0 aE) : JoinedC W := by
  intro w v l id by_ hW hv hx
  obtain ⟨a, cap, hsh, -⟩ := hv.open_
  subst hsh
  have hb1 := (Below.refl w.heap.size w).alloc (Nat.le_refl _) (.cells #[.slice a l.length cap] 26)
  have hb2 := hb1.alloc hb1.size (.cells #[.int .i64 id] 3)
  have hbj := hb2.alloc hb2.size (.cells #[.int .i64 by_] 3)
  have hb3 := hbj.alloc hbj.size (.cells #[.slice none 0 0] 26)
  have hn (wq : World) (o : Obj) : Below wq.heap.size wq (wq.alloc o) := (Below.refl _ _).alloc (Nat.le_refl _) o
  have A0 := Blk.new w #[.slice a l.length cap] 26
  have A1 := Blk.new (w.alloc (.cells #[.slice a l.length cap] 26)) #[.int .i64 id] 3
  have AJ := Blk.new ((w.alloc (.cells #[.slice a l.length cap] 26)).alloc (.cells #[.int .i64 id] 3)) #[.int .i64 by_] 3
  have A2 := Blk.new (((w.alloc (.cells #[.slice a l.length cap] 26)).alloc (.cells #[.int .i64 id] 3)).alloc (.cells #[.int .i64 by_] 3)) #[.slice none 0 0] 26
  have A0' := A0.below (hn _ (.cells #[.int .i64 id] 3)) A0.lt
  have A0j := A0'.below (hn _ (.cells #[.int .i64 by_] 3)) A0'.lt
  have A0'' := A0j.below (hn _ (.cells #[.slice none 0 0] 26)) A0j.lt
  have A1j := A1.below (hn _ (.cells #[.int .i64 by_] 3)) A1.lt
  have A1' := A1j.below (hn _ (.cells #[.slice none 0 0] 26)) A1j.lt
  have AJ' := AJ.below (hn _ (.cells #[.slice none 0 0] 26)) AJ.lt
  have e1 : (w.alloc (.cells #[.slice a l.length cap] 26)).heap.size = w.heap.size + 1 := by simp
  have e2 : ((w.alloc (.cells #[.slice a l.length cap] 26)).alloc (.cells #[.int .i64 id] 3)).heap.size = w.heap.size + 1 + 1 := by simp
  have e3 : (((w.alloc (.cells #[.slice a l.length cap] 26)).alloc (.cells #[.int .i64 id] 3)).alloc (.cells #[.int .i64 by_] 3)).heap.size = w.heap.size + 1 + 1 + 1 := by simp
  rw [e1] at A1'
  rw [e2] at AJ'
  rw [e3] at A2
  have HV := hide (hv.below hb3 (Nat.le_refl _))
  have HW := hide (hW.trans (hb3.mono hW.size))
  have HB := hide hb3
  have HX := hide hx
  have hW0 := hW.size
  clear hv hW hx hb1 hb2 hb3 hbj A0 A0' A0j A1 A1j AJ hn e1 e2 e3
  go_enter Tryz.func8, Tryz.ntmps8
  go_upto_region 1 with fail
  obtain ⟨s, es⟩ : ∃ s, s = w.heap.size := ⟨_, rfl⟩
  rw [← es] at A0'' A1' AJ' A2 ⊢
  have HSs : Hid (w.heap.size = s) := es.symm
  clear es
  generalize (((w.alloc (.cells #[.slice a l.length cap] 26)).alloc (.cells #[.int .i64 id] 3)).alloc (.cells #[.int .i64 by_] 3)).alloc (.cells #[.slice none 0 0] 26) = w3 at *
  have hq1 : w3.cell? ⟨s + 1, 0, none⟩ = some (.int .i64 id) := blk_free_cell A1' 0 rfl
  have hq2 : w3.cell? ⟨s + 1 + 1, 0, none⟩ = some (.int .i64 by_) := blk_free_cell AJ' 0 rfl
  have hl1 := A1'.lt
  have hlj := AJ'.lt
  have hl2 := A2.lt
  have HC := hide (changed_calls W aE hS w3 HW.out _ l (joined l id by_).1 (joined l id by_).2 HV.out HX.out.len HX.out.small 33 #[.pointer (some ⟨s + 1, 0, none⟩), .pointer (some ⟨s + 1 + 1, 0, none⟩)] (run_enter Tryz.func33 (by kernel_rfl) (by kernel_rfl))
    (fun wx vx fp hb ho _ => joinedFn_calls W aE hS wx (HW.out.trans (hb.mono HW.out.size)) vx l id by_ (s + 1) (s + 1 + 1) ((hb.cell (p := ⟨s + 1, 0, none⟩) hl1).trans hq1) ((hb.cell (p := ⟨s + 1 + 1, 0, none⟩) hlj).trans hq2) fp ho HX.out))
  have hfl : (if (joined l id by_).2 = true then (joined l id by_).1 else l) = (joined l id by_).1 := by
    cases h : (joined l id by_).2 with
    | true => rfl
    | false => rw [joined_false h]; rfl
  rw [hfl] at HC
  have k0 := blk_free_cell A0'' 0 rfl
  have kl := A0''.lt
  have HA2 := hide A2
  clear A0'' A1' AJ' A2 hq1 hq2 hl1 hlj hS hfl
  go_wp2_with fail
  refine HC.out.mono ?_
  rintro e w4 ⟨v4, fp, rfl, ho4, hf4, hb4⟩
  obtain ⟨a4, n4, c4, hsh⟩ : ∃ a n c, v4 = .slice a n c := by
    obtain ⟨a, c, h⟩ := peers_sl ho4
    exact ⟨_, _, _, h⟩
  subst hsh
  have G2 := HA2.out.below hb4 HA2.out.lt
  have HBE := hide (HB.out.trans (hb4.mono HB.out.size))
  have HO4 := hide ho4
  have HF4 : Hid (∀ q ∈ fp, s + 1 + 1 + 1 < q) := fun q hq => Nat.lt_of_lt_of_le hl2 (hf4 q hq)
  have z0 := blk_free_cell G2 0 rfl
  have y0 := G2.free 0
  have zl := G2.lt
  clear hb4 ho4 hf4 HC HA2 k0 kl HV HW HB
  go_wp2_with fail
  have Rd := G2.set 0 (.slice a4 n4 c4)
  have x0 := blk_free_cell Rd 0 rfl
  refine bodyPost_ret (v := .tuple #[.agg #[.slice a4 n4 c4], .bool (joined l id by_).2]) (by simp [results, Tryz.results8, go_sem, x0]) rfl ⟨_, fp, rfl, owns_set HO4.out (fun q hq => by have := HF4.out q hq; omega) _, fun q hq => by have := HF4.out q hq; have := HSs.out; omega, HBE.out.setCell (p := ⟨s + 1 + 1 + 1, 0, none⟩) (by have := HSs.out; show _ ≤ s + 1 + 1 + 1; omega) _⟩
end Go.Proofs.YteladljgnbfcnaaGreatDoor.P9
