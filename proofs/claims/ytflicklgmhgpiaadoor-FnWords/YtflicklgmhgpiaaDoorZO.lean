/- The draws of chapter 5: some role, some word, right or not; only the cursor and new memory are written.
The draws of words, right ones and others; only the cursor and new memory are written.
The draw of a word, right or not; only the cursor and new memory are written.
The draws that FnWords makes: a right word, a text, words, a role; only new memory is written.
The draws of a text and of two words; only new memory is written. -/
import Derived.Test.YtflicklgmhgpiaaDoorZP
import Derived.Test.YtflicklgmhgpiaaDoorZK
import Derived.Test.YtflicklgmhgpiaaDoorZA
import Derived.Test.YtflicklgmhgpiaaDoorZJ
namespace Go.Proofs.YtflicklgmhgpiaaDoor.P5
set_option maxRecDepth 8000
open Go.RowKit P1 Cu

theorem cur_set {B g : Nat} {w : World} (h : Cur B w g) {b i : Nat} (v : Value) (hne : b ≠ g) (hB : B ≤ b) : Cur B (w.setCell ⟨b, i, none⟩ v) g := by
  obtain ⟨h1, h2, u, n, j, z, h3, h4, h5, h6, h7, h8⟩ := h
  have hblk : ∀ k, k ≠ b → (w.setCell ⟨b, i, none⟩ v).heap[k]? = w.heap[k]? := fun k hk => Below.heap_setCell _ _ _ _ hk
  have hc : ∀ o, (w.setCell ⟨b, i, none⟩ v).cell? ⟨g, o, none⟩ = w.cell? ⟨g, o, none⟩ := fun o => World.cell?_of_block (hblk g (Ne.symm hne))
  refine ⟨h1, by simpa [World.setCell] using h2, u, n, j, z, h3.below (fun k hk => hblk k (by omega)), h4, by rw [hc]; exact h5, by rw [hc]; exact h6, by rw [hc]; exact h7, fun o => ?_⟩
  have := h8 o
  unfold World.frozen? at this ⊢
  rw [hblk g (Ne.symm hne)]
  exact this

theorem blk_kept {w w' : World} {b g : Nat} {cs : List Value} {t : TypeId} (h : Blk w b cs t) (hg : w.grownBy w' (some g)) (hne : b ≠ g) : Blk w' b cs t := by
  have := hg.block b h.lt (fun e => hne (by simpa using e))
  unfold Blk at *
  rw [this]
  exact h

/-- A draw under way: the cursor in block g, blocks of its own in b and b'. -/
structure DS (B g b b' : Nat) (t t' : TypeId) (w0 w : World) (xs ys : List Value) : Prop where
  c : Cur B w g
  gr : w0.grownBy w (some g)
  x : Blk w b xs t
  y : Blk w b' ys t'
  hB : B ≤ w0.heap.size
  hb : w0.heap.size ≤ b
  hb' : w0.heap.size ≤ b'
  ng : b ≠ g
  ng' : b' ≠ g
  ne : b ≠ b'

theorem DS.call {B g b b' : Nat} {t t' : TypeId} {w0 w w' : World} {xs ys : List Value} (h : DS B g b b' t t' w0 w xs ys) (hc : Cur B w' g) (hg : w.grownBy w' (some g)) : DS B g b b' t t' w0 w' xs ys :=
  { h with c := hc, gr := grown_trans h.gr hg, x := blk_kept h.x hg h.ng, y := blk_kept h.y hg h.ng' }

theorem DS.setX {B g b b' : Nat} {t t' : TypeId} {w0 w : World} {xs ys : List Value} (h : DS B g b b' t t' w0 w xs ys) (i : Nat) (v : Value) : DS B g b b' t t' w0 (w.setCell ⟨b, i, none⟩ v) (xs.set i v) ys :=
  { h with c := cur_set h.c v h.ng (Nat.le_trans h.hB h.hb), gr := grown_below h.gr ((Below.refl w0.heap.size w).setCell h.hb v), x := h.x.set i v, y := h.y.other (p := ⟨b, i, none⟩) (Ne.symm h.ne) v }

theorem DS.setY {B g b b' : Nat} {t t' : TypeId} {w0 w : World} {xs ys : List Value} (h : DS B g b b' t t' w0 w xs ys) (i : Nat) (v : Value) : DS B g b b' t t' w0 (w.setCell ⟨b', i, none⟩ v) xs (ys.set i v) :=
  { h with c := cur_set h.c v h.ng' (Nat.le_trans h.hB h.hb'), gr := grown_below h.gr ((Below.refl w0.heap.size w).setCell h.hb' v), y := h.y.set i v, x := h.x.other (p := ⟨b', i, none⟩) h.ne v }

/-- A block more. -/
theorem DS.two {B g b : Nat} {t t' : TypeId} {w0 w : World} {xs : List Value} (c : Cur B w g) (gr : w0.grownBy w (some g)) (x : Blk w b xs t) (hB : B ≤ w0.heap.size) (hb : w0.heap.size ≤ b) (ng : b ≠ g) (ys : Array Value) : DS B g b w.heap.size t t' w0 (w.alloc (.cells ys t')) xs ys.toList := by
  have hbel : Below w.heap.size w (w.alloc (.cells ys t')) := (Below.refl _ _).alloc (Nat.le_refl _) _
  have hg := c.2.1
  have hx := x.lt
  exact ⟨cur_below c hbel hg, grown_below gr (hbel.mono gr.size), x.below hbel hx, Blk.new w ys t', hB, hb, gr.size, ng, by omega, by omega⟩

/-- A draw under way with one block of its own. -/
structure DR (B g b : Nat) (t : TypeId) (w0 w : World) (xs : List Value) : Prop where
  c : Cur B w g
  gr : w0.grownBy w (some g)
  x : Blk w b xs t
  hB : B ≤ w0.heap.size
  hb : w0.heap.size ≤ b
  ng : b ≠ g

theorem DR.new {B g : Nat} {w : World} (c : Cur B w g) (hB : B ≤ w.heap.size) (cs : Array Value) (t : TypeId) : DR B g w.heap.size t w (w.alloc (.cells cs t)) cs.toList := by
  have hbel : Below w.heap.size w (w.alloc (.cells cs t)) := (Below.refl _ _).alloc (Nat.le_refl _) _
  have hg := c.2.1
  exact ⟨cur_below c hbel hg, grown_below (grown_refl _ _) hbel, Blk.new w cs t, hB, Nat.le_refl _, by omega⟩

theorem DR.call {B g b : Nat} {t : TypeId} {w0 w w' : World} {xs : List Value} (h : DR B g b t w0 w xs) (hc : Cur B w' g) (hg : w.grownBy w' (some g)) : DR B g b t w0 w' xs :=
  { h with c := hc, gr := grown_trans h.gr hg, x := blk_kept h.x hg h.ng }

theorem DR.set {B g b : Nat} {t : TypeId} {w0 w : World} {xs : List Value} (h : DR B g b t w0 w xs) (i : Nat) (v : Value) : DR B g b t w0 (w.setCell ⟨b, i, none⟩ v) (xs.set i v) :=
  { h with c := cur_set h.c v h.ng (Nat.le_trans h.hB h.hb), gr := grown_below h.gr ((Below.refl w0.heap.size w).setCell h.hb v), x := h.x.set i v }

theorem DR.more {B g b : Nat} {t t' : TypeId} {w0 w : World} {xs : List Value} (h : DR B g b t w0 w xs) (ys : Array Value) : DS B g b w.heap.size t t' w0 (w.alloc (.cells ys t')) xs ys.toList :=
  DS.two h.c h.gr h.x h.hB h.hb h.ng ys

/-- What a drawn role leaves. -/
def RoleR (B g : Nat) (w : World) (e : Ending) (w' : World) : Prop := ∃ a b : Nat, a < 3 ∧ b < 2 ∧ e = .returned (roleV a b) ∧ Cur B w' g ∧ w.grownBy w' (some g)

set_option maxHeartbeats 400000 in
theorem role_calls (B g : Nat) (w : World) (hc : Cur B w g) (hB : B ≤ w.heap.size) :
    Calls Tryd.prog 42 #[.pointer (some ⟨g, 0, none⟩)] w fun e w' => RoleR B g w e w' := by
  have HD := hide (DR.new hc hB #[.int .i64 0, .int .i64 0] 25)
  clear hc
  go_enter Tryd.func42, Tryd.ntmps42
  go_wp2_with fail
  obtain ⟨b0, e0⟩ : ∃ b, b = w.heap.size := ⟨_, rfl⟩
  rw [← e0] at HD ⊢
  clear e0
  generalize w.alloc (.cells #[.int .i64 0, .int .i64 0] 25) = w1 at *
  refine (below_calls B g _ HD.out.c 3 (by decide) (by decide)).mono ?_
  rintro e w2 ⟨x, hx, rfl, hc2, hg2⟩
  have HD := hide (HD.out.call hc2 hg2)
  clear hc2 hg2
  go_wp2_with fail
  refine (below_calls B g _ HD.out.c 2 (by decide) (by decide)).mono ?_
  rintro e w3 ⟨y, hy, rfl, hc2, hg2⟩
  have HD := hide (HD.out.call hc2 hg2)
  clear hc2 hg2
  have c0 : w3.cell? ⟨b0, 0, none⟩ = some (.int .i64 0) := by rw [HD.out.x.cell 0]; rfl
  have c1 : w3.cell? ⟨b0, 1, none⟩ = some (.int .i64 0) := by rw [HD.out.x.cell 1]; rfl
  have a0 := HD.out.x.free
  have l0 := HD.out.x.lt
  go_wp2_with fail
  have HF := hide ((HD.out.set 0 (.int .i64 (x : Int))).set 1 (.int .i64 (y : Int)))
  clear c0 c1 a0 l0 HD
  generalize (w3.setCell ⟨b0, 0, none⟩ (.int .i64 (x : Int))).setCell ⟨b0, 1, none⟩ (.int .i64 (y : Int)) = wF at *
  have y0 : wF.cell? ⟨b0, 0, none⟩ = some (.int .i64 (x : Int)) := by rw [HF.out.x.cell 0]; rfl
  have y1 : wF.cell? ⟨b0, 1, none⟩ = some (.int .i64 (y : Int)) := by rw [HF.out.x.cell 1]; rfl
  refine bodyPost_ret (v := roleV x y) (by simp [results, Tryd.results42, go_sem, y0, y1]) rfl ⟨x, y, hx, hy, rfl, HF.out.c, HF.out.gr⟩

/-- What a drawn role, right or not, leaves. -/
def AnyRoleR (B g : Nat) (w : World) (e : Ending) (w' : World) : Prop := ∃ a b : Int, e = .returned (roleV a b) ∧ Cur B w' g ∧ w.grownBy w' (some g)

set_option maxHeartbeats 1000000 in
theorem anyRole_calls (B g : Nat) (w : World) (hc : Cur B w g) (hB : B ≤ w.heap.size) :
    Calls Tryd.prog 34 #[.pointer (some ⟨g, 0, none⟩)] w fun e w' => AnyRoleR B g w e w' := by
  have HD := hide (DR.new hc hB #[.int .i64 0, .int .i64 0] 25)
  clear hc
  go_enter Tryd.func34, Tryd.ntmps34
  go_wp2_with fail
  obtain ⟨b0, e0⟩ : ∃ b, b = w.heap.size := ⟨_, rfl⟩
  rw [← e0] at HD ⊢
  clear e0
  generalize w.alloc (.cells #[.int .i64 0, .int .i64 0] 25) = w1 at *
  refine (role_calls B g _ HD.out.c (Nat.le_trans hB HD.out.gr.size)).mono ?_
  rintro e w2 ⟨x, y, hx, hy, rfl, hc2, hg2⟩
  have HD := hide ((HD.out.call hc2 hg2).more (t' := 25) #[.int .i64 (x : Int), .int .i64 (y : Int)])
  clear hc2 hg2
  go_wp2_with fail
  obtain ⟨b1, e1⟩ : ∃ b, b = w2.heap.size := ⟨_, rfl⟩
  rw [← e1] at HD ⊢
  clear e1
  generalize w2.alloc (.cells #[.int .i64 (x : Int), .int .i64 (y : Int)] 25) = w3 at *
  refine (below_calls B g _ HD.out.c 8 (by decide) (by decide)).mono ?_
  rintro e w4 ⟨k, hk, rfl, hc2, hg2⟩
  have HD := hide (HD.out.call hc2 hg2)
  clear hc2 hg2
  by_cases k0 : k = 0
  · subst k0
    go_wp2_with fail
    refine (pick_calls B g w4 HD.out.c [-1, 6, 5] (by decide) (by decide) 3 rfl _ rfl).mono ?_
    rintro e w5 ⟨z, hz, rfl, hc2, hg2⟩
    have HD := hide (HD.out.call hc2 hg2)
    clear hc2 hg2 hz
    have d0 : w5.cell? ⟨b1, 0, none⟩ = some (.int .i64 (x : Int)) := by rw [HD.out.y.cell 0]; rfl
    have d1 : w5.cell? ⟨b1, 1, none⟩ = some (.int .i64 (y : Int)) := by rw [HD.out.y.cell 1]; rfl
    have c0 : w5.cell? ⟨b0, 0, none⟩ = some (.int .i64 0) := by rw [HD.out.x.cell 0]; rfl
    have c1 : w5.cell? ⟨b0, 1, none⟩ = some (.int .i64 0) := by rw [HD.out.x.cell 1]; rfl
    have a0 := HD.out.x.free
    have a1 := HD.out.y.free
    have l0 := HD.out.x.lt
    have l1 := HD.out.y.lt
    have ne := HD.out.ne
    have ne' := Ne.symm ne
    go_wp2_with fail
    have HF := hide (((HD.out.setY 0 (.int .i64 z)).setX 0 (.int .i64 z)).setX 1 (.int .i64 (y : Int)))
    clear c0 c1 d0 d1 a0 a1 l0 l1 HD
    generalize ((w5.setCell ⟨b1, 0, none⟩ (.int .i64 z)).setCell ⟨b0, 0, none⟩ (.int .i64 z)).setCell ⟨b0, 1, none⟩ (.int .i64 (y : Int)) = wF at *
    have y0 : wF.cell? ⟨b0, 0, none⟩ = some (.int .i64 z) := by rw [HF.out.x.cell 0]; rfl
    have y1 : wF.cell? ⟨b0, 1, none⟩ = some (.int .i64 (y : Int)) := by rw [HF.out.x.cell 1]; rfl
    refine bodyPost_ret (v := roleV z y) (by simp [results, Tryd.results34, go_sem, y0, y1]) rfl ⟨z, y, rfl, HF.out.c, HF.out.gr⟩
  by_cases k1 : k = 1
  · subst k1
    go_wp2_with fail
    refine (pick_calls B g w4 HD.out.c [-1, 4, 3] (by decide) (by decide) 3 rfl _ rfl).mono ?_
    rintro e w5 ⟨z, hz, rfl, hc2, hg2⟩
    have HD := hide (HD.out.call hc2 hg2)
    clear hc2 hg2 hz
    have d0 : w5.cell? ⟨b1, 0, none⟩ = some (.int .i64 (x : Int)) := by rw [HD.out.y.cell 0]; rfl
    have d1 : w5.cell? ⟨b1, 1, none⟩ = some (.int .i64 (y : Int)) := by rw [HD.out.y.cell 1]; rfl
    have c0 : w5.cell? ⟨b0, 0, none⟩ = some (.int .i64 0) := by rw [HD.out.x.cell 0]; rfl
    have c1 : w5.cell? ⟨b0, 1, none⟩ = some (.int .i64 0) := by rw [HD.out.x.cell 1]; rfl
    have a0 := HD.out.x.free
    have a1 := HD.out.y.free
    have l0 := HD.out.x.lt
    have l1 := HD.out.y.lt
    have ne := HD.out.ne
    have ne' := Ne.symm ne
    go_wp2_with fail
    have HF := hide (((HD.out.setY 1 (.int .i64 z)).setX 0 (.int .i64 (x : Int))).setX 1 (.int .i64 z))
    clear c0 c1 d0 d1 a0 a1 l0 l1 HD
    generalize ((w5.setCell ⟨b1, 1, none⟩ (.int .i64 z)).setCell ⟨b0, 0, none⟩ (.int .i64 (x : Int))).setCell ⟨b0, 1, none⟩ (.int .i64 z) = wF at *
    have y0 : wF.cell? ⟨b0, 0, none⟩ = some (.int .i64 (x : Int)) := by rw [HF.out.x.cell 0]; rfl
    have y1 : wF.cell? ⟨b0, 1, none⟩ = some (.int .i64 z) := by rw [HF.out.x.cell 1]; rfl
    refine bodyPost_ret (v := roleV x z) (by simp [results, Tryd.results34, go_sem, y0, y1]) rfl ⟨x, z, rfl, HF.out.c, HF.out.gr⟩
  · have d0 : w4.cell? ⟨b1, 0, none⟩ = some (.int .i64 (x : Int)) := by rw [HD.out.y.cell 0]; rfl
    have d1 : w4.cell? ⟨b1, 1, none⟩ = some (.int .i64 (y : Int)) := by rw [HD.out.y.cell 1]; rfl
    have c0 : w4.cell? ⟨b0, 0, none⟩ = some (.int .i64 0) := by rw [HD.out.x.cell 0]; rfl
    have c1 : w4.cell? ⟨b0, 1, none⟩ = some (.int .i64 0) := by rw [HD.out.x.cell 1]; rfl
    have a0 := HD.out.x.free
    have l0 := HD.out.x.lt
    have l1 := HD.out.y.lt
    have ne := HD.out.ne
    have ne' := Ne.symm ne
    have k0' : ((k : Int) == 0) = false := by simp; omega
    have k1' : ((k : Int) == 1) = false := by simp; omega
    go_wp2_with fail
    have HF := hide ((HD.out.setX 0 (.int .i64 (x : Int))).setX 1 (.int .i64 (y : Int)))
    clear c0 c1 d0 d1 a0 l0 l1 HD
    generalize (w4.setCell ⟨b0, 0, none⟩ (.int .i64 (x : Int))).setCell ⟨b0, 1, none⟩ (.int .i64 (y : Int)) = wF at *
    have y0 : wF.cell? ⟨b0, 0, none⟩ = some (.int .i64 (x : Int)) := by rw [HF.out.x.cell 0]; rfl
    have y1 : wF.cell? ⟨b0, 1, none⟩ = some (.int .i64 (y : Int)) := by rw [HF.out.x.cell 1]; rfl
    refine bodyPost_ret (v := roleV x y) (by simp [results, Tryd.results34, go_sem, y0, y1]) rfl ⟨x, y, rfl, HF.out.c, HF.out.gr⟩
end Go.Proofs.YtflicklgmhgpiaaDoor.P5
namespace Go.Proofs.YtflicklgmhgpiaaDoor.P5
set_option maxRecDepth 8000
open Go.RowKit P1 Cu

/-- What a drawn right word leaves. -/
def CredR (B g : Nat) (w : World) (e : Ending) (w' : World) : Prop := ∃ c : Cr, credOk c ∧ e = .returned (credV c) ∧ Cur B w' g ∧ w.grownBy w' (some g)

/-- What a drawn word, right or not, leaves. -/
def AnyR (B g : Nat) (w : World) (e : Ending) (w' : World) : Prop := ∃ c : Cr, e = .returned (credV c) ∧ Cur B w' g ∧ w.grownBy w' (some g)

set_option maxHeartbeats 2000000 in
theorem l05Cred_calls (B g : Nat) (w : World) (hc : Cur B w g) (hB : B ≤ w.heap.size) :
    Calls Tryd.prog 24 #[.pointer (some ⟨g, 0, none⟩)] w fun e w' => CredR B g w e w' := by
  have HD := hide (DR.new hc hB #[.int .i64 0, .int .i64 0, .int .i64 0, .int .i64 0, .int .i64 0, .int .i64 0, .int .i64 0, .int .i64 0, .int .i64 0, .int .i64 0] 27)
  clear hc
  go_enter Tryd.func24, Tryd.ntmps24
  go_wp2_with fail
  obtain ⟨b0, e0⟩ : ∃ b, b = w.heap.size := ⟨_, rfl⟩
  have HBB : Hid (∀ wx, w.grownBy wx (some g) → B ≤ wx.heap.size) := fun wx h => Nat.le_trans hB h.size
  generalize hw1 : w.alloc (.cells #[.int .i64 0, .int .i64 0, .int .i64 0, .int .i64 0, .int .i64 0, .int .i64 0, .int .i64 0, .int .i64 0, .int .i64 0, .int .i64 0] 27) = w1 at *
  have hsz : w1.heap.size = b0 + 1 := by rw [← hw1, e0]; simp [go_sem]
  rw [← e0] at HD ⊢
  rw [← hsz]
  clear e0 hw1 hsz
  refine (pick_calls B g w1 HD.out.c [1, 1, 2, 3, 4] (by decide) (by decide) 5 rfl _ rfl).mono ?_
  rintro e w2 ⟨k, hk, rfl, hc2, hg2⟩
  have HD := hide (HD.out.call hc2 hg2)
  clear hc2 hg2
  go_wp2_with fail
  refine (role_calls B g _ HD.out.c (HBB.out _ HD.out.gr)).mono ?_
  rintro e w3 ⟨ow, on, how, hon, rfl, hc2, hg2⟩
  have HD := hide (HD.out.call hc2 hg2)
  clear hc2 hg2
  go_wp2_with fail
  refine (pick_calls B g w3 HD.out.c [5, 50, 9999, 2] (by decide) (by decide) 4 rfl _ rfl).mono ?_
  rintro e w4 ⟨u, hu, rfl, hc2, hg2⟩
  have HD := hide (HD.out.call hc2 hg2)
  clear hc2 hg2
  go_wp2_with fail
  refine (below_calls B g _ HD.out.c 2 (by decide) (by decide)).mono ?_
  rintro e w5 ⟨n, hn, rfl, hc2, hg2⟩
  have hu2 : 1 ≤ u ∧ u ≤ 9999 := by
    simp only [List.mem_cons, List.not_mem_nil, or_false] at hu
    omega
  have hk2 : k = 1 ∨ k = 2 ∨ k = 3 ∨ k = 4 := by
    simp only [List.mem_cons, List.not_mem_nil, or_false] at hk
    omega
  have HD := hide ((HD.out.call hc2 hg2).more (t' := 27) #[.int .i64 k, .int .i64 (ow : Int), .int .i64 (on : Int), .int .i64 0, .int .i64 0, .int .i64 0, .int .i64 0, .int .i64 0, .int .i64 u, .int .i64 (n : Int)])
  clear hc2 hg2 hu hk
  rcases hk2 with rfl | rfl | rfl | rfl
  · skip
    go_wp2_with fail
    obtain ⟨b1, e1⟩ : ∃ b, b = w5.heap.size := ⟨_, rfl⟩
    rw [← e1] at HD ⊢
    clear e1
    generalize w5.alloc (.cells #[.int .i64 1, .int .i64 (ow : Int), .int .i64 (on : Int), .int .i64 0, .int .i64 0, .int .i64 0, .int .i64 0, .int .i64 0, .int .i64 u, .int .i64 (n : Int)] 27) = w6 at *
    refine (below_calls B g _ HD.out.c 6 (by decide) (by decide)).mono ?_
    rintro e w7 ⟨z, hz, rfl, hc2, hg2⟩
    have HD := hide (HD.out.call hc2 hg2)
    clear hc2 hg2
    have d0 : w7.cell? ⟨b1, 0, none⟩ = some (.int .i64 1) := by rw [HD.out.y.cell 0]; rfl
    have d1 : w7.cell? ⟨b1, 1, none⟩ = some (.int .i64 (ow : Int)) := by rw [HD.out.y.cell 1]; rfl
    have d2 : w7.cell? ⟨b1, 2, none⟩ = some (.int .i64 (on : Int)) := by rw [HD.out.y.cell 2]; rfl
    have d3 : w7.cell? ⟨b1, 3, none⟩ = some (.int .i64 0) := by rw [HD.out.y.cell 3]; rfl
    have d4 : w7.cell? ⟨b1, 4, none⟩ = some (.int .i64 0) := by rw [HD.out.y.cell 4]; rfl
    have d5 : w7.cell? ⟨b1, 5, none⟩ = some (.int .i64 0) := by rw [HD.out.y.cell 5]; rfl
    have d6 : w7.cell? ⟨b1, 6, none⟩ = some (.int .i64 0) := by rw [HD.out.y.cell 6]; rfl
    have d7 : w7.cell? ⟨b1, 7, none⟩ = some (.int .i64 0) := by rw [HD.out.y.cell 7]; rfl
    have d8 : w7.cell? ⟨b1, 8, none⟩ = some (.int .i64 u) := by rw [HD.out.y.cell 8]; rfl
    have d9 : w7.cell? ⟨b1, 9, none⟩ = some (.int .i64 (n : Int)) := by rw [HD.out.y.cell 9]; rfl
    have c0 : w7.cell? ⟨b0, 0, none⟩ = some (.int .i64 0) := by rw [HD.out.x.cell 0]; rfl
    have c1 : w7.cell? ⟨b0, 1, none⟩ = some (.int .i64 0) := by rw [HD.out.x.cell 1]; rfl
    have c2 : w7.cell? ⟨b0, 2, none⟩ = some (.int .i64 0) := by rw [HD.out.x.cell 2]; rfl
    have c3 : w7.cell? ⟨b0, 3, none⟩ = some (.int .i64 0) := by rw [HD.out.x.cell 3]; rfl
    have c4 : w7.cell? ⟨b0, 4, none⟩ = some (.int .i64 0) := by rw [HD.out.x.cell 4]; rfl
    have c5 : w7.cell? ⟨b0, 5, none⟩ = some (.int .i64 0) := by rw [HD.out.x.cell 5]; rfl
    have c6 : w7.cell? ⟨b0, 6, none⟩ = some (.int .i64 0) := by rw [HD.out.x.cell 6]; rfl
    have c7 : w7.cell? ⟨b0, 7, none⟩ = some (.int .i64 0) := by rw [HD.out.x.cell 7]; rfl
    have c8 : w7.cell? ⟨b0, 8, none⟩ = some (.int .i64 0) := by rw [HD.out.x.cell 8]; rfl
    have c9 : w7.cell? ⟨b0, 9, none⟩ = some (.int .i64 0) := by rw [HD.out.x.cell 9]; rfl
    have a1 := HD.out.y.free
    have l1 := HD.out.y.lt
    have a0 := HD.out.x.free
    have l0 := HD.out.x.lt
    have ne := HD.out.ne
    have ne' := Ne.symm ne
    go_wp2_with fail
    have HF := hide (((((((((((HD.out.setY 3 (.int .i64 (z : Int))).setX 0 (.int .i64 1)).setX 1 (.int .i64 (ow : Int))).setX 2 (.int .i64 (on : Int))).setX 3 (.int .i64 (z : Int))).setX 4 (.int .i64 0)).setX 5 (.int .i64 0)).setX 6 (.int .i64 0)).setX 7 (.int .i64 0)).setX 8 (.int .i64 u)).setX 9 (.int .i64 (n : Int)))
    clear c0 c1 c2 c3 c4 c5 c6 c7 c8 c9 d0 d1 d2 d3 d4 d5 d6 d7 d8 d9 a0 a1 l0 l1 HD
    generalize (((((((((((w7.setCell ⟨b1, 3, none⟩ (.int .i64 (z : Int))).setCell ⟨b0, 0, none⟩ (.int .i64 1)).setCell ⟨b0, 1, none⟩ (.int .i64 (ow : Int))).setCell ⟨b0, 2, none⟩ (.int .i64 (on : Int))).setCell ⟨b0, 3, none⟩ (.int .i64 (z : Int))).setCell ⟨b0, 4, none⟩ (.int .i64 0)).setCell ⟨b0, 5, none⟩ (.int .i64 0)).setCell ⟨b0, 6, none⟩ (.int .i64 0)).setCell ⟨b0, 7, none⟩ (.int .i64 0)).setCell ⟨b0, 8, none⟩ (.int .i64 u)).setCell ⟨b0, 9, none⟩ (.int .i64 (n : Int))) = wF at *
    have y0 : wF.cell? ⟨b0, 0, none⟩ = some (.int .i64 1) := by rw [HF.out.x.cell 0]; rfl
    have y1 : wF.cell? ⟨b0, 1, none⟩ = some (.int .i64 (ow : Int)) := by rw [HF.out.x.cell 1]; rfl
    have y2 : wF.cell? ⟨b0, 2, none⟩ = some (.int .i64 (on : Int)) := by rw [HF.out.x.cell 2]; rfl
    have y3 : wF.cell? ⟨b0, 3, none⟩ = some (.int .i64 (z : Int)) := by rw [HF.out.x.cell 3]; rfl
    have y4 : wF.cell? ⟨b0, 4, none⟩ = some (.int .i64 0) := by rw [HF.out.x.cell 4]; rfl
    have y5 : wF.cell? ⟨b0, 5, none⟩ = some (.int .i64 0) := by rw [HF.out.x.cell 5]; rfl
    have y6 : wF.cell? ⟨b0, 6, none⟩ = some (.int .i64 0) := by rw [HF.out.x.cell 6]; rfl
    have y7 : wF.cell? ⟨b0, 7, none⟩ = some (.int .i64 0) := by rw [HF.out.x.cell 7]; rfl
    have y8 : wF.cell? ⟨b0, 8, none⟩ = some (.int .i64 u) := by rw [HF.out.x.cell 8]; rfl
    have y9 : wF.cell? ⟨b0, 9, none⟩ = some (.int .i64 (n : Int)) := by rw [HF.out.x.cell 9]; rfl
    refine bodyPost_ret (v := credV ⟨1, (ow : Int), (on : Int), (z : Int), 0, 0, 0, 0, u, (n : Int)⟩) (by simp [results, Tryd.results24, go_sem, y0, y1, y2, y3, y4, y5, y6, y7, y8, y9]) rfl ⟨⟨1, (ow : Int), (on : Int), (z : Int), 0, 0, 0, 0, u, (n : Int)⟩, by unfold credOk kindOk roleOk; dsimp only; omega, rfl, HF.out.c, HF.out.gr⟩
  · skip
    go_wp2_with fail
    obtain ⟨b1, e1⟩ : ∃ b, b = w5.heap.size := ⟨_, rfl⟩
    rw [← e1] at HD ⊢
    clear e1
    generalize w5.alloc (.cells #[.int .i64 2, .int .i64 (ow : Int), .int .i64 (on : Int), .int .i64 0, .int .i64 0, .int .i64 0, .int .i64 0, .int .i64 0, .int .i64 u, .int .i64 (n : Int)] 27) = w6 at *
    refine (role_calls B g _ HD.out.c (HBB.out _ HD.out.gr)).mono ?_
    rintro e w7 ⟨aw, an, haw, han, rfl, hc2, hg2⟩
    have HD := hide (HD.out.call hc2 hg2)
    clear hc2 hg2
    have d0 : w7.cell? ⟨b1, 0, none⟩ = some (.int .i64 2) := by rw [HD.out.y.cell 0]; rfl
    have d1 : w7.cell? ⟨b1, 1, none⟩ = some (.int .i64 (ow : Int)) := by rw [HD.out.y.cell 1]; rfl
    have d2 : w7.cell? ⟨b1, 2, none⟩ = some (.int .i64 (on : Int)) := by rw [HD.out.y.cell 2]; rfl
    have d3 : w7.cell? ⟨b1, 3, none⟩ = some (.int .i64 0) := by rw [HD.out.y.cell 3]; rfl
    have d4 : w7.cell? ⟨b1, 4, none⟩ = some (.int .i64 0) := by rw [HD.out.y.cell 4]; rfl
    have d5 : w7.cell? ⟨b1, 5, none⟩ = some (.int .i64 0) := by rw [HD.out.y.cell 5]; rfl
    have d6 : w7.cell? ⟨b1, 6, none⟩ = some (.int .i64 0) := by rw [HD.out.y.cell 6]; rfl
    have d7 : w7.cell? ⟨b1, 7, none⟩ = some (.int .i64 0) := by rw [HD.out.y.cell 7]; rfl
    have d8 : w7.cell? ⟨b1, 8, none⟩ = some (.int .i64 u) := by rw [HD.out.y.cell 8]; rfl
    have d9 : w7.cell? ⟨b1, 9, none⟩ = some (.int .i64 (n : Int)) := by rw [HD.out.y.cell 9]; rfl
    have c0 : w7.cell? ⟨b0, 0, none⟩ = some (.int .i64 0) := by rw [HD.out.x.cell 0]; rfl
    have c1 : w7.cell? ⟨b0, 1, none⟩ = some (.int .i64 0) := by rw [HD.out.x.cell 1]; rfl
    have c2 : w7.cell? ⟨b0, 2, none⟩ = some (.int .i64 0) := by rw [HD.out.x.cell 2]; rfl
    have c3 : w7.cell? ⟨b0, 3, none⟩ = some (.int .i64 0) := by rw [HD.out.x.cell 3]; rfl
    have c4 : w7.cell? ⟨b0, 4, none⟩ = some (.int .i64 0) := by rw [HD.out.x.cell 4]; rfl
    have c5 : w7.cell? ⟨b0, 5, none⟩ = some (.int .i64 0) := by rw [HD.out.x.cell 5]; rfl
    have c6 : w7.cell? ⟨b0, 6, none⟩ = some (.int .i64 0) := by rw [HD.out.x.cell 6]; rfl
    have c7 : w7.cell? ⟨b0, 7, none⟩ = some (.int .i64 0) := by rw [HD.out.x.cell 7]; rfl
    have c8 : w7.cell? ⟨b0, 8, none⟩ = some (.int .i64 0) := by rw [HD.out.x.cell 8]; rfl
    have c9 : w7.cell? ⟨b0, 9, none⟩ = some (.int .i64 0) := by rw [HD.out.x.cell 9]; rfl
    have a1 := HD.out.y.free
    have l1 := HD.out.y.lt
    have a0 := HD.out.x.free
    have l0 := HD.out.x.lt
    have ne := HD.out.ne
    have ne' := Ne.symm ne
    go_wp2_with fail
    have HF := hide ((((((((((((HD.out.setY 4 (.int .i64 (aw : Int))).setY 5 (.int .i64 (an : Int))).setX 0 (.int .i64 2)).setX 1 (.int .i64 (ow : Int))).setX 2 (.int .i64 (on : Int))).setX 3 (.int .i64 0)).setX 4 (.int .i64 (aw : Int))).setX 5 (.int .i64 (an : Int))).setX 6 (.int .i64 0)).setX 7 (.int .i64 0)).setX 8 (.int .i64 u)).setX 9 (.int .i64 (n : Int)))
    clear c0 c1 c2 c3 c4 c5 c6 c7 c8 c9 d0 d1 d2 d3 d4 d5 d6 d7 d8 d9 a0 a1 l0 l1 HD
    generalize ((((((((((((w7.setCell ⟨b1, 4, none⟩ (.int .i64 (aw : Int))).setCell ⟨b1, 5, none⟩ (.int .i64 (an : Int))).setCell ⟨b0, 0, none⟩ (.int .i64 2)).setCell ⟨b0, 1, none⟩ (.int .i64 (ow : Int))).setCell ⟨b0, 2, none⟩ (.int .i64 (on : Int))).setCell ⟨b0, 3, none⟩ (.int .i64 0)).setCell ⟨b0, 4, none⟩ (.int .i64 (aw : Int))).setCell ⟨b0, 5, none⟩ (.int .i64 (an : Int))).setCell ⟨b0, 6, none⟩ (.int .i64 0)).setCell ⟨b0, 7, none⟩ (.int .i64 0)).setCell ⟨b0, 8, none⟩ (.int .i64 u)).setCell ⟨b0, 9, none⟩ (.int .i64 (n : Int))) = wF at *
    have y0 : wF.cell? ⟨b0, 0, none⟩ = some (.int .i64 2) := by rw [HF.out.x.cell 0]; rfl
    have y1 : wF.cell? ⟨b0, 1, none⟩ = some (.int .i64 (ow : Int)) := by rw [HF.out.x.cell 1]; rfl
    have y2 : wF.cell? ⟨b0, 2, none⟩ = some (.int .i64 (on : Int)) := by rw [HF.out.x.cell 2]; rfl
    have y3 : wF.cell? ⟨b0, 3, none⟩ = some (.int .i64 0) := by rw [HF.out.x.cell 3]; rfl
    have y4 : wF.cell? ⟨b0, 4, none⟩ = some (.int .i64 (aw : Int)) := by rw [HF.out.x.cell 4]; rfl
    have y5 : wF.cell? ⟨b0, 5, none⟩ = some (.int .i64 (an : Int)) := by rw [HF.out.x.cell 5]; rfl
    have y6 : wF.cell? ⟨b0, 6, none⟩ = some (.int .i64 0) := by rw [HF.out.x.cell 6]; rfl
    have y7 : wF.cell? ⟨b0, 7, none⟩ = some (.int .i64 0) := by rw [HF.out.x.cell 7]; rfl
    have y8 : wF.cell? ⟨b0, 8, none⟩ = some (.int .i64 u) := by rw [HF.out.x.cell 8]; rfl
    have y9 : wF.cell? ⟨b0, 9, none⟩ = some (.int .i64 (n : Int)) := by rw [HF.out.x.cell 9]; rfl
    refine bodyPost_ret (v := credV ⟨2, (ow : Int), (on : Int), 0, (aw : Int), (an : Int), 0, 0, u, (n : Int)⟩) (by simp [results, Tryd.results24, go_sem, y0, y1, y2, y3, y4, y5, y6, y7, y8, y9]) rfl ⟨⟨2, (ow : Int), (on : Int), 0, (aw : Int), (an : Int), 0, 0, u, (n : Int)⟩, by unfold credOk kindOk roleOk; dsimp only; omega, rfl, HF.out.c, HF.out.gr⟩
  · skip
    go_wp2_with fail
    obtain ⟨b1, e1⟩ : ∃ b, b = w5.heap.size := ⟨_, rfl⟩
    rw [← e1] at HD ⊢
    clear e1
    generalize w5.alloc (.cells #[.int .i64 3, .int .i64 (ow : Int), .int .i64 (on : Int), .int .i64 0, .int .i64 0, .int .i64 0, .int .i64 0, .int .i64 0, .int .i64 u, .int .i64 (n : Int)] 27) = w6 at *
    refine (role_calls B g _ HD.out.c (HBB.out _ HD.out.gr)).mono ?_
    rintro e w7 ⟨aw, an, haw, han, rfl, hc2, hg2⟩
    have HD := hide (HD.out.call hc2 hg2)
    clear hc2 hg2
    have d0 : w7.cell? ⟨b1, 0, none⟩ = some (.int .i64 3) := by rw [HD.out.y.cell 0]; rfl
    have d1 : w7.cell? ⟨b1, 1, none⟩ = some (.int .i64 (ow : Int)) := by rw [HD.out.y.cell 1]; rfl
    have d2 : w7.cell? ⟨b1, 2, none⟩ = some (.int .i64 (on : Int)) := by rw [HD.out.y.cell 2]; rfl
    have d3 : w7.cell? ⟨b1, 3, none⟩ = some (.int .i64 0) := by rw [HD.out.y.cell 3]; rfl
    have d4 : w7.cell? ⟨b1, 4, none⟩ = some (.int .i64 0) := by rw [HD.out.y.cell 4]; rfl
    have d5 : w7.cell? ⟨b1, 5, none⟩ = some (.int .i64 0) := by rw [HD.out.y.cell 5]; rfl
    have d6 : w7.cell? ⟨b1, 6, none⟩ = some (.int .i64 0) := by rw [HD.out.y.cell 6]; rfl
    have d7 : w7.cell? ⟨b1, 7, none⟩ = some (.int .i64 0) := by rw [HD.out.y.cell 7]; rfl
    have d8 : w7.cell? ⟨b1, 8, none⟩ = some (.int .i64 u) := by rw [HD.out.y.cell 8]; rfl
    have d9 : w7.cell? ⟨b1, 9, none⟩ = some (.int .i64 (n : Int)) := by rw [HD.out.y.cell 9]; rfl
    have a1 := HD.out.y.free
    have l1 := HD.out.y.lt
    have ne := HD.out.ne
    have ne' := Ne.symm ne
    go_wp2_with fail
    have HD := hide ((HD.out.setY 4 (.int .i64 (aw : Int))).setY 5 (.int .i64 (an : Int)))
    clear d0 d1 d2 d3 d4 d5 d6 d7 d8 d9 a1 l1 ne ne'
    generalize ((w7.setCell ⟨b1, 4, none⟩ (.int .i64 (aw : Int))).setCell ⟨b1, 5, none⟩ (.int .i64 (an : Int))) = w8 at *
    refine (below_calls B g _ HD.out.c 2 (by decide) (by decide)).mono ?_
    rintro e w9 ⟨m, hm, rfl, hc2, hg2⟩
    have HD := hide (HD.out.call hc2 hg2)
    clear hc2 hg2
    have d0 : w9.cell? ⟨b1, 0, none⟩ = some (.int .i64 3) := by rw [HD.out.y.cell 0]; rfl
    have d1 : w9.cell? ⟨b1, 1, none⟩ = some (.int .i64 (ow : Int)) := by rw [HD.out.y.cell 1]; rfl
    have d2 : w9.cell? ⟨b1, 2, none⟩ = some (.int .i64 (on : Int)) := by rw [HD.out.y.cell 2]; rfl
    have d3 : w9.cell? ⟨b1, 3, none⟩ = some (.int .i64 0) := by rw [HD.out.y.cell 3]; rfl
    have d4 : w9.cell? ⟨b1, 4, none⟩ = some (.int .i64 (aw : Int)) := by rw [HD.out.y.cell 4]; rfl
    have d5 : w9.cell? ⟨b1, 5, none⟩ = some (.int .i64 (an : Int)) := by rw [HD.out.y.cell 5]; rfl
    have d6 : w9.cell? ⟨b1, 6, none⟩ = some (.int .i64 0) := by rw [HD.out.y.cell 6]; rfl
    have d7 : w9.cell? ⟨b1, 7, none⟩ = some (.int .i64 0) := by rw [HD.out.y.cell 7]; rfl
    have d8 : w9.cell? ⟨b1, 8, none⟩ = some (.int .i64 u) := by rw [HD.out.y.cell 8]; rfl
    have d9 : w9.cell? ⟨b1, 9, none⟩ = some (.int .i64 (n : Int)) := by rw [HD.out.y.cell 9]; rfl
    have c0 : w9.cell? ⟨b0, 0, none⟩ = some (.int .i64 0) := by rw [HD.out.x.cell 0]; rfl
    have c1 : w9.cell? ⟨b0, 1, none⟩ = some (.int .i64 0) := by rw [HD.out.x.cell 1]; rfl
    have c2 : w9.cell? ⟨b0, 2, none⟩ = some (.int .i64 0) := by rw [HD.out.x.cell 2]; rfl
    have c3 : w9.cell? ⟨b0, 3, none⟩ = some (.int .i64 0) := by rw [HD.out.x.cell 3]; rfl
    have c4 : w9.cell? ⟨b0, 4, none⟩ = some (.int .i64 0) := by rw [HD.out.x.cell 4]; rfl
    have c5 : w9.cell? ⟨b0, 5, none⟩ = some (.int .i64 0) := by rw [HD.out.x.cell 5]; rfl
    have c6 : w9.cell? ⟨b0, 6, none⟩ = some (.int .i64 0) := by rw [HD.out.x.cell 6]; rfl
    have c7 : w9.cell? ⟨b0, 7, none⟩ = some (.int .i64 0) := by rw [HD.out.x.cell 7]; rfl
    have c8 : w9.cell? ⟨b0, 8, none⟩ = some (.int .i64 0) := by rw [HD.out.x.cell 8]; rfl
    have c9 : w9.cell? ⟨b0, 9, none⟩ = some (.int .i64 0) := by rw [HD.out.x.cell 9]; rfl
    have a1 := HD.out.y.free
    have l1 := HD.out.y.lt
    have a0 := HD.out.x.free
    have l0 := HD.out.x.lt
    have ne := HD.out.ne
    have ne' := Ne.symm ne
    go_wp2_with fail
    have HF := hide ((((((((((((HD.out.setY 6 (.int .i64 0)).setY 7 (.int .i64 (m : Int))).setX 0 (.int .i64 3)).setX 1 (.int .i64 (ow : Int))).setX 2 (.int .i64 (on : Int))).setX 3 (.int .i64 0)).setX 4 (.int .i64 (aw : Int))).setX 5 (.int .i64 (an : Int))).setX 6 (.int .i64 0)).setX 7 (.int .i64 (m : Int))).setX 8 (.int .i64 u)).setX 9 (.int .i64 (n : Int)))
    clear c0 c1 c2 c3 c4 c5 c6 c7 c8 c9 d0 d1 d2 d3 d4 d5 d6 d7 d8 d9 a0 a1 l0 l1 HD
    generalize ((((((((((((w9.setCell ⟨b1, 6, none⟩ (.int .i64 0)).setCell ⟨b1, 7, none⟩ (.int .i64 (m : Int))).setCell ⟨b0, 0, none⟩ (.int .i64 3)).setCell ⟨b0, 1, none⟩ (.int .i64 (ow : Int))).setCell ⟨b0, 2, none⟩ (.int .i64 (on : Int))).setCell ⟨b0, 3, none⟩ (.int .i64 0)).setCell ⟨b0, 4, none⟩ (.int .i64 (aw : Int))).setCell ⟨b0, 5, none⟩ (.int .i64 (an : Int))).setCell ⟨b0, 6, none⟩ (.int .i64 0)).setCell ⟨b0, 7, none⟩ (.int .i64 (m : Int))).setCell ⟨b0, 8, none⟩ (.int .i64 u)).setCell ⟨b0, 9, none⟩ (.int .i64 (n : Int))) = wF at *
    have y0 : wF.cell? ⟨b0, 0, none⟩ = some (.int .i64 3) := by rw [HF.out.x.cell 0]; rfl
    have y1 : wF.cell? ⟨b0, 1, none⟩ = some (.int .i64 (ow : Int)) := by rw [HF.out.x.cell 1]; rfl
    have y2 : wF.cell? ⟨b0, 2, none⟩ = some (.int .i64 (on : Int)) := by rw [HF.out.x.cell 2]; rfl
    have y3 : wF.cell? ⟨b0, 3, none⟩ = some (.int .i64 0) := by rw [HF.out.x.cell 3]; rfl
    have y4 : wF.cell? ⟨b0, 4, none⟩ = some (.int .i64 (aw : Int)) := by rw [HF.out.x.cell 4]; rfl
    have y5 : wF.cell? ⟨b0, 5, none⟩ = some (.int .i64 (an : Int)) := by rw [HF.out.x.cell 5]; rfl
    have y6 : wF.cell? ⟨b0, 6, none⟩ = some (.int .i64 0) := by rw [HF.out.x.cell 6]; rfl
    have y7 : wF.cell? ⟨b0, 7, none⟩ = some (.int .i64 (m : Int)) := by rw [HF.out.x.cell 7]; rfl
    have y8 : wF.cell? ⟨b0, 8, none⟩ = some (.int .i64 u) := by rw [HF.out.x.cell 8]; rfl
    have y9 : wF.cell? ⟨b0, 9, none⟩ = some (.int .i64 (n : Int)) := by rw [HF.out.x.cell 9]; rfl
    refine bodyPost_ret (v := credV ⟨3, (ow : Int), (on : Int), 0, (aw : Int), (an : Int), 0, (m : Int), u, (n : Int)⟩) (by simp [results, Tryd.results24, go_sem, y0, y1, y2, y3, y4, y5, y6, y7, y8, y9]) rfl ⟨⟨3, (ow : Int), (on : Int), 0, (aw : Int), (an : Int), 0, (m : Int), u, (n : Int)⟩, by unfold credOk kindOk roleOk; dsimp only; omega, rfl, HF.out.c, HF.out.gr⟩
  · skip
    go_wp2_with fail
    obtain ⟨b1, e1⟩ : ∃ b, b = w5.heap.size := ⟨_, rfl⟩
    rw [← e1] at HD ⊢
    clear e1
    generalize w5.alloc (.cells #[.int .i64 4, .int .i64 (ow : Int), .int .i64 (on : Int), .int .i64 0, .int .i64 0, .int .i64 0, .int .i64 0, .int .i64 0, .int .i64 u, .int .i64 (n : Int)] 27) = w6 at *
    refine (role_calls B g _ HD.out.c (HBB.out _ HD.out.gr)).mono ?_
    rintro e w7 ⟨aw, an, haw, han, rfl, hc2, hg2⟩
    have HD := hide (HD.out.call hc2 hg2)
    clear hc2 hg2
    have d0 : w7.cell? ⟨b1, 0, none⟩ = some (.int .i64 4) := by rw [HD.out.y.cell 0]; rfl
    have d1 : w7.cell? ⟨b1, 1, none⟩ = some (.int .i64 (ow : Int)) := by rw [HD.out.y.cell 1]; rfl
    have d2 : w7.cell? ⟨b1, 2, none⟩ = some (.int .i64 (on : Int)) := by rw [HD.out.y.cell 2]; rfl
    have d3 : w7.cell? ⟨b1, 3, none⟩ = some (.int .i64 0) := by rw [HD.out.y.cell 3]; rfl
    have d4 : w7.cell? ⟨b1, 4, none⟩ = some (.int .i64 0) := by rw [HD.out.y.cell 4]; rfl
    have d5 : w7.cell? ⟨b1, 5, none⟩ = some (.int .i64 0) := by rw [HD.out.y.cell 5]; rfl
    have d6 : w7.cell? ⟨b1, 6, none⟩ = some (.int .i64 0) := by rw [HD.out.y.cell 6]; rfl
    have d7 : w7.cell? ⟨b1, 7, none⟩ = some (.int .i64 0) := by rw [HD.out.y.cell 7]; rfl
    have d8 : w7.cell? ⟨b1, 8, none⟩ = some (.int .i64 u) := by rw [HD.out.y.cell 8]; rfl
    have d9 : w7.cell? ⟨b1, 9, none⟩ = some (.int .i64 (n : Int)) := by rw [HD.out.y.cell 9]; rfl
    have a1 := HD.out.y.free
    have l1 := HD.out.y.lt
    have ne := HD.out.ne
    have ne' := Ne.symm ne
    go_wp2_with fail
    have HD := hide ((HD.out.setY 4 (.int .i64 (aw : Int))).setY 5 (.int .i64 (an : Int)))
    clear d0 d1 d2 d3 d4 d5 d6 d7 d8 d9 a1 l1 ne ne'
    generalize ((w7.setCell ⟨b1, 4, none⟩ (.int .i64 (aw : Int))).setCell ⟨b1, 5, none⟩ (.int .i64 (an : Int))) = w8 at *
    refine (role_calls B g _ HD.out.c (HBB.out _ HD.out.gr)).mono ?_
    rintro e w9 ⟨bw, bn, hbw, hbn, rfl, hc2, hg2⟩
    have HD := hide (HD.out.call hc2 hg2)
    clear hc2 hg2
    have d0 : w9.cell? ⟨b1, 0, none⟩ = some (.int .i64 4) := by rw [HD.out.y.cell 0]; rfl
    have d1 : w9.cell? ⟨b1, 1, none⟩ = some (.int .i64 (ow : Int)) := by rw [HD.out.y.cell 1]; rfl
    have d2 : w9.cell? ⟨b1, 2, none⟩ = some (.int .i64 (on : Int)) := by rw [HD.out.y.cell 2]; rfl
    have d3 : w9.cell? ⟨b1, 3, none⟩ = some (.int .i64 0) := by rw [HD.out.y.cell 3]; rfl
    have d4 : w9.cell? ⟨b1, 4, none⟩ = some (.int .i64 (aw : Int)) := by rw [HD.out.y.cell 4]; rfl
    have d5 : w9.cell? ⟨b1, 5, none⟩ = some (.int .i64 (an : Int)) := by rw [HD.out.y.cell 5]; rfl
    have d6 : w9.cell? ⟨b1, 6, none⟩ = some (.int .i64 0) := by rw [HD.out.y.cell 6]; rfl
    have d7 : w9.cell? ⟨b1, 7, none⟩ = some (.int .i64 0) := by rw [HD.out.y.cell 7]; rfl
    have d8 : w9.cell? ⟨b1, 8, none⟩ = some (.int .i64 u) := by rw [HD.out.y.cell 8]; rfl
    have d9 : w9.cell? ⟨b1, 9, none⟩ = some (.int .i64 (n : Int)) := by rw [HD.out.y.cell 9]; rfl
    have c0 : w9.cell? ⟨b0, 0, none⟩ = some (.int .i64 0) := by rw [HD.out.x.cell 0]; rfl
    have c1 : w9.cell? ⟨b0, 1, none⟩ = some (.int .i64 0) := by rw [HD.out.x.cell 1]; rfl
    have c2 : w9.cell? ⟨b0, 2, none⟩ = some (.int .i64 0) := by rw [HD.out.x.cell 2]; rfl
    have c3 : w9.cell? ⟨b0, 3, none⟩ = some (.int .i64 0) := by rw [HD.out.x.cell 3]; rfl
    have c4 : w9.cell? ⟨b0, 4, none⟩ = some (.int .i64 0) := by rw [HD.out.x.cell 4]; rfl
    have c5 : w9.cell? ⟨b0, 5, none⟩ = some (.int .i64 0) := by rw [HD.out.x.cell 5]; rfl
    have c6 : w9.cell? ⟨b0, 6, none⟩ = some (.int .i64 0) := by rw [HD.out.x.cell 6]; rfl
    have c7 : w9.cell? ⟨b0, 7, none⟩ = some (.int .i64 0) := by rw [HD.out.x.cell 7]; rfl
    have c8 : w9.cell? ⟨b0, 8, none⟩ = some (.int .i64 0) := by rw [HD.out.x.cell 8]; rfl
    have c9 : w9.cell? ⟨b0, 9, none⟩ = some (.int .i64 0) := by rw [HD.out.x.cell 9]; rfl
    have a1 := HD.out.y.free
    have l1 := HD.out.y.lt
    have a0 := HD.out.x.free
    have l0 := HD.out.x.lt
    have ne := HD.out.ne
    have ne' := Ne.symm ne
    go_wp2_with fail
    have HF := hide ((((((((((((HD.out.setY 6 (.int .i64 (bw : Int))).setY 7 (.int .i64 (bn : Int))).setX 0 (.int .i64 4)).setX 1 (.int .i64 (ow : Int))).setX 2 (.int .i64 (on : Int))).setX 3 (.int .i64 0)).setX 4 (.int .i64 (aw : Int))).setX 5 (.int .i64 (an : Int))).setX 6 (.int .i64 (bw : Int))).setX 7 (.int .i64 (bn : Int))).setX 8 (.int .i64 u)).setX 9 (.int .i64 (n : Int)))
    clear c0 c1 c2 c3 c4 c5 c6 c7 c8 c9 d0 d1 d2 d3 d4 d5 d6 d7 d8 d9 a0 a1 l0 l1 HD
    generalize ((((((((((((w9.setCell ⟨b1, 6, none⟩ (.int .i64 (bw : Int))).setCell ⟨b1, 7, none⟩ (.int .i64 (bn : Int))).setCell ⟨b0, 0, none⟩ (.int .i64 4)).setCell ⟨b0, 1, none⟩ (.int .i64 (ow : Int))).setCell ⟨b0, 2, none⟩ (.int .i64 (on : Int))).setCell ⟨b0, 3, none⟩ (.int .i64 0)).setCell ⟨b0, 4, none⟩ (.int .i64 (aw : Int))).setCell ⟨b0, 5, none⟩ (.int .i64 (an : Int))).setCell ⟨b0, 6, none⟩ (.int .i64 (bw : Int))).setCell ⟨b0, 7, none⟩ (.int .i64 (bn : Int))).setCell ⟨b0, 8, none⟩ (.int .i64 u)).setCell ⟨b0, 9, none⟩ (.int .i64 (n : Int))) = wF at *
    have y0 : wF.cell? ⟨b0, 0, none⟩ = some (.int .i64 4) := by rw [HF.out.x.cell 0]; rfl
    have y1 : wF.cell? ⟨b0, 1, none⟩ = some (.int .i64 (ow : Int)) := by rw [HF.out.x.cell 1]; rfl
    have y2 : wF.cell? ⟨b0, 2, none⟩ = some (.int .i64 (on : Int)) := by rw [HF.out.x.cell 2]; rfl
    have y3 : wF.cell? ⟨b0, 3, none⟩ = some (.int .i64 0) := by rw [HF.out.x.cell 3]; rfl
    have y4 : wF.cell? ⟨b0, 4, none⟩ = some (.int .i64 (aw : Int)) := by rw [HF.out.x.cell 4]; rfl
    have y5 : wF.cell? ⟨b0, 5, none⟩ = some (.int .i64 (an : Int)) := by rw [HF.out.x.cell 5]; rfl
    have y6 : wF.cell? ⟨b0, 6, none⟩ = some (.int .i64 (bw : Int)) := by rw [HF.out.x.cell 6]; rfl
    have y7 : wF.cell? ⟨b0, 7, none⟩ = some (.int .i64 (bn : Int)) := by rw [HF.out.x.cell 7]; rfl
    have y8 : wF.cell? ⟨b0, 8, none⟩ = some (.int .i64 u) := by rw [HF.out.x.cell 8]; rfl
    have y9 : wF.cell? ⟨b0, 9, none⟩ = some (.int .i64 (n : Int)) := by rw [HF.out.x.cell 9]; rfl
    refine bodyPost_ret (v := credV ⟨4, (ow : Int), (on : Int), 0, (aw : Int), (an : Int), (bw : Int), (bn : Int), u, (n : Int)⟩) (by simp [results, Tryd.results24, go_sem, y0, y1, y2, y3, y4, y5, y6, y7, y8, y9]) rfl ⟨⟨4, (ow : Int), (on : Int), 0, (aw : Int), (an : Int), (bw : Int), (bn : Int), u, (n : Int)⟩, by unfold credOk kindOk roleOk; dsimp only; omega, rfl, HF.out.c, HF.out.gr⟩
end Go.Proofs.YtflicklgmhgpiaaDoor.P5
namespace Go.Proofs.YtflicklgmhgpiaaDoor.P5
set_option maxRecDepth 8000
open Go.RowKit P1 Cu

theorem DR.alloc {B g b : Nat} {t : TypeId} {w0 w : World} {xs : List Value} (h : DR B g b t w0 w xs) (x : Obj) : DR B g b t w0 (w.alloc x) xs := by
  have hbel : Below w.heap.size w (w.alloc x) := (Below.refl _ _).alloc (Nat.le_refl _) _
  exact { h with c := cur_below h.c hbel h.c.2.1, gr := grown_below h.gr (hbel.mono h.gr.size), x := h.x.below hbel h.x.lt }

set_option maxHeartbeats 2000000 in
theorem l05Any_calls (B g : Nat) (w : World) (hc : Cur B w g) (hB : B ≤ w.heap.size) :
    Calls Tryd.prog 30 #[.pointer (some ⟨g, 0, none⟩)] w fun e w' => AnyR B g w e w' := by
  have HD := hide (DR.new hc hB #[.int .i64 0, .int .i64 0, .int .i64 0, .int .i64 0, .int .i64 0, .int .i64 0, .int .i64 0, .int .i64 0, .int .i64 0, .int .i64 0] 27)
  clear hc
  go_enter Tryd.func30, Tryd.ntmps30
  go_wp2_with fail
  obtain ⟨b0, e0⟩ : ∃ b, b = w.heap.size := ⟨_, rfl⟩
  rw [← e0] at HD ⊢
  clear e0
  have HBB : Hid (∀ wx, w.grownBy wx (some g) → B ≤ wx.heap.size) := fun wx h => Nat.le_trans hB h.size
  generalize w.alloc (.cells #[.int .i64 0, .int .i64 0, .int .i64 0, .int .i64 0, .int .i64 0, .int .i64 0, .int .i64 0, .int .i64 0, .int .i64 0, .int .i64 0] 27) = w1 at *
  refine (below_calls B g _ HD.out.c 10 (by decide) (by decide)).mono ?_
  rintro e w2 ⟨kk, hkk, rfl, hc2, hg2⟩
  have HD := hide (HD.out.call hc2 hg2)
  clear hc2 hg2
  go_wp2_with fail
  refine (below_calls B g _ HD.out.c 60 (by decide) (by decide)).mono ?_
  rintro e w3 ⟨y, hy, rfl, hc2, hg2⟩
  have HD := hide (HD.out.call hc2 hg2)
  clear hc2 hg2
  go_wp2_with fail
  refine (l05Cred_calls B g _ HD.out.c (HBB.out _ HD.out.gr)).mono ?_
  rintro e w4 ⟨⟨k, ow, on, wh, aw, an, bw, bn, u, n⟩, hok, rfl, hc2, hg2⟩
  have HD := hide (HD.out.call hc2 hg2)
  simp only [credV]
  clear hc2 hg2 hok
  have c0 : w4.cell? ⟨b0, 0, none⟩ = some (.int .i64 0) := by rw [HD.out.x.cell 0]; rfl
  have c1 : w4.cell? ⟨b0, 1, none⟩ = some (.int .i64 0) := by rw [HD.out.x.cell 1]; rfl
  have c2 : w4.cell? ⟨b0, 2, none⟩ = some (.int .i64 0) := by rw [HD.out.x.cell 2]; rfl
  have c3 : w4.cell? ⟨b0, 3, none⟩ = some (.int .i64 0) := by rw [HD.out.x.cell 3]; rfl
  have c4 : w4.cell? ⟨b0, 4, none⟩ = some (.int .i64 0) := by rw [HD.out.x.cell 4]; rfl
  have c5 : w4.cell? ⟨b0, 5, none⟩ = some (.int .i64 0) := by rw [HD.out.x.cell 5]; rfl
  have c6 : w4.cell? ⟨b0, 6, none⟩ = some (.int .i64 0) := by rw [HD.out.x.cell 6]; rfl
  have c7 : w4.cell? ⟨b0, 7, none⟩ = some (.int .i64 0) := by rw [HD.out.x.cell 7]; rfl
  have c8 : w4.cell? ⟨b0, 8, none⟩ = some (.int .i64 0) := by rw [HD.out.x.cell 8]; rfl
  have c9 : w4.cell? ⟨b0, 9, none⟩ = some (.int .i64 0) := by rw [HD.out.x.cell 9]; rfl
  have a0 := HD.out.x.free
  have l0 := HD.out.x.lt
  have hn0 : b0 ≠ w4.heap.size := by omega
  have hn1 : ¬ b0 = w4.heap.size := hn0
  have hn2 : ¬ w4.heap.size = b0 := fun h => hn0 h.symm
  by_cases q0 : kk = 0
  · subst q0
    go_wp2_with fail
    have HF := hide (((((((((((HD.out.set 0 (.int .i64 ((y : Int) % 6))).set 1 (.int .i64 ow)).set 2 (.int .i64 on)).set 3 (.int .i64 wh)).set 4 (.int .i64 aw)).set 5 (.int .i64 an)).set 6 (.int .i64 bw)).set 7 (.int .i64 bn)).set 8 (.int .i64 u)).set 9 (.int .i64 n)).alloc (.cells #[.int .i64 ((y : Int) % 6), .int .i64 ow, .int .i64 on, .int .i64 wh, .int .i64 aw, .int .i64 an, .int .i64 bw, .int .i64 bn, .int .i64 u, .int .i64 n] 27))
    clear c0 c1 c2 c3 c4 c5 c6 c7 c8 c9 a0 l0 HD
    generalize (((((((((((w4.setCell ⟨b0, 0, none⟩ (.int .i64 ((y : Int) % 6))).setCell ⟨b0, 1, none⟩ (.int .i64 ow)).setCell ⟨b0, 2, none⟩ (.int .i64 on)).setCell ⟨b0, 3, none⟩ (.int .i64 wh)).setCell ⟨b0, 4, none⟩ (.int .i64 aw)).setCell ⟨b0, 5, none⟩ (.int .i64 an)).setCell ⟨b0, 6, none⟩ (.int .i64 bw)).setCell ⟨b0, 7, none⟩ (.int .i64 bn)).setCell ⟨b0, 8, none⟩ (.int .i64 u)).setCell ⟨b0, 9, none⟩ (.int .i64 n)).alloc (.cells #[.int .i64 ((y : Int) % 6), .int .i64 ow, .int .i64 on, .int .i64 wh, .int .i64 aw, .int .i64 an, .int .i64 bw, .int .i64 bn, .int .i64 u, .int .i64 n] 27)) = wF at *
    have y0 : wF.cell? ⟨b0, 0, none⟩ = some (.int .i64 ((y : Int) % 6)) := by rw [HF.out.x.cell 0]; rfl
    have y1 : wF.cell? ⟨b0, 1, none⟩ = some (.int .i64 ow) := by rw [HF.out.x.cell 1]; rfl
    have y2 : wF.cell? ⟨b0, 2, none⟩ = some (.int .i64 on) := by rw [HF.out.x.cell 2]; rfl
    have y3 : wF.cell? ⟨b0, 3, none⟩ = some (.int .i64 wh) := by rw [HF.out.x.cell 3]; rfl
    have y4 : wF.cell? ⟨b0, 4, none⟩ = some (.int .i64 aw) := by rw [HF.out.x.cell 4]; rfl
    have y5 : wF.cell? ⟨b0, 5, none⟩ = some (.int .i64 an) := by rw [HF.out.x.cell 5]; rfl
    have y6 : wF.cell? ⟨b0, 6, none⟩ = some (.int .i64 bw) := by rw [HF.out.x.cell 6]; rfl
    have y7 : wF.cell? ⟨b0, 7, none⟩ = some (.int .i64 bn) := by rw [HF.out.x.cell 7]; rfl
    have y8 : wF.cell? ⟨b0, 8, none⟩ = some (.int .i64 u) := by rw [HF.out.x.cell 8]; rfl
    have y9 : wF.cell? ⟨b0, 9, none⟩ = some (.int .i64 n) := by rw [HF.out.x.cell 9]; rfl
    refine bodyPost_ret (v := credV ⟨((y : Int) % 6), ow, on, wh, aw, an, bw, bn, u, n⟩) (by simp [results, Tryd.results30, go_sem, y0, y1, y2, y3, y4, y5, y6, y7, y8, y9]) rfl ⟨⟨((y : Int) % 6), ow, on, wh, aw, an, bw, bn, u, n⟩, rfl, HF.out.c, HF.out.gr⟩
  by_cases q1 : kk = 1
  · subst q1
    go_wp2_with fail
    have HF := hide (((((((((((HD.out.set 0 (.int .i64 k)).set 1 (.int .i64 ow)).set 2 (.int .i64 on)).set 3 (.int .i64 ((y : Int) % 9 - 1))).set 4 (.int .i64 aw)).set 5 (.int .i64 an)).set 6 (.int .i64 bw)).set 7 (.int .i64 bn)).set 8 (.int .i64 u)).set 9 (.int .i64 n)).alloc (.cells #[.int .i64 k, .int .i64 ow, .int .i64 on, .int .i64 ((y : Int) % 9 - 1), .int .i64 aw, .int .i64 an, .int .i64 bw, .int .i64 bn, .int .i64 u, .int .i64 n] 27))
    clear c0 c1 c2 c3 c4 c5 c6 c7 c8 c9 a0 l0 HD
    generalize (((((((((((w4.setCell ⟨b0, 0, none⟩ (.int .i64 k)).setCell ⟨b0, 1, none⟩ (.int .i64 ow)).setCell ⟨b0, 2, none⟩ (.int .i64 on)).setCell ⟨b0, 3, none⟩ (.int .i64 ((y : Int) % 9 - 1))).setCell ⟨b0, 4, none⟩ (.int .i64 aw)).setCell ⟨b0, 5, none⟩ (.int .i64 an)).setCell ⟨b0, 6, none⟩ (.int .i64 bw)).setCell ⟨b0, 7, none⟩ (.int .i64 bn)).setCell ⟨b0, 8, none⟩ (.int .i64 u)).setCell ⟨b0, 9, none⟩ (.int .i64 n)).alloc (.cells #[.int .i64 k, .int .i64 ow, .int .i64 on, .int .i64 ((y : Int) % 9 - 1), .int .i64 aw, .int .i64 an, .int .i64 bw, .int .i64 bn, .int .i64 u, .int .i64 n] 27)) = wF at *
    have y0 : wF.cell? ⟨b0, 0, none⟩ = some (.int .i64 k) := by rw [HF.out.x.cell 0]; rfl
    have y1 : wF.cell? ⟨b0, 1, none⟩ = some (.int .i64 ow) := by rw [HF.out.x.cell 1]; rfl
    have y2 : wF.cell? ⟨b0, 2, none⟩ = some (.int .i64 on) := by rw [HF.out.x.cell 2]; rfl
    have y3 : wF.cell? ⟨b0, 3, none⟩ = some (.int .i64 ((y : Int) % 9 - 1)) := by rw [HF.out.x.cell 3]; rfl
    have y4 : wF.cell? ⟨b0, 4, none⟩ = some (.int .i64 aw) := by rw [HF.out.x.cell 4]; rfl
    have y5 : wF.cell? ⟨b0, 5, none⟩ = some (.int .i64 an) := by rw [HF.out.x.cell 5]; rfl
    have y6 : wF.cell? ⟨b0, 6, none⟩ = some (.int .i64 bw) := by rw [HF.out.x.cell 6]; rfl
    have y7 : wF.cell? ⟨b0, 7, none⟩ = some (.int .i64 bn) := by rw [HF.out.x.cell 7]; rfl
    have y8 : wF.cell? ⟨b0, 8, none⟩ = some (.int .i64 u) := by rw [HF.out.x.cell 8]; rfl
    have y9 : wF.cell? ⟨b0, 9, none⟩ = some (.int .i64 n) := by rw [HF.out.x.cell 9]; rfl
    refine bodyPost_ret (v := credV ⟨k, ow, on, ((y : Int) % 9 - 1), aw, an, bw, bn, u, n⟩) (by simp [results, Tryd.results30, go_sem, y0, y1, y2, y3, y4, y5, y6, y7, y8, y9]) rfl ⟨⟨k, ow, on, ((y : Int) % 9 - 1), aw, an, bw, bn, u, n⟩, rfl, HF.out.c, HF.out.gr⟩
  by_cases q2 : kk = 2
  · subst q2
    go_wp2_with fail
    have HF := hide (((((((((((HD.out.set 0 (.int .i64 k)).set 1 (.int .i64 ow)).set 2 (.int .i64 on)).set 3 (.int .i64 wh)).set 4 (.int .i64 ((y : Int) % 8))).set 5 (.int .i64 ((y : Int) % 5))).set 6 (.int .i64 bw)).set 7 (.int .i64 bn)).set 8 (.int .i64 u)).set 9 (.int .i64 n)).alloc (.cells #[.int .i64 k, .int .i64 ow, .int .i64 on, .int .i64 wh, .int .i64 ((y : Int) % 8), .int .i64 ((y : Int) % 5), .int .i64 bw, .int .i64 bn, .int .i64 u, .int .i64 n] 27))
    clear c0 c1 c2 c3 c4 c5 c6 c7 c8 c9 a0 l0 HD
    generalize (((((((((((w4.setCell ⟨b0, 0, none⟩ (.int .i64 k)).setCell ⟨b0, 1, none⟩ (.int .i64 ow)).setCell ⟨b0, 2, none⟩ (.int .i64 on)).setCell ⟨b0, 3, none⟩ (.int .i64 wh)).setCell ⟨b0, 4, none⟩ (.int .i64 ((y : Int) % 8))).setCell ⟨b0, 5, none⟩ (.int .i64 ((y : Int) % 5))).setCell ⟨b0, 6, none⟩ (.int .i64 bw)).setCell ⟨b0, 7, none⟩ (.int .i64 bn)).setCell ⟨b0, 8, none⟩ (.int .i64 u)).setCell ⟨b0, 9, none⟩ (.int .i64 n)).alloc (.cells #[.int .i64 k, .int .i64 ow, .int .i64 on, .int .i64 wh, .int .i64 ((y : Int) % 8), .int .i64 ((y : Int) % 5), .int .i64 bw, .int .i64 bn, .int .i64 u, .int .i64 n] 27)) = wF at *
    have y0 : wF.cell? ⟨b0, 0, none⟩ = some (.int .i64 k) := by rw [HF.out.x.cell 0]; rfl
    have y1 : wF.cell? ⟨b0, 1, none⟩ = some (.int .i64 ow) := by rw [HF.out.x.cell 1]; rfl
    have y2 : wF.cell? ⟨b0, 2, none⟩ = some (.int .i64 on) := by rw [HF.out.x.cell 2]; rfl
    have y3 : wF.cell? ⟨b0, 3, none⟩ = some (.int .i64 wh) := by rw [HF.out.x.cell 3]; rfl
    have y4 : wF.cell? ⟨b0, 4, none⟩ = some (.int .i64 ((y : Int) % 8)) := by rw [HF.out.x.cell 4]; rfl
    have y5 : wF.cell? ⟨b0, 5, none⟩ = some (.int .i64 ((y : Int) % 5)) := by rw [HF.out.x.cell 5]; rfl
    have y6 : wF.cell? ⟨b0, 6, none⟩ = some (.int .i64 bw) := by rw [HF.out.x.cell 6]; rfl
    have y7 : wF.cell? ⟨b0, 7, none⟩ = some (.int .i64 bn) := by rw [HF.out.x.cell 7]; rfl
    have y8 : wF.cell? ⟨b0, 8, none⟩ = some (.int .i64 u) := by rw [HF.out.x.cell 8]; rfl
    have y9 : wF.cell? ⟨b0, 9, none⟩ = some (.int .i64 n) := by rw [HF.out.x.cell 9]; rfl
    refine bodyPost_ret (v := credV ⟨k, ow, on, wh, ((y : Int) % 8), ((y : Int) % 5), bw, bn, u, n⟩) (by simp [results, Tryd.results30, go_sem, y0, y1, y2, y3, y4, y5, y6, y7, y8, y9]) rfl ⟨⟨k, ow, on, wh, ((y : Int) % 8), ((y : Int) % 5), bw, bn, u, n⟩, rfl, HF.out.c, HF.out.gr⟩
  by_cases q3 : kk = 3
  · subst q3
    go_wp2_with fail
    have HF := hide (((((((((((HD.out.set 0 (.int .i64 k)).set 1 (.int .i64 ow)).set 2 (.int .i64 on)).set 3 (.int .i64 wh)).set 4 (.int .i64 aw)).set 5 (.int .i64 an)).set 6 (.int .i64 ((y : Int) % 3))).set 7 (.int .i64 bn)).set 8 (.int .i64 u)).set 9 (.int .i64 n)).alloc (.cells #[.int .i64 k, .int .i64 ow, .int .i64 on, .int .i64 wh, .int .i64 aw, .int .i64 an, .int .i64 ((y : Int) % 3), .int .i64 bn, .int .i64 u, .int .i64 n] 27))
    clear c0 c1 c2 c3 c4 c5 c6 c7 c8 c9 a0 l0 HD
    generalize (((((((((((w4.setCell ⟨b0, 0, none⟩ (.int .i64 k)).setCell ⟨b0, 1, none⟩ (.int .i64 ow)).setCell ⟨b0, 2, none⟩ (.int .i64 on)).setCell ⟨b0, 3, none⟩ (.int .i64 wh)).setCell ⟨b0, 4, none⟩ (.int .i64 aw)).setCell ⟨b0, 5, none⟩ (.int .i64 an)).setCell ⟨b0, 6, none⟩ (.int .i64 ((y : Int) % 3))).setCell ⟨b0, 7, none⟩ (.int .i64 bn)).setCell ⟨b0, 8, none⟩ (.int .i64 u)).setCell ⟨b0, 9, none⟩ (.int .i64 n)).alloc (.cells #[.int .i64 k, .int .i64 ow, .int .i64 on, .int .i64 wh, .int .i64 aw, .int .i64 an, .int .i64 ((y : Int) % 3), .int .i64 bn, .int .i64 u, .int .i64 n] 27)) = wF at *
    have y0 : wF.cell? ⟨b0, 0, none⟩ = some (.int .i64 k) := by rw [HF.out.x.cell 0]; rfl
    have y1 : wF.cell? ⟨b0, 1, none⟩ = some (.int .i64 ow) := by rw [HF.out.x.cell 1]; rfl
    have y2 : wF.cell? ⟨b0, 2, none⟩ = some (.int .i64 on) := by rw [HF.out.x.cell 2]; rfl
    have y3 : wF.cell? ⟨b0, 3, none⟩ = some (.int .i64 wh) := by rw [HF.out.x.cell 3]; rfl
    have y4 : wF.cell? ⟨b0, 4, none⟩ = some (.int .i64 aw) := by rw [HF.out.x.cell 4]; rfl
    have y5 : wF.cell? ⟨b0, 5, none⟩ = some (.int .i64 an) := by rw [HF.out.x.cell 5]; rfl
    have y6 : wF.cell? ⟨b0, 6, none⟩ = some (.int .i64 ((y : Int) % 3)) := by rw [HF.out.x.cell 6]; rfl
    have y7 : wF.cell? ⟨b0, 7, none⟩ = some (.int .i64 bn) := by rw [HF.out.x.cell 7]; rfl
    have y8 : wF.cell? ⟨b0, 8, none⟩ = some (.int .i64 u) := by rw [HF.out.x.cell 8]; rfl
    have y9 : wF.cell? ⟨b0, 9, none⟩ = some (.int .i64 n) := by rw [HF.out.x.cell 9]; rfl
    refine bodyPost_ret (v := credV ⟨k, ow, on, wh, aw, an, ((y : Int) % 3), bn, u, n⟩) (by simp [results, Tryd.results30, go_sem, y0, y1, y2, y3, y4, y5, y6, y7, y8, y9]) rfl ⟨⟨k, ow, on, wh, aw, an, ((y : Int) % 3), bn, u, n⟩, rfl, HF.out.c, HF.out.gr⟩
  by_cases q4 : kk = 4
  · subst q4
    have h3 : (y : Int) % 3 = 0 ∨ (y : Int) % 3 = 1 ∨ (y : Int) % 3 = 2 := by omega
    rcases h3 with h3 | h3 | h3
    · skip
      go_wp2_with fail
      have HF := hide ((((((((((((HD.out.set 0 (.int .i64 k)).set 1 (.int .i64 ow)).set 2 (.int .i64 on)).set 3 (.int .i64 wh)).set 4 (.int .i64 aw)).set 5 (.int .i64 an)).set 6 (.int .i64 bw)).set 7 (.int .i64 bn)).set 8 (.int .i64 0)).set 9 (.int .i64 n)).alloc (.cells #[.int .i64 k, .int .i64 ow, .int .i64 on, .int .i64 wh, .int .i64 aw, .int .i64 an, .int .i64 bw, .int .i64 bn, .int .i64 0, .int .i64 n] 27)).alloc (.cells #[.int .i64 0, .int .i64 10000, .int .i64 1] 3))
      clear c0 c1 c2 c3 c4 c5 c6 c7 c8 c9 a0 l0 HD
      generalize ((((((((((((w4.setCell ⟨b0, 0, none⟩ (.int .i64 k)).setCell ⟨b0, 1, none⟩ (.int .i64 ow)).setCell ⟨b0, 2, none⟩ (.int .i64 on)).setCell ⟨b0, 3, none⟩ (.int .i64 wh)).setCell ⟨b0, 4, none⟩ (.int .i64 aw)).setCell ⟨b0, 5, none⟩ (.int .i64 an)).setCell ⟨b0, 6, none⟩ (.int .i64 bw)).setCell ⟨b0, 7, none⟩ (.int .i64 bn)).setCell ⟨b0, 8, none⟩ (.int .i64 0)).setCell ⟨b0, 9, none⟩ (.int .i64 n)).alloc (.cells #[.int .i64 k, .int .i64 ow, .int .i64 on, .int .i64 wh, .int .i64 aw, .int .i64 an, .int .i64 bw, .int .i64 bn, .int .i64 0, .int .i64 n] 27)).alloc (.cells #[.int .i64 0, .int .i64 10000, .int .i64 1] 3)) = wF at *
      have y0 : wF.cell? ⟨b0, 0, none⟩ = some (.int .i64 k) := by rw [HF.out.x.cell 0]; rfl
      have y1 : wF.cell? ⟨b0, 1, none⟩ = some (.int .i64 ow) := by rw [HF.out.x.cell 1]; rfl
      have y2 : wF.cell? ⟨b0, 2, none⟩ = some (.int .i64 on) := by rw [HF.out.x.cell 2]; rfl
      have y3 : wF.cell? ⟨b0, 3, none⟩ = some (.int .i64 wh) := by rw [HF.out.x.cell 3]; rfl
      have y4 : wF.cell? ⟨b0, 4, none⟩ = some (.int .i64 aw) := by rw [HF.out.x.cell 4]; rfl
      have y5 : wF.cell? ⟨b0, 5, none⟩ = some (.int .i64 an) := by rw [HF.out.x.cell 5]; rfl
      have y6 : wF.cell? ⟨b0, 6, none⟩ = some (.int .i64 bw) := by rw [HF.out.x.cell 6]; rfl
      have y7 : wF.cell? ⟨b0, 7, none⟩ = some (.int .i64 bn) := by rw [HF.out.x.cell 7]; rfl
      have y8 : wF.cell? ⟨b0, 8, none⟩ = some (.int .i64 0) := by rw [HF.out.x.cell 8]; rfl
      have y9 : wF.cell? ⟨b0, 9, none⟩ = some (.int .i64 n) := by rw [HF.out.x.cell 9]; rfl
      refine bodyPost_ret (v := credV ⟨k, ow, on, wh, aw, an, bw, bn, 0, n⟩) (by simp [results, Tryd.results30, go_sem, y0, y1, y2, y3, y4, y5, y6, y7, y8, y9]) rfl ⟨⟨k, ow, on, wh, aw, an, bw, bn, 0, n⟩, rfl, HF.out.c, HF.out.gr⟩
    · skip
      go_wp2_with fail
      have HF := hide ((((((((((((HD.out.set 0 (.int .i64 k)).set 1 (.int .i64 ow)).set 2 (.int .i64 on)).set 3 (.int .i64 wh)).set 4 (.int .i64 aw)).set 5 (.int .i64 an)).set 6 (.int .i64 bw)).set 7 (.int .i64 bn)).set 8 (.int .i64 10000)).set 9 (.int .i64 n)).alloc (.cells #[.int .i64 k, .int .i64 ow, .int .i64 on, .int .i64 wh, .int .i64 aw, .int .i64 an, .int .i64 bw, .int .i64 bn, .int .i64 10000, .int .i64 n] 27)).alloc (.cells #[.int .i64 0, .int .i64 10000, .int .i64 1] 3))
      clear c0 c1 c2 c3 c4 c5 c6 c7 c8 c9 a0 l0 HD
      generalize ((((((((((((w4.setCell ⟨b0, 0, none⟩ (.int .i64 k)).setCell ⟨b0, 1, none⟩ (.int .i64 ow)).setCell ⟨b0, 2, none⟩ (.int .i64 on)).setCell ⟨b0, 3, none⟩ (.int .i64 wh)).setCell ⟨b0, 4, none⟩ (.int .i64 aw)).setCell ⟨b0, 5, none⟩ (.int .i64 an)).setCell ⟨b0, 6, none⟩ (.int .i64 bw)).setCell ⟨b0, 7, none⟩ (.int .i64 bn)).setCell ⟨b0, 8, none⟩ (.int .i64 10000)).setCell ⟨b0, 9, none⟩ (.int .i64 n)).alloc (.cells #[.int .i64 k, .int .i64 ow, .int .i64 on, .int .i64 wh, .int .i64 aw, .int .i64 an, .int .i64 bw, .int .i64 bn, .int .i64 10000, .int .i64 n] 27)).alloc (.cells #[.int .i64 0, .int .i64 10000, .int .i64 1] 3)) = wF at *
      have y0 : wF.cell? ⟨b0, 0, none⟩ = some (.int .i64 k) := by rw [HF.out.x.cell 0]; rfl
      have y1 : wF.cell? ⟨b0, 1, none⟩ = some (.int .i64 ow) := by rw [HF.out.x.cell 1]; rfl
      have y2 : wF.cell? ⟨b0, 2, none⟩ = some (.int .i64 on) := by rw [HF.out.x.cell 2]; rfl
      have y3 : wF.cell? ⟨b0, 3, none⟩ = some (.int .i64 wh) := by rw [HF.out.x.cell 3]; rfl
      have y4 : wF.cell? ⟨b0, 4, none⟩ = some (.int .i64 aw) := by rw [HF.out.x.cell 4]; rfl
      have y5 : wF.cell? ⟨b0, 5, none⟩ = some (.int .i64 an) := by rw [HF.out.x.cell 5]; rfl
      have y6 : wF.cell? ⟨b0, 6, none⟩ = some (.int .i64 bw) := by rw [HF.out.x.cell 6]; rfl
      have y7 : wF.cell? ⟨b0, 7, none⟩ = some (.int .i64 bn) := by rw [HF.out.x.cell 7]; rfl
      have y8 : wF.cell? ⟨b0, 8, none⟩ = some (.int .i64 10000) := by rw [HF.out.x.cell 8]; rfl
      have y9 : wF.cell? ⟨b0, 9, none⟩ = some (.int .i64 n) := by rw [HF.out.x.cell 9]; rfl
      refine bodyPost_ret (v := credV ⟨k, ow, on, wh, aw, an, bw, bn, 10000, n⟩) (by simp [results, Tryd.results30, go_sem, y0, y1, y2, y3, y4, y5, y6, y7, y8, y9]) rfl ⟨⟨k, ow, on, wh, aw, an, bw, bn, 10000, n⟩, rfl, HF.out.c, HF.out.gr⟩
    · skip
      go_wp2_with fail
      have HF := hide ((((((((((((HD.out.set 0 (.int .i64 k)).set 1 (.int .i64 ow)).set 2 (.int .i64 on)).set 3 (.int .i64 wh)).set 4 (.int .i64 aw)).set 5 (.int .i64 an)).set 6 (.int .i64 bw)).set 7 (.int .i64 bn)).set 8 (.int .i64 1)).set 9 (.int .i64 n)).alloc (.cells #[.int .i64 k, .int .i64 ow, .int .i64 on, .int .i64 wh, .int .i64 aw, .int .i64 an, .int .i64 bw, .int .i64 bn, .int .i64 1, .int .i64 n] 27)).alloc (.cells #[.int .i64 0, .int .i64 10000, .int .i64 1] 3))
      clear c0 c1 c2 c3 c4 c5 c6 c7 c8 c9 a0 l0 HD
      generalize ((((((((((((w4.setCell ⟨b0, 0, none⟩ (.int .i64 k)).setCell ⟨b0, 1, none⟩ (.int .i64 ow)).setCell ⟨b0, 2, none⟩ (.int .i64 on)).setCell ⟨b0, 3, none⟩ (.int .i64 wh)).setCell ⟨b0, 4, none⟩ (.int .i64 aw)).setCell ⟨b0, 5, none⟩ (.int .i64 an)).setCell ⟨b0, 6, none⟩ (.int .i64 bw)).setCell ⟨b0, 7, none⟩ (.int .i64 bn)).setCell ⟨b0, 8, none⟩ (.int .i64 1)).setCell ⟨b0, 9, none⟩ (.int .i64 n)).alloc (.cells #[.int .i64 k, .int .i64 ow, .int .i64 on, .int .i64 wh, .int .i64 aw, .int .i64 an, .int .i64 bw, .int .i64 bn, .int .i64 1, .int .i64 n] 27)).alloc (.cells #[.int .i64 0, .int .i64 10000, .int .i64 1] 3)) = wF at *
      have y0 : wF.cell? ⟨b0, 0, none⟩ = some (.int .i64 k) := by rw [HF.out.x.cell 0]; rfl
      have y1 : wF.cell? ⟨b0, 1, none⟩ = some (.int .i64 ow) := by rw [HF.out.x.cell 1]; rfl
      have y2 : wF.cell? ⟨b0, 2, none⟩ = some (.int .i64 on) := by rw [HF.out.x.cell 2]; rfl
      have y3 : wF.cell? ⟨b0, 3, none⟩ = some (.int .i64 wh) := by rw [HF.out.x.cell 3]; rfl
      have y4 : wF.cell? ⟨b0, 4, none⟩ = some (.int .i64 aw) := by rw [HF.out.x.cell 4]; rfl
      have y5 : wF.cell? ⟨b0, 5, none⟩ = some (.int .i64 an) := by rw [HF.out.x.cell 5]; rfl
      have y6 : wF.cell? ⟨b0, 6, none⟩ = some (.int .i64 bw) := by rw [HF.out.x.cell 6]; rfl
      have y7 : wF.cell? ⟨b0, 7, none⟩ = some (.int .i64 bn) := by rw [HF.out.x.cell 7]; rfl
      have y8 : wF.cell? ⟨b0, 8, none⟩ = some (.int .i64 1) := by rw [HF.out.x.cell 8]; rfl
      have y9 : wF.cell? ⟨b0, 9, none⟩ = some (.int .i64 n) := by rw [HF.out.x.cell 9]; rfl
      refine bodyPost_ret (v := credV ⟨k, ow, on, wh, aw, an, bw, bn, 1, n⟩) (by simp [results, Tryd.results30, go_sem, y0, y1, y2, y3, y4, y5, y6, y7, y8, y9]) rfl ⟨⟨k, ow, on, wh, aw, an, bw, bn, 1, n⟩, rfl, HF.out.c, HF.out.gr⟩
  · skip
    have r0 : ((kk : Int) == 0) = false := by simp; omega
    have r1 : ((kk : Int) == 1) = false := by simp; omega
    have r2 : ((kk : Int) == 2) = false := by simp; omega
    have r3 : ((kk : Int) == 3) = false := by simp; omega
    have r4 : ((kk : Int) == 4) = false := by simp; omega
    go_wp2_with fail
    have HF := hide (((((((((((HD.out.set 0 (.int .i64 k)).set 1 (.int .i64 ow)).set 2 (.int .i64 on)).set 3 (.int .i64 wh)).set 4 (.int .i64 aw)).set 5 (.int .i64 an)).set 6 (.int .i64 bw)).set 7 (.int .i64 bn)).set 8 (.int .i64 u)).set 9 (.int .i64 n)).alloc (.cells #[.int .i64 k, .int .i64 ow, .int .i64 on, .int .i64 wh, .int .i64 aw, .int .i64 an, .int .i64 bw, .int .i64 bn, .int .i64 u, .int .i64 n] 27))
    clear c0 c1 c2 c3 c4 c5 c6 c7 c8 c9 a0 l0 HD
    generalize (((((((((((w4.setCell ⟨b0, 0, none⟩ (.int .i64 k)).setCell ⟨b0, 1, none⟩ (.int .i64 ow)).setCell ⟨b0, 2, none⟩ (.int .i64 on)).setCell ⟨b0, 3, none⟩ (.int .i64 wh)).setCell ⟨b0, 4, none⟩ (.int .i64 aw)).setCell ⟨b0, 5, none⟩ (.int .i64 an)).setCell ⟨b0, 6, none⟩ (.int .i64 bw)).setCell ⟨b0, 7, none⟩ (.int .i64 bn)).setCell ⟨b0, 8, none⟩ (.int .i64 u)).setCell ⟨b0, 9, none⟩ (.int .i64 n)).alloc (.cells #[.int .i64 k, .int .i64 ow, .int .i64 on, .int .i64 wh, .int .i64 aw, .int .i64 an, .int .i64 bw, .int .i64 bn, .int .i64 u, .int .i64 n] 27)) = wF at *
    have y0 : wF.cell? ⟨b0, 0, none⟩ = some (.int .i64 k) := by rw [HF.out.x.cell 0]; rfl
    have y1 : wF.cell? ⟨b0, 1, none⟩ = some (.int .i64 ow) := by rw [HF.out.x.cell 1]; rfl
    have y2 : wF.cell? ⟨b0, 2, none⟩ = some (.int .i64 on) := by rw [HF.out.x.cell 2]; rfl
    have y3 : wF.cell? ⟨b0, 3, none⟩ = some (.int .i64 wh) := by rw [HF.out.x.cell 3]; rfl
    have y4 : wF.cell? ⟨b0, 4, none⟩ = some (.int .i64 aw) := by rw [HF.out.x.cell 4]; rfl
    have y5 : wF.cell? ⟨b0, 5, none⟩ = some (.int .i64 an) := by rw [HF.out.x.cell 5]; rfl
    have y6 : wF.cell? ⟨b0, 6, none⟩ = some (.int .i64 bw) := by rw [HF.out.x.cell 6]; rfl
    have y7 : wF.cell? ⟨b0, 7, none⟩ = some (.int .i64 bn) := by rw [HF.out.x.cell 7]; rfl
    have y8 : wF.cell? ⟨b0, 8, none⟩ = some (.int .i64 u) := by rw [HF.out.x.cell 8]; rfl
    have y9 : wF.cell? ⟨b0, 9, none⟩ = some (.int .i64 n) := by rw [HF.out.x.cell 9]; rfl
    refine bodyPost_ret (v := credV ⟨k, ow, on, wh, aw, an, bw, bn, u, n⟩) (by simp [results, Tryd.results30, go_sem, y0, y1, y2, y3, y4, y5, y6, y7, y8, y9]) rfl ⟨⟨k, ow, on, wh, aw, an, bw, bn, u, n⟩, rfl, HF.out.c, HF.out.gr⟩
end Go.Proofs.YtflicklgmhgpiaaDoor.P5
namespace Go.Proofs.YtflicklgmhgpiaaDoor.P5
set_option maxRecDepth 8000
open Go.RowKit P1 Cu

theorem once_calls (B g : Nat) (w : World) (hc : Cur B w g) (n : Nat) (hn : 0 < n) (hm : n ≤ 256) :
    Calls Tryd.prog 31 #[.pointer (some ⟨g, 0, none⟩), .int .i64 n] w fun e w' => ∃ b : Bool, e = .returned (.bool b) ∧ Cur B w' g ∧ w.grownBy w' (some g) := by
  have HC := hide hc
  clear hc
  go_enter Tryd.func31, Tryd.ntmps31
  go_wp2_with fail
  refine (below_calls B g _ HC.out n hn (by omega)).mono ?_
  rintro e w2 ⟨x, hx, rfl, hc2, hg2⟩
  have HC2 := hide hc2
  have HG2 := hide hg2
  clear hc2 hg2
  go_wp2_with fail
  go_ret
  exact ⟨_, rfl, HC2.out, HG2.out⟩

theorem enterT : ∀ args w, (callFunc 45 args).run Tryd.prog w = .ok (.enter 45 args) w := run_enter Tryd.func45 (by kernel_rfl) (by kernel_rfl)

theorem enterA : ∀ args w, (callFunc 30 args).run Tryd.prog w = .ok (.enter 30 args) w := run_enter Tryd.func30 (by kernel_rfl) (by kernel_rfl)

/-- What a drawn text leaves, of at most so many bytes. -/
def SomeText (B g m : Nat) (w : World) (e : Ending) (w' : World) : Prop := ∃ x : ByteArray, x.size ≤ m ∧ e = .returned (.string x) ∧ Cur B w' g ∧ w.grownBy w' (some g)

set_option maxHeartbeats 1000000 in
theorem spoilt_calls (B g : Nat) (w : World) (hc : Cur B w g) (s : ByteArray) (hs : s.size ≤ 1000) :
    Calls Tryd.prog 32 #[.pointer (some ⟨g, 0, none⟩), .string s] w fun e w' => SomeText B g (s.size + 1) w e w' := by
  have HC := hide hc
  clear hc
  go_enter Tryd.func32, Tryd.ntmps32
  go_wp2_with fail
  refine (below_calls B g _ HC.out 12 (by decide) (by decide)).mono ?_
  rintro e w2 ⟨x, hx, rfl, hc2, hg2⟩
  have HC := hide hc2
  have HG := hide hg2
  clear hc2 hg2
  by_cases x0 : x = 0
  · subst x0
    go_wp2_with fail
    refine (text_calls B g _ HC.out 1 (by decide)).mono ?_
    rintro e w3 ⟨l, hl, rfl, hc2, hg2⟩
    have HC := hide hc2
    have HG := hide (grown_trans HG.out hg2)
    clear hc2 hg2
    go_wp2_with fail
    go_ret
    refine ⟨_, ?_, rfl, HC.out, HG.out⟩
    simp [ByteArray.size_append]
    show l.length ≤ 1
    omega
  by_cases x1 : x = 1
  · subst x1
    go_wp2_with fail
    refine (below_calls B g _ HC.out (s.size + 1) (by omega) (by omega)).mono ?_
    rintro e w3 ⟨y, hy, rfl, hc2, hg2⟩
    have HC := hide hc2
    have HG := hide (grown_trans HG.out hg2)
    clear hc2 hg2
    go_wp2_with fail
    go_ret
    refine ⟨_, ?_, rfl, HC.out, HG.out⟩
    simp
    omega
  by_cases x2 : x = 2 ∨ x = 3
  · by_cases hz : 0 < s.size
    · rcases x2 with rfl | rfl
      · go_wp2_with fail
        refine (below_calls B g _ HC.out s.size hz (by omega)).mono ?_
        rintro e w3 ⟨y, hy, rfl, hc2, hg2⟩
        have HC := hide hc2
        have HG := hide (grown_trans HG.out hg2)
        clear hc2 hg2
        go_wp2_with fail
        refine wp_region_open (fun wd => Cur B wd g ∧ w.grownBy wd (some g)) ⟨HC.out, grown_trans HG.out (grown_drew _ _ 1)⟩ (by kernel_rfl) ?_
        rintro wd ⟨hc2, hg2⟩
        have HC := hide hc2
        have HG := hide hg2
        clear hc2 hg2
        refine wpAny_seg_lit 0 4 8 rfl (by decide) (by kernel_rfl) (by kernel_rfl) (fun _ _ _ _ _ h => h) ?_
        simp only [List.take_succ_cons, List.take_zero, List.drop_zero]
        repeat (go_big_quiet_step (fail))
        refine wpQuiet_nil ?_
        refine wpAny_seg_lit 6 4 4 rfl (by decide) (by kernel_rfl) (by kernel_rfl) (fun _ _ _ _ _ h => h) ?_
        simp only [List.take_succ_cons, List.take_zero, List.drop_succ_cons, List.drop_zero]
        repeat (go_big_quiet_step (fail))
        refine wpQuiet_nil ?_
        refine wpAny_callW 4 (by kernel_rfl) rfl (by kernel_rfl) 45 _ _ rfl enterT #[.pointer (some ⟨g, 0, none⟩), .int .i64 1] rfl (fun v w' => ∃ l : List UInt8, l.length = 1 ∧ v = .string ⟨l.toArray⟩ ∧ Cur B w' g ∧ wd.grownBy w' (some g)) ?_ ?_
        · refine (text_calls B g wd HC.out 1 (by decide)).mono ?_
          rintro e w4 ⟨l, hl, rfl, hc2, hg2⟩
          exact ⟨_, rfl, l, hl, rfl, hc2, hg2⟩
        rintro v w4 ⟨l, hl, rfl, hc2, hg2⟩
        have HC := hide hc2
        have HG := hide (grown_trans HG.out hg2)
        clear hc2 hg2
        have hA : (s.extract 0 y).size ≤ y := by simp; omega
        have hB : (s.extract (y + 1) s.size).size ≤ s.size - (y + 1) := by simp
        generalize s.extract 0 y = A at *
        generalize s.extract (y + 1) s.size = E at *
        have hl2 : (⟨l.toArray⟩ : ByteArray).size = 1 := hl
        generalize (⟨l.toArray⟩ : ByteArray) = T at *
        simp only [Act.put, List.setIfInBounds_toArray, List.set_cons_succ, List.set_cons_zero]
        refine wpAny_seg_lit 5 1 2 rfl (by decide) (by kernel_rfl) (by kernel_rfl) (fun _ _ _ _ _ h => h) ?_
        simp only [List.take_succ_cons, List.take_zero, List.drop_succ_cons, List.drop_zero]
        repeat (go_big_quiet_step (fail))
        refine wpQuiet_nil ?_
        refine wpAny_rest 10 rfl (by kernel_rfl) ?_
        simp only [List.drop_succ_cons, List.drop_zero]
        go_wp2_with fail
        go_ret
        refine ⟨_, ?_, rfl, HC.out, HG.out⟩
        simp only [ByteArray.size_append]
        omega
      · go_wp2_with fail
        refine (below_calls B g _ HC.out s.size hz (by omega)).mono ?_
        rintro e w3 ⟨y, hy, rfl, hc2, hg2⟩
        have HC := hide hc2
        have HG := hide (grown_trans HG.out hg2)
        clear hc2 hg2
        go_wp2_with fail
        refine wp_region_open (fun wd => Cur B wd g ∧ w.grownBy wd (some g)) ⟨HC.out, grown_trans HG.out (grown_drew _ _ 1)⟩ (by kernel_rfl) ?_
        rintro wd ⟨hc2, hg2⟩
        have HC := hide hc2
        have HG := hide hg2
        clear hc2 hg2
        refine wpAny_seg_lit 0 4 8 rfl (by decide) (by kernel_rfl) (by kernel_rfl) (fun _ _ _ _ _ h => h) ?_
        simp only [List.take_succ_cons, List.take_zero, List.drop_zero]
        repeat (go_big_quiet_step (fail))
        refine wpQuiet_nil ?_
        refine wpAny_seg_lit 6 4 4 rfl (by decide) (by kernel_rfl) (by kernel_rfl) (fun _ _ _ _ _ h => h) ?_
        simp only [List.take_succ_cons, List.take_zero, List.drop_succ_cons, List.drop_zero]
        repeat (go_big_quiet_step (fail))
        refine wpQuiet_nil ?_
        refine wpAny_callW 4 (by kernel_rfl) rfl (by kernel_rfl) 45 _ _ rfl enterT #[.pointer (some ⟨g, 0, none⟩), .int .i64 1] rfl (fun v w' => ∃ l : List UInt8, l.length = 1 ∧ v = .string ⟨l.toArray⟩ ∧ Cur B w' g ∧ wd.grownBy w' (some g)) ?_ ?_
        · refine (text_calls B g wd HC.out 1 (by decide)).mono ?_
          rintro e w4 ⟨l, hl, rfl, hc2, hg2⟩
          exact ⟨_, rfl, l, hl, rfl, hc2, hg2⟩
        rintro v w4 ⟨l, hl, rfl, hc2, hg2⟩
        have HC := hide hc2
        have HG := hide (grown_trans HG.out hg2)
        clear hc2 hg2
        have hA : (s.extract 0 y).size ≤ y := by simp; omega
        have hB : (s.extract (y + 1) s.size).size ≤ s.size - (y + 1) := by simp
        generalize s.extract 0 y = A at *
        generalize s.extract (y + 1) s.size = E at *
        have hl2 : (⟨l.toArray⟩ : ByteArray).size = 1 := hl
        generalize (⟨l.toArray⟩ : ByteArray) = T at *
        simp only [Act.put, List.setIfInBounds_toArray, List.set_cons_succ, List.set_cons_zero]
        refine wpAny_seg_lit 5 1 2 rfl (by decide) (by kernel_rfl) (by kernel_rfl) (fun _ _ _ _ _ h => h) ?_
        simp only [List.take_succ_cons, List.take_zero, List.drop_succ_cons, List.drop_zero]
        repeat (go_big_quiet_step (fail))
        refine wpQuiet_nil ?_
        refine wpAny_rest 10 rfl (by kernel_rfl) ?_
        simp only [List.drop_succ_cons, List.drop_zero]
        go_wp2_with fail
        go_ret
        refine ⟨_, ?_, rfl, HC.out, HG.out⟩
        simp only [ByteArray.size_append]
        omega
    · rcases x2 with rfl | rfl
      · go_wp2_with fail
        go_ret
        exact ⟨s, by omega, rfl, HC.out, HG.out⟩
      · go_wp2_with fail
        go_ret
        exact ⟨s, by omega, rfl, HC.out, HG.out⟩
  · have r0 : ((x : Int) == 0) = false := by simp; omega
    have r1 : ((x : Int) == 1) = false := by simp; omega
    have r2 : ((x : Int) == 2) = false := by simp; omega
    have r3 : ((x : Int) == 3) = false := by simp; omega
    go_wp2_with fail
    go_ret
    exact ⟨s, by omega, rfl, HC.out, HG.out⟩

set_option maxHeartbeats 1000000 in
theorem drawWord_calls (w : World) (a : Option Addr) (len cap : Nat) (hc : Cu.Code w.heap.size w (.slice a len cap) len) :
    Calls Tryd.prog 6 #[.slice a len cap] w fun e w' => (∃ c : Cr, credOk c ∧ e = .returned (credV c)) ∧ Below w.heap.size w w' := by
  have hbA : Below w.heap.size w (w.alloc (.cells #[.int .i64 0, .int .i64 0, .int .i64 0, .int .i64 0, .int .i64 0, .int .i64 0, .int .i64 0, .int .i64 0, .int .i64 0, .int .i64 0] 27)) := (Below.refl _ _).alloc (Nat.le_refl _) _
  have hx0 := Blk.new w #[.int .i64 0, .int .i64 0, .int .i64 0, .int .i64 0, .int .i64 0, .int .i64 0, .int .i64 0, .int .i64 0, .int .i64 0, .int .i64 0] 27
  have hlt0 := hx0.lt
  have HX := hide hx0
  have HC := hide ((hc.below (fun k hk => hbA.block k hk)).more hbA.size)
  have HB := hide hbA
  clear hc hbA hx0
  go_enter Tryd.func6, Tryd.ntmps6
  go_wp2_with fail
  obtain ⟨b0, e0⟩ : ∃ b, b = w.heap.size := ⟨_, rfl⟩
  have hb0 : w.heap.size ≤ b0 := by omega
  rw [← e0] at HX hlt0 ⊢
  clear e0
  generalize w.alloc (.cells #[.int .i64 0, .int .i64 0, .int .i64 0, .int .i64 0, .int .i64 0, .int .i64 0, .int .i64 0, .int .i64 0, .int .i64 0, .int .i64 0] 27) = w1 at *
  refine (new_calls w1 a len cap HC.out).mono ?_
  rintro e w2 ⟨rfl, hc2, hb2⟩
  have HC2 := hide hc2
  have hz := hb2.size
  have hgw : w.heap.size ≤ w1.heap.size := HB.out.size
  have HX := hide (HX.out.below hb2 hlt0)
  have HB := hide (HB.out.trans (hb2.mono hgw))
  have hne : b0 ≠ w1.heap.size := by omega
  clear hc2 hb2 HC
  go_wp2_with fail
  refine (l05Cred_calls w1.heap.size w1.heap.size w2 HC2.out hz).mono ?_
  rintro e w3 ⟨⟨k, ow, on, wh, aw, an, bw, bn, u, n⟩, hok, rfl, hc3, hg3⟩
  have HX := hide (blk_kept HX.out hg3 hne)
  have HB := hide (HB.out.trans (below_of_grown hg3 hgw HB.out.size))
  clear hc3 hg3 HC2
  have c0 : w3.cell? ⟨b0, 0, none⟩ = some (.int .i64 0) := by rw [HX.out.cell 0]; rfl
  have c1 : w3.cell? ⟨b0, 1, none⟩ = some (.int .i64 0) := by rw [HX.out.cell 1]; rfl
  have c2 : w3.cell? ⟨b0, 2, none⟩ = some (.int .i64 0) := by rw [HX.out.cell 2]; rfl
  have c3 : w3.cell? ⟨b0, 3, none⟩ = some (.int .i64 0) := by rw [HX.out.cell 3]; rfl
  have c4 : w3.cell? ⟨b0, 4, none⟩ = some (.int .i64 0) := by rw [HX.out.cell 4]; rfl
  have c5 : w3.cell? ⟨b0, 5, none⟩ = some (.int .i64 0) := by rw [HX.out.cell 5]; rfl
  have c6 : w3.cell? ⟨b0, 6, none⟩ = some (.int .i64 0) := by rw [HX.out.cell 6]; rfl
  have c7 : w3.cell? ⟨b0, 7, none⟩ = some (.int .i64 0) := by rw [HX.out.cell 7]; rfl
  have c8 : w3.cell? ⟨b0, 8, none⟩ = some (.int .i64 0) := by rw [HX.out.cell 8]; rfl
  have c9 : w3.cell? ⟨b0, 9, none⟩ = some (.int .i64 0) := by rw [HX.out.cell 9]; rfl
  have a0 := HX.out.free
  have l0 := HX.out.lt
  go_wp2_with fail
  have HXF := hide ((((((((((HX.out.set 0 (.int .i64 k)).set 1 (.int .i64 ow)).set 2 (.int .i64 on)).set 3 (.int .i64 wh)).set 4 (.int .i64 aw)).set 5 (.int .i64 an)).set 6 (.int .i64 bw)).set 7 (.int .i64 bn)).set 8 (.int .i64 u)).set 9 (.int .i64 n))
  have HF := hide ((((((((((HB.out.setCell (p := ⟨b0, 0, none⟩) hb0 (.int .i64 k)).setCell (p := ⟨b0, 1, none⟩) hb0 (.int .i64 ow)).setCell (p := ⟨b0, 2, none⟩) hb0 (.int .i64 on)).setCell (p := ⟨b0, 3, none⟩) hb0 (.int .i64 wh)).setCell (p := ⟨b0, 4, none⟩) hb0 (.int .i64 aw)).setCell (p := ⟨b0, 5, none⟩) hb0 (.int .i64 an)).setCell (p := ⟨b0, 6, none⟩) hb0 (.int .i64 bw)).setCell (p := ⟨b0, 7, none⟩) hb0 (.int .i64 bn)).setCell (p := ⟨b0, 8, none⟩) hb0 (.int .i64 u)).setCell (p := ⟨b0, 9, none⟩) hb0 (.int .i64 n))
  clear c0 c1 c2 c3 c4 c5 c6 c7 c8 c9 a0 l0 HX HB
  generalize ((((((((((w3.setCell ⟨b0, 0, none⟩ (.int .i64 k)).setCell ⟨b0, 1, none⟩ (.int .i64 ow)).setCell ⟨b0, 2, none⟩ (.int .i64 on)).setCell ⟨b0, 3, none⟩ (.int .i64 wh)).setCell ⟨b0, 4, none⟩ (.int .i64 aw)).setCell ⟨b0, 5, none⟩ (.int .i64 an)).setCell ⟨b0, 6, none⟩ (.int .i64 bw)).setCell ⟨b0, 7, none⟩ (.int .i64 bn)).setCell ⟨b0, 8, none⟩ (.int .i64 u)).setCell ⟨b0, 9, none⟩ (.int .i64 n)) = wF at *
  have y0 : wF.cell? ⟨b0, 0, none⟩ = some (.int .i64 k) := by rw [HXF.out.cell 0]; rfl
  have y1 : wF.cell? ⟨b0, 1, none⟩ = some (.int .i64 ow) := by rw [HXF.out.cell 1]; rfl
  have y2 : wF.cell? ⟨b0, 2, none⟩ = some (.int .i64 on) := by rw [HXF.out.cell 2]; rfl
  have y3 : wF.cell? ⟨b0, 3, none⟩ = some (.int .i64 wh) := by rw [HXF.out.cell 3]; rfl
  have y4 : wF.cell? ⟨b0, 4, none⟩ = some (.int .i64 aw) := by rw [HXF.out.cell 4]; rfl
  have y5 : wF.cell? ⟨b0, 5, none⟩ = some (.int .i64 an) := by rw [HXF.out.cell 5]; rfl
  have y6 : wF.cell? ⟨b0, 6, none⟩ = some (.int .i64 bw) := by rw [HXF.out.cell 6]; rfl
  have y7 : wF.cell? ⟨b0, 7, none⟩ = some (.int .i64 bn) := by rw [HXF.out.cell 7]; rfl
  have y8 : wF.cell? ⟨b0, 8, none⟩ = some (.int .i64 u) := by rw [HXF.out.cell 8]; rfl
  have y9 : wF.cell? ⟨b0, 9, none⟩ = some (.int .i64 n) := by rw [HXF.out.cell 9]; rfl
  refine bodyPost_ret (v := .agg #[.int .i64 k, .int .i64 ow, .int .i64 on, .int .i64 wh, .int .i64 aw, .int .i64 an, .int .i64 bw, .int .i64 bn, .int .i64 u, .int .i64 n]) (by simp [results, Tryd.results6, go_sem, y0, y1, y2, y3, y4, y5, y6, y7, y8, y9]) rfl ⟨⟨⟨k, ow, on, wh, aw, an, bw, bn, u, n⟩, hok, rfl⟩, HF.out⟩

set_option maxHeartbeats 1000000 in
theorem drawCredOk_calls (w : World) (a : Option Addr) (len cap : Nat) (hc : Cu.Code w.heap.size w (.slice a len cap) len) :
    Calls Tryd.prog 11 #[.slice a len cap] w fun e w' => (∃ c : Cr, e = .returned (credV c)) ∧ Below w.heap.size w w' := by
  have hbA : Below w.heap.size w (w.alloc (.cells #[.int .i64 0, .int .i64 0, .int .i64 0, .int .i64 0, .int .i64 0, .int .i64 0, .int .i64 0, .int .i64 0, .int .i64 0, .int .i64 0] 27)) := (Below.refl _ _).alloc (Nat.le_refl _) _
  have hx0 := Blk.new w #[.int .i64 0, .int .i64 0, .int .i64 0, .int .i64 0, .int .i64 0, .int .i64 0, .int .i64 0, .int .i64 0, .int .i64 0, .int .i64 0] 27
  have hlt0 := hx0.lt
  have HX := hide hx0
  have HC := hide ((hc.below (fun k hk => hbA.block k hk)).more hbA.size)
  have HB := hide hbA
  clear hc hbA hx0
  go_enter Tryd.func11, Tryd.ntmps11
  go_wp2_with fail
  obtain ⟨b0, e0⟩ : ∃ b, b = w.heap.size := ⟨_, rfl⟩
  have hb0 : w.heap.size ≤ b0 := by omega
  rw [← e0] at HX hlt0 ⊢
  clear e0
  generalize w.alloc (.cells #[.int .i64 0, .int .i64 0, .int .i64 0, .int .i64 0, .int .i64 0, .int .i64 0, .int .i64 0, .int .i64 0, .int .i64 0, .int .i64 0] 27) = w1 at *
  refine (new_calls w1 a len cap HC.out).mono ?_
  rintro e w2 ⟨rfl, hc2, hb2⟩
  have HC2 := hide hc2
  have hz := hb2.size
  have hgw : w.heap.size ≤ w1.heap.size := HB.out.size
  have HX := hide (HX.out.below hb2 hlt0)
  have HB := hide (HB.out.trans (hb2.mono hgw))
  have hne : b0 ≠ w1.heap.size := by omega
  clear hc2 hb2 HC
  go_wp2_with fail
  refine (l05Any_calls w1.heap.size w1.heap.size w2 HC2.out hz).mono ?_
  rintro e w3 ⟨⟨k, ow, on, wh, aw, an, bw, bn, u, n⟩, rfl, hc3, hg3⟩
  have HX := hide (blk_kept HX.out hg3 hne)
  have HB := hide (HB.out.trans (below_of_grown hg3 hgw HB.out.size))
  clear hc3 hg3 HC2
  have c0 : w3.cell? ⟨b0, 0, none⟩ = some (.int .i64 0) := by rw [HX.out.cell 0]; rfl
  have c1 : w3.cell? ⟨b0, 1, none⟩ = some (.int .i64 0) := by rw [HX.out.cell 1]; rfl
  have c2 : w3.cell? ⟨b0, 2, none⟩ = some (.int .i64 0) := by rw [HX.out.cell 2]; rfl
  have c3 : w3.cell? ⟨b0, 3, none⟩ = some (.int .i64 0) := by rw [HX.out.cell 3]; rfl
  have c4 : w3.cell? ⟨b0, 4, none⟩ = some (.int .i64 0) := by rw [HX.out.cell 4]; rfl
  have c5 : w3.cell? ⟨b0, 5, none⟩ = some (.int .i64 0) := by rw [HX.out.cell 5]; rfl
  have c6 : w3.cell? ⟨b0, 6, none⟩ = some (.int .i64 0) := by rw [HX.out.cell 6]; rfl
  have c7 : w3.cell? ⟨b0, 7, none⟩ = some (.int .i64 0) := by rw [HX.out.cell 7]; rfl
  have c8 : w3.cell? ⟨b0, 8, none⟩ = some (.int .i64 0) := by rw [HX.out.cell 8]; rfl
  have c9 : w3.cell? ⟨b0, 9, none⟩ = some (.int .i64 0) := by rw [HX.out.cell 9]; rfl
  have a0 := HX.out.free
  have l0 := HX.out.lt
  go_wp2_with fail
  have HXF := hide ((((((((((HX.out.set 0 (.int .i64 k)).set 1 (.int .i64 ow)).set 2 (.int .i64 on)).set 3 (.int .i64 wh)).set 4 (.int .i64 aw)).set 5 (.int .i64 an)).set 6 (.int .i64 bw)).set 7 (.int .i64 bn)).set 8 (.int .i64 u)).set 9 (.int .i64 n))
  have HF := hide ((((((((((HB.out.setCell (p := ⟨b0, 0, none⟩) hb0 (.int .i64 k)).setCell (p := ⟨b0, 1, none⟩) hb0 (.int .i64 ow)).setCell (p := ⟨b0, 2, none⟩) hb0 (.int .i64 on)).setCell (p := ⟨b0, 3, none⟩) hb0 (.int .i64 wh)).setCell (p := ⟨b0, 4, none⟩) hb0 (.int .i64 aw)).setCell (p := ⟨b0, 5, none⟩) hb0 (.int .i64 an)).setCell (p := ⟨b0, 6, none⟩) hb0 (.int .i64 bw)).setCell (p := ⟨b0, 7, none⟩) hb0 (.int .i64 bn)).setCell (p := ⟨b0, 8, none⟩) hb0 (.int .i64 u)).setCell (p := ⟨b0, 9, none⟩) hb0 (.int .i64 n))
  clear c0 c1 c2 c3 c4 c5 c6 c7 c8 c9 a0 l0 HX HB
  generalize ((((((((((w3.setCell ⟨b0, 0, none⟩ (.int .i64 k)).setCell ⟨b0, 1, none⟩ (.int .i64 ow)).setCell ⟨b0, 2, none⟩ (.int .i64 on)).setCell ⟨b0, 3, none⟩ (.int .i64 wh)).setCell ⟨b0, 4, none⟩ (.int .i64 aw)).setCell ⟨b0, 5, none⟩ (.int .i64 an)).setCell ⟨b0, 6, none⟩ (.int .i64 bw)).setCell ⟨b0, 7, none⟩ (.int .i64 bn)).setCell ⟨b0, 8, none⟩ (.int .i64 u)).setCell ⟨b0, 9, none⟩ (.int .i64 n)) = wF at *
  have y0 : wF.cell? ⟨b0, 0, none⟩ = some (.int .i64 k) := by rw [HXF.out.cell 0]; rfl
  have y1 : wF.cell? ⟨b0, 1, none⟩ = some (.int .i64 ow) := by rw [HXF.out.cell 1]; rfl
  have y2 : wF.cell? ⟨b0, 2, none⟩ = some (.int .i64 on) := by rw [HXF.out.cell 2]; rfl
  have y3 : wF.cell? ⟨b0, 3, none⟩ = some (.int .i64 wh) := by rw [HXF.out.cell 3]; rfl
  have y4 : wF.cell? ⟨b0, 4, none⟩ = some (.int .i64 aw) := by rw [HXF.out.cell 4]; rfl
  have y5 : wF.cell? ⟨b0, 5, none⟩ = some (.int .i64 an) := by rw [HXF.out.cell 5]; rfl
  have y6 : wF.cell? ⟨b0, 6, none⟩ = some (.int .i64 bw) := by rw [HXF.out.cell 6]; rfl
  have y7 : wF.cell? ⟨b0, 7, none⟩ = some (.int .i64 bn) := by rw [HXF.out.cell 7]; rfl
  have y8 : wF.cell? ⟨b0, 8, none⟩ = some (.int .i64 u) := by rw [HXF.out.cell 8]; rfl
  have y9 : wF.cell? ⟨b0, 9, none⟩ = some (.int .i64 n) := by rw [HXF.out.cell 9]; rfl
  refine bodyPost_ret (v := .agg #[.int .i64 k, .int .i64 ow, .int .i64 on, .int .i64 wh, .int .i64 aw, .int .i64 an, .int .i64 bw, .int .i64 bn, .int .i64 u, .int .i64 n]) (by simp [results, Tryd.results11, go_sem, y0, y1, y2, y3, y4, y5, y6, y7, y8, y9]) rfl ⟨⟨⟨k, ow, on, wh, aw, an, bw, bn, u, n⟩, rfl⟩, HF.out⟩

set_option maxHeartbeats 1000000 in
theorem drawRoleOk_calls (w : World) (a : Option Addr) (len cap : Nat) (hc : Cu.Code w.heap.size w (.slice a len cap) len) :
    Calls Tryd.prog 13 #[.slice a len cap] w fun e w' => (∃ a b : Int, e = .returned (roleV a b)) ∧ Below w.heap.size w w' := by
  have hbA : Below w.heap.size w (w.alloc (.cells #[.int .i64 0, .int .i64 0] 25)) := (Below.refl _ _).alloc (Nat.le_refl _) _
  have hx0 := Blk.new w #[.int .i64 0, .int .i64 0] 25
  have hlt0 := hx0.lt
  have HX := hide hx0
  have HC := hide ((hc.below (fun k hk => hbA.block k hk)).more hbA.size)
  have HB := hide hbA
  clear hc hbA hx0
  go_enter Tryd.func13, Tryd.ntmps13
  go_wp2_with fail
  obtain ⟨b0, e0⟩ : ∃ b, b = w.heap.size := ⟨_, rfl⟩
  have hb0 : w.heap.size ≤ b0 := by omega
  rw [← e0] at HX hlt0 ⊢
  clear e0
  generalize w.alloc (.cells #[.int .i64 0, .int .i64 0] 25) = w1 at *
  refine (new_calls w1 a len cap HC.out).mono ?_
  rintro e w2 ⟨rfl, hc2, hb2⟩
  have HC2 := hide hc2
  have hz := hb2.size
  have hgw : w.heap.size ≤ w1.heap.size := HB.out.size
  have HX := hide (HX.out.below hb2 hlt0)
  have HB := hide (HB.out.trans (hb2.mono hgw))
  have hne : b0 ≠ w1.heap.size := by omega
  clear hc2 hb2 HC
  go_wp2_with fail
  refine (anyRole_calls w1.heap.size w1.heap.size w2 HC2.out hz).mono ?_
  rintro e w3 ⟨x, y, rfl, hc3, hg3⟩
  have HX := hide (blk_kept HX.out hg3 hne)
  have HB := hide (HB.out.trans (below_of_grown hg3 hgw HB.out.size))
  clear hc3 hg3 HC2
  have c0 : w3.cell? ⟨b0, 0, none⟩ = some (.int .i64 0) := by rw [HX.out.cell 0]; rfl
  have c1 : w3.cell? ⟨b0, 1, none⟩ = some (.int .i64 0) := by rw [HX.out.cell 1]; rfl
  have a0 := HX.out.free
  have l0 := HX.out.lt
  go_wp2_with fail
  have HXF := hide ((HX.out.set 0 (.int .i64 x)).set 1 (.int .i64 y))
  have HF := hide ((HB.out.setCell (p := ⟨b0, 0, none⟩) hb0 (.int .i64 x)).setCell (p := ⟨b0, 1, none⟩) hb0 (.int .i64 y))
  clear c0 c1 a0 l0 HX HB
  generalize ((w3.setCell ⟨b0, 0, none⟩ (.int .i64 x)).setCell ⟨b0, 1, none⟩ (.int .i64 y)) = wF at *
  have y0 : wF.cell? ⟨b0, 0, none⟩ = some (.int .i64 x) := by rw [HXF.out.cell 0]; rfl
  have y1 : wF.cell? ⟨b0, 1, none⟩ = some (.int .i64 y) := by rw [HXF.out.cell 1]; rfl
  refine bodyPost_ret (v := .agg #[.int .i64 x, .int .i64 y]) (by simp [results, Tryd.results13, go_sem, y0, y1]) rfl ⟨⟨x, y, rfl⟩, HF.out⟩

end Go.Proofs.YtflicklgmhgpiaaDoor.P5
namespace Go.Proofs.YtflicklgmhgpiaaDoor.P5
set_option maxRecDepth 8000
open Go.RowKit P1 Cu

set_option maxHeartbeats 1000000 in
theorem drawReadCred_calls (w : World) (a : Option Addr) (len cap : Nat) (hc : Cu.Code w.heap.size w (.slice a len cap) len) :
    Calls Tryd.prog 9 #[.slice a len cap] w fun e w' => (∃ x : ByteArray, x.size ≤ 51 ∧ e = .returned (.string x)) ∧ Below w.heap.size w w' := by
  have HC := hide hc
  clear hc
  go_enter Tryd.func9, Tryd.ntmps9
  go_wp2_with fail
  refine (new_calls w a len cap HC.out).mono ?_
  rintro e w2 ⟨rfl, hc2, hb2⟩
  have HC := hide hc2
  have HB := hide hb2
  clear hc2 hb2
  go_wp2_with fail
  refine (l05Any_calls w.heap.size w.heap.size w2 HC.out HB.out.size).mono ?_
  rintro e w3 ⟨c, rfl, hc2, hg2⟩
  have HC := hide hc2
  have HB := hide (HB.out.trans (below_of_grown hg2 (Nat.le_refl _) HB.out.size))
  have hg3 := hc2.2.1
  clear hc2 hg2
  have HT := hide (fun wx => specCredText_calls c wx)
  have hl := credT_le c
  generalize credT c = T at HT hl
  go_wp2_with fail
  refine (HT.out _).mono ?_
  rintro e w4 ⟨rfl, hb⟩
  have HC := hide (cur_below HC.out hb hg3)
  have HB := hide (HB.out.trans (hb.mono HB.out.size))
  have hsz : (⟨T.toArray⟩ : ByteArray).size = T.length := rfl
  clear hb HT
  generalize (⟨T.toArray⟩ : ByteArray) = X at *
  go_wp2_with fail
  refine (once_calls w.heap.size w.heap.size w4 HC.out 3 (by decide) (by decide)).mono ?_
  rintro e w5 ⟨b, rfl, hc2, hg2⟩
  have HC := hide hc2
  have HB := hide (HB.out.trans (below_of_grown hg2 (Nat.le_refl _) HB.out.size))
  clear hc2 hg2
  cases b with
  | true =>
    go_wp2_with fail
    refine (spoilt_calls w.heap.size w.heap.size w5 HC.out X (by omega)).mono ?_
    rintro e w6 ⟨x, hx, rfl, hc2, hg2⟩
    have HB := hide (HB.out.trans (below_of_grown hg2 (Nat.le_refl _) HB.out.size))
    clear hc2 hg2
    go_wp2_with fail
    go_ret
    exact ⟨⟨x, by omega, rfl⟩, HB.out⟩
  | false =>
    go_wp2_with fail
    go_ret
    exact ⟨⟨X, by omega, rfl⟩, HB.out⟩

/-- A world in which that block is so. -/
structure BlkIs (b : Nat) (cs : List Value) (t : TypeId) where
  w : World
  h : Blk w b cs t

set_option maxHeartbeats 2000000 in
theorem drawCredLess_calls (w : World) (a : Option Addr) (len cap : Nat) (hc : Cu.Code w.heap.size w (.slice a len cap) len) :
    Calls Tryd.prog 12 #[.slice a len cap] w fun e w' => (∃ c d : Cr, e = .returned (.tuple #[credV c, credV d])) ∧ Below w.heap.size w w' := by
  have h1 := (Below.refl w.heap.size w).alloc (Nat.le_refl _) (.cells #[.int .i64 0, .int .i64 0, .int .i64 0, .int .i64 0, .int .i64 0, .int .i64 0, .int .i64 0, .int .i64 0, .int .i64 0, .int .i64 0] 27)
  have hbA := h1.alloc h1.size (.cells #[.int .i64 0, .int .i64 0, .int .i64 0, .int .i64 0, .int .i64 0, .int .i64 0, .int .i64 0, .int .i64 0, .int .i64 0, .int .i64 0] 27)
  have g0 := Blk.new w #[.int .i64 0, .int .i64 0, .int .i64 0, .int .i64 0, .int .i64 0, .int .i64 0, .int .i64 0, .int .i64 0, .int .i64 0, .int .i64 0] 27
  have g0 := g0.below ((Below.refl _ _).alloc (Nat.le_refl _) (.cells #[.int .i64 0, .int .i64 0, .int .i64 0, .int .i64 0, .int .i64 0, .int .i64 0, .int .i64 0, .int .i64 0, .int .i64 0, .int .i64 0] 27)) g0.lt
  have g1 := Blk.new (w.alloc (.cells #[.int .i64 0, .int .i64 0, .int .i64 0, .int .i64 0, .int .i64 0, .int .i64 0, .int .i64 0, .int .i64 0, .int .i64 0, .int .i64 0] 27)) #[.int .i64 0, .int .i64 0, .int .i64 0, .int .i64 0, .int .i64 0, .int .i64 0, .int .i64 0, .int .i64 0, .int .i64 0, .int .i64 0] 27
  rw [show (w.alloc (.cells #[.int .i64 0, .int .i64 0, .int .i64 0, .int .i64 0, .int .i64 0, .int .i64 0, .int .i64 0, .int .i64 0, .int .i64 0, .int .i64 0] 27)).heap.size = w.heap.size + 1 from by simp [go_sem]] at g1
  have G0 := hide g0
  have G1 := hide g1
  have HC := hide ((hc.below (fun k hk => hbA.block k hk)).more hbA.size)
  have HB := hide hbA
  clear hc hbA h1 g0 g1
  go_enter Tryd.func12, Tryd.ntmps12
  go_wp2_with fail
  obtain ⟨b1, e1⟩ : ∃ b, b = w.heap.size + 1 := ⟨_, rfl⟩
  obtain ⟨b0, e0⟩ : ∃ b, b = w.heap.size := ⟨_, rfl⟩
  rw [← e1] at G1 ⊢
  rw [← e0] at G0 ⊢
  have hw0 : w.heap.size ≤ b0 := by omega
  have hw1 : w.heap.size ≤ b1 := by omega
  have n01 : b0 ≠ b1 := by omega
  clear e0 e1
  generalize (w.alloc (.cells #[.int .i64 0, .int .i64 0, .int .i64 0, .int .i64 0, .int .i64 0, .int .i64 0, .int .i64 0, .int .i64 0, .int .i64 0, .int .i64 0] 27)).alloc (.cells #[.int .i64 0, .int .i64 0, .int .i64 0, .int .i64 0, .int .i64 0, .int .i64 0, .int .i64 0, .int .i64 0, .int .i64 0, .int .i64 0] 27) = w1 at *
  have l0 := G0.out.lt
  have l1 := G1.out.lt
  refine (new_calls w1 a len cap HC.out).mono ?_
  rintro e w2 ⟨rfl, hc2, hb2⟩
  have HC2 := hide hc2
  have hz := hb2.size
  have hgw : w.heap.size ≤ w1.heap.size := HB.out.size
  have G0 := hide (G0.out.below hb2 l0)
  have G1 := hide (G1.out.below hb2 l1)
  have HB := hide (HB.out.trans (hb2.mono hgw))
  have ng0 : b0 ≠ w1.heap.size := by omega
  have ng1 : b1 ≠ w1.heap.size := by omega
  clear hc2 hb2 HC l0 l1
  obtain ⟨g, hg⟩ : ∃ g, g = w1.heap.size := ⟨_, rfl⟩
  have HC : Hid (Cur g w2 g) := by show Cur g w2 g; rw [hg]; exact HC2.out
  rw [← hg] at hz hgw ng0 ng1 ⊢
  clear hg HC2
  go_wp2_with fail
  refine (l05Any_calls g g w2 HC.out hz).mono ?_
  rintro e w3 ⟨⟨k, ow, on, wh, aw, an, bw, bn, u, n⟩, rfl, hc3, hg3⟩
  have G0 := hide (blk_kept G0.out hg3 ng0)
  have G1 := hide (blk_kept G1.out hg3 ng1)
  have HB := hide (HB.out.trans (below_of_grown hg3 hgw HB.out.size))
  have hz3 : g ≤ w3.heap.size := Nat.le_trans hz hg3.size
  have hbA : Below w3.heap.size w3 (w3.alloc (.cells #[.int .i64 k, .int .i64 ow, .int .i64 on, .int .i64 wh, .int .i64 aw, .int .i64 an, .int .i64 bw, .int .i64 bn, .int .i64 u, .int .i64 n] 27)) := (Below.refl _ _).alloc (Nat.le_refl _) _
  have G2 := hide (Blk.new w3 #[.int .i64 k, .int .i64 ow, .int .i64 on, .int .i64 wh, .int .i64 aw, .int .i64 an, .int .i64 bw, .int .i64 bn, .int .i64 u, .int .i64 n] 27)
  have ng2 : w3.heap.size ≠ g := by have := hc3.2.1; omega
  have n02 : b0 ≠ w3.heap.size := by have := G0.out.lt; omega
  have n12 : b1 ≠ w3.heap.size := by have := G1.out.lt; omega
  have G0 := hide (G0.out.below hbA G0.out.lt)
  have G1 := hide (G1.out.below hbA G1.out.lt)
  have HC := hide (cur_below hc3 hbA hc3.2.1)
  have HB := hide (HB.out.trans (hbA.mono HB.out.size))
  have hz4 := Nat.le_trans hz3 hbA.size
  clear hc3 hg3 hbA hz hz3
  simp only [credV]
  go_wp2_with fail
  obtain ⟨b2, e2⟩ : ∃ b, b = w3.heap.size := ⟨_, rfl⟩
  rw [← e2] at G2 ng2 n02 n12 ⊢
  clear e2
  generalize w3.alloc (.cells #[.int .i64 k, .int .i64 ow, .int .i64 on, .int .i64 wh, .int .i64 aw, .int .i64 an, .int .i64 bw, .int .i64 bn, .int .i64 u, .int .i64 n] 27) = w4 at *
  have n0 : ∀ p : BlkIs b2 [.int .i64 k, .int .i64 ow, .int .i64 on, .int .i64 wh, .int .i64 aw, .int .i64 an, .int .i64 bw, .int .i64 bn, .int .i64 u, .int .i64 n] 27, p.w.cell? ⟨b2, 0, none⟩ = some (.int .i64 k) := fun p => by rw [p.h.cell 0]; rfl
  have n1 : ∀ p : BlkIs b2 [.int .i64 k, .int .i64 ow, .int .i64 on, .int .i64 wh, .int .i64 aw, .int .i64 an, .int .i64 bw, .int .i64 bn, .int .i64 u, .int .i64 n] 27, p.w.cell? ⟨b2, 1, none⟩ = some (.int .i64 ow) := fun p => by rw [p.h.cell 1]; rfl
  have n2 : ∀ p : BlkIs b2 [.int .i64 k, .int .i64 ow, .int .i64 on, .int .i64 wh, .int .i64 aw, .int .i64 an, .int .i64 bw, .int .i64 bn, .int .i64 u, .int .i64 n] 27, p.w.cell? ⟨b2, 2, none⟩ = some (.int .i64 on) := fun p => by rw [p.h.cell 2]; rfl
  have n3 : ∀ p : BlkIs b2 [.int .i64 k, .int .i64 ow, .int .i64 on, .int .i64 wh, .int .i64 aw, .int .i64 an, .int .i64 bw, .int .i64 bn, .int .i64 u, .int .i64 n] 27, p.w.cell? ⟨b2, 3, none⟩ = some (.int .i64 wh) := fun p => by rw [p.h.cell 3]; rfl
  have n4 : ∀ p : BlkIs b2 [.int .i64 k, .int .i64 ow, .int .i64 on, .int .i64 wh, .int .i64 aw, .int .i64 an, .int .i64 bw, .int .i64 bn, .int .i64 u, .int .i64 n] 27, p.w.cell? ⟨b2, 4, none⟩ = some (.int .i64 aw) := fun p => by rw [p.h.cell 4]; rfl
  have n5 : ∀ p : BlkIs b2 [.int .i64 k, .int .i64 ow, .int .i64 on, .int .i64 wh, .int .i64 aw, .int .i64 an, .int .i64 bw, .int .i64 bn, .int .i64 u, .int .i64 n] 27, p.w.cell? ⟨b2, 5, none⟩ = some (.int .i64 an) := fun p => by rw [p.h.cell 5]; rfl
  have n6 : ∀ p : BlkIs b2 [.int .i64 k, .int .i64 ow, .int .i64 on, .int .i64 wh, .int .i64 aw, .int .i64 an, .int .i64 bw, .int .i64 bn, .int .i64 u, .int .i64 n] 27, p.w.cell? ⟨b2, 6, none⟩ = some (.int .i64 bw) := fun p => by rw [p.h.cell 6]; rfl
  have n7 : ∀ p : BlkIs b2 [.int .i64 k, .int .i64 ow, .int .i64 on, .int .i64 wh, .int .i64 aw, .int .i64 an, .int .i64 bw, .int .i64 bn, .int .i64 u, .int .i64 n] 27, p.w.cell? ⟨b2, 7, none⟩ = some (.int .i64 bn) := fun p => by rw [p.h.cell 7]; rfl
  have n8 : ∀ p : BlkIs b2 [.int .i64 k, .int .i64 ow, .int .i64 on, .int .i64 wh, .int .i64 aw, .int .i64 an, .int .i64 bw, .int .i64 bn, .int .i64 u, .int .i64 n] 27, p.w.cell? ⟨b2, 8, none⟩ = some (.int .i64 u) := fun p => by rw [p.h.cell 8]; rfl
  have n9 : ∀ p : BlkIs b2 [.int .i64 k, .int .i64 ow, .int .i64 on, .int .i64 wh, .int .i64 aw, .int .i64 an, .int .i64 bw, .int .i64 bn, .int .i64 u, .int .i64 n] 27, p.w.cell? ⟨b2, 9, none⟩ = some (.int .i64 n) := fun p => by rw [p.h.cell 9]; rfl
  have hnn : Nonempty (BlkIs b2 [.int .i64 k, .int .i64 ow, .int .i64 on, .int .i64 wh, .int .i64 aw, .int .i64 an, .int .i64 bw, .int .i64 bn, .int .i64 u, .int .i64 n] 27) := ⟨⟨w4, G2.out⟩⟩
  refine wp_region_open (fun wd => wd = w4.drew) rfl (by kernel_rfl) ?_
  rintro wd rfl
  have G0 : Hid (Blk w4.drew b0 [.int .i64 0, .int .i64 0, .int .i64 0, .int .i64 0, .int .i64 0, .int .i64 0, .int .i64 0, .int .i64 0, .int .i64 0, .int .i64 0] 27) := G0.out
  have G1 : Hid (Blk w4.drew b1 [.int .i64 0, .int .i64 0, .int .i64 0, .int .i64 0, .int .i64 0, .int .i64 0, .int .i64 0, .int .i64 0, .int .i64 0, .int .i64 0] 27) := G1.out
  have G2 : Hid (Blk w4.drew b2 [.int .i64 k, .int .i64 ow, .int .i64 on, .int .i64 wh, .int .i64 aw, .int .i64 an, .int .i64 bw, .int .i64 bn, .int .i64 u, .int .i64 n] 27) := G2.out
  have HC : Hid (Cur g w4.drew g) := HC.out
  have HB := hide HB.out.drew
  have hz4 : g ≤ w4.drew.heap.size := hz4
  generalize w4.drew = w5 at *
  refine wpAny_of_K (c := 3) (D := fun w' => ∃ p : BlkIs b2 [.int .i64 k, .int .i64 ow, .int .i64 on, .int .i64 wh, .int .i64 aw, .int .i64 an, .int .i64 bw, .int .i64 bn, .int .i64 u, .int .i64 n] 27, w' = p.w) _ _ _ _ ?_
  refine wpAnyK_seg_lit 0 2 3 3 rfl (by decide) (by decide) (by kernel_rfl) (by kernel_rfl) (by kernel_rfl) (by kernel_rfl) (fun _ _ _ _ _ h => h) ⟨⟨w5, G2.out⟩, rfl⟩ ?_
  simp only [List.take_succ_cons, List.take_zero, List.drop_zero]
  repeat (go_big_quiet_step (fail))
  refine wpQuiet_nil ?_
  clear n0 n1 n2 n3 n4 n5 n6 n7 n8 n9 hnn
  refine wpAnyK_call 2 (by kernel_rfl) rfl rfl 30 _ _ rfl enterA #[.pointer (some ⟨g, 0, none⟩)] rfl (fun v w' => ∃ c : Cr, v = credV c ∧ Cur g w' g ∧ w5.grownBy w' (some g)) ?_ ?_
  · refine (l05Any_calls g g w5 HC.out hz4).mono ?_
    rintro e w6 ⟨c, rfl, hc2, hg2⟩
    exact ⟨_, rfl, c, rfl, hc2, hg2⟩
  rintro v w6 ⟨⟨k', ow', on', wh', aw', an', bw', bn', u', n'⟩, rfl, hc6, hg6⟩
  refine ⟨⟨⟨w6, blk_kept G2.out hg6 ng2⟩, rfl⟩, ?_⟩
  have G0 := hide (blk_kept G0.out hg6 ng0)
  have G1 := hide (blk_kept G1.out hg6 ng1)
  have HB := hide (HB.out.trans (below_of_grown hg6 hgw HB.out.size))
  clear hc6 hg6 G2 HC
  refine wpAnyK_last (by kernel_rfl) (by decide) ?_
  refine wpAny_rest 3 rfl (by kernel_rfl) ?_
  simp only [List.drop_succ_cons, List.drop_zero, credV, Act.put, List.setIfInBounds_toArray, List.set_cons_succ, List.set_cons_zero]
  have c0 : w6.cell? ⟨b0, 0, none⟩ = some (.int .i64 0) := by rw [G0.out.cell 0]; rfl
  have c1 : w6.cell? ⟨b0, 1, none⟩ = some (.int .i64 0) := by rw [G0.out.cell 1]; rfl
  have c2 : w6.cell? ⟨b0, 2, none⟩ = some (.int .i64 0) := by rw [G0.out.cell 2]; rfl
  have c3 : w6.cell? ⟨b0, 3, none⟩ = some (.int .i64 0) := by rw [G0.out.cell 3]; rfl
  have c4 : w6.cell? ⟨b0, 4, none⟩ = some (.int .i64 0) := by rw [G0.out.cell 4]; rfl
  have c5 : w6.cell? ⟨b0, 5, none⟩ = some (.int .i64 0) := by rw [G0.out.cell 5]; rfl
  have c6 : w6.cell? ⟨b0, 6, none⟩ = some (.int .i64 0) := by rw [G0.out.cell 6]; rfl
  have c7 : w6.cell? ⟨b0, 7, none⟩ = some (.int .i64 0) := by rw [G0.out.cell 7]; rfl
  have c8 : w6.cell? ⟨b0, 8, none⟩ = some (.int .i64 0) := by rw [G0.out.cell 8]; rfl
  have c9 : w6.cell? ⟨b0, 9, none⟩ = some (.int .i64 0) := by rw [G0.out.cell 9]; rfl
  have d0 : w6.cell? ⟨b1, 0, none⟩ = some (.int .i64 0) := by rw [G1.out.cell 0]; rfl
  have d1 : w6.cell? ⟨b1, 1, none⟩ = some (.int .i64 0) := by rw [G1.out.cell 1]; rfl
  have d2 : w6.cell? ⟨b1, 2, none⟩ = some (.int .i64 0) := by rw [G1.out.cell 2]; rfl
  have d3 : w6.cell? ⟨b1, 3, none⟩ = some (.int .i64 0) := by rw [G1.out.cell 3]; rfl
  have d4 : w6.cell? ⟨b1, 4, none⟩ = some (.int .i64 0) := by rw [G1.out.cell 4]; rfl
  have d5 : w6.cell? ⟨b1, 5, none⟩ = some (.int .i64 0) := by rw [G1.out.cell 5]; rfl
  have d6 : w6.cell? ⟨b1, 6, none⟩ = some (.int .i64 0) := by rw [G1.out.cell 6]; rfl
  have d7 : w6.cell? ⟨b1, 7, none⟩ = some (.int .i64 0) := by rw [G1.out.cell 7]; rfl
  have d8 : w6.cell? ⟨b1, 8, none⟩ = some (.int .i64 0) := by rw [G1.out.cell 8]; rfl
  have d9 : w6.cell? ⟨b1, 9, none⟩ = some (.int .i64 0) := by rw [G1.out.cell 9]; rfl
  have a0 := G0.out.free
  have a1 := G1.out.free
  have l0 := G0.out.lt
  have l1 := G1.out.lt
  have n10 := Ne.symm n01
  go_wp2_with fail
  have X0 := hide ((((((((((((((((((((G0.out.set 0 (.int .i64 k)).set 1 (.int .i64 ow)).set 2 (.int .i64 on)).set 3 (.int .i64 wh)).set 4 (.int .i64 aw)).set 5 (.int .i64 an)).set 6 (.int .i64 bw)).set 7 (.int .i64 bn)).set 8 (.int .i64 u)).set 9 (.int .i64 n)).other (p := ⟨b1, 0, none⟩) n01 (.int .i64 k')).other (p := ⟨b1, 1, none⟩) n01 (.int .i64 ow')).other (p := ⟨b1, 2, none⟩) n01 (.int .i64 on')).other (p := ⟨b1, 3, none⟩) n01 (.int .i64 wh')).other (p := ⟨b1, 4, none⟩) n01 (.int .i64 aw')).other (p := ⟨b1, 5, none⟩) n01 (.int .i64 an')).other (p := ⟨b1, 6, none⟩) n01 (.int .i64 bw')).other (p := ⟨b1, 7, none⟩) n01 (.int .i64 bn')).other (p := ⟨b1, 8, none⟩) n01 (.int .i64 u')).other (p := ⟨b1, 9, none⟩) n01 (.int .i64 n'))
  have X1 := hide ((((((((((((((((((((G1.out.other (p := ⟨b0, 0, none⟩) n10 (.int .i64 k)).other (p := ⟨b0, 1, none⟩) n10 (.int .i64 ow)).other (p := ⟨b0, 2, none⟩) n10 (.int .i64 on)).other (p := ⟨b0, 3, none⟩) n10 (.int .i64 wh)).other (p := ⟨b0, 4, none⟩) n10 (.int .i64 aw)).other (p := ⟨b0, 5, none⟩) n10 (.int .i64 an)).other (p := ⟨b0, 6, none⟩) n10 (.int .i64 bw)).other (p := ⟨b0, 7, none⟩) n10 (.int .i64 bn)).other (p := ⟨b0, 8, none⟩) n10 (.int .i64 u)).other (p := ⟨b0, 9, none⟩) n10 (.int .i64 n)).set 0 (.int .i64 k')).set 1 (.int .i64 ow')).set 2 (.int .i64 on')).set 3 (.int .i64 wh')).set 4 (.int .i64 aw')).set 5 (.int .i64 an')).set 6 (.int .i64 bw')).set 7 (.int .i64 bn')).set 8 (.int .i64 u')).set 9 (.int .i64 n'))
  have HF := hide ((((((((((((((((((((HB.out.setCell (p := ⟨b0, 0, none⟩) hw0 (.int .i64 k)).setCell (p := ⟨b0, 1, none⟩) hw0 (.int .i64 ow)).setCell (p := ⟨b0, 2, none⟩) hw0 (.int .i64 on)).setCell (p := ⟨b0, 3, none⟩) hw0 (.int .i64 wh)).setCell (p := ⟨b0, 4, none⟩) hw0 (.int .i64 aw)).setCell (p := ⟨b0, 5, none⟩) hw0 (.int .i64 an)).setCell (p := ⟨b0, 6, none⟩) hw0 (.int .i64 bw)).setCell (p := ⟨b0, 7, none⟩) hw0 (.int .i64 bn)).setCell (p := ⟨b0, 8, none⟩) hw0 (.int .i64 u)).setCell (p := ⟨b0, 9, none⟩) hw0 (.int .i64 n)).setCell (p := ⟨b1, 0, none⟩) hw1 (.int .i64 k')).setCell (p := ⟨b1, 1, none⟩) hw1 (.int .i64 ow')).setCell (p := ⟨b1, 2, none⟩) hw1 (.int .i64 on')).setCell (p := ⟨b1, 3, none⟩) hw1 (.int .i64 wh')).setCell (p := ⟨b1, 4, none⟩) hw1 (.int .i64 aw')).setCell (p := ⟨b1, 5, none⟩) hw1 (.int .i64 an')).setCell (p := ⟨b1, 6, none⟩) hw1 (.int .i64 bw')).setCell (p := ⟨b1, 7, none⟩) hw1 (.int .i64 bn')).setCell (p := ⟨b1, 8, none⟩) hw1 (.int .i64 u')).setCell (p := ⟨b1, 9, none⟩) hw1 (.int .i64 n'))
  clear c0 c1 c2 c3 c4 c5 c6 c7 c8 c9 d0 d1 d2 d3 d4 d5 d6 d7 d8 d9 a0 a1 l0 l1 G0 G1 HB
  generalize ((((((((((((((((((((w6.setCell ⟨b0, 0, none⟩ (.int .i64 k)).setCell ⟨b0, 1, none⟩ (.int .i64 ow)).setCell ⟨b0, 2, none⟩ (.int .i64 on)).setCell ⟨b0, 3, none⟩ (.int .i64 wh)).setCell ⟨b0, 4, none⟩ (.int .i64 aw)).setCell ⟨b0, 5, none⟩ (.int .i64 an)).setCell ⟨b0, 6, none⟩ (.int .i64 bw)).setCell ⟨b0, 7, none⟩ (.int .i64 bn)).setCell ⟨b0, 8, none⟩ (.int .i64 u)).setCell ⟨b0, 9, none⟩ (.int .i64 n)).setCell ⟨b1, 0, none⟩ (.int .i64 k')).setCell ⟨b1, 1, none⟩ (.int .i64 ow')).setCell ⟨b1, 2, none⟩ (.int .i64 on')).setCell ⟨b1, 3, none⟩ (.int .i64 wh')).setCell ⟨b1, 4, none⟩ (.int .i64 aw')).setCell ⟨b1, 5, none⟩ (.int .i64 an')).setCell ⟨b1, 6, none⟩ (.int .i64 bw')).setCell ⟨b1, 7, none⟩ (.int .i64 bn')).setCell ⟨b1, 8, none⟩ (.int .i64 u')).setCell ⟨b1, 9, none⟩ (.int .i64 n')) = wF at *
  have y0 : wF.cell? ⟨b0, 0, none⟩ = some (.int .i64 k) := by rw [X0.out.cell 0]; rfl
  have y1 : wF.cell? ⟨b0, 1, none⟩ = some (.int .i64 ow) := by rw [X0.out.cell 1]; rfl
  have y2 : wF.cell? ⟨b0, 2, none⟩ = some (.int .i64 on) := by rw [X0.out.cell 2]; rfl
  have y3 : wF.cell? ⟨b0, 3, none⟩ = some (.int .i64 wh) := by rw [X0.out.cell 3]; rfl
  have y4 : wF.cell? ⟨b0, 4, none⟩ = some (.int .i64 aw) := by rw [X0.out.cell 4]; rfl
  have y5 : wF.cell? ⟨b0, 5, none⟩ = some (.int .i64 an) := by rw [X0.out.cell 5]; rfl
  have y6 : wF.cell? ⟨b0, 6, none⟩ = some (.int .i64 bw) := by rw [X0.out.cell 6]; rfl
  have y7 : wF.cell? ⟨b0, 7, none⟩ = some (.int .i64 bn) := by rw [X0.out.cell 7]; rfl
  have y8 : wF.cell? ⟨b0, 8, none⟩ = some (.int .i64 u) := by rw [X0.out.cell 8]; rfl
  have y9 : wF.cell? ⟨b0, 9, none⟩ = some (.int .i64 n) := by rw [X0.out.cell 9]; rfl
  have z0 : wF.cell? ⟨b1, 0, none⟩ = some (.int .i64 k') := by rw [X1.out.cell 0]; rfl
  have z1 : wF.cell? ⟨b1, 1, none⟩ = some (.int .i64 ow') := by rw [X1.out.cell 1]; rfl
  have z2 : wF.cell? ⟨b1, 2, none⟩ = some (.int .i64 on') := by rw [X1.out.cell 2]; rfl
  have z3 : wF.cell? ⟨b1, 3, none⟩ = some (.int .i64 wh') := by rw [X1.out.cell 3]; rfl
  have z4 : wF.cell? ⟨b1, 4, none⟩ = some (.int .i64 aw') := by rw [X1.out.cell 4]; rfl
  have z5 : wF.cell? ⟨b1, 5, none⟩ = some (.int .i64 an') := by rw [X1.out.cell 5]; rfl
  have z6 : wF.cell? ⟨b1, 6, none⟩ = some (.int .i64 bw') := by rw [X1.out.cell 6]; rfl
  have z7 : wF.cell? ⟨b1, 7, none⟩ = some (.int .i64 bn') := by rw [X1.out.cell 7]; rfl
  have z8 : wF.cell? ⟨b1, 8, none⟩ = some (.int .i64 u') := by rw [X1.out.cell 8]; rfl
  have z9 : wF.cell? ⟨b1, 9, none⟩ = some (.int .i64 n') := by rw [X1.out.cell 9]; rfl
  refine bodyPost_ret (v := .tuple #[.agg #[.int .i64 k, .int .i64 ow, .int .i64 on, .int .i64 wh, .int .i64 aw, .int .i64 an, .int .i64 bw, .int .i64 bn, .int .i64 u, .int .i64 n], .agg #[.int .i64 k', .int .i64 ow', .int .i64 on', .int .i64 wh', .int .i64 aw', .int .i64 an', .int .i64 bw', .int .i64 bn', .int .i64 u', .int .i64 n']]) (by simp [results, Tryd.results12, go_sem, y0, y1, y2, y3, y4, y5, y6, y7, y8, y9, z0, z1, z2, z3, z4, z5, z6, z7, z8, z9]) rfl ⟨⟨⟨k, ow, on, wh, aw, an, bw, bn, u, n⟩, ⟨k', ow', on', wh', aw', an', bw', bn', u', n'⟩, rfl⟩, HF.out⟩
end Go.Proofs.YtflicklgmhgpiaaDoor.P5
