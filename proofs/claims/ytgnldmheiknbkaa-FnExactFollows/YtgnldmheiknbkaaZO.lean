/- The draws of chapter 5: some role, some word, right or not; only the cursor and new memory are written.
The draws of words, right ones and others; only the cursor and new memory are written.
The draw of a word, right or not; only the cursor and new memory are written.
The draws that FnWords makes: a right word, a text, words, a role; only new memory is written. -/
import Derived.Test.YtgnldmheiknbkaaZP
import Derived.Test.YtgnldmheiknbkaaZK
import Derived.Test.YtgnldmheiknbkaaZA
import Derived.Test.YtgnldmheiknbkaaZJ
namespace Go.Proofs.Ytgnldmheiknbkaa.P5
set_option maxRecDepth 8000
open Go.RowKit P1 Cu

theorem cur_set {B g : Nat} {w : World} (h : Cur B w g) {b i : Nat} (v : Value) (hne : b ≠ g) (hB : B ≤ b) : Cur B (w.setCell ⟨b, i, none⟩ v) g := by
  obtain ⟨h1, h2, u, n, j, z, h3, h4, h5, h6, h7, h8⟩ := h
  have hblk : ∀ k, k ≠ b → (w.setCell ⟨b, i, none⟩ v).heap[k]? = w.heap[k]? := fun k hk => Below.heap_setCell _ _ _ _ hk
  have hc : ∀ o, (w.setCell ⟨b, i, none⟩ v).cell? ⟨g, o, none⟩ = w.cell? ⟨g, o, none⟩ := fun o => World.cell?_of_block (hblk g (Ne.symm hne))
  refine ⟨h1, by simpa [World.setCell] using h2, u, n, j, z, h3.below (fun k hk => hblk k (by omega)), h4, by rw [hc]; exact h5, by rw [hc]; exact h6, by rw [hc]; exact h7, fun o => ?_⟩
  have := h8 o
  unfold World.frozen? at this ⊢
  rw [hblk g (Ne.symm hne)]
  exact this

theorem blk_kept {w w' : World} {b g : Nat} {cs : List Value} {t : TypeId} (h : Blk w b cs t) (hg : w.grownBy w' (some g)) (hne : b ≠ g) : Blk w' b cs t := by
  have := hg.block b h.lt (fun e => hne (by simpa using e))
  unfold Blk at *
  rw [this]
  exact h

/-- A draw under way: the cursor in block g, blocks of its own in b and b'. -/
structure DS (B g b b' : Nat) (t t' : TypeId) (w0 w : World) (xs ys : List Value) : Prop where
  c : Cur B w g
  gr : w0.grownBy w (some g)
  x : Blk w b xs t
  y : Blk w b' ys t'
  hB : B ≤ w0.heap.size
  hb : w0.heap.size ≤ b
  hb' : w0.heap.size ≤ b'
  ng : b ≠ g
  ng' : b' ≠ g
  ne : b ≠ b'

theorem DS.call {B g b b' : Nat} {t t' : TypeId} {w0 w w' : World} {xs ys : List Value} (h : DS B g b b' t t' w0 w xs ys) (hc : Cur B w' g) (hg : w.grownBy w' (some g)) : DS B g b b' t t' w0 w' xs ys :=
  { h with c := hc, gr := grown_trans h.gr hg, x := blk_kept h.x hg h.ng, y := blk_kept h.y hg h.ng' }

theorem DS.setX {B g b b' : Nat} {t t' : TypeId} {w0 w : World} {xs ys : List Value} (h : DS B g b b' t t' w0 w xs ys) (i : Nat) (v : Value) : DS B g b b' t t' w0 (w.setCell ⟨b, i, none⟩ v) (xs.set i v) ys :=
  { h with c := cur_set h.c v h.ng (Nat.le_trans h.hB h.hb), gr := grown_below h.gr ((Below.refl w0.heap.size w).setCell h.hb v), x := h.x.set i v, y := h.y.other (p := ⟨b, i, none⟩) (Ne.symm h.ne) v }

theorem DS.setY {B g b b' : Nat} {t t' : TypeId} {w0 w : World} {xs ys : List Value} (h : DS B g b b' t t' w0 w xs ys) (i : Nat) (v : Value) : DS B g b b' t t' w0 (w.setCell ⟨b', i, none⟩ v) xs (ys.set i v) :=
  { h with c := cur_set h.c v h.ng' (Nat.le_trans h.hB h.hb'), gr := grown_below h.gr ((Below.refl w0.heap.size w).setCell h.hb' v), y := h.y.set i v, x := h.x.other (p := ⟨b', i, none⟩) h.ne v }

/-- A block more. -/
theorem DS.two {B g b : Nat} {t t' : TypeId} {w0 w : World} {xs : List Value} (c : Cur B w g) (gr : w0.grownBy w (some g)) (x : Blk w b xs t) (hB : B ≤ w0.heap.size) (hb : w0.heap.size ≤ b) (ng : b ≠ g) (ys : Array Value) : DS B g b w.heap.size t t' w0 (w.alloc (.cells ys t')) xs ys.toList := by
  have hbel : Below w.heap.size w (w.alloc (.cells ys t')) := (Below.refl _ _).alloc (Nat.le_refl _) _
  have hg := c.2.1
  have hx := x.lt
  exact ⟨cur_below c hbel hg, grown_below gr (hbel.mono gr.size), x.below hbel hx, Blk.new w ys t', hB, hb, gr.size, ng, by omega, by omega⟩

/-- A draw under way with one block of its own. -/
structure DR (B g b : Nat) (t : TypeId) (w0 w : World) (xs : List Value) : Prop where
  c : Cur B w g
  gr : w0.grownBy w (some g)
  x : Blk w b xs t
  hB : B ≤ w0.heap.size
  hb : w0.heap.size ≤ b
  ng : b ≠ g

theorem DR.new {B g : Nat} {w : World} (c : Cur B w g) (hB : B ≤ w.heap.size) (cs : Array Value) (t : TypeId) : DR B g w.heap.size t w (w.alloc (.cells cs t)) cs.toList := by
  have hbel : Below w.heap.size w (w.alloc (.cells cs t)) := (Below.refl _ _).alloc (Nat.le_refl _) _
  have hg := c.2.1
  exact ⟨cur_below c hbel hg, grown_below (grown_refl _ _) hbel, Blk.new w cs t, hB, Nat.le_refl _, by omega⟩

theorem DR.call {B g b : Nat} {t : TypeId} {w0 w w' : World} {xs : List Value} (h : DR B g b t w0 w xs) (hc : Cur B w' g) (hg : w.grownBy w' (some g)) : DR B g b t w0 w' xs :=
  { h with c := hc, gr := grown_trans h.gr hg, x := blk_kept h.x hg h.ng }

theorem DR.set {B g b : Nat} {t : TypeId} {w0 w : World} {xs : List Value} (h : DR B g b t w0 w xs) (i : Nat) (v : Value) : DR B g b t w0 (w.setCell ⟨b, i, none⟩ v) (xs.set i v) :=
  { h with c := cur_set h.c v h.ng (Nat.le_trans h.hB h.hb), gr := grown_below h.gr ((Below.refl w0.heap.size w).setCell h.hb v), x := h.x.set i v }

theorem DR.more {B g b : Nat} {t t' : TypeId} {w0 w : World} {xs : List Value} (h : DR B g b t w0 w xs) (ys : Array Value) : DS B g b w.heap.size t t' w0 (w.alloc (.cells ys t')) xs ys.toList :=
  DS.two h.c h.gr h.x h.hB h.hb h.ng ys

/-- What a drawn role leaves. -/
def RoleR (B g : Nat) (w : World) (e : Ending) (w' : World) : Prop := ∃ a b : Nat, a < 3 ∧ b < 2 ∧ e = .returned (roleV a b) ∧ Cur B w' g ∧ w.grownBy w' (some g)

set_option maxHeartbeats 400000 in
theorem role_calls (B g : Nat) (w : World) (hc : Cur B w g) (hB : B ≤ w.heap.size) :
    Calls Try.prog 70 #[.pointer (some ⟨g, 0, none⟩)] w fun e w' => RoleR B g w e w' := by
  have HD := hide (DR.new hc hB #[.int .i64 0, .int .i64 0] 27)
  clear hc
  go_enter Try.func70, Try.ntmps70
  go_wp2_with fail
  obtain ⟨b0, e0⟩ : ∃ b, b = w.heap.size := ⟨_, rfl⟩
  rw [← e0] at HD ⊢
  clear e0
  generalize w.alloc (.cells #[.int .i64 0, .int .i64 0] 27) = w1 at *
  refine (below_calls B g _ HD.out.c 3 (by decide) (by decide)).mono ?_
  rintro e w2 ⟨x, hx, rfl, hc2, hg2⟩
  have HD := hide (HD.out.call hc2 hg2)
  clear hc2 hg2
  go_wp2_with fail
  refine (below_calls B g _ HD.out.c 2 (by decide) (by decide)).mono ?_
  rintro e w3 ⟨y, hy, rfl, hc2, hg2⟩
  have HD := hide (HD.out.call hc2 hg2)
  clear hc2 hg2
  have c0 : w3.cell? ⟨b0, 0, none⟩ = some (.int .i64 0) := by rw [HD.out.x.cell 0]; rfl
  have c1 : w3.cell? ⟨b0, 1, none⟩ = some (.int .i64 0) := by rw [HD.out.x.cell 1]; rfl
  have a0 := HD.out.x.free
  have l0 := HD.out.x.lt
  go_wp2_with fail
  have HF := hide ((HD.out.set 0 (.int .i64 (x : Int))).set 1 (.int .i64 (y : Int)))
  clear c0 c1 a0 l0 HD
  generalize (w3.setCell ⟨b0, 0, none⟩ (.int .i64 (x : Int))).setCell ⟨b0, 1, none⟩ (.int .i64 (y : Int)) = wF at *
  have y0 : wF.cell? ⟨b0, 0, none⟩ = some (.int .i64 (x : Int)) := by rw [HF.out.x.cell 0]; rfl
  have y1 : wF.cell? ⟨b0, 1, none⟩ = some (.int .i64 (y : Int)) := by rw [HF.out.x.cell 1]; rfl
  refine bodyPost_ret (v := roleV x y) (by simp [results, Try.results70, go_sem, y0, y1]) rfl ⟨x, y, hx, hy, rfl, HF.out.c, HF.out.gr⟩

/-- What a drawn role, right or not, leaves. -/
def AnyRoleR (B g : Nat) (w : World) (e : Ending) (w' : World) : Prop := ∃ a b : Int, e = .returned (roleV a b) ∧ Cur B w' g ∧ w.grownBy w' (some g)

set_option maxHeartbeats 1000000 in
theorem anyRole_calls (B g : Nat) (w : World) (hc : Cur B w g) (hB : B ≤ w.heap.size) :
    Calls Try.prog 60 #[.pointer (some ⟨g, 0, none⟩)] w fun e w' => AnyRoleR B g w e w' := by
  have HD := hide (DR.new hc hB #[.int .i64 0, .int .i64 0] 27)
  clear hc
  go_enter Try.func60, Try.ntmps60
  go_wp2_with fail
  obtain ⟨b0, e0⟩ : ∃ b, b = w.heap.size := ⟨_, rfl⟩
  rw [← e0] at HD ⊢
  clear e0
  generalize w.alloc (.cells #[.int .i64 0, .int .i64 0] 27) = w1 at *
  refine (role_calls B g _ HD.out.c (Nat.le_trans hB HD.out.gr.size)).mono ?_
  rintro e w2 ⟨x, y, hx, hy, rfl, hc2, hg2⟩
  have HD := hide ((HD.out.call hc2 hg2).more (t' := 27) #[.int .i64 (x : Int), .int .i64 (y : Int)])
  clear hc2 hg2
  go_wp2_with fail
  obtain ⟨b1, e1⟩ : ∃ b, b = w2.heap.size := ⟨_, rfl⟩
  rw [← e1] at HD ⊢
  clear e1
  generalize w2.alloc (.cells #[.int .i64 (x : Int), .int .i64 (y : Int)] 27) = w3 at *
  refine (below_calls B g _ HD.out.c 8 (by decide) (by decide)).mono ?_
  rintro e w4 ⟨k, hk, rfl, hc2, hg2⟩
  have HD := hide (HD.out.call hc2 hg2)
  clear hc2 hg2
  by_cases k0 : k = 0
  · subst k0
    go_wp2_with fail
    refine (pick_calls B g w4 HD.out.c [-1, 6, 5] (by decide) (by decide) 3 rfl _ rfl).mono ?_
    rintro e w5 ⟨z, hz, rfl, hc2, hg2⟩
    have HD := hide (HD.out.call hc2 hg2)
    clear hc2 hg2 hz
    have d0 : w5.cell? ⟨b1, 0, none⟩ = some (.int .i64 (x : Int)) := by rw [HD.out.y.cell 0]; rfl
    have d1 : w5.cell? ⟨b1, 1, none⟩ = some (.int .i64 (y : Int)) := by rw [HD.out.y.cell 1]; rfl
    have c0 : w5.cell? ⟨b0, 0, none⟩ = some (.int .i64 0) := by rw [HD.out.x.cell 0]; rfl
    have c1 : w5.cell? ⟨b0, 1, none⟩ = some (.int .i64 0) := by rw [HD.out.x.cell 1]; rfl
    have a0 := HD.out.x.free
    have a1 := HD.out.y.free
    have l0 := HD.out.x.lt
    have l1 := HD.out.y.lt
    have ne := HD.out.ne
    have ne' := Ne.symm ne
    go_wp2_with fail
    have HF := hide (((HD.out.setY 0 (.int .i64 z)).setX 0 (.int .i64 z)).setX 1 (.int .i64 (y : Int)))
    clear c0 c1 d0 d1 a0 a1 l0 l1 HD
    generalize ((w5.setCell ⟨b1, 0, none⟩ (.int .i64 z)).setCell ⟨b0, 0, none⟩ (.int .i64 z)).setCell ⟨b0, 1, none⟩ (.int .i64 (y : Int)) = wF at *
    have y0 : wF.cell? ⟨b0, 0, none⟩ = some (.int .i64 z) := by rw [HF.out.x.cell 0]; rfl
    have y1 : wF.cell? ⟨b0, 1, none⟩ = some (.int .i64 (y : Int)) := by rw [HF.out.x.cell 1]; rfl
    refine bodyPost_ret (v := roleV z y) (by simp [results, Try.results60, go_sem, y0, y1]) rfl ⟨z, y, rfl, HF.out.c, HF.out.gr⟩
  by_cases k1 : k = 1
  · subst k1
    go_wp2_with fail
    refine (pick_calls B g w4 HD.out.c [-1, 4, 3] (by decide) (by decide) 3 rfl _ rfl).mono ?_
    rintro e w5 ⟨z, hz, rfl, hc2, hg2⟩
    have HD := hide (HD.out.call hc2 hg2)
    clear hc2 hg2 hz
    have d0 : w5.cell? ⟨b1, 0, none⟩ = some (.int .i64 (x : Int)) := by rw [HD.out.y.cell 0]; rfl
    have d1 : w5.cell? ⟨b1, 1, none⟩ = some (.int .i64 (y : Int)) := by rw [HD.out.y.cell 1]; rfl
    have c0 : w5.cell? ⟨b0, 0, none⟩ = some (.int .i64 0) := by rw [HD.out.x.cell 0]; rfl
    have c1 : w5.cell? ⟨b0, 1, none⟩ = some (.int .i64 0) := by rw [HD.out.x.cell 1]; rfl
    have a0 := HD.out.x.free
    have a1 := HD.out.y.free
    have l0 := HD.out.x.lt
    have l1 := HD.out.y.lt
    have ne := HD.out.ne
    have ne' := Ne.symm ne
    go_wp2_with fail
    have HF := hide (((HD.out.setY 1 (.int .i64 z)).setX 0 (.int .i64 (x : Int))).setX 1 (.int .i64 z))
    clear c0 c1 d0 d1 a0 a1 l0 l1 HD
    generalize ((w5.setCell ⟨b1, 1, none⟩ (.int .i64 z)).setCell ⟨b0, 0, none⟩ (.int .i64 (x : Int))).setCell ⟨b0, 1, none⟩ (.int .i64 z) = wF at *
    have y0 : wF.cell? ⟨b0, 0, none⟩ = some (.int .i64 (x : Int)) := by rw [HF.out.x.cell 0]; rfl
    have y1 : wF.cell? ⟨b0, 1, none⟩ = some (.int .i64 z) := by rw [HF.out.x.cell 1]; rfl
    refine bodyPost_ret (v := roleV x z) (by simp [results, Try.results60, go_sem, y0, y1]) rfl ⟨x, z, rfl, HF.out.c, HF.out.gr⟩
  · have d0 : w4.cell? ⟨b1, 0, none⟩ = some (.int .i64 (x : Int)) := by rw [HD.out.y.cell 0]; rfl
    have d1 : w4.cell? ⟨b1, 1, none⟩ = some (.int .i64 (y : Int)) := by rw [HD.out.y.cell 1]; rfl
    have c0 : w4.cell? ⟨b0, 0, none⟩ = some (.int .i64 0) := by rw [HD.out.x.cell 0]; rfl
    have c1 : w4.cell? ⟨b0, 1, none⟩ = some (.int .i64 0) := by rw [HD.out.x.cell 1]; rfl
    have a0 := HD.out.x.free
    have l0 := HD.out.x.lt
    have l1 := HD.out.y.lt
    have ne := HD.out.ne
    have ne' := Ne.symm ne
    have k0' : ((k : Int) == 0) = false := by simp; omega
    have k1' : ((k : Int) == 1) = false := by simp; omega
    go_wp2_with fail
    have HF := hide ((HD.out.setX 0 (.int .i64 (x : Int))).setX 1 (.int .i64 (y : Int)))
    clear c0 c1 d0 d1 a0 l0 l1 HD
    generalize (w4.setCell ⟨b0, 0, none⟩ (.int .i64 (x : Int))).setCell ⟨b0, 1, none⟩ (.int .i64 (y : Int)) = wF at *
    have y0 : wF.cell? ⟨b0, 0, none⟩ = some (.int .i64 (x : Int)) := by rw [HF.out.x.cell 0]; rfl
    have y1 : wF.cell? ⟨b0, 1, none⟩ = some (.int .i64 (y : Int)) := by rw [HF.out.x.cell 1]; rfl
    refine bodyPost_ret (v := roleV x y) (by simp [results, Try.results60, go_sem, y0, y1]) rfl ⟨x, y, rfl, HF.out.c, HF.out.gr⟩
end Go.Proofs.Ytgnldmheiknbkaa.P5
namespace Go.Proofs.Ytgnldmheiknbkaa.P5
set_option maxRecDepth 8000
open Go.RowKit P1 Cu

/-- What a drawn right word leaves. -/
def CredR (B g : Nat) (w : World) (e : Ending) (w' : World) : Prop := ∃ c : Cr, credOk c ∧ e = .returned (credV c) ∧ Cur B w' g ∧ w.grownBy w' (some g)

/-- What a drawn word, right or not, leaves. -/
def AnyR (B g : Nat) (w : World) (e : Ending) (w' : World) : Prop := ∃ c : Cr, e = .returned (credV c) ∧ Cur B w' g ∧ w.grownBy w' (some g)

set_option maxHeartbeats 2000000 in
theorem l05Cred_calls (B g : Nat) (w : World) (hc : Cur B w g) (hB : B ≤ w.heap.size) :
    Calls Try.prog 51 #[.pointer (some ⟨g, 0, none⟩)] w fun e w' => CredR B g w e w' := by
  have HD := hide (DR.new hc hB #[.int .i64 0, .int .i64 0, .int .i64 0, .int .i64 0, .int .i64 0, .int .i64 0, .int .i64 0, .int .i64 0, .int .i64 0, .int .i64 0] 29)
  clear hc
  go_enter Try.func51, Try.ntmps51
  go_wp2_with fail
  obtain ⟨b0, e0⟩ : ∃ b, b = w.heap.size := ⟨_, rfl⟩
  have HBB : Hid (∀ wx, w.grownBy wx (some g) → B ≤ wx.heap.size) := fun wx h => Nat.le_trans hB h.size
  generalize hw1 : w.alloc (.cells #[.int .i64 0, .int .i64 0, .int .i64 0, .int .i64 0, .int .i64 0, .int .i64 0, .int .i64 0, .int .i64 0, .int .i64 0, .int .i64 0] 29) = w1 at *
  have hsz : w1.heap.size = b0 + 1 := by rw [← hw1, e0]; simp [go_sem]
  rw [← e0] at HD ⊢
  rw [← hsz]
  clear e0 hw1 hsz
  refine (pick_calls B g w1 HD.out.c [1, 1, 2, 3, 4] (by decide) (by decide) 5 rfl _ rfl).mono ?_
  rintro e w2 ⟨k, hk, rfl, hc2, hg2⟩
  have HD := hide (HD.out.call hc2 hg2)
  clear hc2 hg2
  go_wp2_with fail
  refine (role_calls B g _ HD.out.c (HBB.out _ HD.out.gr)).mono ?_
  rintro e w3 ⟨ow, on, how, hon, rfl, hc2, hg2⟩
  have HD := hide (HD.out.call hc2 hg2)
  clear hc2 hg2
  go_wp2_with fail
  refine (pick_calls B g w3 HD.out.c [5, 50, 9999, 2] (by decide) (by decide) 4 rfl _ rfl).mono ?_
  rintro e w4 ⟨u, hu, rfl, hc2, hg2⟩
  have HD := hide (HD.out.call hc2 hg2)
  clear hc2 hg2
  go_wp2_with fail
  refine (below_calls B g _ HD.out.c 2 (by decide) (by decide)).mono ?_
  rintro e w5 ⟨n, hn, rfl, hc2, hg2⟩
  have hu2 : 1 ≤ u ∧ u ≤ 9999 := by
    simp only [List.mem_cons, List.not_mem_nil, or_false] at hu
    omega
  have hk2 : k = 1 ∨ k = 2 ∨ k = 3 ∨ k = 4 := by
    simp only [List.mem_cons, List.not_mem_nil, or_false] at hk
    omega
  have HD := hide ((HD.out.call hc2 hg2).more (t' := 29) #[.int .i64 k, .int .i64 (ow : Int), .int .i64 (on : Int), .int .i64 0, .int .i64 0, .int .i64 0, .int .i64 0, .int .i64 0, .int .i64 u, .int .i64 (n : Int)])
  clear hc2 hg2 hu hk
  rcases hk2 with rfl | rfl | rfl | rfl
  · skip
    go_wp2_with fail
    obtain ⟨b1, e1⟩ : ∃ b, b = w5.heap.size := ⟨_, rfl⟩
    rw [← e1] at HD ⊢
    clear e1
    generalize w5.alloc (.cells #[.int .i64 1, .int .i64 (ow : Int), .int .i64 (on : Int), .int .i64 0, .int .i64 0, .int .i64 0, .int .i64 0, .int .i64 0, .int .i64 u, .int .i64 (n : Int)] 29) = w6 at *
    refine (below_calls B g _ HD.out.c 6 (by decide) (by decide)).mono ?_
    rintro e w7 ⟨z, hz, rfl, hc2, hg2⟩
    have HD := hide (HD.out.call hc2 hg2)
    clear hc2 hg2
    have d0 : w7.cell? ⟨b1, 0, none⟩ = some (.int .i64 1) := by rw [HD.out.y.cell 0]; rfl
    have d1 : w7.cell? ⟨b1, 1, none⟩ = some (.int .i64 (ow : Int)) := by rw [HD.out.y.cell 1]; rfl
    have d2 : w7.cell? ⟨b1, 2, none⟩ = some (.int .i64 (on : Int)) := by rw [HD.out.y.cell 2]; rfl
    have d3 : w7.cell? ⟨b1, 3, none⟩ = some (.int .i64 0) := by rw [HD.out.y.cell 3]; rfl
    have d4 : w7.cell? ⟨b1, 4, none⟩ = some (.int .i64 0) := by rw [HD.out.y.cell 4]; rfl
    have d5 : w7.cell? ⟨b1, 5, none⟩ = some (.int .i64 0) := by rw [HD.out.y.cell 5]; rfl
    have d6 : w7.cell? ⟨b1, 6, none⟩ = some (.int .i64 0) := by rw [HD.out.y.cell 6]; rfl
    have d7 : w7.cell? ⟨b1, 7, none⟩ = some (.int .i64 0) := by rw [HD.out.y.cell 7]; rfl
    have d8 : w7.cell? ⟨b1, 8, none⟩ = some (.int .i64 u) := by rw [HD.out.y.cell 8]; rfl
    have d9 : w7.cell? ⟨b1, 9, none⟩ = some (.int .i64 (n : Int)) := by rw [HD.out.y.cell 9]; rfl
    have c0 : w7.cell? ⟨b0, 0, none⟩ = some (.int .i64 0) := by rw [HD.out.x.cell 0]; rfl
    have c1 : w7.cell? ⟨b0, 1, none⟩ = some (.int .i64 0) := by rw [HD.out.x.cell 1]; rfl
    have c2 : w7.cell? ⟨b0, 2, none⟩ = some (.int .i64 0) := by rw [HD.out.x.cell 2]; rfl
    have c3 : w7.cell? ⟨b0, 3, none⟩ = some (.int .i64 0) := by rw [HD.out.x.cell 3]; rfl
    have c4 : w7.cell? ⟨b0, 4, none⟩ = some (.int .i64 0) := by rw [HD.out.x.cell 4]; rfl
    have c5 : w7.cell? ⟨b0, 5, none⟩ = some (.int .i64 0) := by rw [HD.out.x.cell 5]; rfl
    have c6 : w7.cell? ⟨b0, 6, none⟩ = some (.int .i64 0) := by rw [HD.out.x.cell 6]; rfl
    have c7 : w7.cell? ⟨b0, 7, none⟩ = some (.int .i64 0) := by rw [HD.out.x.cell 7]; rfl
    have c8 : w7.cell? ⟨b0, 8, none⟩ = some (.int .i64 0) := by rw [HD.out.x.cell 8]; rfl
    have c9 : w7.cell? ⟨b0, 9, none⟩ = some (.int .i64 0) := by rw [HD.out.x.cell 9]; rfl
    have a1 := HD.out.y.free
    have l1 := HD.out.y.lt
    have a0 := HD.out.x.free
    have l0 := HD.out.x.lt
    have ne := HD.out.ne
    have ne' := Ne.symm ne
    go_wp2_with fail
    have HF := hide (((((((((((HD.out.setY 3 (.int .i64 (z : Int))).setX 0 (.int .i64 1)).setX 1 (.int .i64 (ow : Int))).setX 2 (.int .i64 (on : Int))).setX 3 (.int .i64 (z : Int))).setX 4 (.int .i64 0)).setX 5 (.int .i64 0)).setX 6 (.int .i64 0)).setX 7 (.int .i64 0)).setX 8 (.int .i64 u)).setX 9 (.int .i64 (n : Int)))
    clear c0 c1 c2 c3 c4 c5 c6 c7 c8 c9 d0 d1 d2 d3 d4 d5 d6 d7 d8 d9 a0 a1 l0 l1 HD
    generalize (((((((((((w7.setCell ⟨b1, 3, none⟩ (.int .i64 (z : Int))).setCell ⟨b0, 0, none⟩ (.int .i64 1)).setCell ⟨b0, 1, none⟩ (.int .i64 (ow : Int))).setCell ⟨b0, 2, none⟩ (.int .i64 (on : Int))).setCell ⟨b0, 3, none⟩ (.int .i64 (z : Int))).setCell ⟨b0, 4, none⟩ (.int .i64 0)).setCell ⟨b0, 5, none⟩ (.int .i64 0)).setCell ⟨b0, 6, none⟩ (.int .i64 0)).setCell ⟨b0, 7, none⟩ (.int .i64 0)).setCell ⟨b0, 8, none⟩ (.int .i64 u)).setCell ⟨b0, 9, none⟩ (.int .i64 (n : Int))) = wF at *
    have y0 : wF.cell? ⟨b0, 0, none⟩ = some (.int .i64 1) := by rw [HF.out.x.cell 0]; rfl
    have y1 : wF.cell? ⟨b0, 1, none⟩ = some (.int .i64 (ow : Int)) := by rw [HF.out.x.cell 1]; rfl
    have y2 : wF.cell? ⟨b0, 2, none⟩ = some (.int .i64 (on : Int)) := by rw [HF.out.x.cell 2]; rfl
    have y3 : wF.cell? ⟨b0, 3, none⟩ = some (.int .i64 (z : Int)) := by rw [HF.out.x.cell 3]; rfl
    have y4 : wF.cell? ⟨b0, 4, none⟩ = some (.int .i64 0) := by rw [HF.out.x.cell 4]; rfl
    have y5 : wF.cell? ⟨b0, 5, none⟩ = some (.int .i64 0) := by rw [HF.out.x.cell 5]; rfl
    have y6 : wF.cell? ⟨b0, 6, none⟩ = some (.int .i64 0) := by rw [HF.out.x.cell 6]; rfl
    have y7 : wF.cell? ⟨b0, 7, none⟩ = some (.int .i64 0) := by rw [HF.out.x.cell 7]; rfl
    have y8 : wF.cell? ⟨b0, 8, none⟩ = some (.int .i64 u) := by rw [HF.out.x.cell 8]; rfl
    have y9 : wF.cell? ⟨b0, 9, none⟩ = some (.int .i64 (n : Int)) := by rw [HF.out.x.cell 9]; rfl
    refine bodyPost_ret (v := credV ⟨1, (ow : Int), (on : Int), (z : Int), 0, 0, 0, 0, u, (n : Int)⟩) (by simp [results, Try.results51, go_sem, y0, y1, y2, y3, y4, y5, y6, y7, y8, y9]) rfl ⟨⟨1, (ow : Int), (on : Int), (z : Int), 0, 0, 0, 0, u, (n : Int)⟩, by unfold credOk kindOk roleOk; dsimp only; omega, rfl, HF.out.c, HF.out.gr⟩
  · skip
    go_wp2_with fail
    obtain ⟨b1, e1⟩ : ∃ b, b = w5.heap.size := ⟨_, rfl⟩
    rw [← e1] at HD ⊢
    clear e1
    generalize w5.alloc (.cells #[.int .i64 2, .int .i64 (ow : Int), .int .i64 (on : Int), .int .i64 0, .int .i64 0, .int .i64 0, .int .i64 0, .int .i64 0, .int .i64 u, .int .i64 (n : Int)] 29) = w6 at *
    refine (role_calls B g _ HD.out.c (HBB.out _ HD.out.gr)).mono ?_
    rintro e w7 ⟨aw, an, haw, han, rfl, hc2, hg2⟩
    have HD := hide (HD.out.call hc2 hg2)
    clear hc2 hg2
    have d0 : w7.cell? ⟨b1, 0, none⟩ = some (.int .i64 2) := by rw [HD.out.y.cell 0]; rfl
    have d1 : w7.cell? ⟨b1, 1, none⟩ = some (.int .i64 (ow : Int)) := by rw [HD.out.y.cell 1]; rfl
    have d2 : w7.cell? ⟨b1, 2, none⟩ = some (.int .i64 (on : Int)) := by rw [HD.out.y.cell 2]; rfl
    have d3 : w7.cell? ⟨b1, 3, none⟩ = some (.int .i64 0) := by rw [HD.out.y.cell 3]; rfl
    have d4 : w7.cell? ⟨b1, 4, none⟩ = some (.int .i64 0) := by rw [HD.out.y.cell 4]; rfl
    have d5 : w7.cell? ⟨b1, 5, none⟩ = some (.int .i64 0) := by rw [HD.out.y.cell 5]; rfl
    have d6 : w7.cell? ⟨b1, 6, none⟩ = some (.int .i64 0) := by rw [HD.out.y.cell 6]; rfl
    have d7 : w7.cell? ⟨b1, 7, none⟩ = some (.int .i64 0) := by rw [HD.out.y.cell 7]; rfl
    have d8 : w7.cell? ⟨b1, 8, none⟩ = some (.int .i64 u) := by rw [HD.out.y.cell 8]; rfl
    have d9 : w7.cell? ⟨b1, 9, none⟩ = some (.int .i64 (n : Int)) := by rw [HD.out.y.cell 9]; rfl
    have c0 : w7.cell? ⟨b0, 0, none⟩ = some (.int .i64 0) := by rw [HD.out.x.cell 0]; rfl
    have c1 : w7.cell? ⟨b0, 1, none⟩ = some (.int .i64 0) := by rw [HD.out.x.cell 1]; rfl
    have c2 : w7.cell? ⟨b0, 2, none⟩ = some (.int .i64 0) := by rw [HD.out.x.cell 2]; rfl
    have c3 : w7.cell? ⟨b0, 3, none⟩ = some (.int .i64 0) := by rw [HD.out.x.cell 3]; rfl
    have c4 : w7.cell? ⟨b0, 4, none⟩ = some (.int .i64 0) := by rw [HD.out.x.cell 4]; rfl
    have c5 : w7.cell? ⟨b0, 5, none⟩ = some (.int .i64 0) := by rw [HD.out.x.cell 5]; rfl
    have c6 : w7.cell? ⟨b0, 6, none⟩ = some (.int .i64 0) := by rw [HD.out.x.cell 6]; rfl
    have c7 : w7.cell? ⟨b0, 7, none⟩ = some (.int .i64 0) := by rw [HD.out.x.cell 7]; rfl
    have c8 : w7.cell? ⟨b0, 8, none⟩ = some (.int .i64 0) := by rw [HD.out.x.cell 8]; rfl
    have c9 : w7.cell? ⟨b0, 9, none⟩ = some (.int .i64 0) := by rw [HD.out.x.cell 9]; rfl
    have a1 := HD.out.y.free
    have l1 := HD.out.y.lt
    have a0 := HD.out.x.free
    have l0 := HD.out.x.lt
    have ne := HD.out.ne
    have ne' := Ne.symm ne
    go_wp2_with fail
    have HF := hide ((((((((((((HD.out.setY 4 (.int .i64 (aw : Int))).setY 5 (.int .i64 (an : Int))).setX 0 (.int .i64 2)).setX 1 (.int .i64 (ow : Int))).setX 2 (.int .i64 (on : Int))).setX 3 (.int .i64 0)).setX 4 (.int .i64 (aw : Int))).setX 5 (.int .i64 (an : Int))).setX 6 (.int .i64 0)).setX 7 (.int .i64 0)).setX 8 (.int .i64 u)).setX 9 (.int .i64 (n : Int)))
    clear c0 c1 c2 c3 c4 c5 c6 c7 c8 c9 d0 d1 d2 d3 d4 d5 d6 d7 d8 d9 a0 a1 l0 l1 HD
    generalize ((((((((((((w7.setCell ⟨b1, 4, none⟩ (.int .i64 (aw : Int))).setCell ⟨b1, 5, none⟩ (.int .i64 (an : Int))).setCell ⟨b0, 0, none⟩ (.int .i64 2)).setCell ⟨b0, 1, none⟩ (.int .i64 (ow : Int))).setCell ⟨b0, 2, none⟩ (.int .i64 (on : Int))).setCell ⟨b0, 3, none⟩ (.int .i64 0)).setCell ⟨b0, 4, none⟩ (.int .i64 (aw : Int))).setCell ⟨b0, 5, none⟩ (.int .i64 (an : Int))).setCell ⟨b0, 6, none⟩ (.int .i64 0)).setCell ⟨b0, 7, none⟩ (.int .i64 0)).setCell ⟨b0, 8, none⟩ (.int .i64 u)).setCell ⟨b0, 9, none⟩ (.int .i64 (n : Int))) = wF at *
    have y0 : wF.cell? ⟨b0, 0, none⟩ = some (.int .i64 2) := by rw [HF.out.x.cell 0]; rfl
    have y1 : wF.cell? ⟨b0, 1, none⟩ = some (.int .i64 (ow : Int)) := by rw [HF.out.x.cell 1]; rfl
    have y2 : wF.cell? ⟨b0, 2, none⟩ = some (.int .i64 (on : Int)) := by rw [HF.out.x.cell 2]; rfl
    have y3 : wF.cell? ⟨b0, 3, none⟩ = some (.int .i64 0) := by rw [HF.out.x.cell 3]; rfl
    have y4 : wF.cell? ⟨b0, 4, none⟩ = some (.int .i64 (aw : Int)) := by rw [HF.out.x.cell 4]; rfl
    have y5 : wF.cell? ⟨b0, 5, none⟩ = some (.int .i64 (an : Int)) := by rw [HF.out.x.cell 5]; rfl
    have y6 : wF.cell? ⟨b0, 6, none⟩ = some (.int .i64 0) := by rw [HF.out.x.cell 6]; rfl
    have y7 : wF.cell? ⟨b0, 7, none⟩ = some (.int .i64 0) := by rw [HF.out.x.cell 7]; rfl
    have y8 : wF.cell? ⟨b0, 8, none⟩ = some (.int .i64 u) := by rw [HF.out.x.cell 8]; rfl
    have y9 : wF.cell? ⟨b0, 9, none⟩ = some (.int .i64 (n : Int)) := by rw [HF.out.x.cell 9]; rfl
    refine bodyPost_ret (v := credV ⟨2, (ow : Int), (on : Int), 0, (aw : Int), (an : Int), 0, 0, u, (n : Int)⟩) (by simp [results, Try.results51, go_sem, y0, y1, y2, y3, y4, y5, y6, y7, y8, y9]) rfl ⟨⟨2, (ow : Int), (on : Int), 0, (aw : Int), (an : Int), 0, 0, u, (n : Int)⟩, by unfold credOk kindOk roleOk; dsimp only; omega, rfl, HF.out.c, HF.out.gr⟩
  · skip
    go_wp2_with fail
    obtain ⟨b1, e1⟩ : ∃ b, b = w5.heap.size := ⟨_, rfl⟩
    rw [← e1] at HD ⊢
    clear e1
    generalize w5.alloc (.cells #[.int .i64 3, .int .i64 (ow : Int), .int .i64 (on : Int), .int .i64 0, .int .i64 0, .int .i64 0, .int .i64 0, .int .i64 0, .int .i64 u, .int .i64 (n : Int)] 29) = w6 at *
    refine (role_calls B g _ HD.out.c (HBB.out _ HD.out.gr)).mono ?_
    rintro e w7 ⟨aw, an, haw, han, rfl, hc2, hg2⟩
    have HD := hide (HD.out.call hc2 hg2)
    clear hc2 hg2
    have d0 : w7.cell? ⟨b1, 0, none⟩ = some (.int .i64 3) := by rw [HD.out.y.cell 0]; rfl
    have d1 : w7.cell? ⟨b1, 1, none⟩ = some (.int .i64 (ow : Int)) := by rw [HD.out.y.cell 1]; rfl
    have d2 : w7.cell? ⟨b1, 2, none⟩ = some (.int .i64 (on : Int)) := by rw [HD.out.y.cell 2]; rfl
    have d3 : w7.cell? ⟨b1, 3, none⟩ = some (.int .i64 0) := by rw [HD.out.y.cell 3]; rfl
    have d4 : w7.cell? ⟨b1, 4, none⟩ = some (.int .i64 0) := by rw [HD.out.y.cell 4]; rfl
    have d5 : w7.cell? ⟨b1, 5, none⟩ = some (.int .i64 0) := by rw [HD.out.y.cell 5]; rfl
    have d6 : w7.cell? ⟨b1, 6, none⟩ = some (.int .i64 0) := by rw [HD.out.y.cell 6]; rfl
    have d7 : w7.cell? ⟨b1, 7, none⟩ = some (.int .i64 0) := by rw [HD.out.y.cell 7]; rfl
    have d8 : w7.cell? ⟨b1, 8, none⟩ = some (.int .i64 u) := by rw [HD.out.y.cell 8]; rfl
    have d9 : w7.cell? ⟨b1, 9, none⟩ = some (.int .i64 (n : Int)) := by rw [HD.out.y.cell 9]; rfl
    have a1 := HD.out.y.free
    have l1 := HD.out.y.lt
    have ne := HD.out.ne
    have ne' := Ne.symm ne
    go_wp2_with fail
    have HD := hide ((HD.out.setY 4 (.int .i64 (aw : Int))).setY 5 (.int .i64 (an : Int)))
    clear d0 d1 d2 d3 d4 d5 d6 d7 d8 d9 a1 l1 ne ne'
    generalize ((w7.setCell ⟨b1, 4, none⟩ (.int .i64 (aw : Int))).setCell ⟨b1, 5, none⟩ (.int .i64 (an : Int))) = w8 at *
    refine (below_calls B g _ HD.out.c 2 (by decide) (by decide)).mono ?_
    rintro e w9 ⟨m, hm, rfl, hc2, hg2⟩
    have HD := hide (HD.out.call hc2 hg2)
    clear hc2 hg2
    have d0 : w9.cell? ⟨b1, 0, none⟩ = some (.int .i64 3) := by rw [HD.out.y.cell 0]; rfl
    have d1 : w9.cell? ⟨b1, 1, none⟩ = some (.int .i64 (ow : Int)) := by rw [HD.out.y.cell 1]; rfl
    have d2 : w9.cell? ⟨b1, 2, none⟩ = some (.int .i64 (on : Int)) := by rw [HD.out.y.cell 2]; rfl
    have d3 : w9.cell? ⟨b1, 3, none⟩ = some (.int .i64 0) := by rw [HD.out.y.cell 3]; rfl
    have d4 : w9.cell? ⟨b1, 4, none⟩ = some (.int .i64 (aw : Int)) := by rw [HD.out.y.cell 4]; rfl
    have d5 : w9.cell? ⟨b1, 5, none⟩ = some (.int .i64 (an : Int)) := by rw [HD.out.y.cell 5]; rfl
    have d6 : w9.cell? ⟨b1, 6, none⟩ = some (.int .i64 0) := by rw [HD.out.y.cell 6]; rfl
    have d7 : w9.cell? ⟨b1, 7, none⟩ = some (.int .i64 0) := by rw [HD.out.y.cell 7]; rfl
    have d8 : w9.cell? ⟨b1, 8, none⟩ = some (.int .i64 u) := by rw [HD.out.y.cell 8]; rfl
    have d9 : w9.cell? ⟨b1, 9, none⟩ = some (.int .i64 (n : Int)) := by rw [HD.out.y.cell 9]; rfl
    have c0 : w9.cell? ⟨b0, 0, none⟩ = some (.int .i64 0) := by rw [HD.out.x.cell 0]; rfl
    have c1 : w9.cell? ⟨b0, 1, none⟩ = some (.int .i64 0) := by rw [HD.out.x.cell 1]; rfl
    have c2 : w9.cell? ⟨b0, 2, none⟩ = some (.int .i64 0) := by rw [HD.out.x.cell 2]; rfl
    have c3 : w9.cell? ⟨b0, 3, none⟩ = some (.int .i64 0) := by rw [HD.out.x.cell 3]; rfl
    have c4 : w9.cell? ⟨b0, 4, none⟩ = some (.int .i64 0) := by rw [HD.out.x.cell 4]; rfl
    have c5 : w9.cell? ⟨b0, 5, none⟩ = some (.int .i64 0) := by rw [HD.out.x.cell 5]; rfl
    have c6 : w9.cell? ⟨b0, 6, none⟩ = some (.int .i64 0) := by rw [HD.out.x.cell 6]; rfl
    have c7 : w9.cell? ⟨b0, 7, none⟩ = some (.int .i64 0) := by rw [HD.out.x.cell 7]; rfl
    have c8 : w9.cell? ⟨b0, 8, none⟩ = some (.int .i64 0) := by rw [HD.out.x.cell 8]; rfl
    have c9 : w9.cell? ⟨b0, 9, none⟩ = some (.int .i64 0) := by rw [HD.out.x.cell 9]; rfl
    have a1 := HD.out.y.free
    have l1 := HD.out.y.lt
    have a0 := HD.out.x.free
    have l0 := HD.out.x.lt
    have ne := HD.out.ne
    have ne' := Ne.symm ne
    go_wp2_with fail
    have HF := hide ((((((((((((HD.out.setY 6 (.int .i64 0)).setY 7 (.int .i64 (m : Int))).setX 0 (.int .i64 3)).setX 1 (.int .i64 (ow : Int))).setX 2 (.int .i64 (on : Int))).setX 3 (.int .i64 0)).setX 4 (.int .i64 (aw : Int))).setX 5 (.int .i64 (an : Int))).setX 6 (.int .i64 0)).setX 7 (.int .i64 (m : Int))).setX 8 (.int .i64 u)).setX 9 (.int .i64 (n : Int)))
    clear c0 c1 c2 c3 c4 c5 c6 c7 c8 c9 d0 d1 d2 d3 d4 d5 d6 d7 d8 d9 a0 a1 l0 l1 HD
    generalize ((((((((((((w9.setCell ⟨b1, 6, none⟩ (.int .i64 0)).setCell ⟨b1, 7, none⟩ (.int .i64 (m : Int))).setCell ⟨b0, 0, none⟩ (.int .i64 3)).setCell ⟨b0, 1, none⟩ (.int .i64 (ow : Int))).setCell ⟨b0, 2, none⟩ (.int .i64 (on : Int))).setCell ⟨b0, 3, none⟩ (.int .i64 0)).setCell ⟨b0, 4, none⟩ (.int .i64 (aw : Int))).setCell ⟨b0, 5, none⟩ (.int .i64 (an : Int))).setCell ⟨b0, 6, none⟩ (.int .i64 0)).setCell ⟨b0, 7, none⟩ (.int .i64 (m : Int))).setCell ⟨b0, 8, none⟩ (.int .i64 u)).setCell ⟨b0, 9, none⟩ (.int .i64 (n : Int))) = wF at *
    have y0 : wF.cell? ⟨b0, 0, none⟩ = some (.int .i64 3) := by rw [HF.out.x.cell 0]; rfl
    have y1 : wF.cell? ⟨b0, 1, none⟩ = some (.int .i64 (ow : Int)) := by rw [HF.out.x.cell 1]; rfl
    have y2 : wF.cell? ⟨b0, 2, none⟩ = some (.int .i64 (on : Int)) := by rw [HF.out.x.cell 2]; rfl
    have y3 : wF.cell? ⟨b0, 3, none⟩ = some (.int .i64 0) := by rw [HF.out.x.cell 3]; rfl
    have y4 : wF.cell? ⟨b0, 4, none⟩ = some (.int .i64 (aw : Int)) := by rw [HF.out.x.cell 4]; rfl
    have y5 : wF.cell? ⟨b0, 5, none⟩ = some (.int .i64 (an : Int)) := by rw [HF.out.x.cell 5]; rfl
    have y6 : wF.cell? ⟨b0, 6, none⟩ = some (.int .i64 0) := by rw [HF.out.x.cell 6]; rfl
    have y7 : wF.cell? ⟨b0, 7, none⟩ = some (.int .i64 (m : Int)) := by rw [HF.out.x.cell 7]; rfl
    have y8 : wF.cell? ⟨b0, 8, none⟩ = some (.int .i64 u) := by rw [HF.out.x.cell 8]; rfl
    have y9 : wF.cell? ⟨b0, 9, none⟩ = some (.int .i64 (n : Int)) := by rw [HF.out.x.cell 9]; rfl
    refine bodyPost_ret (v := credV ⟨3, (ow : Int), (on : Int), 0, (aw : Int), (an : Int), 0, (m : Int), u, (n : Int)⟩) (by simp [results, Try.results51, go_sem, y0, y1, y2, y3, y4, y5, y6, y7, y8, y9]) rfl ⟨⟨3, (ow : Int), (on : Int), 0, (aw : Int), (an : Int), 0, (m : Int), u, (n : Int)⟩, by unfold credOk kindOk roleOk; dsimp only; omega, rfl, HF.out.c, HF.out.gr⟩
  · skip
    go_wp2_with fail
    obtain ⟨b1, e1⟩ : ∃ b, b = w5.heap.size := ⟨_, rfl⟩
    rw [← e1] at HD ⊢
    clear e1
    generalize w5.alloc (.cells #[.int .i64 4, .int .i64 (ow : Int), .int .i64 (on : Int), .int .i64 0, .int .i64 0, .int .i64 0, .int .i64 0, .int .i64 0, .int .i64 u, .int .i64 (n : Int)] 29) = w6 at *
    refine (role_calls B g _ HD.out.c (HBB.out _ HD.out.gr)).mono ?_
    rintro e w7 ⟨aw, an, haw, han, rfl, hc2, hg2⟩
    have HD := hide (HD.out.call hc2 hg2)
    clear hc2 hg2
    have d0 : w7.cell? ⟨b1, 0, none⟩ = some (.int .i64 4) := by rw [HD.out.y.cell 0]; rfl
    have d1 : w7.cell? ⟨b1, 1, none⟩ = some (.int .i64 (ow : Int)) := by rw [HD.out.y.cell 1]; rfl
    have d2 : w7.cell? ⟨b1, 2, none⟩ = some (.int .i64 (on : Int)) := by rw [HD.out.y.cell 2]; rfl
    have d3 : w7.cell? ⟨b1, 3, none⟩ = some (.int .i64 0) := by rw [HD.out.y.cell 3]; rfl
    have d4 : w7.cell? ⟨b1, 4, none⟩ = some (.int .i64 0) := by rw [HD.out.y.cell 4]; rfl
    have d5 : w7.cell? ⟨b1, 5, none⟩ = some (.int .i64 0) := by rw [HD.out.y.cell 5]; rfl
    have d6 : w7.cell? ⟨b1, 6, none⟩ = some (.int .i64 0) := by rw [HD.out.y.cell 6]; rfl
    have d7 : w7.cell? ⟨b1, 7, none⟩ = some (.int .i64 0) := by rw [HD.out.y.cell 7]; rfl
    have d8 : w7.cell? ⟨b1, 8, none⟩ = some (.int .i64 u) := by rw [HD.out.y.cell 8]; rfl
    have d9 : w7.cell? ⟨b1, 9, none⟩ = some (.int .i64 (n : Int)) := by rw [HD.out.y.cell 9]; rfl
    have a1 := HD.out.y.free
    have l1 := HD.out.y.lt
    have ne := HD.out.ne
    have ne' := Ne.symm ne
    go_wp2_with fail
    have HD := hide ((HD.out.setY 4 (.int .i64 (aw : Int))).setY 5 (.int .i64 (an : Int)))
    clear d0 d1 d2 d3 d4 d5 d6 d7 d8 d9 a1 l1 ne ne'
    generalize ((w7.setCell ⟨b1, 4, none⟩ (.int .i64 (aw : Int))).setCell ⟨b1, 5, none⟩ (.int .i64 (an : Int))) = w8 at *
    refine (role_calls B g _ HD.out.c (HBB.out _ HD.out.gr)).mono ?_
    rintro e w9 ⟨bw, bn, hbw, hbn, rfl, hc2, hg2⟩
    have HD := hide (HD.out.call hc2 hg2)
    clear hc2 hg2
    have d0 : w9.cell? ⟨b1, 0, none⟩ = some (.int .i64 4) := by rw [HD.out.y.cell 0]; rfl
    have d1 : w9.cell? ⟨b1, 1, none⟩ = some (.int .i64 (ow : Int)) := by rw [HD.out.y.cell 1]; rfl
    have d2 : w9.cell? ⟨b1, 2, none⟩ = some (.int .i64 (on : Int)) := by rw [HD.out.y.cell 2]; rfl
    have d3 : w9.cell? ⟨b1, 3, none⟩ = some (.int .i64 0) := by rw [HD.out.y.cell 3]; rfl
    have d4 : w9.cell? ⟨b1, 4, none⟩ = some (.int .i64 (aw : Int)) := by rw [HD.out.y.cell 4]; rfl
    have d5 : w9.cell? ⟨b1, 5, none⟩ = some (.int .i64 (an : Int)) := by rw [HD.out.y.cell 5]; rfl
    have d6 : w9.cell? ⟨b1, 6, none⟩ = some (.int .i64 0) := by rw [HD.out.y.cell 6]; rfl
    have d7 : w9.cell? ⟨b1, 7, none⟩ = some (.int .i64 0) := by rw [HD.out.y.cell 7]; rfl
    have d8 : w9.cell? ⟨b1, 8, none⟩ = some (.int .i64 u) := by rw [HD.out.y.cell 8]; rfl
    have d9 : w9.cell? ⟨b1, 9, none⟩ = some (.int .i64 (n : Int)) := by rw [HD.out.y.cell 9]; rfl
    have c0 : w9.cell? ⟨b0, 0, none⟩ = some (.int .i64 0) := by rw [HD.out.x.cell 0]; rfl
    have c1 : w9.cell? ⟨b0, 1, none⟩ = some (.int .i64 0) := by rw [HD.out.x.cell 1]; rfl
    have c2 : w9.cell? ⟨b0, 2, none⟩ = some (.int .i64 0) := by rw [HD.out.x.cell 2]; rfl
    have c3 : w9.cell? ⟨b0, 3, none⟩ = some (.int .i64 0) := by rw [HD.out.x.cell 3]; rfl
    have c4 : w9.cell? ⟨b0, 4, none⟩ = some (.int .i64 0) := by rw [HD.out.x.cell 4]; rfl
    have c5 : w9.cell? ⟨b0, 5, none⟩ = some (.int .i64 0) := by rw [HD.out.x.cell 5]; rfl
    have c6 : w9.cell? ⟨b0, 6, none⟩ = some (.int .i64 0) := by rw [HD.out.x.cell 6]; rfl
    have c7 : w9.cell? ⟨b0, 7, none⟩ = some (.int .i64 0) := by rw [HD.out.x.cell 7]; rfl
    have c8 : w9.cell? ⟨b0, 8, none⟩ = some (.int .i64 0) := by rw [HD.out.x.cell 8]; rfl
    have c9 : w9.cell? ⟨b0, 9, none⟩ = some (.int .i64 0) := by rw [HD.out.x.cell 9]; rfl
    have a1 := HD.out.y.free
    have l1 := HD.out.y.lt
    have a0 := HD.out.x.free
    have l0 := HD.out.x.lt
    have ne := HD.out.ne
    have ne' := Ne.symm ne
    go_wp2_with fail
    have HF := hide ((((((((((((HD.out.setY 6 (.int .i64 (bw : Int))).setY 7 (.int .i64 (bn : Int))).setX 0 (.int .i64 4)).setX 1 (.int .i64 (ow : Int))).setX 2 (.int .i64 (on : Int))).setX 3 (.int .i64 0)).setX 4 (.int .i64 (aw : Int))).setX 5 (.int .i64 (an : Int))).setX 6 (.int .i64 (bw : Int))).setX 7 (.int .i64 (bn : Int))).setX 8 (.int .i64 u)).setX 9 (.int .i64 (n : Int)))
    clear c0 c1 c2 c3 c4 c5 c6 c7 c8 c9 d0 d1 d2 d3 d4 d5 d6 d7 d8 d9 a0 a1 l0 l1 HD
    generalize ((((((((((((w9.setCell ⟨b1, 6, none⟩ (.int .i64 (bw : Int))).setCell ⟨b1, 7, none⟩ (.int .i64 (bn : Int))).setCell ⟨b0, 0, none⟩ (.int .i64 4)).setCell ⟨b0, 1, none⟩ (.int .i64 (ow : Int))).setCell ⟨b0, 2, none⟩ (.int .i64 (on : Int))).setCell ⟨b0, 3, none⟩ (.int .i64 0)).setCell ⟨b0, 4, none⟩ (.int .i64 (aw : Int))).setCell ⟨b0, 5, none⟩ (.int .i64 (an : Int))).setCell ⟨b0, 6, none⟩ (.int .i64 (bw : Int))).setCell ⟨b0, 7, none⟩ (.int .i64 (bn : Int))).setCell ⟨b0, 8, none⟩ (.int .i64 u)).setCell ⟨b0, 9, none⟩ (.int .i64 (n : Int))) = wF at *
    have y0 : wF.cell? ⟨b0, 0, none⟩ = some (.int .i64 4) := by rw [HF.out.x.cell 0]; rfl
    have y1 : wF.cell? ⟨b0, 1, none⟩ = some (.int .i64 (ow : Int)) := by rw [HF.out.x.cell 1]; rfl
    have y2 : wF.cell? ⟨b0, 2, none⟩ = some (.int .i64 (on : Int)) := by rw [HF.out.x.cell 2]; rfl
    have y3 : wF.cell? ⟨b0, 3, none⟩ = some (.int .i64 0) := by rw [HF.out.x.cell 3]; rfl
    have y4 : wF.cell? ⟨b0, 4, none⟩ = some (.int .i64 (aw : Int)) := by rw [HF.out.x.cell 4]; rfl
    have y5 : wF.cell? ⟨b0, 5, none⟩ = some (.int .i64 (an : Int)) := by rw [HF.out.x.cell 5]; rfl
    have y6 : wF.cell? ⟨b0, 6, none⟩ = some (.int .i64 (bw : Int)) := by rw [HF.out.x.cell 6]; rfl
    have y7 : wF.cell? ⟨b0, 7, none⟩ = some (.int .i64 (bn : Int)) := by rw [HF.out.x.cell 7]; rfl
    have y8 : wF.cell? ⟨b0, 8, none⟩ = some (.int .i64 u) := by rw [HF.out.x.cell 8]; rfl
    have y9 : wF.cell? ⟨b0, 9, none⟩ = some (.int .i64 (n : Int)) := by rw [HF.out.x.cell 9]; rfl
    refine bodyPost_ret (v := credV ⟨4, (ow : Int), (on : Int), 0, (aw : Int), (an : Int), (bw : Int), (bn : Int), u, (n : Int)⟩) (by simp [results, Try.results51, go_sem, y0, y1, y2, y3, y4, y5, y6, y7, y8, y9]) rfl ⟨⟨4, (ow : Int), (on : Int), 0, (aw : Int), (an : Int), (bw : Int), (bn : Int), u, (n : Int)⟩, by unfold credOk kindOk roleOk; dsimp only; omega, rfl, HF.out.c, HF.out.gr⟩
end Go.Proofs.Ytgnldmheiknbkaa.P5
namespace Go.Proofs.Ytgnldmheiknbkaa.P5
set_option maxRecDepth 8000
open Go.RowKit P1 Cu

theorem DR.alloc {B g b : Nat} {t : TypeId} {w0 w : World} {xs : List Value} (h : DR B g b t w0 w xs) (x : Obj) : DR B g b t w0 (w.alloc x) xs := by
  have hbel : Below w.heap.size w (w.alloc x) := (Below.refl _ _).alloc (Nat.le_refl _) _
  exact { h with c := cur_below h.c hbel h.c.2.1, gr := grown_below h.gr (hbel.mono h.gr.size), x := h.x.below hbel h.x.lt }

set_option maxHeartbeats 2000000 in
theorem l05Any_calls (B g : Nat) (w : World) (hc : Cur B w g) (hB : B ≤ w.heap.size) :
    Calls Try.prog 57 #[.pointer (some ⟨g, 0, none⟩)] w fun e w' => AnyR B g w e w' := by
  have HD := hide (DR.new hc hB #[.int .i64 0, .int .i64 0, .int .i64 0, .int .i64 0, .int .i64 0, .int .i64 0, .int .i64 0, .int .i64 0, .int .i64 0, .int .i64 0] 29)
  clear hc
  go_enter Try.func57, Try.ntmps57
  go_wp2_with fail
  obtain ⟨b0, e0⟩ : ∃ b, b = w.heap.size := ⟨_, rfl⟩
  rw [← e0] at HD ⊢
  clear e0
  have HBB : Hid (∀ wx, w.grownBy wx (some g) → B ≤ wx.heap.size) := fun wx h => Nat.le_trans hB h.size
  generalize w.alloc (.cells #[.int .i64 0, .int .i64 0, .int .i64 0, .int .i64 0, .int .i64 0, .int .i64 0, .int .i64 0, .int .i64 0, .int .i64 0, .int .i64 0] 29) = w1 at *
  refine (below_calls B g _ HD.out.c 10 (by decide) (by decide)).mono ?_
  rintro e w2 ⟨kk, hkk, rfl, hc2, hg2⟩
  have HD := hide (HD.out.call hc2 hg2)
  clear hc2 hg2
  go_wp2_with fail
  refine (below_calls B g _ HD.out.c 60 (by decide) (by decide)).mono ?_
  rintro e w3 ⟨y, hy, rfl, hc2, hg2⟩
  have HD := hide (HD.out.call hc2 hg2)
  clear hc2 hg2
  go_wp2_with fail
  refine (l05Cred_calls B g _ HD.out.c (HBB.out _ HD.out.gr)).mono ?_
  rintro e w4 ⟨⟨k, ow, on, wh, aw, an, bw, bn, u, n⟩, hok, rfl, hc2, hg2⟩
  have HD := hide (HD.out.call hc2 hg2)
  simp only [credV]
  clear hc2 hg2 hok
  have c0 : w4.cell? ⟨b0, 0, none⟩ = some (.int .i64 0) := by rw [HD.out.x.cell 0]; rfl
  have c1 : w4.cell? ⟨b0, 1, none⟩ = some (.int .i64 0) := by rw [HD.out.x.cell 1]; rfl
  have c2 : w4.cell? ⟨b0, 2, none⟩ = some (.int .i64 0) := by rw [HD.out.x.cell 2]; rfl
  have c3 : w4.cell? ⟨b0, 3, none⟩ = some (.int .i64 0) := by rw [HD.out.x.cell 3]; rfl
  have c4 : w4.cell? ⟨b0, 4, none⟩ = some (.int .i64 0) := by rw [HD.out.x.cell 4]; rfl
  have c5 : w4.cell? ⟨b0, 5, none⟩ = some (.int .i64 0) := by rw [HD.out.x.cell 5]; rfl
  have c6 : w4.cell? ⟨b0, 6, none⟩ = some (.int .i64 0) := by rw [HD.out.x.cell 6]; rfl
  have c7 : w4.cell? ⟨b0, 7, none⟩ = some (.int .i64 0) := by rw [HD.out.x.cell 7]; rfl
  have c8 : w4.cell? ⟨b0, 8, none⟩ = some (.int .i64 0) := by rw [HD.out.x.cell 8]; rfl
  have c9 : w4.cell? ⟨b0, 9, none⟩ = some (.int .i64 0) := by rw [HD.out.x.cell 9]; rfl
  have a0 := HD.out.x.free
  have l0 := HD.out.x.lt
  have hn0 : b0 ≠ w4.heap.size := by omega
  have hn1 : ¬ b0 = w4.heap.size := hn0
  have hn2 : ¬ w4.heap.size = b0 := fun h => hn0 h.symm
  by_cases q0 : kk = 0
  · subst q0
    go_wp2_with fail
    have HF := hide (((((((((((HD.out.set 0 (.int .i64 ((y : Int) % 6))).set 1 (.int .i64 ow)).set 2 (.int .i64 on)).set 3 (.int .i64 wh)).set 4 (.int .i64 aw)).set 5 (.int .i64 an)).set 6 (.int .i64 bw)).set 7 (.int .i64 bn)).set 8 (.int .i64 u)).set 9 (.int .i64 n)).alloc (.cells #[.int .i64 ((y : Int) % 6), .int .i64 ow, .int .i64 on, .int .i64 wh, .int .i64 aw, .int .i64 an, .int .i64 bw, .int .i64 bn, .int .i64 u, .int .i64 n] 29))
    clear c0 c1 c2 c3 c4 c5 c6 c7 c8 c9 a0 l0 HD
    generalize (((((((((((w4.setCell ⟨b0, 0, none⟩ (.int .i64 ((y : Int) % 6))).setCell ⟨b0, 1, none⟩ (.int .i64 ow)).setCell ⟨b0, 2, none⟩ (.int .i64 on)).setCell ⟨b0, 3, none⟩ (.int .i64 wh)).setCell ⟨b0, 4, none⟩ (.int .i64 aw)).setCell ⟨b0, 5, none⟩ (.int .i64 an)).setCell ⟨b0, 6, none⟩ (.int .i64 bw)).setCell ⟨b0, 7, none⟩ (.int .i64 bn)).setCell ⟨b0, 8, none⟩ (.int .i64 u)).setCell ⟨b0, 9, none⟩ (.int .i64 n)).alloc (.cells #[.int .i64 ((y : Int) % 6), .int .i64 ow, .int .i64 on, .int .i64 wh, .int .i64 aw, .int .i64 an, .int .i64 bw, .int .i64 bn, .int .i64 u, .int .i64 n] 29)) = wF at *
    have y0 : wF.cell? ⟨b0, 0, none⟩ = some (.int .i64 ((y : Int) % 6)) := by rw [HF.out.x.cell 0]; rfl
    have y1 : wF.cell? ⟨b0, 1, none⟩ = some (.int .i64 ow) := by rw [HF.out.x.cell 1]; rfl
    have y2 : wF.cell? ⟨b0, 2, none⟩ = some (.int .i64 on) := by rw [HF.out.x.cell 2]; rfl
    have y3 : wF.cell? ⟨b0, 3, none⟩ = some (.int .i64 wh) := by rw [HF.out.x.cell 3]; rfl
    have y4 : wF.cell? ⟨b0, 4, none⟩ = some (.int .i64 aw) := by rw [HF.out.x.cell 4]; rfl
    have y5 : wF.cell? ⟨b0, 5, none⟩ = some (.int .i64 an) := by rw [HF.out.x.cell 5]; rfl
    have y6 : wF.cell? ⟨b0, 6, none⟩ = some (.int .i64 bw) := by rw [HF.out.x.cell 6]; rfl
    have y7 : wF.cell? ⟨b0, 7, none⟩ = some (.int .i64 bn) := by rw [HF.out.x.cell 7]; rfl
    have y8 : wF.cell? ⟨b0, 8, none⟩ = some (.int .i64 u) := by rw [HF.out.x.cell 8]; rfl
    have y9 : wF.cell? ⟨b0, 9, none⟩ = some (.int .i64 n) := by rw [HF.out.x.cell 9]; rfl
    refine bodyPost_ret (v := credV ⟨((y : Int) % 6), ow, on, wh, aw, an, bw, bn, u, n⟩) (by simp [results, Try.results57, go_sem, y0, y1, y2, y3, y4, y5, y6, y7, y8, y9]) rfl ⟨⟨((y : Int) % 6), ow, on, wh, aw, an, bw, bn, u, n⟩, rfl, HF.out.c, HF.out.gr⟩
  by_cases q1 : kk = 1
  · subst q1
    go_wp2_with fail
    have HF := hide (((((((((((HD.out.set 0 (.int .i64 k)).set 1 (.int .i64 ow)).set 2 (.int .i64 on)).set 3 (.int .i64 ((y : Int) % 9 - 1))).set 4 (.int .i64 aw)).set 5 (.int .i64 an)).set 6 (.int .i64 bw)).set 7 (.int .i64 bn)).set 8 (.int .i64 u)).set 9 (.int .i64 n)).alloc (.cells #[.int .i64 k, .int .i64 ow, .int .i64 on, .int .i64 ((y : Int) % 9 - 1), .int .i64 aw, .int .i64 an, .int .i64 bw, .int .i64 bn, .int .i64 u, .int .i64 n] 29))
    clear c0 c1 c2 c3 c4 c5 c6 c7 c8 c9 a0 l0 HD
    generalize (((((((((((w4.setCell ⟨b0, 0, none⟩ (.int .i64 k)).setCell ⟨b0, 1, none⟩ (.int .i64 ow)).setCell ⟨b0, 2, none⟩ (.int .i64 on)).setCell ⟨b0, 3, none⟩ (.int .i64 ((y : Int) % 9 - 1))).setCell ⟨b0, 4, none⟩ (.int .i64 aw)).setCell ⟨b0, 5, none⟩ (.int .i64 an)).setCell ⟨b0, 6, none⟩ (.int .i64 bw)).setCell ⟨b0, 7, none⟩ (.int .i64 bn)).setCell ⟨b0, 8, none⟩ (.int .i64 u)).setCell ⟨b0, 9, none⟩ (.int .i64 n)).alloc (.cells #[.int .i64 k, .int .i64 ow, .int .i64 on, .int .i64 ((y : Int) % 9 - 1), .int .i64 aw, .int .i64 an, .int .i64 bw, .int .i64 bn, .int .i64 u, .int .i64 n] 29)) = wF at *
    have y0 : wF.cell? ⟨b0, 0, none⟩ = some (.int .i64 k) := by rw [HF.out.x.cell 0]; rfl
    have y1 : wF.cell? ⟨b0, 1, none⟩ = some (.int .i64 ow) := by rw [HF.out.x.cell 1]; rfl
    have y2 : wF.cell? ⟨b0, 2, none⟩ = some (.int .i64 on) := by rw [HF.out.x.cell 2]; rfl
    have y3 : wF.cell? ⟨b0, 3, none⟩ = some (.int .i64 ((y : Int) % 9 - 1)) := by rw [HF.out.x.cell 3]; rfl
    have y4 : wF.cell? ⟨b0, 4, none⟩ = some (.int .i64 aw) := by rw [HF.out.x.cell 4]; rfl
    have y5 : wF.cell? ⟨b0, 5, none⟩ = some (.int .i64 an) := by rw [HF.out.x.cell 5]; rfl
    have y6 : wF.cell? ⟨b0, 6, none⟩ = some (.int .i64 bw) := by rw [HF.out.x.cell 6]; rfl
    have y7 : wF.cell? ⟨b0, 7, none⟩ = some (.int .i64 bn) := by rw [HF.out.x.cell 7]; rfl
    have y8 : wF.cell? ⟨b0, 8, none⟩ = some (.int .i64 u) := by rw [HF.out.x.cell 8]; rfl
    have y9 : wF.cell? ⟨b0, 9, none⟩ = some (.int .i64 n) := by rw [HF.out.x.cell 9]; rfl
    refine bodyPost_ret (v := credV ⟨k, ow, on, ((y : Int) % 9 - 1), aw, an, bw, bn, u, n⟩) (by simp [results, Try.results57, go_sem, y0, y1, y2, y3, y4, y5, y6, y7, y8, y9]) rfl ⟨⟨k, ow, on, ((y : Int) % 9 - 1), aw, an, bw, bn, u, n⟩, rfl, HF.out.c, HF.out.gr⟩
  by_cases q2 : kk = 2
  · subst q2
    go_wp2_with fail
    have HF := hide (((((((((((HD.out.set 0 (.int .i64 k)).set 1 (.int .i64 ow)).set 2 (.int .i64 on)).set 3 (.int .i64 wh)).set 4 (.int .i64 ((y : Int) % 8))).set 5 (.int .i64 ((y : Int) % 5))).set 6 (.int .i64 bw)).set 7 (.int .i64 bn)).set 8 (.int .i64 u)).set 9 (.int .i64 n)).alloc (.cells #[.int .i64 k, .int .i64 ow, .int .i64 on, .int .i64 wh, .int .i64 ((y : Int) % 8), .int .i64 ((y : Int) % 5), .int .i64 bw, .int .i64 bn, .int .i64 u, .int .i64 n] 29))
    clear c0 c1 c2 c3 c4 c5 c6 c7 c8 c9 a0 l0 HD
    generalize (((((((((((w4.setCell ⟨b0, 0, none⟩ (.int .i64 k)).setCell ⟨b0, 1, none⟩ (.int .i64 ow)).setCell ⟨b0, 2, none⟩ (.int .i64 on)).setCell ⟨b0, 3, none⟩ (.int .i64 wh)).setCell ⟨b0, 4, none⟩ (.int .i64 ((y : Int) % 8))).setCell ⟨b0, 5, none⟩ (.int .i64 ((y : Int) % 5))).setCell ⟨b0, 6, none⟩ (.int .i64 bw)).setCell ⟨b0, 7, none⟩ (.int .i64 bn)).setCell ⟨b0, 8, none⟩ (.int .i64 u)).setCell ⟨b0, 9, none⟩ (.int .i64 n)).alloc (.cells #[.int .i64 k, .int .i64 ow, .int .i64 on, .int .i64 wh, .int .i64 ((y : Int) % 8), .int .i64 ((y : Int) % 5), .int .i64 bw, .int .i64 bn, .int .i64 u, .int .i64 n] 29)) = wF at *
    have y0 : wF.cell? ⟨b0, 0, none⟩ = some (.int .i64 k) := by rw [HF.out.x.cell 0]; rfl
    have y1 : wF.cell? ⟨b0, 1, none⟩ = some (.int .i64 ow) := by rw [HF.out.x.cell 1]; rfl
    have y2 : wF.cell? ⟨b0, 2, none⟩ = some (.int .i64 on) := by rw [HF.out.x.cell 2]; rfl
    have y3 : wF.cell? ⟨b0, 3, none⟩ = some (.int .i64 wh) := by rw [HF.out.x.cell 3]; rfl
    have y4 : wF.cell? ⟨b0, 4, none⟩ = some (.int .i64 ((y : Int) % 8)) := by rw [HF.out.x.cell 4]; rfl
    have y5 : wF.cell? ⟨b0, 5, none⟩ = some (.int .i64 ((y : Int) % 5)) := by rw [HF.out.x.cell 5]; rfl
    have y6 : wF.cell? ⟨b0, 6, none⟩ = some (.int .i64 bw) := by rw [HF.out.x.cell 6]; rfl
    have y7 : wF.cell? ⟨b0, 7, none⟩ = some (.int .i64 bn) := by rw [HF.out.x.cell 7]; rfl
    have y8 : wF.cell? ⟨b0, 8, none⟩ = some (.int .i64 u) := by rw [HF.out.x.cell 8]; rfl
    have y9 : wF.cell? ⟨b0, 9, none⟩ = some (.int .i64 n) := by rw [HF.out.x.cell 9]; rfl
    refine bodyPost_ret (v := credV ⟨k, ow, on, wh, ((y : Int) % 8), ((y : Int) % 5), bw, bn, u, n⟩) (by simp [results, Try.results57, go_sem, y0, y1, y2, y3, y4, y5, y6, y7, y8, y9]) rfl ⟨⟨k, ow, on, wh, ((y : Int) % 8), ((y : Int) % 5), bw, bn, u, n⟩, rfl, HF.out.c, HF.out.gr⟩
  by_cases q3 : kk = 3
  · subst q3
    go_wp2_with fail
    have HF := hide (((((((((((HD.out.set 0 (.int .i64 k)).set 1 (.int .i64 ow)).set 2 (.int .i64 on)).set 3 (.int .i64 wh)).set 4 (.int .i64 aw)).set 5 (.int .i64 an)).set 6 (.int .i64 ((y : Int) % 3))).set 7 (.int .i64 bn)).set 8 (.int .i64 u)).set 9 (.int .i64 n)).alloc (.cells #[.int .i64 k, .int .i64 ow, .int .i64 on, .int .i64 wh, .int .i64 aw, .int .i64 an, .int .i64 ((y : Int) % 3), .int .i64 bn, .int .i64 u, .int .i64 n] 29))
    clear c0 c1 c2 c3 c4 c5 c6 c7 c8 c9 a0 l0 HD
    generalize (((((((((((w4.setCell ⟨b0, 0, none⟩ (.int .i64 k)).setCell ⟨b0, 1, none⟩ (.int .i64 ow)).setCell ⟨b0, 2, none⟩ (.int .i64 on)).setCell ⟨b0, 3, none⟩ (.int .i64 wh)).setCell ⟨b0, 4, none⟩ (.int .i64 aw)).setCell ⟨b0, 5, none⟩ (.int .i64 an)).setCell ⟨b0, 6, none⟩ (.int .i64 ((y : Int) % 3))).setCell ⟨b0, 7, none⟩ (.int .i64 bn)).setCell ⟨b0, 8, none⟩ (.int .i64 u)).setCell ⟨b0, 9, none⟩ (.int .i64 n)).alloc (.cells #[.int .i64 k, .int .i64 ow, .int .i64 on, .int .i64 wh, .int .i64 aw, .int .i64 an, .int .i64 ((y : Int) % 3), .int .i64 bn, .int .i64 u, .int .i64 n] 29)) = wF at *
    have y0 : wF.cell? ⟨b0, 0, none⟩ = some (.int .i64 k) := by rw [HF.out.x.cell 0]; rfl
    have y1 : wF.cell? ⟨b0, 1, none⟩ = some (.int .i64 ow) := by rw [HF.out.x.cell 1]; rfl
    have y2 : wF.cell? ⟨b0, 2, none⟩ = some (.int .i64 on) := by rw [HF.out.x.cell 2]; rfl
    have y3 : wF.cell? ⟨b0, 3, none⟩ = some (.int .i64 wh) := by rw [HF.out.x.cell 3]; rfl
    have y4 : wF.cell? ⟨b0, 4, none⟩ = some (.int .i64 aw) := by rw [HF.out.x.cell 4]; rfl
    have y5 : wF.cell? ⟨b0, 5, none⟩ = some (.int .i64 an) := by rw [HF.out.x.cell 5]; rfl
    have y6 : wF.cell? ⟨b0, 6, none⟩ = some (.int .i64 ((y : Int) % 3)) := by rw [HF.out.x.cell 6]; rfl
    have y7 : wF.cell? ⟨b0, 7, none⟩ = some (.int .i64 bn) := by rw [HF.out.x.cell 7]; rfl
    have y8 : wF.cell? ⟨b0, 8, none⟩ = some (.int .i64 u) := by rw [HF.out.x.cell 8]; rfl
    have y9 : wF.cell? ⟨b0, 9, none⟩ = some (.int .i64 n) := by rw [HF.out.x.cell 9]; rfl
    refine bodyPost_ret (v := credV ⟨k, ow, on, wh, aw, an, ((y : Int) % 3), bn, u, n⟩) (by simp [results, Try.results57, go_sem, y0, y1, y2, y3, y4, y5, y6, y7, y8, y9]) rfl ⟨⟨k, ow, on, wh, aw, an, ((y : Int) % 3), bn, u, n⟩, rfl, HF.out.c, HF.out.gr⟩
  by_cases q4 : kk = 4
  · subst q4
    have h3 : (y : Int) % 3 = 0 ∨ (y : Int) % 3 = 1 ∨ (y : Int) % 3 = 2 := by omega
    rcases h3 with h3 | h3 | h3
    · skip
      go_wp2_with fail
      have HF := hide ((((((((((((HD.out.set 0 (.int .i64 k)).set 1 (.int .i64 ow)).set 2 (.int .i64 on)).set 3 (.int .i64 wh)).set 4 (.int .i64 aw)).set 5 (.int .i64 an)).set 6 (.int .i64 bw)).set 7 (.int .i64 bn)).set 8 (.int .i64 0)).set 9 (.int .i64 n)).alloc (.cells #[.int .i64 k, .int .i64 ow, .int .i64 on, .int .i64 wh, .int .i64 aw, .int .i64 an, .int .i64 bw, .int .i64 bn, .int .i64 0, .int .i64 n] 29)).alloc (.cells #[.int .i64 0, .int .i64 10000, .int .i64 1] 3))
      clear c0 c1 c2 c3 c4 c5 c6 c7 c8 c9 a0 l0 HD
      generalize ((((((((((((w4.setCell ⟨b0, 0, none⟩ (.int .i64 k)).setCell ⟨b0, 1, none⟩ (.int .i64 ow)).setCell ⟨b0, 2, none⟩ (.int .i64 on)).setCell ⟨b0, 3, none⟩ (.int .i64 wh)).setCell ⟨b0, 4, none⟩ (.int .i64 aw)).setCell ⟨b0, 5, none⟩ (.int .i64 an)).setCell ⟨b0, 6, none⟩ (.int .i64 bw)).setCell ⟨b0, 7, none⟩ (.int .i64 bn)).setCell ⟨b0, 8, none⟩ (.int .i64 0)).setCell ⟨b0, 9, none⟩ (.int .i64 n)).alloc (.cells #[.int .i64 k, .int .i64 ow, .int .i64 on, .int .i64 wh, .int .i64 aw, .int .i64 an, .int .i64 bw, .int .i64 bn, .int .i64 0, .int .i64 n] 29)).alloc (.cells #[.int .i64 0, .int .i64 10000, .int .i64 1] 3)) = wF at *
      have y0 : wF.cell? ⟨b0, 0, none⟩ = some (.int .i64 k) := by rw [HF.out.x.cell 0]; rfl
      have y1 : wF.cell? ⟨b0, 1, none⟩ = some (.int .i64 ow) := by rw [HF.out.x.cell 1]; rfl
      have y2 : wF.cell? ⟨b0, 2, none⟩ = some (.int .i64 on) := by rw [HF.out.x.cell 2]; rfl
      have y3 : wF.cell? ⟨b0, 3, none⟩ = some (.int .i64 wh) := by rw [HF.out.x.cell 3]; rfl
      have y4 : wF.cell? ⟨b0, 4, none⟩ = some (.int .i64 aw) := by rw [HF.out.x.cell 4]; rfl
      have y5 : wF.cell? ⟨b0, 5, none⟩ = some (.int .i64 an) := by rw [HF.out.x.cell 5]; rfl
      have y6 : wF.cell? ⟨b0, 6, none⟩ = some (.int .i64 bw) := by rw [HF.out.x.cell 6]; rfl
      have y7 : wF.cell? ⟨b0, 7, none⟩ = some (.int .i64 bn) := by rw [HF.out.x.cell 7]; rfl
      have y8 : wF.cell? ⟨b0, 8, none⟩ = some (.int .i64 0) := by rw [HF.out.x.cell 8]; rfl
      have y9 : wF.cell? ⟨b0, 9, none⟩ = some (.int .i64 n) := by rw [HF.out.x.cell 9]; rfl
      refine bodyPost_ret (v := credV ⟨k, ow, on, wh, aw, an, bw, bn, 0, n⟩) (by simp [results, Try.results57, go_sem, y0, y1, y2, y3, y4, y5, y6, y7, y8, y9]) rfl ⟨⟨k, ow, on, wh, aw, an, bw, bn, 0, n⟩, rfl, HF.out.c, HF.out.gr⟩
    · skip
      go_wp2_with fail
      have HF := hide ((((((((((((HD.out.set 0 (.int .i64 k)).set 1 (.int .i64 ow)).set 2 (.int .i64 on)).set 3 (.int .i64 wh)).set 4 (.int .i64 aw)).set 5 (.int .i64 an)).set 6 (.int .i64 bw)).set 7 (.int .i64 bn)).set 8 (.int .i64 10000)).set 9 (.int .i64 n)).alloc (.cells #[.int .i64 k, .int .i64 ow, .int .i64 on, .int .i64 wh, .int .i64 aw, .int .i64 an, .int .i64 bw, .int .i64 bn, .int .i64 10000, .int .i64 n] 29)).alloc (.cells #[.int .i64 0, .int .i64 10000, .int .i64 1] 3))
      clear c0 c1 c2 c3 c4 c5 c6 c7 c8 c9 a0 l0 HD
      generalize ((((((((((((w4.setCell ⟨b0, 0, none⟩ (.int .i64 k)).setCell ⟨b0, 1, none⟩ (.int .i64 ow)).setCell ⟨b0, 2, none⟩ (.int .i64 on)).setCell ⟨b0, 3, none⟩ (.int .i64 wh)).setCell ⟨b0, 4, none⟩ (.int .i64 aw)).setCell ⟨b0, 5, none⟩ (.int .i64 an)).setCell ⟨b0, 6, none⟩ (.int .i64 bw)).setCell ⟨b0, 7, none⟩ (.int .i64 bn)).setCell ⟨b0, 8, none⟩ (.int .i64 10000)).setCell ⟨b0, 9, none⟩ (.int .i64 n)).alloc (.cells #[.int .i64 k, .int .i64 ow, .int .i64 on, .int .i64 wh, .int .i64 aw, .int .i64 an, .int .i64 bw, .int .i64 bn, .int .i64 10000, .int .i64 n] 29)).alloc (.cells #[.int .i64 0, .int .i64 10000, .int .i64 1] 3)) = wF at *
      have y0 : wF.cell? ⟨b0, 0, none⟩ = some (.int .i64 k) := by rw [HF.out.x.cell 0]; rfl
      have y1 : wF.cell? ⟨b0, 1, none⟩ = some (.int .i64 ow) := by rw [HF.out.x.cell 1]; rfl
      have y2 : wF.cell? ⟨b0, 2, none⟩ = some (.int .i64 on) := by rw [HF.out.x.cell 2]; rfl
      have y3 : wF.cell? ⟨b0, 3, none⟩ = some (.int .i64 wh) := by rw [HF.out.x.cell 3]; rfl
      have y4 : wF.cell? ⟨b0, 4, none⟩ = some (.int .i64 aw) := by rw [HF.out.x.cell 4]; rfl
      have y5 : wF.cell? ⟨b0, 5, none⟩ = some (.int .i64 an) := by rw [HF.out.x.cell 5]; rfl
      have y6 : wF.cell? ⟨b0, 6, none⟩ = some (.int .i64 bw) := by rw [HF.out.x.cell 6]; rfl
      have y7 : wF.cell? ⟨b0, 7, none⟩ = some (.int .i64 bn) := by rw [HF.out.x.cell 7]; rfl
      have y8 : wF.cell? ⟨b0, 8, none⟩ = some (.int .i64 10000) := by rw [HF.out.x.cell 8]; rfl
      have y9 : wF.cell? ⟨b0, 9, none⟩ = some (.int .i64 n) := by rw [HF.out.x.cell 9]; rfl
      refine bodyPost_ret (v := credV ⟨k, ow, on, wh, aw, an, bw, bn, 10000, n⟩) (by simp [results, Try.results57, go_sem, y0, y1, y2, y3, y4, y5, y6, y7, y8, y9]) rfl ⟨⟨k, ow, on, wh, aw, an, bw, bn, 10000, n⟩, rfl, HF.out.c, HF.out.gr⟩
    · skip
      go_wp2_with fail
      have HF := hide ((((((((((((HD.out.set 0 (.int .i64 k)).set 1 (.int .i64 ow)).set 2 (.int .i64 on)).set 3 (.int .i64 wh)).set 4 (.int .i64 aw)).set 5 (.int .i64 an)).set 6 (.int .i64 bw)).set 7 (.int .i64 bn)).set 8 (.int .i64 1)).set 9 (.int .i64 n)).alloc (.cells #[.int .i64 k, .int .i64 ow, .int .i64 on, .int .i64 wh, .int .i64 aw, .int .i64 an, .int .i64 bw, .int .i64 bn, .int .i64 1, .int .i64 n] 29)).alloc (.cells #[.int .i64 0, .int .i64 10000, .int .i64 1] 3))
      clear c0 c1 c2 c3 c4 c5 c6 c7 c8 c9 a0 l0 HD
      generalize ((((((((((((w4.setCell ⟨b0, 0, none⟩ (.int .i64 k)).setCell ⟨b0, 1, none⟩ (.int .i64 ow)).setCell ⟨b0, 2, none⟩ (.int .i64 on)).setCell ⟨b0, 3, none⟩ (.int .i64 wh)).setCell ⟨b0, 4, none⟩ (.int .i64 aw)).setCell ⟨b0, 5, none⟩ (.int .i64 an)).setCell ⟨b0, 6, none⟩ (.int .i64 bw)).setCell ⟨b0, 7, none⟩ (.int .i64 bn)).setCell ⟨b0, 8, none⟩ (.int .i64 1)).setCell ⟨b0, 9, none⟩ (.int .i64 n)).alloc (.cells #[.int .i64 k, .int .i64 ow, .int .i64 on, .int .i64 wh, .int .i64 aw, .int .i64 an, .int .i64 bw, .int .i64 bn, .int .i64 1, .int .i64 n] 29)).alloc (.cells #[.int .i64 0, .int .i64 10000, .int .i64 1] 3)) = wF at *
      have y0 : wF.cell? ⟨b0, 0, none⟩ = some (.int .i64 k) := by rw [HF.out.x.cell 0]; rfl
      have y1 : wF.cell? ⟨b0, 1, none⟩ = some (.int .i64 ow) := by rw [HF.out.x.cell 1]; rfl
      have y2 : wF.cell? ⟨b0, 2, none⟩ = some (.int .i64 on) := by rw [HF.out.x.cell 2]; rfl
      have y3 : wF.cell? ⟨b0, 3, none⟩ = some (.int .i64 wh) := by rw [HF.out.x.cell 3]; rfl
      have y4 : wF.cell? ⟨b0, 4, none⟩ = some (.int .i64 aw) := by rw [HF.out.x.cell 4]; rfl
      have y5 : wF.cell? ⟨b0, 5, none⟩ = some (.int .i64 an) := by rw [HF.out.x.cell 5]; rfl
      have y6 : wF.cell? ⟨b0, 6, none⟩ = some (.int .i64 bw) := by rw [HF.out.x.cell 6]; rfl
      have y7 : wF.cell? ⟨b0, 7, none⟩ = some (.int .i64 bn) := by rw [HF.out.x.cell 7]; rfl
      have y8 : wF.cell? ⟨b0, 8, none⟩ = some (.int .i64 1) := by rw [HF.out.x.cell 8]; rfl
      have y9 : wF.cell? ⟨b0, 9, none⟩ = some (.int .i64 n) := by rw [HF.out.x.cell 9]; rfl
      refine bodyPost_ret (v := credV ⟨k, ow, on, wh, aw, an, bw, bn, 1, n⟩) (by simp [results, Try.results57, go_sem, y0, y1, y2, y3, y4, y5, y6, y7, y8, y9]) rfl ⟨⟨k, ow, on, wh, aw, an, bw, bn, 1, n⟩, rfl, HF.out.c, HF.out.gr⟩
  · skip
    have r0 : ((kk : Int) == 0) = false := by simp; omega
    have r1 : ((kk : Int) == 1) = false := by simp; omega
    have r2 : ((kk : Int) == 2) = false := by simp; omega
    have r3 : ((kk : Int) == 3) = false := by simp; omega
    have r4 : ((kk : Int) == 4) = false := by simp; omega
    go_wp2_with fail
    have HF := hide (((((((((((HD.out.set 0 (.int .i64 k)).set 1 (.int .i64 ow)).set 2 (.int .i64 on)).set 3 (.int .i64 wh)).set 4 (.int .i64 aw)).set 5 (.int .i64 an)).set 6 (.int .i64 bw)).set 7 (.int .i64 bn)).set 8 (.int .i64 u)).set 9 (.int .i64 n)).alloc (.cells #[.int .i64 k, .int .i64 ow, .int .i64 on, .int .i64 wh, .int .i64 aw, .int .i64 an, .int .i64 bw, .int .i64 bn, .int .i64 u, .int .i64 n] 29))
    clear c0 c1 c2 c3 c4 c5 c6 c7 c8 c9 a0 l0 HD
    generalize (((((((((((w4.setCell ⟨b0, 0, none⟩ (.int .i64 k)).setCell ⟨b0, 1, none⟩ (.int .i64 ow)).setCell ⟨b0, 2, none⟩ (.int .i64 on)).setCell ⟨b0, 3, none⟩ (.int .i64 wh)).setCell ⟨b0, 4, none⟩ (.int .i64 aw)).setCell ⟨b0, 5, none⟩ (.int .i64 an)).setCell ⟨b0, 6, none⟩ (.int .i64 bw)).setCell ⟨b0, 7, none⟩ (.int .i64 bn)).setCell ⟨b0, 8, none⟩ (.int .i64 u)).setCell ⟨b0, 9, none⟩ (.int .i64 n)).alloc (.cells #[.int .i64 k, .int .i64 ow, .int .i64 on, .int .i64 wh, .int .i64 aw, .int .i64 an, .int .i64 bw, .int .i64 bn, .int .i64 u, .int .i64 n] 29)) = wF at *
    have y0 : wF.cell? ⟨b0, 0, none⟩ = some (.int .i64 k) := by rw [HF.out.x.cell 0]; rfl
    have y1 : wF.cell? ⟨b0, 1, none⟩ = some (.int .i64 ow) := by rw [HF.out.x.cell 1]; rfl
    have y2 : wF.cell? ⟨b0, 2, none⟩ = some (.int .i64 on) := by rw [HF.out.x.cell 2]; rfl
    have y3 : wF.cell? ⟨b0, 3, none⟩ = some (.int .i64 wh) := by rw [HF.out.x.cell 3]; rfl
    have y4 : wF.cell? ⟨b0, 4, none⟩ = some (.int .i64 aw) := by rw [HF.out.x.cell 4]; rfl
    have y5 : wF.cell? ⟨b0, 5, none⟩ = some (.int .i64 an) := by rw [HF.out.x.cell 5]; rfl
    have y6 : wF.cell? ⟨b0, 6, none⟩ = some (.int .i64 bw) := by rw [HF.out.x.cell 6]; rfl
    have y7 : wF.cell? ⟨b0, 7, none⟩ = some (.int .i64 bn) := by rw [HF.out.x.cell 7]; rfl
    have y8 : wF.cell? ⟨b0, 8, none⟩ = some (.int .i64 u) := by rw [HF.out.x.cell 8]; rfl
    have y9 : wF.cell? ⟨b0, 9, none⟩ = some (.int .i64 n) := by rw [HF.out.x.cell 9]; rfl
    refine bodyPost_ret (v := credV ⟨k, ow, on, wh, aw, an, bw, bn, u, n⟩) (by simp [results, Try.results57, go_sem, y0, y1, y2, y3, y4, y5, y6, y7, y8, y9]) rfl ⟨⟨k, ow, on, wh, aw, an, bw, bn, u, n⟩, rfl, HF.out.c, HF.out.gr⟩
end Go.Proofs.Ytgnldmheiknbkaa.P5
namespace Go.Proofs.Ytgnldmheiknbkaa.P5
set_option maxRecDepth 8000
open Go.RowKit P1 Cu

theorem once_calls (B g : Nat) (w : World) (hc : Cur B w g) (n : Nat) (hn : 0 < n) (hm : n ≤ 256) :
    Calls Try.prog 76 #[.pointer (some ⟨g, 0, none⟩), .int .i64 n] w fun e w' => ∃ b : Bool, e = .returned (.bool b) ∧ Cur B w' g ∧ w.grownBy w' (some g) := by
  have HC := hide hc
  clear hc
  go_enter Try.func76, Try.ntmps76
  go_wp2_with fail
  refine (below_calls B g _ HC.out n hn (by omega)).mono ?_
  rintro e w2 ⟨x, hx, rfl, hc2, hg2⟩
  have HC2 := hide hc2
  have HG2 := hide hg2
  clear hc2 hg2
  go_wp2_with fail
  go_ret
  exact ⟨_, rfl, HC2.out, HG2.out⟩

theorem enterA : ∀ args w, (callFunc 57 args).run Try.prog w = .ok (.enter 57 args) w := run_enter Try.func57 (by kernel_rfl) (by kernel_rfl)

/-- What a drawn text leaves, of at most so many bytes. -/
def SomeText (B g m : Nat) (w : World) (e : Ending) (w' : World) : Prop := ∃ x : ByteArray, x.size ≤ m ∧ e = .returned (.string x) ∧ Cur B w' g ∧ w.grownBy w' (some g)

set_option maxHeartbeats 1000000 in
theorem drawWord_calls (w : World) (a : Option Addr) (len cap : Nat) (hc : Cu.Code w.heap.size w (.slice a len cap) len) :
    Calls Try.prog 12 #[.slice a len cap] w fun e w' => (∃ c : Cr, credOk c ∧ e = .returned (credV c)) ∧ Below w.heap.size w w' := by
  have hbA : Below w.heap.size w (w.alloc (.cells #[.int .i64 0, .int .i64 0, .int .i64 0, .int .i64 0, .int .i64 0, .int .i64 0, .int .i64 0, .int .i64 0, .int .i64 0, .int .i64 0] 29)) := (Below.refl _ _).alloc (Nat.le_refl _) _
  have hx0 := Blk.new w #[.int .i64 0, .int .i64 0, .int .i64 0, .int .i64 0, .int .i64 0, .int .i64 0, .int .i64 0, .int .i64 0, .int .i64 0, .int .i64 0] 29
  have hlt0 := hx0.lt
  have HX := hide hx0
  have HC := hide ((hc.below (fun k hk => hbA.block k hk)).more hbA.size)
  have HB := hide hbA
  clear hc hbA hx0
  go_enter Try.func12, Try.ntmps12
  go_wp2_with fail
  obtain ⟨b0, e0⟩ : ∃ b, b = w.heap.size := ⟨_, rfl⟩
  have hb0 : w.heap.size ≤ b0 := by omega
  rw [← e0] at HX hlt0 ⊢
  clear e0
  generalize w.alloc (.cells #[.int .i64 0, .int .i64 0, .int .i64 0, .int .i64 0, .int .i64 0, .int .i64 0, .int .i64 0, .int .i64 0, .int .i64 0, .int .i64 0] 29) = w1 at *
  refine (new_calls w1 a len cap HC.out).mono ?_
  rintro e w2 ⟨rfl, hc2, hb2⟩
  have HC2 := hide hc2
  have hz := hb2.size
  have hgw : w.heap.size ≤ w1.heap.size := HB.out.size
  have HX := hide (HX.out.below hb2 hlt0)
  have HB := hide (HB.out.trans (hb2.mono hgw))
  have hne : b0 ≠ w1.heap.size := by omega
  clear hc2 hb2 HC
  go_wp2_with fail
  refine (l05Cred_calls w1.heap.size w1.heap.size w2 HC2.out hz).mono ?_
  rintro e w3 ⟨⟨k, ow, on, wh, aw, an, bw, bn, u, n⟩, hok, rfl, hc3, hg3⟩
  have HX := hide (blk_kept HX.out hg3 hne)
  have HB := hide (HB.out.trans (below_of_grown hg3 hgw HB.out.size))
  clear hc3 hg3 HC2
  have c0 : w3.cell? ⟨b0, 0, none⟩ = some (.int .i64 0) := by rw [HX.out.cell 0]; rfl
  have c1 : w3.cell? ⟨b0, 1, none⟩ = some (.int .i64 0) := by rw [HX.out.cell 1]; rfl
  have c2 : w3.cell? ⟨b0, 2, none⟩ = some (.int .i64 0) := by rw [HX.out.cell 2]; rfl
  have c3 : w3.cell? ⟨b0, 3, none⟩ = some (.int .i64 0) := by rw [HX.out.cell 3]; rfl
  have c4 : w3.cell? ⟨b0, 4, none⟩ = some (.int .i64 0) := by rw [HX.out.cell 4]; rfl
  have c5 : w3.cell? ⟨b0, 5, none⟩ = some (.int .i64 0) := by rw [HX.out.cell 5]; rfl
  have c6 : w3.cell? ⟨b0, 6, none⟩ = some (.int .i64 0) := by rw [HX.out.cell 6]; rfl
  have c7 : w3.cell? ⟨b0, 7, none⟩ = some (.int .i64 0) := by rw [HX.out.cell 7]; rfl
  have c8 : w3.cell? ⟨b0, 8, none⟩ = some (.int .i64 0) := by rw [HX.out.cell 8]; rfl
  have c9 : w3.cell? ⟨b0, 9, none⟩ = some (.int .i64 0) := by rw [HX.out.cell 9]; rfl
  have a0 := HX.out.free
  have l0 := HX.out.lt
  go_wp2_with fail
  have HXF := hide ((((((((((HX.out.set 0 (.int .i64 k)).set 1 (.int .i64 ow)).set 2 (.int .i64 on)).set 3 (.int .i64 wh)).set 4 (.int .i64 aw)).set 5 (.int .i64 an)).set 6 (.int .i64 bw)).set 7 (.int .i64 bn)).set 8 (.int .i64 u)).set 9 (.int .i64 n))
  have HF := hide ((((((((((HB.out.setCell (p := ⟨b0, 0, none⟩) hb0 (.int .i64 k)).setCell (p := ⟨b0, 1, none⟩) hb0 (.int .i64 ow)).setCell (p := ⟨b0, 2, none⟩) hb0 (.int .i64 on)).setCell (p := ⟨b0, 3, none⟩) hb0 (.int .i64 wh)).setCell (p := ⟨b0, 4, none⟩) hb0 (.int .i64 aw)).setCell (p := ⟨b0, 5, none⟩) hb0 (.int .i64 an)).setCell (p := ⟨b0, 6, none⟩) hb0 (.int .i64 bw)).setCell (p := ⟨b0, 7, none⟩) hb0 (.int .i64 bn)).setCell (p := ⟨b0, 8, none⟩) hb0 (.int .i64 u)).setCell (p := ⟨b0, 9, none⟩) hb0 (.int .i64 n))
  clear c0 c1 c2 c3 c4 c5 c6 c7 c8 c9 a0 l0 HX HB
  generalize ((((((((((w3.setCell ⟨b0, 0, none⟩ (.int .i64 k)).setCell ⟨b0, 1, none⟩ (.int .i64 ow)).setCell ⟨b0, 2, none⟩ (.int .i64 on)).setCell ⟨b0, 3, none⟩ (.int .i64 wh)).setCell ⟨b0, 4, none⟩ (.int .i64 aw)).setCell ⟨b0, 5, none⟩ (.int .i64 an)).setCell ⟨b0, 6, none⟩ (.int .i64 bw)).setCell ⟨b0, 7, none⟩ (.int .i64 bn)).setCell ⟨b0, 8, none⟩ (.int .i64 u)).setCell ⟨b0, 9, none⟩ (.int .i64 n)) = wF at *
  have y0 : wF.cell? ⟨b0, 0, none⟩ = some (.int .i64 k) := by rw [HXF.out.cell 0]; rfl
  have y1 : wF.cell? ⟨b0, 1, none⟩ = some (.int .i64 ow) := by rw [HXF.out.cell 1]; rfl
  have y2 : wF.cell? ⟨b0, 2, none⟩ = some (.int .i64 on) := by rw [HXF.out.cell 2]; rfl
  have y3 : wF.cell? ⟨b0, 3, none⟩ = some (.int .i64 wh) := by rw [HXF.out.cell 3]; rfl
  have y4 : wF.cell? ⟨b0, 4, none⟩ = some (.int .i64 aw) := by rw [HXF.out.cell 4]; rfl
  have y5 : wF.cell? ⟨b0, 5, none⟩ = some (.int .i64 an) := by rw [HXF.out.cell 5]; rfl
  have y6 : wF.cell? ⟨b0, 6, none⟩ = some (.int .i64 bw) := by rw [HXF.out.cell 6]; rfl
  have y7 : wF.cell? ⟨b0, 7, none⟩ = some (.int .i64 bn) := by rw [HXF.out.cell 7]; rfl
  have y8 : wF.cell? ⟨b0, 8, none⟩ = some (.int .i64 u) := by rw [HXF.out.cell 8]; rfl
  have y9 : wF.cell? ⟨b0, 9, none⟩ = some (.int .i64 n) := by rw [HXF.out.cell 9]; rfl
  refine bodyPost_ret (v := .agg #[.int .i64 k, .int .i64 ow, .int .i64 on, .int .i64 wh, .int .i64 aw, .int .i64 an, .int .i64 bw, .int .i64 bn, .int .i64 u, .int .i64 n]) (by simp [results, Try.results12, go_sem, y0, y1, y2, y3, y4, y5, y6, y7, y8, y9]) rfl ⟨⟨⟨k, ow, on, wh, aw, an, bw, bn, u, n⟩, hok, rfl⟩, HF.out⟩

end Go.Proofs.Ytgnldmheiknbkaa.P5
