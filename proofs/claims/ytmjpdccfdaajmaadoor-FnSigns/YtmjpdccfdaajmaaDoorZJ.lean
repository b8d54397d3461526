/- The draws of texts and places: some text of the length that was asked, some numbers within their bounds; only the cursor is written.
The draws that pick out of a written list: some member of it; only the cursor is written.
The draw of a text (l03Some, DrawTextOf): some text of at most 200 bytes; and the laws' own 'turned': a text with one byte turned.
The draws of chapter 4: some text of four, some numbers; only the cursor is written.
The draw of a signing; the laws' own look at two lists of texts; condition: at most 2^20 texts.
The contract of the laws' own sameSign, over two signatures that read alike; condition: lists of at most 2^20.
The contracts of spec.l04Any and spec.DrawSignedBy: some signature within its bounds; only new memory and the cursor are written.
The contract of spec.DrawSignedBy: some key, text and signature within their bounds; only new memory is written. -/
import Derived.Test.YtmjpdccfdaajmaaDoorZD
import Derived.Test.YtmjpdccfdaajmaaDoorZA
import Derived.Test.YtmjpdccfdaajmaaDoorZF
import Derived.Test.YtmjpdccfdaajmaaDoorZG
import Derived.Test.YtmjpdccfdaajmaaDoorZH
import Derived.Laws.BitsAllLaws
namespace Go.Proofs.YtmjpdccfdaajmaaDoor.Cu
set_option maxRecDepth 8000
open Go.RowKit P1

theorem cur_below {B C g : Nat} {w w' : World} (h : Cur B w g) (hb : Below C w w') (hg : g < C) : Cur B w' g := by
  obtain ⟨h1, h2, v, n, i, z, h3, h4, h5, h6, h7, h8⟩ := h
  have hc : ∀ o, w'.cell? ⟨g, o, none⟩ = w.cell? ⟨g, o, none⟩ := fun o => hb.cell (p := ⟨g, o, none⟩) hg
  exact ⟨h1, Nat.lt_of_lt_of_le h2 hb.size, v, n, i, z, h3.below (fun k hk => hb.block k (by omega)), h4, by rw [hc]; exact h5, by rw [hc]; exact h6, by rw [hc]; exact h7, fun o => by rw [hb.frozen (p := ⟨g, o, none⟩) hg]; exact h8 o⟩

theorem grown_below {w w0 w' : World} {r : Option Nat} (h : w.grownBy w0 r) (hb : Below w.heap.size w0 w') : w.grownBy w' r :=
  ⟨hb.os.trans h.os, hb.tape.trans h.tape, hb.output.trans h.output, Nat.le_trans h.size hb.size, fun k hk hne => (hb.block k hk).trans (h.block k hk hne)⟩

theorem own_kept {w w' : World} {B e size n g : Nat} {v : Value} {xs : List Value} (h : w.ownsRow B e size v n xs) (hg : w.grownBy w' (some g)) (hlt : g < B) : w'.ownsRow B e size v n xs := by
  refine h.kept hg ?_
  cases hb : v.ownBlock with
  | none => exact .inl rfl
  | some k =>
    right
    intro e
    have h1 : k = g := by simpa using e
    have h2 := (h.lt k hb).1
    omega

/-- What a drawn text leaves. -/
def TextR (B g m : Nat) (w : World) (e : Ending) (w' : World) : Prop := ∃ l : List UInt8, l.length = m ∧ e = .returned (.string ⟨l.toArray⟩) ∧ Cur B w' g ∧ w.grownBy w' (some g)

theorem info_byte : (Tryd.prog.info? 5).map (fun i => (i.zero, i.size, i.bytes)) = some (some (.int .u8 0), 1, 1) := by kernel_rfl

theorem byte_cast (x : Nat) (hx : x < 256) : ((UInt8.ofNat x).toNat : Int) = (x : Int) := by simp; omega

set_option maxHeartbeats 400000 in
theorem text_calls (B g : Nat) (w : World) (hc : Cur B w g) (n : Nat) (hn : n ≤ 5000) :
    Calls Tryd.prog 81 #[.pointer (some ⟨g, 0, none⟩), .int .i64 n] w fun e w' => TextR B g n w e w' := by
  have hg := hc.2.1
  have Hc := hide hc
  clear hc
  obtain ⟨i0, hi, hz0, hz1, hz2⟩ := info_parts info_byte
  go_enter Tryd.func81, Tryd.ntmps81
  go_wp2
  go_loopw [5, 6] (fun v i wr => ∃ pre : List UInt8, pre.length ≤ n ∧ i = .int .i64 pre.length ∧ wr.ownsRow w.heap.size 5 1 v pre.length (cellsB pre) ∧ Cur B wr g ∧ w.grownBy wr (some g)) (fun _ i _ => n - (intOf i).toNat)
  case atStart =>
    have hb : Below w.heap.size w (w.alloc (.cells #[] 5)) := (Below.refl _ _).alloc (Nat.le_refl _) _
    exact ⟨[], Nat.zero_le _, rfl, World.ownsRow_lit _ _ 0 (Nat.le_refl _) (by decide) rfl, cur_below Hc.out hb hg, grown_below (grown_refl _ _) hb⟩
  case round =>
    obtain ⟨pre, hpre, rfl, hown, hcur, hgr⟩ := hrel
    have Hown := hide hown
    have Hcur := hide hcur
    have Hgr := hide hgr
    have hsz := hgr.size
    clear hown hcur hgr
    by_cases hlt : pre.length < n
    · go_wp2_with fail
      refine (byte_calls B g _ Hcur.out).mono ?_
      rintro e w1 ⟨x, hx, rfl, hc1, hg1⟩
      have Hc1 := hide hc1
      have Hg1 := hide hg1
      have hsz1 := hg1.size
      have Hown1 := hide (own_kept Hown.out hg1 hg)
      clear hc1 hg1
      go_wp2_with (at_builtin; refine wpList_append_byte (Below.refl w.heap.size _) (by omega) rfl (.tmp 15) (.tmp 19) 22 rfl 5 i0 Tryd.underlying22 hi hz0 hz1 hz2 _ _ _ rfl Hown1.out 1 rfl (by omega) ?_)
      intro v' w2 hown2 hbel2
      have Hown2 := hide hown2
      have Hbel2 := hide hbel2
      clear hown2 hbel2
      go_wp2
      go_roundw
      case rel => exact ⟨pre ++ [UInt8.ofNat x], by simp; omega, by simp, own_snoc Hown2.out _ (byte_cast x hx).symm, cur_below Hc1.out Hbel2.out hg, grown_below (grown_trans Hgr.out Hg1.out) Hbel2.out⟩
      case measure => simp [intOf]; omega
    · have hcv := own_text_any Hown.out 22 9 Tryd.underlying22 Tryd.underlying5 Tryd.underlying9
      go_wp2
      go_ret
      exact ⟨pre, by omega, rfl, Hcur.out, Hgr.out⟩

theorem info_int : (Tryd.prog.info? 3).map (fun i => (i.zero, i.size, i.bytes)) = some (some (.int .i64 0), 1, 8) := by kernel_rfl

/-- Twelve places below 10000, in memory of their own. -/
def PlacesR (w : World) (e : Ending) (w' : World) : Prop := ∃ v, ∃ l : List Int, l.length = 12 ∧ (∀ x ∈ l, 0 ≤ x ∧ x < 10000) ∧ e = .returned v ∧ w'.ownsRow w.heap.size 3 1 v l.length (cellsI l) ∧ Below w.heap.size w w'

set_option maxHeartbeats 400000 in
theorem places_calls (w : World) (a : Option Addr) (len cap : Nat) (hc : Code w.heap.size w (.slice a len cap) len) :
    Calls Tryd.prog 13 #[.slice a len cap] w fun e w' => PlacesR w e w' := by
  have Hc := hide hc
  clear hc
  obtain ⟨i0, hi, hz0, hz1, hz2⟩ := info_parts info_int
  go_enter Tryd.func13, Tryd.ntmps13
  go_wp2_with fail
  refine (new_calls _ a len cap Hc.out).mono ?_
  rintro e w1 ⟨rfl, hc1, hb1⟩
  have Hc1 := hide hc1
  have Hb1 := hide hb1
  clear hc1 hb1
  go_wp2_with fail
  refine (byte_calls _ _ _ Hc1.out).mono ?_
  rintro e w2 ⟨x, hx, rfl, hc2, hg2⟩
  have hlt := hc2.2.1
  have Hc2 := hide hc2
  have Hb2 := hide (Hb1.out.trans (below_of_grown hg2 (Nat.le_refl _) Hb1.out.size))
  clear hc2 hg2
  go_wp2
  go_loopw [4, 5] (fun v i wr => ∃ l : List Int, l.length ≤ 12 ∧ i = .int .i64 l.length ∧ (∀ x ∈ l, 0 ≤ x ∧ x < 10000) ∧ wr.ownsRow w2.heap.size 3 1 v l.length (cellsI l) ∧ Cur w.heap.size wr w.heap.size ∧ Below w.heap.size w wr ∧ w2.heap.size ≤ wr.heap.size) (fun _ i _ => 12 - (intOf i).toNat)
  case atStart =>
    have hb : Below w2.heap.size w2 (w2.alloc (.cells #[] 3)) := (Below.refl _ _).alloc (Nat.le_refl _) _
    exact ⟨[], Nat.zero_le _, rfl, by simp, World.ownsRow_lit _ _ 0 (Nat.le_refl _) (by decide) rfl, cur_below Hc2.out hb hlt, Hb2.out.trans (hb.mono (Nat.le_of_lt hlt)), hb.size⟩
  case round =>
    obtain ⟨l, hl, rfl, hall, hown, hcur, hbel, hsz⟩ := hrel
    have Hown := hide hown
    have Hcur := hide hcur
    have Hbel := hide hbel
    have Hall := hide hall
    clear hown hcur hbel hall
    by_cases h12 : l.length < 12
    · go_wp2_with fail
      refine (below_calls _ _ _ Hcur.out 10000 (by decide) (by decide)).mono ?_
      rintro e w3 ⟨y, hy, rfl, hc3, hg3⟩
      have Hc3 := hide hc3
      have Hown3 := hide (own_kept Hown.out hg3 hlt)
      have Hb3 := hide (Hbel.out.trans (below_of_grown hg3 (Nat.le_refl _) Hbel.out.size))
      have hsz3 : w2.heap.size ≤ w3.heap.size := Nat.le_trans hsz hg3.size
      clear hc3 hg3
      go_wp2_with (at_builtin; refine wpList_append_one (cs := #[.int .i64 y]) (Below.refl w2.heap.size _) hsz3 rfl (.tmp 15) (.tmp 18) 24 rfl 3 i0 (.int .i64 0) 1 8 Tryd.underlying24 hi hz0 hz1 hz2 rfl (by decide) rfl (by simp [Value.oneCell']) _ _ _ rfl Hown3.out 1 rfl (by omega) (by omega) ?_)
      intro v' w4 hown4 hbel4
      have Hown4 := hide hown4
      have Hbel4 := hide hbel4
      have hsz4 := hbel4.size
      clear hown4 hbel4
      go_wp2
      go_roundw
      case rel =>
        refine ⟨l ++ [(y : Int)], by simp; omega, by simp, ?_, own_snocI Hown4.out, cur_below Hc3.out Hbel4.out hlt, Hb3.out.trans (Hbel4.out.mono (Nat.le_of_lt hlt)), by omega⟩
        intro x hx
        rcases List.mem_append.1 hx with h | h
        · exact Hall.out x h
        · simp at h; omega
      case measure => simp [intOf]; omega
    · go_wp2
      go_ret
      exact ⟨_, l, by omega, Hall.out, rfl, own_mono Hown.out (Nat.le_of_lt hlt), Hbel.out⟩

theorem big_calls (w : World) (a : Option Addr) (len cap : Nat) :
    Calls Tryd.prog 12 #[.slice a len cap] w fun e w' => e = .returned (.bool (decide (1048576 < (len : Int)))) ∧ w' = w := by
  go_enter Tryd.func12, Tryd.ntmps12
  go_wp2
  go_ret
  exact ⟨rfl, rfl⟩
end Go.Proofs.YtmjpdccfdaajmaaDoor.Cu
namespace Go.Proofs.YtmjpdccfdaajmaaDoor.Cu
set_option maxRecDepth 8000
open Go.RowKit P1

/-- What a pick leaves. -/
def PickR (B g : Nat) (l : List Int) (w : World) (e : Ending) (w' : World) : Prop := ∃ x, x ∈ l ∧ e = .returned (.int .i64 x) ∧ Cur B w' g ∧ w.grownBy w' (some g)

/-- A world with something more. -/
def grown_ok (w w1 : World) : Prop := Below w.heap.size w w1

theorem grown_ok.then_ {w w1 w2 : World} {r : Option Nat} (h : grown_ok w w1) (k : w1.grownBy w2 r) : w.grownBy w2 r :=
  ⟨k.os.trans h.os, k.tape.trans h.tape, k.output.trans h.output, Nat.le_trans h.size k.size, fun i hi hne => (k.block i (Nat.lt_of_lt_of_le hi h.size) hne).trans (h.block i hi)⟩

set_option maxHeartbeats 400000 in
theorem pick_calls (B g : Nat) (w : World) (hc : Cur B w g) (l : List Int) (hl0 : 0 < l.length) (hl : l.length ≤ 65536) (n : Nat) (hn : n = l.length) (cs : Array Value) (hcs : cs = (cellsI l).toArray) :
    Calls Tryd.prog 70 #[.pointer (some ⟨g, 0, none⟩), .slice (some ⟨w.heap.size, 0, none⟩) n n] (w.alloc (.cells cs 3)) fun e w' => PickR B g l w e w' := by
  have hg := hc.2.1
  have hb : Below w.heap.size w (w.alloc (.cells cs 3)) := (Below.refl _ _).alloc (Nat.le_refl _) _
  have hc2 := cur_below hc hb hg
  have hcell : ∀ j (hj : j < l.length), (w.alloc (.cells cs 3)).cell? ⟨w.heap.size, j, none⟩ = some (.int .i64 l[j]) := by
    intro j hj
    have hh : (w.alloc (.cells cs 3)).heap[w.heap.size]? = some (.cells cs 3) := by
      show (w.heap.push _)[w.heap.size]? = _
      simp
    have hc : (w.alloc (.cells cs 3)).cell? ⟨w.heap.size, j, none⟩ = cs[j]? := by
      simp only [World.cell?, hh]
      rfl
    rw [hc, hcs]
    simp [cellsI, hj]
  obtain ⟨gl, hgl⟩ : ∃ gl, gl = w.heap.size := ⟨_, rfl⟩
  have hglt : gl < (w.alloc (.cells cs 3)).heap.size := by rw [hgl]; simp
  have hgg : grown_ok w (w.alloc (.cells cs 3)) := hb
  obtain ⟨w1, hw1⟩ : ∃ w1, w1 = w.alloc (.cells cs 3) := ⟨_, rfl⟩
  rw [← hw1] at hc2 hcell hglt hgg ⊢
  have hne : gl ≠ g := by omega
  rw [← hgl] at hcell ⊢
  have HC := hide hc2
  have HCell := hide hcell
  have HG := hide hgg
  clear hb hc hcell hgg hw1 hgl hc2 hcs
  subst hn
  go_enter Tryd.func70, Tryd.ntmps70
  go_wp2_with fail
  refine (below_calls B g _ HC.out l.length hl0 (by omega)).mono ?_
  rintro e w2 ⟨x, hx, rfl, hc2, hg2⟩
  have hcx := HCell.out x hx
  have hcx2 : w2.cell? ⟨gl, x, none⟩ = some (.int .i64 l[x]) := by
    rw [World.cell?_of_block (w := w1) (hg2.block gl hglt (by intro h; cases h; exact hne rfl))]
    exact hcx
  have hmem : l[x] ∈ l := List.getElem_mem _
  have HC2 := hide hc2
  have HG2 := hide hg2
  have HME := hide hmem
  clear hc2 hg2 hcx hmem
  go_wp2
  go_ret
  exact ⟨l[x], HME.out, rfl, HC2.out, HG.out.then_ HG2.out⟩
end Go.Proofs.YtmjpdccfdaajmaaDoor.Cu
namespace Go.Proofs.YtmjpdccfdaajmaaDoor.Cu
set_option maxRecDepth 8000
open Go.RowKit P1

def someLens : List Int := [0, 1, 3, 9, 54, 55, 56, 63, 64, 65, 119, 120, 200]

theorem someLens_le (x : Int) (h : x ∈ someLens) : 0 ≤ x ∧ x ≤ 200 := by
  simp [someLens] at h
  omega

/-- Some text. -/
def SomeR (B g m : Nat) (w : World) (e : Ending) (w' : World) : Prop := ∃ l : List UInt8, l.length ≤ m ∧ e = .returned (.string ⟨l.toArray⟩) ∧ Cur B w' g ∧ w.grownBy w' (some g)

set_option maxHeartbeats 400000 in
theorem some_calls (B g : Nat) (w : World) (hc : Cur B w g) :
    Calls Tryd.prog 46 #[.pointer (some ⟨g, 0, none⟩)] w fun e w' => SomeR B g 200 w e w' := by
  have HC := hide hc
  clear hc
  go_enter Tryd.func46, Tryd.ntmps46
  go_wp2_with fail
  refine (pick_calls B g _ HC.out someLens (by decide) (by decide) 13 rfl _ rfl).mono ?_
  rintro e w1 ⟨x, hx, rfl, hc1, hg1⟩
  have hx2 := someLens_le x hx
  obtain ⟨n, rfl⟩ := Int.eq_ofNat_of_zero_le hx2.1
  have hn : n ≤ 200 := by omega
  have HC1 := hide hc1
  have HG1 := hide hg1
  clear hc1 hg1 hx hx2 HC
  go_wp2_with fail
  refine (text_calls B g _ HC1.out n (by omega)).mono ?_
  rintro e w2 ⟨l, hl, rfl, hc2, hg2⟩
  have HC2 := hide hc2
  have HG2 := hide hg2
  clear hc2 hg2
  go_wp2
  go_ret
  exact ⟨l, by omega, rfl, HC2.out, grown_trans HG1.out HG2.out⟩

set_option maxHeartbeats 400000 in
theorem textOf_calls (w : World) (a : Option Addr) (len cap : Nat) (hc : Code w.heap.size w (.slice a len cap) len) :
    Calls Tryd.prog 14 #[.slice a len cap] w fun e w' => ∃ l : List UInt8, l.length ≤ 200 ∧ e = .returned (.string ⟨l.toArray⟩) ∧ Below w.heap.size w w' := by
  have HC := hide hc
  clear hc
  go_enter Tryd.func14, Tryd.ntmps14
  go_wp2_with fail
  refine (new_calls _ a len cap HC.out).mono ?_
  rintro e w1 ⟨rfl, hc1, hb1⟩
  have HC1 := hide hc1
  have HB1 := hide hb1
  clear hc1 hb1
  go_wp2_with fail
  refine (some_calls _ _ _ HC1.out).mono ?_
  rintro e w2 ⟨l, hl, rfl, hc2, hg2⟩
  have HB2 := hide (HB1.out.trans (below_of_grown hg2 (Nat.le_refl _) HB1.out.size))
  clear hc2 hg2
  go_wp2
  go_ret
  exact ⟨l, hl, rfl, HB2.out⟩

theorem xor_cancel (a b c : Nat) (h : a ^^^ c = b ^^^ c) : a = b := by
  have := congrArg (fun z => z ^^^ c) h
  simpa [Nat.xor_assoc, Nat.xor_self, Nat.xor_zero] using this

/-- A byte turned by a number that is not 0 is another one. -/
theorem turn8 (b : UInt8) (n : Nat) : ∃ c : UInt8, c ≠ b ∧ bits .xor .u8 (b.toNat : Int) (1 + (n : Int) % 255) = (c.toNat : Int) := by
  have hb := b.toNat_lt
  refine ⟨b ^^^ UInt8.ofNat (1 + n % 255), ?_, ?_⟩
  · intro h
    have h1 := congrArg UInt8.toNat h
    rw [UInt8.toNat_xor] at h1
    have h2 : (UInt8.ofNat (1 + n % 255)).toNat = 1 + n % 255 := by simp; omega
    rw [h2] at h1
    have h3 : (1 + n % 255) ^^^ b.toNat = 0 ^^^ b.toNat := by rw [Nat.xor_comm, h1, Nat.zero_xor]
    have := xor_cancel _ _ _ h3
    omega
  · have h := u8_xor_nat b.toNat (1 + n % 255) (by omega) (by omega)
    have h2 : (UInt8.ofNat (1 + n % 255)).toNat = 1 + n % 255 := by simp; omega
    rw [UInt8.toNat_xor, h2, ← h]
    rfl
end Go.Proofs.YtmjpdccfdaajmaaDoor.Cu
namespace Go.Proofs.YtmjpdccfdaajmaaDoor.Cu
set_option maxRecDepth 8000
open Go.RowKit P1

/-- What a pick of a text leaves. -/
def PickS (B g : Nat) (l : List (List UInt8)) (w : World) (e : Ending) (w' : World) : Prop := ∃ x, x ∈ l ∧ e = .returned (.string ⟨x.toArray⟩) ∧ Cur B w' g ∧ w.grownBy w' (some g)

set_option maxHeartbeats 400000 in
theorem pickS_calls (B g : Nat) (w : World) (hc : Cur B w g) (l : List (List UInt8)) (hl0 : 0 < l.length) (hl : l.length ≤ 65536) (n : Nat) (hn : n = l.length) (cs : Array Value) (hcs : cs = (cellsS l).toArray) :
    Calls Tryd.prog 88 #[.pointer (some ⟨g, 0, none⟩), .slice (some ⟨w.heap.size, 0, none⟩) n n] (w.alloc (.cells cs 9)) fun e w' => PickS B g l w e w' := by
  have hg := hc.2.1
  have hb : Below w.heap.size w (w.alloc (.cells cs 9)) := (Below.refl _ _).alloc (Nat.le_refl _) _
  have hc2 := cur_below hc hb hg
  have hcell : ∀ j (hj : j < l.length), (w.alloc (.cells cs 9)).cell? ⟨w.heap.size, j, none⟩ = some (.string ⟨(l[j]).toArray⟩) := by
    intro j hj
    have hh : (w.alloc (.cells cs 9)).heap[w.heap.size]? = some (.cells cs 9) := by
      show (w.heap.push _)[w.heap.size]? = _
      simp
    have hc : (w.alloc (.cells cs 9)).cell? ⟨w.heap.size, j, none⟩ = cs[j]? := by
      simp only [World.cell?, hh]
      rfl
    rw [hc, hcs]
    simp [cellsS, hj]
  obtain ⟨gl, hgl⟩ : ∃ gl, gl = w.heap.size := ⟨_, rfl⟩
  have hglt : gl < (w.alloc (.cells cs 9)).heap.size := by rw [hgl]; simp
  have hgg : grown_ok w (w.alloc (.cells cs 9)) := hb
  obtain ⟨w1, hw1⟩ : ∃ w1, w1 = w.alloc (.cells cs 9) := ⟨_, rfl⟩
  rw [← hw1] at hc2 hcell hglt hgg ⊢
  have hne : gl ≠ g := by omega
  rw [← hgl] at hcell ⊢
  have HC := hide hc2
  have HCell := hide hcell
  have HG := hide hgg
  clear hb hc hcell hgg hw1 hgl hc2 hcs
  subst hn
  go_enter Tryd.func88, Tryd.ntmps88
  go_wp2_with fail
  refine (below_calls B g _ HC.out l.length hl0 (by omega)).mono ?_
  rintro e w2 ⟨x, hx, rfl, hc2, hg2⟩
  have hcx := HCell.out x hx
  have hcx2 : w2.cell? ⟨gl, x, none⟩ = some (.string ⟨(l[x]).toArray⟩) := by
    rw [World.cell?_of_block (w := w1) (hg2.block gl hglt (by intro h; cases h; exact hne rfl))]
    exact hcx
  have hmem : l[x] ∈ l := List.getElem_mem _
  have HC2 := hide hc2
  have HG2 := hide hg2
  obtain ⟨z, Ez⟩ : ∃ z, Hid (z = l[x]) := ⟨_, hide rfl⟩
  rw [← Ez.out] at hcx2 hmem
  have HME := hide hmem
  clear hc2 hg2 hcx hmem Ez
  go_wp2
  go_ret
  exact ⟨z, HME.out, rfl, HC2.out, HG.out.then_ HG2.out⟩

/-- The texts of chapter 4's draws. -/
def fourTexts : List (List UInt8) := [[], [97], [119, 111, 114, 100], [115, 111, 109, 101, 32, 116, 101, 120, 116, 32, 104, 101, 114, 101]]

theorem fourTexts_le (x : List UInt8) (h : x ∈ fourTexts) : x.length ≤ 14 := by
  simp only [fourTexts, List.mem_cons, List.not_mem_nil, or_false] at h
  rcases h with rfl | rfl | rfl | rfl <;> decide

set_option maxHeartbeats 400000 in
theorem text4_calls (B g : Nat) (w : World) (hc : Cur B w g) :
    Calls Tryd.prog 66 #[.pointer (some ⟨g, 0, none⟩)] w fun e w' => PickS B g fourTexts w e w' := by
  have HC := hide hc
  clear hc
  go_enter Tryd.func66, Tryd.ntmps66
  go_wp2_with fail
  refine (pickS_calls B g w HC.out fourTexts (by decide) (by decide) 4 rfl _ rfl).mono ?_
  rintro e w1 ⟨x, hx, rfl, hc1, hg1⟩
  have HX := hide hx
  have HC1 := hide hc1
  have HG1 := hide hg1
  clear hx hc1 hg1
  go_wp2_with fail
  go_ret
  exact ⟨x, HX.out, rfl, HC1.out, HG1.out⟩

/-- The numbers that a chain's draw picks from. -/
def chainNs : List Int := [0, 1, 2, 3, 4, -1, 9223372036854775807]

set_option maxHeartbeats 400000 in
theorem drawChain_calls (w : World) (a : Option Addr) (len cap : Nat) (hc : Code w.heap.size w (.slice a len cap) len) :
    Calls Tryd.prog 27 #[.slice a len cap] w fun e w' => ∃ (x : List UInt8) (n : Int), x.length ≤ 14 ∧ n ∈ chainNs ∧ e = .returned (.tuple #[.string ⟨x.toArray⟩, .int .i64 n]) ∧ Below w.heap.size w w' := by
  have Hc := hide hc
  clear hc
  go_enter Tryd.func27, Tryd.ntmps27
  go_wp2_with fail
  refine (new_calls _ a len cap Hc.out).mono ?_
  rintro e w1 ⟨rfl, hc1, hb1⟩
  have Hc1 := hide hc1
  have Hb1 := hide hb1
  clear hc1 hb1
  go_wp2_with fail
  refine (pick_calls _ _ w1 Hc1.out chainNs (by decide) (by decide) 7 rfl _ rfl).mono ?_
  rintro e w2 ⟨n, hn, rfl, hc2, hg2⟩
  have HN := hide hn
  have Hc2 := hide hc2
  have Hb2 := hide (Hb1.out.trans (below_of_grown hg2 (Nat.le_refl _) Hb1.out.size))
  clear hn hc2 hg2
  go_wp2_with fail
  refine (text4_calls _ _ _ Hc2.out).mono ?_
  rintro e w3 ⟨x, hx, rfl, hc3, hg3⟩
  have HX := hide (fourTexts_le x hx)
  have Hb3 := hide (Hb2.out.trans (below_of_grown hg3 (Nat.le_refl _) Hb2.out.size))
  clear hx hc3 hg3
  go_wp2_with fail
  go_ret2
  exact ⟨x, n, HX.out, HN.out, rfl, Hb3.out⟩

/-- The seeds of chapter 4's draws. -/
def seeds : List Int := [0, 7, 1000000, 1000001, -1]

set_option maxHeartbeats 400000 in
theorem drawSecret_calls (w : World) (a : Option Addr) (len cap : Nat) (hc : Code w.heap.size w (.slice a len cap) len) :
    Calls Tryd.prog 28 #[.slice a len cap] w fun e w' => ∃ s l i : Int, s ∈ seeds ∧ (0 ≤ l ∧ l < 5) ∧ (-1 ≤ i ∧ i < 10) ∧ e = .returned (.tuple #[.int .i64 s, .int .i64 l, .int .i64 i]) ∧ Below w.heap.size w w' := by
  have Hc := hide hc
  clear hc
  go_enter Tryd.func28, Tryd.ntmps28
  go_wp2_with fail
  refine (new_calls _ a len cap Hc.out).mono ?_
  rintro e w1 ⟨rfl, hc1, hb1⟩
  have Hc1 := hide hc1
  have Hb1 := hide hb1
  clear hc1 hb1
  go_wp2_with fail
  refine (pick_calls _ _ w1 Hc1.out seeds (by decide) (by decide) 5 rfl _ rfl).mono ?_
  rintro e w2 ⟨n, hn, rfl, hc2, hg2⟩
  have HN := hide hn
  have Hc2 := hide hc2
  have Hb2 := hide (Hb1.out.trans (below_of_grown hg2 (Nat.le_refl _) Hb1.out.size))
  clear hn hc2 hg2
  go_wp2_with fail
  refine (below_calls _ _ _ Hc2.out 5 (by decide) (by decide)).mono ?_
  rintro e w3 ⟨x, hx, rfl, hc3, hg3⟩
  have Hc3 := hide hc3
  have Hb3 := hide (Hb2.out.trans (below_of_grown hg3 (Nat.le_refl _) Hb2.out.size))
  clear hc3 hg3
  go_wp2_with fail
  refine (below_calls _ _ _ Hc3.out 11 (by decide) (by decide)).mono ?_
  rintro e w4 ⟨y, hy, rfl, hc4, hg4⟩
  have Hb4 := hide (Hb3.out.trans (below_of_grown hg4 (Nat.le_refl _) Hb3.out.size))
  clear hc4 hg4
  go_wp2_with fail
  refine bodyPost_ret (v := .tuple #[.int .i64 n, .int .i64 (x : Int), .int .i64 ((y : Int) - 1)]) (by simp [results, Tryd.results28, go_sem]) rfl ⟨n, x, (y : Int) - 1, HN.out, by omega, by omega, rfl, Hb4.out⟩
end Go.Proofs.YtmjpdccfdaajmaaDoor.Cu
namespace Go.Proofs.YtmjpdccfdaajmaaDoor.Cu
set_option maxRecDepth 8000
open Go.RowKit P1

set_option maxHeartbeats 400000 in
theorem drawSign_calls (w : World) (a : Option Addr) (len cap : Nat) (hc : Code w.heap.size w (.slice a len cap) len) :
    Calls Tryd.prog 24 #[.slice a len cap] w fun e w' => ∃ (s l : Int) (x : List UInt8), s ∈ seeds ∧ (-1 ≤ l ∧ l < 5) ∧ x.length ≤ 14 ∧ e = .returned (.tuple #[.int .i64 s, .int .i64 l, .string ⟨x.toArray⟩]) ∧ Below w.heap.size w w' := by
  have Hc := hide hc
  clear hc
  go_enter Tryd.func24, Tryd.ntmps24
  go_wp2_with fail
  refine (new_calls _ a len cap Hc.out).mono ?_
  rintro e w1 ⟨rfl, hc1, hb1⟩
  have Hc1 := hide hc1
  have Hb1 := hide hb1
  have hg1 : w.heap.size < w1.heap.size := hc1.2.1
  have HCo := hide ((Hc.out.below (fun k hk => hb1.block k hk)).more hb1.size)
  clear hc1 hb1
  go_wp2_with fail
  refine (drawSecret_calls _ a len cap HCo.out).mono ?_
  rintro e w2 ⟨s, l, i, hs, hl, hi, rfl, hb2⟩
  have HS := hide hs
  have Hc2 := hide (cur_below Hc1.out hb2 hg1)
  have Hb2 := hide (Hb1.out.trans (hb2.mono Hb1.out.size))
  clear hs hi hb2
  go_wp2_with fail
  refine (below_calls _ _ _ Hc2.out 2 (by decide) (by decide)).mono ?_
  rintro e w3 ⟨x, hx, rfl, hc3, hg3⟩
  have Hc3 := hide hc3
  have Hb3 := hide (Hb2.out.trans (below_of_grown hg3 (Nat.le_refl _) Hb2.out.size))
  clear hc3 hg3
  go_wp2_with fail
  refine (text4_calls _ _ _ Hc3.out).mono ?_
  rintro e w4 ⟨y, hy, rfl, hc4, hg4⟩
  have HY := hide (fourTexts_le y hy)
  have Hb4 := hide (Hb3.out.trans (below_of_grown hg4 (Nat.le_refl _) Hb3.out.size))
  clear hy hc4 hg4
  go_wp2_with fail
  refine bodyPost_ret (v := .tuple #[.int .i64 s, .int .i64 (l - (x : Int)), .string ⟨y.toArray⟩]) (by simp [results, Tryd.results24, go_sem]) rfl ⟨s, l - (x : Int), y, HS.out, by omega, HY.out, rfl, Hb4.out⟩

set_option maxHeartbeats 400000 in
theorem sameTexts_calls (w : World) (v u : Value) (l : List (List UInt8)) (hv : TextsAt w v l) (hu : TextsAt w u l) (hl : l.length ≤ 1073741824) :
    Calls Tryd.prog 71 #[v, u] w fun e w' => e = .returned (.bool true) ∧ ∃ n, w' = w.drewN n := by
  obtain ⟨a, ca, rfl, HA⟩ := hv
  obtain ⟨b, cb, rfl, HB⟩ := hu
  replace HA := hide HA
  replace HB := hide HB
  go_enter Tryd.func71, Tryd.ntmps71
  go_wp2_with fail
  go_loopw [5] (fun i wr => ∃ k : Nat, k ≤ l.length ∧ i = .int .i64 k ∧ ∃ n, wr = w.drewN n) (fun i _ => l.length - (intOf i).toNat)
  case atStart => exact ⟨0, Nat.zero_le _, rfl, 0, rfl⟩
  case round =>
    obtain ⟨k, hk, rfl, n, rfl⟩ := hrel
    by_cases hlt : k < l.length
    · obtain ⟨ga, oa, rfl, ha2, ha3⟩ := HA.out k hlt
      obtain ⟨gb, ob, rfl, hb2, hb3⟩ := HB.out k hlt
      generalize l[k] = x at *
      go_wp2_with fail
      go_quiet (fail)
      go_wp2_with fail
      go_roundw
      case rel => exact ⟨k + 1, by omega, by go_num, _, rfl⟩
      case measure => simp [intOf]; omega
    · go_wp2_with fail
      go_ret
      exact ⟨rfl, _, rfl⟩
end Go.Proofs.YtmjpdccfdaajmaaDoor.Cu
namespace Go.Proofs.YtmjpdccfdaajmaaDoor.P4
set_option maxRecDepth 8000
open Go.RowKit P1 P3

set_option maxHeartbeats 400000 in
theorem sameSign_calls (w : World) (v u : Value) (leaf : Int) (E W : List (List UInt8)) (hv : SigAt w v leaf E W) (hu : SigAt w u leaf E W) :
    Calls Tryd.prog 29 #[v, u] w fun e w' => e = .returned (.bool true) ∧ Below w.heap.size w w' := by
  obtain ⟨⟨vE, vW, rfl, tE, tW⟩, lE, lW, -, -⟩ := hv
  obtain ⟨⟨uE, uW, rfl, sE, sW⟩, -, -, -, -⟩ := hu
  have k1 : Below w.heap.size w (w.alloc (.cells #[.int .i64 leaf, vE, vW] 29)) := (Below.refl _ _).alloc (Nat.le_refl _) _
  have k2 : Below (w.alloc (.cells #[.int .i64 leaf, vE, vW] 29)).heap.size (w.alloc (.cells #[.int .i64 leaf, vE, vW] 29)) ((w.alloc (.cells #[.int .i64 leaf, vE, vW] 29)).alloc (.cells #[.int .i64 leaf, uE, uW] 29)) := (Below.refl _ _).alloc (Nat.le_refl _) _
  have hb := k1.trans (k2.mono k1.size)
  have TE := hide (tE.below hb (Nat.le_refl _))
  have TW := hide (tW.below hb (Nat.le_refl _))
  have SE := hide (sE.below hb (Nat.le_refl _))
  have SW := hide (sW.below hb (Nat.le_refl _))
  have HB := hide hb
  clear k1 k2 hb tE tW sE sW
  go_enter Tryd.func29, Tryd.ntmps29
  go_wp2_with fail
  refine (Cu.sameTexts_calls _ _ _ E TE.out SE.out (by omega)).mono ?_
  rintro e w1 ⟨rfl, m, rfl⟩
  go_wp2_with fail
  refine (Cu.sameTexts_calls _ _ _ W (TW.out.drewN m) (SW.out.drewN m) (by omega)).mono ?_
  rintro e w2 ⟨rfl, m2, rfl⟩
  go_wp2_with fail
  go_ret
  exact ⟨rfl, ⟨HB.out.os, HB.out.tape, HB.out.output, HB.out.size, HB.out.block⟩⟩
end Go.Proofs.YtmjpdccfdaajmaaDoor.P4
namespace Go.Proofs.YtmjpdccfdaajmaaDoor.P4
set_option maxRecDepth 8000
open Go.RowKit P1 P3 Cu

theorem blk_grown {w w' : World} {b g : Nat} {cs : List Value} {t : TypeId} (h : Blk w b cs t) (hg : w.grownBy w' (some g)) (hne : b ≠ g) : Blk w' b cs t := by
  have := hg.block b h.lt (fun e => hne (by simpa using e))
  unfold Blk at *
  rw [this]
  exact h

theorem end_le (seed leaf : Int) (t : List UInt8) : ∀ x ∈ endN seed leaf t 11, x.length ≤ 8 := by
  intro x hx
  simp only [endN, List.mem_map, List.mem_range] at hx
  obtain ⟨i, hi, rfl⟩ := hx
  have h1 := chain_le ((quadsN t).getD i 0) (secret seed leaf i)
  have h2 := secret_length seed leaf i
  omega

/-- The seeds of the signatures that are drawn. -/
def anySeeds : List Int := [0, 7, 1000, 1007]

theorem anySeeds_few (x : Int) (h : x ∈ anySeeds) : few x := by
  simp only [anySeeds, List.mem_cons, List.not_mem_nil, or_false] at h
  rcases h with rfl | rfl | rfl | rfl <;> exact ⟨by decide, by decide⟩

/-- A world with that value in that cell. -/
structure CellIs (b i : Nat) (v : Value) where
  w : World
  h : w.cell? ⟨b, i, none⟩ = some v

theorem enterB : ∀ args w, (callFunc 45 args).run Tryd.prog w = .ok (.enter 45 args) w := run_enter Tryd.func45 (by kernel_rfl) (by kernel_rfl)

theorem cellsS_mem {l : List (List UInt8)} : ∀ u ∈ cellsS l, u.oneCell' = true := by
  intro u hu
  simp only [cellsS, List.mem_map] at hu
  obtain ⟨x, _, rfl⟩ := hu
  rfl

set_option maxHeartbeats 4000000 in
theorem any_calls (B g : Nat) (w : World) (hc : Cur B w g) :
    Calls Tryd.prog 69 #[.pointer (some ⟨g, 0, none⟩)] w fun e w' => ∃ (seed : Int) (t : List UInt8) (v : Value) (leaf : Int) (E W : List (List UInt8)), t.length ≤ 15 ∧ e = .returned (.tuple #[.int .i64 seed, .string ⟨t.toArray⟩, v]) ∧ SigAt w' v leaf E W ∧ Below B w w' := by
  have hgl := hc.2.1
  have hBg := hc.1
  have hbA : Below w.heap.size w (w.alloc (.cells #[.int .i64 0, .slice none 0 0, .slice none 0 0] 29)) := (Below.refl _ _).alloc (Nat.le_refl _) _
  have HC1 := hide (cur_below hc hbA hgl)
  have HR1 := hide (Blk.new w #[.int .i64 0, .slice none 0 0, .slice none 0 0] 29)
  have HB1 := hide (hbA.mono (show B ≤ w.heap.size by omega))
  clear hc hbA
  go_enter Tryd.func69, Tryd.ntmps69
  go_wp2_with fail
  obtain ⟨b4, hb4⟩ : ∃ b, b = w.heap.size := ⟨_, rfl⟩
  have hg4 : b4 ≠ g := by omega
  have hB4 : B ≤ b4 := by omega
  rw [← hb4] at HR1
  have hz1 : (w.alloc (.cells #[.int .i64 0, .slice none 0 0, .slice none 0 0] 29)).heap.size = w.heap.size + 1 := by simp
  rw [← hz1]
  clear hz1
  generalize w.alloc (.cells #[.int .i64 0, .slice none 0 0, .slice none 0 0] 29) = w1 at *
  refine (pick_calls B g w1 HC1.out anySeeds (by decide) (by decide) 4 rfl _ rfl).mono ?_
  rintro e w2 ⟨sd, hsd, rfl, hc2, hg2⟩
  have HSD := hide (anySeeds_few sd hsd)
  have HR2 := hide (blk_grown HR1.out hg2 hg4)
  have HC2 := hide hc2
  have HB2 := hide (HB1.out.trans (below_of_grown hg2 hBg (by have := HC1.out.2.1; omega)))
  clear hsd hc2 hg2 HC1 HR1 HB1
  go_wp2_with fail
  refine (text4_calls B g w2 HC2.out).mono ?_
  rintro e w3 ⟨t, ht, rfl, hc3, hg3⟩
  have ht14 := fourTexts_le t ht
  have HR3 := hide (blk_grown HR2.out hg3 hg4)
  have HC3 := hide hc3
  have HB3 := hide (HB2.out.trans (below_of_grown hg3 hBg (by have := HC2.out.2.1; omega)))
  clear ht hc3 hg3 HC2 HR2 HB2
  go_wp2_with fail
  refine (below_calls B g w3 HC3.out 4 (by decide) (by decide)).mono ?_
  rintro e w4 ⟨n, hn4, rfl, hc4, hg4'⟩
  have HR4 := hide (blk_grown HR3.out hg4' hg4)
  have HC4 := hide hc4
  have HB4 := hide (HB3.out.trans (below_of_grown hg4' hBg (by have := HC3.out.2.1; omega)))
  have hn3 : n ≤ 3 := by omega
  clear hc4 hg4' HC3 HR3 HB3
  have H2 := hide (specSign_calls sd (n : Int) t (by omega) w4)
  have hok : sOk sd (n : Int) := ⟨⟨by omega, by omega⟩, HSD.out⟩
  have k2 : sLeaf sd (n : Int) = n := by unfold sLeaf; rw [if_pos hok]
  have k3 : sEnds sd (n : Int) t = endN sd n t 11 := by unfold sEnds; rw [if_pos hok]
  have k4 : sWay sd (n : Int) = wayN sd n 2 := by unfold sWay; rw [if_pos hok]; rfl
  simp only [decide_eq_true hok, k2, k3, k4] at H2
  clear hok k2 k3 k4
  go_wp2_with fail
  refine H2.out.mono ?_
  rintro e w5 ⟨v1, rfl, hv1, hb5⟩
  obtain ⟨vE1, vW1, hv1e, q1, q2, -⟩ := hv1.val
  rw [endN_length] at q1
  rw [wayN_length] at q2
  obtain ⟨gE, cE, hvE, hgE1, hgE2, hcE, -, -⟩ := own_at q1 (by omega)
  obtain ⟨gW, cW, hvW, hgW1, hgW2, hcW, -, -⟩ := own_at q2 (by omega)
  subst hvE hvW
  have hbA : Below w5.heap.size w5 (w5.alloc (.cells #[.int .i64 (n : Int), .slice (some ⟨gE, 0, none⟩) 11 cE, .slice (some ⟨gW, 0, none⟩) 2 cW] 29)) := (Below.refl _ _).alloc (Nat.le_refl _) _
  have OE := hide (own_below q1 hbA)
  have OW := hide (own_below q2 hbA)
  have HS6 := hide (Blk.new w5 #[.int .i64 (n : Int), .slice (some ⟨gE, 0, none⟩) 11 cE, .slice (some ⟨gW, 0, none⟩) 2 cW] 29)
  have l4 := HR4.out.lt
  have lg4 := HC4.out.2.1
  have hR5 := HR4.out.below hb5 l4
  have HR6 := hide (hR5.below hbA hR5.lt)
  have hc5 := cur_below HC4.out hb5 lg4
  have HC6 := hide (cur_below hc5 hbA hc5.2.1)
  have hB45 : B ≤ w4.heap.size := by omega
  have hb5' := HB4.out.trans (hb5.mono hB45)
  have hz45 := hb5.size
  have HB6 := hide (hb5'.trans (hbA.mono (by omega)))
  subst hv1e
  clear hv1 q1 q2 hb5 hbA hR5 hc5 hb5' HR4 HC4 HB4 H2
  go_wp2_with fail
  obtain ⟨b7, hb7⟩ : ∃ b, b = w5.heap.size := ⟨_, rfl⟩
  have h74 : b4 ≠ b7 := by omega
  have h7g : b7 ≠ g := by omega
  have h7B : B ≤ b7 := by omega
  have hE7 : gE ≠ b7 := by omega
  have hW7 : gW ≠ b7 := by omega
  have hEg : gE ≠ g := by omega
  have hWg : gW ≠ g := by omega
  have hE4 : gE ≠ b4 := by omega
  have hW4 : gW ≠ b4 := by omega
  have hgb7 : g < b7 := by omega
  rw [← hb7] at HS6
  rw [← hb7, ← hb4]
  have HE8 := hide (fun x hx => end_le sd n t x hx)
  have HW8 := hide (way8 sd n hn3)
  have HEL := hide (endN_length sd n t 11)
  have HWL := hide (wayN_length sd n 2)
  generalize endN sd n t 11 = E at *
  generalize wayN sd n 2 = W at *
  clear hb7 hb4
  generalize w5.alloc (.cells #[.int .i64 (n : Int), .slice (some ⟨gE, 0, none⟩) 11 cE, .slice (some ⟨gW, 0, none⟩) 2 cW] 29) = w6 at *
  refine (below_calls B g w6 HC6.out 8 (by decide) (by decide)).mono ?_
  rintro e w7 ⟨x, hx8, rfl, hc7, hg7⟩
  have HR7 := hide (blk_grown HR6.out hg7 hg4)
  have HS7 := hide (blk_grown HS6.out hg7 h7g)
  have HC7 := hide hc7
  have OE7 := hide (OE.out.kept hg7 (.inr (fun e => hEg (by simpa [Value.ownBlock] using e))))
  have OW7 := hide (OW.out.kept hg7 (.inr (fun e => hWg (by simpa [Value.ownBlock] using e))))
  have HB7 := hide (HB6.out.trans (below_of_grown hg7 hBg (by have := HC6.out.2.1; omega)))
  clear hc7 hg7 HC6 HR6 HS6 HB6 OE OW
  have hx : x = 0 ∨ x = 1 ∨ x = 2 ∨ x = 3 ∨ x = 4 ∨ 5 ≤ x := by omega
  have TE7 := hide (TextsAt.of_own (l := E) (by rw [HEL.out]; exact OE7.out))
  have TW7 := hide (TextsAt.of_own (l := W) (by rw [HWL.out]; exact OW7.out))
  have HBD : Hid (E.length ≤ 11 ∧ W.length ≤ 11 ∧ (∀ x ∈ E, x.length ≤ 8) ∧ ∀ x ∈ W, x.length ≤ 8) := ⟨by rw [HEL.out]; omega, by rw [HWL.out]; omega, HE8.out, fun x hx => Nat.le_of_eq (HW8.out x hx)⟩
  rcases hx with rfl | rfl | rfl | rfl | rfl | hx5
  · go_wp2_with fail
    refine (below_calls B g w7 HC7.out 6 (by decide) (by decide)).mono ?_
    rintro e w8 ⟨y, hy6, rfl, hc8, hg8⟩
    have hS8 := blk_grown HS7.out hg8 h7g
    have hR8 := blk_grown HR7.out hg8 hg4
    have oE := OE7.out.kept hg8 (.inr (fun e => hEg (by simpa [Value.ownBlock] using e)))
    have oW := OW7.out.kept hg8 (.inr (fun e => hWg (by simpa [Value.ownBlock] using e)))
    have hB8 := HB7.out.trans (below_of_grown hg8 hBg (by have := HC7.out.2.1; omega))
    have p0 : w8.cell? ⟨b7, 0, none⟩ = some (.int .i64 (n : Int)) := by rw [hS8.cell 0]; rfl
    have pf := hS8.free 0
    have HS9 := hide (hS8.set 0 (.int .i64 ((y : Int) - 1)))
    have HR9 := hide (hR8.other (p := ⟨b7, 0, none⟩) h74 (.int .i64 ((y : Int) - 1)))
    have TE9 := hide (TextsAt.of_own (l := E) (by rw [HEL.out]; exact ownsRow_setCell_other oE (a := ⟨b7, 0, none⟩) (fun e => hE7 (by simpa [Value.ownBlock] using e)) (.int .i64 ((y : Int) - 1))))
    have TW9 := hide (TextsAt.of_own (l := W) (by rw [HWL.out]; exact ownsRow_setCell_other oW (a := ⟨b7, 0, none⟩) (fun e => hW7 (by simpa [Value.ownBlock] using e)) (.int .i64 ((y : Int) - 1))))
    have HB9 := hide (hB8.setCell (p := ⟨b7, 0, none⟩) h7B (.int .i64 ((y : Int) - 1)))
    clear hS8 hR8 oE oW hB8 hc8 hg8
    go_wp2_with fail
    clear p0 pf
    generalize w8.setCell ⟨b7, 0, none⟩ (.int .i64 ((y : Int) - 1)) = w9 at *
    have l7x := HS9.out.lt
    have n0 : ∀ p : Near w9.heap.size w9, p.w.cell? ⟨b7, 0, none⟩ = some (.int .i64 ((y : Int) - 1)) := fun p => by rw [(HS9.out.below p.h l7x).cell 0]; rfl
    have n1 : ∀ p : Near w9.heap.size w9, p.w.cell? ⟨b7, 1, none⟩ = some (.slice (some ⟨gE, 0, none⟩) 11 cE) := fun p => by rw [(HS9.out.below p.h l7x).cell 1]; rfl
    have n2 : ∀ p : Near w9.heap.size w9, p.w.cell? ⟨b7, 2, none⟩ = some (.slice (some ⟨gW, 0, none⟩) 2 cW) := fun p => by rw [(HS9.out.below p.h l7x).cell 2]; rfl
    have hnn := Near.some w9.heap.size w9
    refine wp_region_cut_seq 5 6 (fun w' => ∃ p : Near w9.heap.size w9, w' = p.w) ⟨⟨_, (Below.refl _ _).drew⟩, rfl⟩ (by kernel_rfl) (by kernel_rfl) (by kernel_rfl) (by kernel_rfl) ?_
    simp only [List.take_succ_cons, List.take_zero, List.drop_succ_cons, List.drop_zero]
    repeat (go_big_quiet_step (fail))
    refine wpQuiet_nil ?_
    rintro wz ⟨pq, rfl⟩
    have hqb := pq.h
    obtain ⟨wz, hq⟩ := pq
    simp only at hqb ⊢
    have ZR := hide (HR9.out.below hqb HR9.out.lt)
    have ZE := hide (TE9.out.below hqb (Nat.le_refl _))
    have ZW := hide (TW9.out.below hqb (Nat.le_refl _))
    have ZB := hide (HB9.out.trans (hqb.mono (by have := HR9.out.lt; omega)))
    clear hq hqb n0 n1 n2 hnn
    have z0 : wz.cell? ⟨b4, 0, none⟩ = some (.int .i64 0) := by rw [ZR.out.cell 0]; rfl
    have z1 : wz.cell? ⟨b4, 1, none⟩ = some (.slice none 0 0) := by rw [ZR.out.cell 1]; rfl
    have z2 : wz.cell? ⟨b4, 2, none⟩ = some (.slice none 0 0) := by rw [ZR.out.cell 2]; rfl
    have f0 := ZR.out.free 0
    have f1 := ZR.out.free 1
    have f2 := ZR.out.free 2
    go_wp2_with fail
    have hRF := ((ZR.out.set 0 (.int .i64 ((y : Int) - 1))).set 1 (.slice (some ⟨gE, 0, none⟩) 11 cE)).set 2 (.slice (some ⟨gW, 0, none⟩) 2 cW)
    have hgF := Cu.grown_trans (Cu.grown_trans (Cu.grown_set wz b4 0 (.int .i64 ((y : Int) - 1))) (Cu.grown_set _ b4 1 (.slice (some ⟨gE, 0, none⟩) 11 cE))) (Cu.grown_set _ b4 2 (.slice (some ⟨gW, 0, none⟩) 2 cW))
    have hBF := ((ZB.out.setCell (p := ⟨b4, 0, none⟩) hB4 (.int .i64 ((y : Int) - 1))).setCell (p := ⟨b4, 1, none⟩) hB4 (.slice (some ⟨gE, 0, none⟩) 11 cE)).setCell (p := ⟨b4, 2, none⟩) hB4 (.slice (some ⟨gW, 0, none⟩) 2 cW)
    have hTE := TextsAt.grownB ZE.out hgF (sig_nostring ZR.out)
    have hTW := TextsAt.grownB ZW.out hgF (sig_nostring ZR.out)
    clear z0 z1 z2 f0 f1 f2 hgF ZE ZW ZB ZR
    generalize ((wz.setCell ⟨b4, 0, none⟩ (.int .i64 ((y : Int) - 1))).setCell ⟨b4, 1, none⟩ (.slice (some ⟨gE, 0, none⟩) 11 cE)).setCell ⟨b4, 2, none⟩ (.slice (some ⟨gW, 0, none⟩) 2 cW) = wF at *
    have x0 : wF.cell? ⟨b4, 0, none⟩ = some (.int .i64 ((y : Int) - 1)) := by rw [hRF.cell 0]; rfl
    have x1 : wF.cell? ⟨b4, 1, none⟩ = some (.slice (some ⟨gE, 0, none⟩) 11 cE) := by rw [hRF.cell 1]; rfl
    have x2 : wF.cell? ⟨b4, 2, none⟩ = some (.slice (some ⟨gW, 0, none⟩) 2 cW) := by rw [hRF.cell 2]; rfl
    refine bodyPost_ret (v := .tuple #[.int .i64 sd, .string ⟨(t).toArray⟩, .agg #[.int .i64 ((y : Int) - 1), (.slice (some ⟨gE, 0, none⟩) 11 cE), (.slice (some ⟨gW, 0, none⟩) 2 cW)]]) (by simp [results, Tryd.results69, go_sem, x0, x1, x2]) rfl ?_
    obtain ⟨d1, d2, d3, d4⟩ := HBD.out
    exact ⟨sd, t, _, ((y : Int) - 1), E, W, by omega, rfl, ⟨⟨_, _, rfl, hTE, hTW⟩, by omega, by omega, fun x hx => Nat.le_trans (d3 x hx) (by omega), fun x hx => Nat.le_trans (d4 x hx) (by omega)⟩, hBF⟩
  · obtain ⟨i0, hi, hz0, hz1, hz2⟩ := info_parts info_str
    have hbA : Below w7.heap.size w7 (w7.alloc (.cells #[] 9)) := (Below.refl _ _).alloc (Nat.le_refl _) _
    have hSA := HS7.out.below hbA HS7.out.lt
    have hRA := HR7.out.below hbA HR7.out.lt
    have oE := own_below OE7.out hbA
    have oW := own_below OW7.out hbA
    have hBA := HB7.out.trans (hbA.mono (by have := HR7.out.lt; omega))
    have hCA := cur_below HC7.out hbA HC7.out.2.1
    have hzA := hbA.size
    have p0 : (w7.alloc (.cells #[] 9)).cell? ⟨b7, 1, none⟩ = some (.slice (some ⟨gE, 0, none⟩) 11 cE) := by rw [hSA.cell 1]; rfl
    have hOL : (w7.alloc (.cells #[] 9)).ownsRow w7.heap.size 9 1 (.slice (some ⟨w7.heap.size, 0, none⟩) 0 0) 0 [] := World.ownsRow_lit _ _ 0 (Nat.le_refl _) (by decide) rfl
    have hEl := HEL.out
    have hcs : ∀ j u, (cellsS E)[j]? = some u → (w7.alloc (.cells #[] 9)).cell? ((⟨gE, 0, none⟩ : Addr).add j) = some u := by
      intro j u hj
      have hj11 : j < 11 := by
        have := (List.getElem?_eq_some_iff.1 hj).1
        rw [cellsS_length, hEl] at this
        omega
      rw [Go.WideShapes.add_plain, Nat.zero_add, oE.cellAt j (by omega)]
      exact hj
    have hl11 : (cellsS E).length = 11 := by rw [cellsS_length, hEl]
    have HSA := hide hSA
    have HRA := hide hRA
    have HOW := hide oW
    have HBA := hide hBA
    have HCA := hide hCA
    have HOL := hide hOL
    have HCS := hide hcs
    have HL11 := hide hl11
    have hb7l := HS7.out.lt
    have hb4l := HR7.out.lt
    have hgl7 := HC7.out.2.1
    have hWl7 := (OW7.out.lt gW rfl).2
    clear hSA hRA oE oW hBA hCA hbA hOL hcs hl11 hEl
    go_wp2_with (at_builtin; refine wpList_append_own _ rfl (.tmp 32) (.tmp 34) 27 rfl w7.heap.size 9 i0 (.string ⟨#[]⟩) 1 16 Tryd.underlying27 hi hz0 hz1 hz2 rfl (by decide) _ 0 [] rfl HOL.out ⟨gE, 0, none⟩ 11 cE (cellsS E) rfl HL11.out HCS.out cellsS_mem (by unfold maxLen; omega) (by omega) (by simp) ?_)
    intro v' w8 hown8 hgr8 _
    clear p0
    obtain ⟨g8, c8, hv8, hg81, hg82, hc8, -, -⟩ := own_at hown8 (by omega)
    subst hv8
    generalize w7.alloc (.cells #[] 9) = wA at *
    have hn7 : ∀ b, b < w7.heap.size → some b ≠ (Value.slice (some ⟨w7.heap.size, 0, none⟩) 0 0).ownBlock := fun b hb e => by simp [Value.ownBlock] at e; omega
    have hS8 : Blk w8 b7 [.int .i64 (n : Int), .slice (some ⟨gE, 0, none⟩) 11 cE, .slice (some ⟨gW, 0, none⟩) 2 cW] 29 := by
      have := hgr8.block b7 HSA.out.lt (hn7 b7 hb7l)
      unfold Blk
      rw [this]
      exact HSA.out
    have hR8 : Blk w8 b4 [.int .i64 0, .slice none 0 0, .slice none 0 0] 29 := by
      have := hgr8.block b4 HRA.out.lt (hn7 b4 hb4l)
      unfold Blk
      rw [this]
      exact HRA.out
    have oW8 := HOW.out.kept hgr8 (.inr (fun e => hn7 gW hWl7 (by simpa [Value.ownBlock] using e)))
    have hb78 : Below w7.heap.size wA w8 := (Below.refl _ wA).grown hgr8 (by omega) (fun k hk => by simp [Value.ownBlock] at hk; omega)
    have hB8 := HBA.out.trans (hb78.mono (by omega))
    have hC8 := cur_below HCA.out hb78 hgl7
    have p1 : w8.cell? ⟨b7, 1, none⟩ = some (.slice (some ⟨gE, 0, none⟩) 11 cE) := by rw [hS8.cell 1]; rfl
    have pf := hS8.free 1
    have h87 : g8 ≠ b7 := by omega
    have h8g : g8 ≠ g := by omega
    have h84 : g8 ≠ b4 := by omega
    have hbs : Below b7 w8 (w8.setCell ⟨b7, 1, none⟩ (.slice (some ⟨g8, 0, none⟩) 11 c8)) := (Below.refl b7 w8).setCell (p := ⟨b7, 1, none⟩) (Nat.le_refl _) _
    have HS9 := hide (hS8.set 1 (.slice (some ⟨g8, 0, none⟩) 11 c8))
    have HR9 := hide (hR8.other (p := ⟨b7, 1, none⟩) h74 (.slice (some ⟨g8, 0, none⟩) 11 c8))
    have O8 := hide (ownsRow_setCell_other hown8 (a := ⟨b7, 1, none⟩) (fun e => h87 (by simpa [Value.ownBlock] using e)) (.slice (some ⟨g8, 0, none⟩) 11 c8))
    have OW9 := hide (ownsRow_setCell_other oW8 (a := ⟨b7, 1, none⟩) (fun e => hW7 (by simpa [Value.ownBlock] using e)) (.slice (some ⟨g8, 0, none⟩) 11 c8))
    have HB9 := hide (hB8.setCell (p := ⟨b7, 1, none⟩) h7B (.slice (some ⟨g8, 0, none⟩) 11 c8))
    have HC9 := hide (cur_below hC8 hbs hgb7)
    clear hown8 hgr8 hS8 hR8 oW8 hb78 hB8 hC8 hbs hn7 HSA HRA HOW HBA HCA HOL HCS HL11
    go_wp2_with fail
    clear p1 pf
    generalize w8.setCell ⟨b7, 1, none⟩ (.slice (some ⟨g8, 0, none⟩) 11 c8) = w9 at *
    refine wp_region_open (fun wd => ∃ p : Near w9.heap.size w9, wd = p.w) ⟨⟨_, (Below.refl _ _).drew⟩, rfl⟩ (by kernel_rfl) ?_
    rintro wd ⟨pd, rfl⟩
    have hS := HS9.out.below pd.h HS9.out.lt
    have hR := HR9.out.below pd.h HR9.out.lt
    have o8 := own_below O8.out pd.h
    have oW := own_below OW9.out pd.h
    have hB := HB9.out.trans (pd.h.mono (by have := HR9.out.lt; omega))
    have hC := cur_below HC9.out pd.h HC9.out.2.1
    have p1 : pd.w.cell? ⟨b7, 1, none⟩ = some (.slice (some ⟨g8, 0, none⟩) 11 c8) := by rw [hS.cell 1]; rfl
    have HS := hide hS
    have HR := hide hR
    have H8 := hide o8
    have HOW := hide oW
    have HB := hide hB
    have HC := hide hC
    clear hS hR o8 oW hB hC HS9 HR9 O8 OW9 HB9 HC9
    generalize pd.w = w10 at *
    clear pd
    have n1 : ∀ p : CellIs b7 1 (.slice (some ⟨g8, 0, none⟩) 11 c8), p.w.cell? ⟨b7, 1, none⟩ = some (.slice (some ⟨g8, 0, none⟩) 11 c8) := fun p => p.h
    have hnn : Nonempty (CellIs b7 1 (.slice (some ⟨g8, 0, none⟩) 11 c8)) := ⟨⟨w10, p1⟩⟩
    refine wpAny_seg_lit 0 1 8 rfl (by decide) (by kernel_rfl) (by kernel_rfl) (fun _ _ _ _ _ h => h) ?_
    simp only [List.take_succ_cons, List.take_zero, List.drop_zero]
    repeat (go_big_quiet_step (fail))
    refine wpQuiet_nil ?_
    refine wpAny_of_K (c := 7) (D := fun w' => ∃ p : CellIs b7 1 (.slice (some ⟨g8, 0, none⟩) 11 c8), w' = p.w) _ _ _ _ ?_
    refine wpAnyK_load 1 (by kernel_rfl) (by kernel_rfl) (by kernel_rfl) (by kernel_rfl) (by kernel_rfl) (by kernel_rfl) (by decide) (fun _ _ _ _ _ h => h) ⟨⟨w10, p1⟩, rfl⟩ ?_
    simp only [List.take_succ_cons, List.take_zero, List.drop_succ_cons, List.drop_zero]
    go_big_quiet_step (fail)
    refine wpQuiet_nil ?_
    clear n1 hnn
    refine wpAnyK_cut 2 6 8 (fun w' => w' = w10) rfl 7 _ (fun w' h => ⟨⟨w10, p1⟩, h⟩) (by decide) rfl rfl (by kernel_rfl) (by kernel_rfl) (by kernel_rfl) ?_
    simp only [List.take_succ_cons, List.take_zero, List.drop_succ_cons, List.drop_zero]
    repeat (go_big_quiet_step (fail))
    refine wpQuiet_nil ?_
    rintro wd rfl
    refine wpAnyK_call 6 (by kernel_rfl) rfl rfl 45 _ _ rfl enterB #[.pointer (some ⟨g, 0, none⟩), .int .i64 11] rfl (fun u w' => ∃ y : Nat, y < 11 ∧ u = .int .i64 y ∧ wd.grownBy w' (some g)) ((below_calls B g wd HC.out 11 (by decide) (by decide)).mono (fun e w' ⟨y, h1, h2, _, h4⟩ => ⟨_, h2, y, h1, rfl, h4⟩)) ?_
    rintro u w11 ⟨y, hy, rfl, hg11⟩
    refine ⟨⟨⟨w11, hg11.cell p1 (fun e => h7g (by simpa using e))⟩, rfl⟩, ?_⟩
    refine wpAnyK_last (by kernel_rfl) (by decide) ?_
    refine wpAny_rest 7 rfl (by kernel_rfl) ?_
    simp only [List.drop_succ_cons, List.drop_zero]
    have hS := blk_grown HS.out hg11 h7g
    have hR := blk_grown HR.out hg11 hg4
    have o8 := H8.out.kept hg11 (.inr (fun e => h8g (by simpa [Value.ownBlock] using e)))
    have oW := HOW.out.kept hg11 (.inr (fun e => hWg (by simpa [Value.ownBlock] using e)))
    have hB := HB.out.trans (below_of_grown hg11 hBg (by have := HC.out.2.1; omega))
    have hEl := HEL.out
    have hxc : ∃ xx, w11.cell? ⟨g8, y, none⟩ = some xx := by
      rw [o8.cellAt y (by omega)]
      exact ⟨_, List.getElem?_eq_getElem (by rw [cellsS_length, hEl]; omega)⟩
    obtain ⟨xx, hxc⟩ := hxc
    have hfx := o8.frozenAt y
    have hst := (o8.stored y (.string ⟨#[49, 50, 51, 52, 53, 54, 55, 56]⟩)).1
    have hW8 : gW ≠ g8 := by omega
    have HS12 := hide (hS.other (p := ⟨g8, y, none⟩) (Ne.symm h87) (.string ⟨#[49, 50, 51, 52, 53, 54, 55, 56]⟩))
    have HR12 := hide (hR.other (p := ⟨g8, y, none⟩) (Ne.symm h84) (.string ⟨#[49, 50, 51, 52, 53, 54, 55, 56]⟩))
    have TE12 : Hid (TextsAt (w11.setCell ⟨g8, y, none⟩ (.string ⟨#[49, 50, 51, 52, 53, 54, 55, 56]⟩)) (.slice (some ⟨g8, 0, none⟩) 11 c8) (E.set y [49, 50, 51, 52, 53, 54, 55, 56])) := by
      refine TextsAt.of_own (B := w7.heap.size) (e := 9) ?_
      rw [List.length_set, hEl]
      have e : cellsS (E.set y [49, 50, 51, 52, 53, 54, 55, 56]) = (cellsS E).set y (.string ⟨#[49, 50, 51, 52, 53, 54, 55, 56]⟩) := by simp [cellsS]
      rw [e]
      exact hst
    have TW12 := hide (TextsAt.of_own (l := W) (by rw [HWL.out]; exact ownsRow_setCell_other oW (a := ⟨g8, y, none⟩) (fun e => hW8 (by simpa [Value.ownBlock] using e)) (.string ⟨#[49, 50, 51, 52, 53, 54, 55, 56]⟩)))
    have HB12 := hide (hB.setCell (p := ⟨g8, y, none⟩) (by show B ≤ g8; omega) (.string ⟨#[49, 50, 51, 52, 53, 54, 55, 56]⟩))
    have HBD2 : Hid ((E.set y [49, 50, 51, 52, 53, 54, 55, 56]).length ≤ 11 ∧ W.length ≤ 11 ∧ (∀ x ∈ E.set y [49, 50, 51, 52, 53, 54, 55, 56], x.length ≤ 8) ∧ ∀ x ∈ W, x.length ≤ 8) := ⟨by rw [List.length_set, hEl]; omega, HBD.out.2.1, fun x hx => by
      rcases List.mem_or_eq_of_mem_set hx with h | rfl
      · exact HBD.out.2.2.1 x h
      · decide, HBD.out.2.2.2⟩
    clear hS hR o8 oW hB hst hg11 HS HR H8 HOW HB HC hEl
    go_wp2_with fail
    clear hxc hfx p1
    generalize w11.setCell ⟨g8, y, none⟩ (.string ⟨#[49, 50, 51, 52, 53, 54, 55, 56]⟩) = w12 at *
    have l7x := HS12.out.lt
    have n0 : ∀ p : Near w12.heap.size w12, p.w.cell? ⟨b7, 0, none⟩ = some (.int .i64 (n : Int)) := fun p => by rw [(HS12.out.below p.h l7x).cell 0]; rfl
    have n1 : ∀ p : Near w12.heap.size w12, p.w.cell? ⟨b7, 1, none⟩ = some (.slice (some ⟨g8, 0, none⟩) 11 c8) := fun p => by rw [(HS12.out.below p.h l7x).cell 1]; rfl
    have n2 : ∀ p : Near w12.heap.size w12, p.w.cell? ⟨b7, 2, none⟩ = some (.slice (some ⟨gW, 0, none⟩) 2 cW) := fun p => by rw [(HS12.out.below p.h l7x).cell 2]; rfl
    have hnn := Near.some w12.heap.size w12
    refine wp_region_cut_seq 5 6 (fun w' => ∃ p : Near w12.heap.size w12, w' = p.w) ⟨⟨_, (Below.refl _ _).drew⟩, rfl⟩ (by kernel_rfl) (by kernel_rfl) (by kernel_rfl) (by kernel_rfl) ?_
    simp only [List.take_succ_cons, List.take_zero, List.drop_succ_cons, List.drop_zero]
    repeat (go_big_quiet_step (fail))
    refine wpQuiet_nil ?_
    rintro wz ⟨pq, rfl⟩
    have hqb := pq.h
    obtain ⟨wz, hq⟩ := pq
    simp only at hqb ⊢
    have ZR := hide (HR12.out.below hqb HR12.out.lt)
    have ZE := hide (TE12.out.below hqb (Nat.le_refl _))
    have ZW := hide (TW12.out.below hqb (Nat.le_refl _))
    have ZB := hide (HB12.out.trans (hqb.mono (by have := HR12.out.lt; omega)))
    clear hq hqb n0 n1 n2 hnn
    have z0 : wz.cell? ⟨b4, 0, none⟩ = some (.int .i64 0) := by rw [ZR.out.cell 0]; rfl
    have z1 : wz.cell? ⟨b4, 1, none⟩ = some (.slice none 0 0) := by rw [ZR.out.cell 1]; rfl
    have z2 : wz.cell? ⟨b4, 2, none⟩ = some (.slice none 0 0) := by rw [ZR.out.cell 2]; rfl
    have f0 := ZR.out.free 0
    have f1 := ZR.out.free 1
    have f2 := ZR.out.free 2
    go_wp2_with fail
    have hRF := ((ZR.out.set 0 (.int .i64 (n : Int))).set 1 (.slice (some ⟨g8, 0, none⟩) 11 c8)).set 2 (.slice (some ⟨gW, 0, none⟩) 2 cW)
    have hgF := Cu.grown_trans (Cu.grown_trans (Cu.grown_set wz b4 0 (.int .i64 (n : Int))) (Cu.grown_set _ b4 1 (.slice (some ⟨g8, 0, none⟩) 11 c8))) (Cu.grown_set _ b4 2 (.slice (some ⟨gW, 0, none⟩) 2 cW))
    have hBF := ((ZB.out.setCell (p := ⟨b4, 0, none⟩) hB4 (.int .i64 (n : Int))).setCell (p := ⟨b4, 1, none⟩) hB4 (.slice (some ⟨g8, 0, none⟩) 11 c8)).setCell (p := ⟨b4, 2, none⟩) hB4 (.slice (some ⟨gW, 0, none⟩) 2 cW)
    have hTE := TextsAt.grownB ZE.out hgF (sig_nostring ZR.out)
    have hTW := TextsAt.grownB ZW.out hgF (sig_nostring ZR.out)
    clear z0 z1 z2 f0 f1 f2 hgF ZE ZW ZB ZR
    generalize ((wz.setCell ⟨b4, 0, none⟩ (.int .i64 (n : Int))).setCell ⟨b4, 1, none⟩ (.slice (some ⟨g8, 0, none⟩) 11 c8)).setCell ⟨b4, 2, none⟩ (.slice (some ⟨gW, 0, none⟩) 2 cW) = wF at *
    have x0 : wF.cell? ⟨b4, 0, none⟩ = some (.int .i64 (n : Int)) := by rw [hRF.cell 0]; rfl
    have x1 : wF.cell? ⟨b4, 1, none⟩ = some (.slice (some ⟨g8, 0, none⟩) 11 c8) := by rw [hRF.cell 1]; rfl
    have x2 : wF.cell? ⟨b4, 2, none⟩ = some (.slice (some ⟨gW, 0, none⟩) 2 cW) := by rw [hRF.cell 2]; rfl
    refine bodyPost_ret (v := .tuple #[.int .i64 sd, .string ⟨(t).toArray⟩, .agg #[.int .i64 (n : Int), (.slice (some ⟨g8, 0, none⟩) 11 c8), (.slice (some ⟨gW, 0, none⟩) 2 cW)]]) (by simp [results, Tryd.results69, go_sem, x0, x1, x2]) rfl ?_
    obtain ⟨d1, d2, d3, d4⟩ := HBD2.out
    exact ⟨sd, t, _, (n : Int), (E.set y [49, 50, 51, 52, 53, 54, 55, 56]), W, by omega, rfl, ⟨⟨_, _, rfl, hTE, hTW⟩, by omega, by omega, fun x hx => Nat.le_trans (d3 x hx) (by omega), fun x hx => Nat.le_trans (d4 x hx) (by omega)⟩, hBF⟩
  · have p0 : w7.cell? ⟨b7, 2, none⟩ = some (.slice (some ⟨gW, 0, none⟩) 2 cW) := by rw [HS7.out.cell 2]; rfl
    have pf := HS7.out.free 2
    have HS9 := hide (HS7.out.set 2 (.slice (some ⟨gW, 1, none⟩) 1 (cW - 1)))
    have HR9 := hide (HR7.out.other (p := ⟨b7, 2, none⟩) h74 (.slice (some ⟨gW, 1, none⟩) 1 (cW - 1)))
    have TE9 := hide (TextsAt.of_own (l := E) (by rw [HEL.out]; exact ownsRow_setCell_other OE7.out (a := ⟨b7, 2, none⟩) (fun e => hE7 (by simpa [Value.ownBlock] using e)) (.slice (some ⟨gW, 1, none⟩) 1 (cW - 1))))
    have oW := ownsRow_setCell_other OW7.out (a := ⟨b7, 2, none⟩) (fun e => hW7 (by simpa [Value.ownBlock] using e)) (.slice (some ⟨gW, 1, none⟩) 1 (cW - 1))
    have hWl := HWL.out
    have TW9 : Hid (TextsAt (w7.setCell ⟨b7, 2, none⟩ (.slice (some ⟨gW, 1, none⟩) 1 (cW - 1))) (.slice (some ⟨gW, 1, none⟩) 1 (cW - 1)) (W.drop 1)) := by
      refine ⟨some ⟨gW, 1, none⟩, cW - 1, by rw [List.length_drop, hWl], fun j hj => ?_⟩
      have hj1 : j = 0 := by rw [List.length_drop, hWl] at hj; omega
      subst hj1
      refine ⟨gW, 1, rfl, (oW.lt gW rfl).2, ?_⟩
      have := oW.cellAt 1 (by omega)
      rw [Nat.add_zero, this]
      simp [cellsS, show 1 < W.length by omega]
    have HB9 := hide (HB7.out.setCell (p := ⟨b7, 2, none⟩) h7B (.slice (some ⟨gW, 1, none⟩) 1 (cW - 1)))
    have HBD2 : Hid (E.length ≤ 11 ∧ (W.drop 1).length ≤ 11 ∧ (∀ x ∈ E, x.length ≤ 8) ∧ ∀ x ∈ W.drop 1, x.length ≤ 8) := ⟨HBD.out.1, by rw [List.length_drop, hWl]; omega, HBD.out.2.2.1, fun x hx => HBD.out.2.2.2 x (List.mem_of_mem_drop hx)⟩
    clear oW hWl
    go_wp2_with fail
    clear p0 pf
    generalize w7.setCell ⟨b7, 2, none⟩ (.slice (some ⟨gW, 1, none⟩) 1 (cW - 1)) = w9 at *
    have l7x := HS9.out.lt
    have n0 : ∀ p : Near w9.heap.size w9, p.w.cell? ⟨b7, 0, none⟩ = some (.int .i64 (n : Int)) := fun p => by rw [(HS9.out.below p.h l7x).cell 0]; rfl
    have n1 : ∀ p : Near w9.heap.size w9, p.w.cell? ⟨b7, 1, none⟩ = some (.slice (some ⟨gE, 0, none⟩) 11 cE) := fun p => by rw [(HS9.out.below p.h l7x).cell 1]; rfl
    have n2 : ∀ p : Near w9.heap.size w9, p.w.cell? ⟨b7, 2, none⟩ = some (.slice (some ⟨gW, 1, none⟩) 1 (cW - 1)) := fun p => by rw [(HS9.out.below p.h l7x).cell 2]; rfl
    have hnn := Near.some w9.heap.size w9
    refine wp_region_cut_seq 5 6 (fun w' => ∃ p : Near w9.heap.size w9, w' = p.w) ⟨⟨_, (Below.refl _ _).drew⟩, rfl⟩ (by kernel_rfl) (by kernel_rfl) (by kernel_rfl) (by kernel_rfl) ?_
    simp only [List.take_succ_cons, List.take_zero, List.drop_succ_cons, List.drop_zero]
    repeat (go_big_quiet_step (fail))
    refine wpQuiet_nil ?_
    rintro wz ⟨pq, rfl⟩
    have hqb := pq.h
    obtain ⟨wz, hq⟩ := pq
    simp only at hqb ⊢
    have ZR := hide (HR9.out.below hqb HR9.out.lt)
    have ZE := hide (TE9.out.below hqb (Nat.le_refl _))
    have ZW := hide (TW9.out.below hqb (Nat.le_refl _))
    have ZB := hide (HB9.out.trans (hqb.mono (by have := HR9.out.lt; omega)))
    clear hq hqb n0 n1 n2 hnn
    have z0 : wz.cell? ⟨b4, 0, none⟩ = some (.int .i64 0) := by rw [ZR.out.cell 0]; rfl
    have z1 : wz.cell? ⟨b4, 1, none⟩ = some (.slice none 0 0) := by rw [ZR.out.cell 1]; rfl
    have z2 : wz.cell? ⟨b4, 2, none⟩ = some (.slice none 0 0) := by rw [ZR.out.cell 2]; rfl
    have f0 := ZR.out.free 0
    have f1 := ZR.out.free 1
    have f2 := ZR.out.free 2
    go_wp2_with fail
    have hRF := ((ZR.out.set 0 (.int .i64 (n : Int))).set 1 (.slice (some ⟨gE, 0, none⟩) 11 cE)).set 2 (.slice (some ⟨gW, 1, none⟩) 1 (cW - 1))
    have hgF := Cu.grown_trans (Cu.grown_trans (Cu.grown_set wz b4 0 (.int .i64 (n : Int))) (Cu.grown_set _ b4 1 (.slice (some ⟨gE, 0, none⟩) 11 cE))) (Cu.grown_set _ b4 2 (.slice (some ⟨gW, 1, none⟩) 1 (cW - 1)))
    have hBF := ((ZB.out.setCell (p := ⟨b4, 0, none⟩) hB4 (.int .i64 (n : Int))).setCell (p := ⟨b4, 1, none⟩) hB4 (.slice (some ⟨gE, 0, none⟩) 11 cE)).setCell (p := ⟨b4, 2, none⟩) hB4 (.slice (some ⟨gW, 1, none⟩) 1 (cW - 1))
    have hTE := TextsAt.grownB ZE.out hgF (sig_nostring ZR.out)
    have hTW := TextsAt.grownB ZW.out hgF (sig_nostring ZR.out)
    clear z0 z1 z2 f0 f1 f2 hgF ZE ZW ZB ZR
    generalize ((wz.setCell ⟨b4, 0, none⟩ (.int .i64 (n : Int))).setCell ⟨b4, 1, none⟩ (.slice (some ⟨gE, 0, none⟩) 11 cE)).setCell ⟨b4, 2, none⟩ (.slice (some ⟨gW, 1, none⟩) 1 (cW - 1)) = wF at *
    have x0 : wF.cell? ⟨b4, 0, none⟩ = some (.int .i64 (n : Int)) := by rw [hRF.cell 0]; rfl
    have x1 : wF.cell? ⟨b4, 1, none⟩ = some (.slice (some ⟨gE, 0, none⟩) 11 cE) := by rw [hRF.cell 1]; rfl
    have x2 : wF.cell? ⟨b4, 2, none⟩ = some (.slice (some ⟨gW, 1, none⟩) 1 (cW - 1)) := by rw [hRF.cell 2]; rfl
    refine bodyPost_ret (v := .tuple #[.int .i64 sd, .string ⟨(t).toArray⟩, .agg #[.int .i64 (n : Int), (.slice (some ⟨gE, 0, none⟩) 11 cE), (.slice (some ⟨gW, 1, none⟩) 1 (cW - 1))]]) (by simp [results, Tryd.results69, go_sem, x0, x1, x2]) rfl ?_
    obtain ⟨d1, d2, d3, d4⟩ := HBD2.out
    exact ⟨sd, t, _, (n : Int), E, (W.drop 1), by omega, rfl, ⟨⟨_, _, rfl, hTE, hTW⟩, by omega, by omega, fun x hx => Nat.le_trans (d3 x hx) (by omega), fun x hx => Nat.le_trans (d4 x hx) (by omega)⟩, hBF⟩
  · have hcat : (⟨t.toArray⟩ : ByteArray) ++ ⟨#[120]⟩ = ⟨(t ++ [120]).toArray⟩ := ByteArray.mk_append_mk t [120]
    have hcl : (t ++ [120]).length = t.length + 1 := by simp
    obtain ⟨t2, Et2⟩ : ∃ t2, t2 = t ++ [120] := ⟨_, rfl⟩
    rw [← Et2] at hcat hcl
    clear Et2
    go_wp2_with fail
    have l7x := HS7.out.lt
    have n0 : ∀ p : Near w7.heap.size w7, p.w.cell? ⟨b7, 0, none⟩ = some (.int .i64 (n : Int)) := fun p => by rw [(HS7.out.below p.h l7x).cell 0]; rfl
    have n1 : ∀ p : Near w7.heap.size w7, p.w.cell? ⟨b7, 1, none⟩ = some (.slice (some ⟨gE, 0, none⟩) 11 cE) := fun p => by rw [(HS7.out.below p.h l7x).cell 1]; rfl
    have n2 : ∀ p : Near w7.heap.size w7, p.w.cell? ⟨b7, 2, none⟩ = some (.slice (some ⟨gW, 0, none⟩) 2 cW) := fun p => by rw [(HS7.out.below p.h l7x).cell 2]; rfl
    have hnn := Near.some w7.heap.size w7
    refine wp_region_cut_seq 5 6 (fun w' => ∃ p : Near w7.heap.size w7, w' = p.w) ⟨⟨_, (Below.refl _ _).drew⟩, rfl⟩ (by kernel_rfl) (by kernel_rfl) (by kernel_rfl) (by kernel_rfl) ?_
    simp only [List.take_succ_cons, List.take_zero, List.drop_succ_cons, List.drop_zero]
    repeat (go_big_quiet_step (fail))
    refine wpQuiet_nil ?_
    rintro wz ⟨pq, rfl⟩
    have hqb := pq.h
    obtain ⟨wz, hq⟩ := pq
    simp only at hqb ⊢
    have ZR := hide (HR7.out.below hqb HR7.out.lt)
    have ZE := hide (TE7.out.below hqb (Nat.le_refl _))
    have ZW := hide (TW7.out.below hqb (Nat.le_refl _))
    have ZB := hide (HB7.out.trans (hqb.mono (by have := HR7.out.lt; omega)))
    clear hq hqb n0 n1 n2 hnn
    have z0 : wz.cell? ⟨b4, 0, none⟩ = some (.int .i64 0) := by rw [ZR.out.cell 0]; rfl
    have z1 : wz.cell? ⟨b4, 1, none⟩ = some (.slice none 0 0) := by rw [ZR.out.cell 1]; rfl
    have z2 : wz.cell? ⟨b4, 2, none⟩ = some (.slice none 0 0) := by rw [ZR.out.cell 2]; rfl
    have f0 := ZR.out.free 0
    have f1 := ZR.out.free 1
    have f2 := ZR.out.free 2
    go_wp2_with fail
    have hRF := ((ZR.out.set 0 (.int .i64 (n : Int))).set 1 (.slice (some ⟨gE, 0, none⟩) 11 cE)).set 2 (.slice (some ⟨gW, 0, none⟩) 2 cW)
    have hgF := Cu.grown_trans (Cu.grown_trans (Cu.grown_set wz b4 0 (.int .i64 (n : Int))) (Cu.grown_set _ b4 1 (.slice (some ⟨gE, 0, none⟩) 11 cE))) (Cu.grown_set _ b4 2 (.slice (some ⟨gW, 0, none⟩) 2 cW))
    have hBF := ((ZB.out.setCell (p := ⟨b4, 0, none⟩) hB4 (.int .i64 (n : Int))).setCell (p := ⟨b4, 1, none⟩) hB4 (.slice (some ⟨gE, 0, none⟩) 11 cE)).setCell (p := ⟨b4, 2, none⟩) hB4 (.slice (some ⟨gW, 0, none⟩) 2 cW)
    have hTE := TextsAt.grownB ZE.out hgF (sig_nostring ZR.out)
    have hTW := TextsAt.grownB ZW.out hgF (sig_nostring ZR.out)
    clear z0 z1 z2 f0 f1 f2 hgF ZE ZW ZB ZR
    generalize ((wz.setCell ⟨b4, 0, none⟩ (.int .i64 (n : Int))).setCell ⟨b4, 1, none⟩ (.slice (some ⟨gE, 0, none⟩) 11 cE)).setCell ⟨b4, 2, none⟩ (.slice (some ⟨gW, 0, none⟩) 2 cW) = wF at *
    have x0 : wF.cell? ⟨b4, 0, none⟩ = some (.int .i64 (n : Int)) := by rw [hRF.cell 0]; rfl
    have x1 : wF.cell? ⟨b4, 1, none⟩ = some (.slice (some ⟨gE, 0, none⟩) 11 cE) := by rw [hRF.cell 1]; rfl
    have x2 : wF.cell? ⟨b4, 2, none⟩ = some (.slice (some ⟨gW, 0, none⟩) 2 cW) := by rw [hRF.cell 2]; rfl
    refine bodyPost_ret (v := .tuple #[.int .i64 sd, .string ⟨(t2).toArray⟩, .agg #[.int .i64 (n : Int), (.slice (some ⟨gE, 0, none⟩) 11 cE), (.slice (some ⟨gW, 0, none⟩) 2 cW)]]) (by simp [results, Tryd.results69, go_sem, x0, x1, x2]) rfl ?_
    obtain ⟨d1, d2, d3, d4⟩ := HBD.out
    exact ⟨sd, t2, _, (n : Int), E, W, by omega, rfl, ⟨⟨_, _, rfl, hTE, hTW⟩, by omega, by omega, fun x hx => Nat.le_trans (d3 x hx) (by omega), fun x hx => Nat.le_trans (d4 x hx) (by omega)⟩, hBF⟩
  · obtain ⟨i0, hi, hz0, hz1, hz2⟩ := info_parts info_str
    have hbA : Below w7.heap.size w7 (w7.alloc (.cells #[.string ⟨#[49]⟩] 9)) := (Below.refl _ _).alloc (Nat.le_refl _) _
    have hSA := HS7.out.below hbA HS7.out.lt
    have hRA := HR7.out.below hbA HR7.out.lt
    have oE := own_below OE7.out hbA
    have oW := own_below OW7.out hbA
    have hBA := HB7.out.trans (hbA.mono (by have := HR7.out.lt; omega))
    have p0 : (w7.alloc (.cells #[.string ⟨#[49]⟩] 9)).cell? ⟨b7, 1, none⟩ = some (.slice (some ⟨gE, 0, none⟩) 11 cE) := by rw [hSA.cell 1]; rfl
    have hOL : (w7.alloc (.cells #[.string ⟨#[49]⟩] 9)).ownsRow w7.heap.size 9 1 (.slice (some ⟨w7.heap.size, 0, none⟩) 1 1) 1 [.string ⟨#[49]⟩] := World.ownsRow_lit _ _ 1 (Nat.le_refl _) (by decide) rfl
    have hEl := HEL.out
    have hcs : ∀ j u, (cellsS (E.drop 1))[j]? = some u → (w7.alloc (.cells #[.string ⟨#[49]⟩] 9)).cell? ((⟨gE, 1, none⟩ : Addr).add j) = some u := by
      intro j u hj
      have hj10 : j < 10 := by
        have := (List.getElem?_eq_some_iff.1 hj).1
        rw [cellsS_length, List.length_drop, hEl] at this
        omega
      rw [Go.WideShapes.add_plain, oE.cellAt (1 + j) (by omega)]
      simpa [cellsS, List.getElem?_drop, Nat.add_comm] using hj
    have hl10 : (cellsS (E.drop 1)).length = 10 := by rw [cellsS_length, List.length_drop, hEl]
    have HSA := hide hSA
    have HRA := hide hRA
    have HOW := hide oW
    have HBA := hide hBA
    have HOL := hide hOL
    have HCS := hide hcs
    have HL10 := hide hl10
    have hb7l := HS7.out.lt
    have hb4l := HR7.out.lt
    have hWl7 := (OW7.out.lt gW rfl).2
    clear hSA hRA oE oW hBA hbA hOL hcs hl10 hEl
    go_wp2_with (at_builtin; refine wpList_append_own _ rfl (.tmp 57) (.tmp 60) 27 rfl w7.heap.size 9 i0 (.string ⟨#[]⟩) 1 16 Tryd.underlying27 hi hz0 hz1 hz2 rfl (by decide) _ 1 [.string ⟨#[49]⟩] rfl HOL.out ⟨gE, 1, none⟩ 10 (cE - 1) (cellsS (E.drop 1)) rfl HL10.out HCS.out cellsS_mem (by unfold maxLen; omega) (by omega) (by simp) ?_)
    intro v' w8 hown8 hgr8 _
    clear p0
    obtain ⟨g8, c8, hv8, hg81, hg82, -⟩ := own_at hown8 (by omega)
    subst hv8
    generalize w7.alloc (.cells #[.string ⟨#[49]⟩] 9) = wA at *
    have hn7 : ∀ b, b < w7.heap.size → some b ≠ (Value.slice (some ⟨w7.heap.size, 0, none⟩) 1 1).ownBlock := fun b hb e => by simp [Value.ownBlock] at e; omega
    have hS8 : Blk w8 b7 [.int .i64 (n : Int), .slice (some ⟨gE, 0, none⟩) 11 cE, .slice (some ⟨gW, 0, none⟩) 2 cW] 29 := by
      have := hgr8.block b7 HSA.out.lt (hn7 b7 hb7l)
      unfold Blk
      rw [this]
      exact HSA.out
    have hR8 : Blk w8 b4 [.int .i64 0, .slice none 0 0, .slice none 0 0] 29 := by
      have := hgr8.block b4 HRA.out.lt (hn7 b4 hb4l)
      unfold Blk
      rw [this]
      exact HRA.out
    have oW8 := HOW.out.kept hgr8 (.inr (fun e => hn7 gW hWl7 (by simpa [Value.ownBlock] using e)))
    have hB8 := HBA.out.trans ((Below.refl B wA).grown hgr8 (by have := HRA.out.lt; omega) (fun k hk => by simp [Value.ownBlock] at hk; omega))
    have p1 : w8.cell? ⟨b7, 1, none⟩ = some (.slice (some ⟨gE, 0, none⟩) 11 cE) := by rw [hS8.cell 1]; rfl
    have pf := hS8.free 1
    have HS9 := hide (hS8.set 1 (.slice (some ⟨g8, 0, none⟩) 11 c8))
    have HR9 := hide (hR8.other (p := ⟨b7, 1, none⟩) h74 (.slice (some ⟨g8, 0, none⟩) 11 c8))
    have h87 : g8 ≠ b7 := by omega
    have TE9 : Hid (TextsAt (w8.setCell ⟨b7, 1, none⟩ (.slice (some ⟨g8, 0, none⟩) 11 c8)) (.slice (some ⟨g8, 0, none⟩) 11 c8) ([49] :: E.drop 1)) := by
      have hEl := HEL.out
      have hl11 : ([49] :: E.drop 1).length = 11 := by rw [List.length_cons, List.length_drop, hEl]
      refine TextsAt.of_own (B := w7.heap.size) (e := 9) ?_
      have e : cellsS ([49] :: E.drop 1) = .string ⟨#[49]⟩ :: cellsS E.tail := by simp [cellsS]
      rw [hl11, e]
      exact ownsRow_setCell_other hown8 (a := ⟨b7, 1, none⟩) (fun e => h87 (by simpa [Value.ownBlock] using e)) _
    have TW9 := hide (TextsAt.of_own (l := W) (by rw [HWL.out]; exact ownsRow_setCell_other oW8 (a := ⟨b7, 1, none⟩) (fun e => hW7 (by simpa [Value.ownBlock] using e)) (.slice (some ⟨g8, 0, none⟩) 11 c8)))
    have HB9 := hide (hB8.setCell (p := ⟨b7, 1, none⟩) h7B (.slice (some ⟨g8, 0, none⟩) 11 c8))
    have HBD2 : Hid (([49] :: E.drop 1).length ≤ 11 ∧ W.length ≤ 11 ∧ (∀ x ∈ [49] :: E.drop 1, x.length ≤ 8) ∧ ∀ x ∈ W, x.length ≤ 8) := ⟨by rw [List.length_cons, List.length_drop, HEL.out]; omega, HBD.out.2.1, fun x hx => by
      rcases List.mem_cons.1 hx with rfl | h
      · decide
      · exact HBD.out.2.2.1 x (List.mem_of_mem_drop h), HBD.out.2.2.2⟩
    clear hown8 hgr8 hS8 hR8 oW8 hB8 hn7 HSA HRA HOW HBA HOL HCS HL10
    go_wp2_with fail
    clear p1 pf
    generalize w8.setCell ⟨b7, 1, none⟩ (.slice (some ⟨g8, 0, none⟩) 11 c8) = w9 at *
    have l7x := HS9.out.lt
    have n0 : ∀ p : Near w9.heap.size w9, p.w.cell? ⟨b7, 0, none⟩ = some (.int .i64 (n : Int)) := fun p => by rw [(HS9.out.below p.h l7x).cell 0]; rfl
    have n1 : ∀ p : Near w9.heap.size w9, p.w.cell? ⟨b7, 1, none⟩ = some (.slice (some ⟨g8, 0, none⟩) 11 c8) := fun p => by rw [(HS9.out.below p.h l7x).cell 1]; rfl
    have n2 : ∀ p : Near w9.heap.size w9, p.w.cell? ⟨b7, 2, none⟩ = some (.slice (some ⟨gW, 0, none⟩) 2 cW) := fun p => by rw [(HS9.out.below p.h l7x).cell 2]; rfl
    have hnn := Near.some w9.heap.size w9
    refine wp_region_cut_seq 5 6 (fun w' => ∃ p : Near w9.heap.size w9, w' = p.w) ⟨⟨_, (Below.refl _ _).drew⟩, rfl⟩ (by kernel_rfl) (by kernel_rfl) (by kernel_rfl) (by kernel_rfl) ?_
    simp only [List.take_succ_cons, List.take_zero, List.drop_succ_cons, List.drop_zero]
    repeat (go_big_quiet_step (fail))
    refine wpQuiet_nil ?_
    rintro wz ⟨pq, rfl⟩
    have hqb := pq.h
    obtain ⟨wz, hq⟩ := pq
    simp only at hqb ⊢
    have ZR := hide (HR9.out.below hqb HR9.out.lt)
    have ZE := hide (TE9.out.below hqb (Nat.le_refl _))
    have ZW := hide (TW9.out.below hqb (Nat.le_refl _))
    have ZB := hide (HB9.out.trans (hqb.mono (by have := HR9.out.lt; omega)))
    clear hq hqb n0 n1 n2 hnn
    have z0 : wz.cell? ⟨b4, 0, none⟩ = some (.int .i64 0) := by rw [ZR.out.cell 0]; rfl
    have z1 : wz.cell? ⟨b4, 1, none⟩ = some (.slice none 0 0) := by rw [ZR.out.cell 1]; rfl
    have z2 : wz.cell? ⟨b4, 2, none⟩ = some (.slice none 0 0) := by rw [ZR.out.cell 2]; rfl
    have f0 := ZR.out.free 0
    have f1 := ZR.out.free 1
    have f2 := ZR.out.free 2
    go_wp2_with fail
    have hRF := ((ZR.out.set 0 (.int .i64 (n : Int))).set 1 (.slice (some ⟨g8, 0, none⟩) 11 c8)).set 2 (.slice (some ⟨gW, 0, none⟩) 2 cW)
    have hgF := Cu.grown_trans (Cu.grown_trans (Cu.grown_set wz b4 0 (.int .i64 (n : Int))) (Cu.grown_set _ b4 1 (.slice (some ⟨g8, 0, none⟩) 11 c8))) (Cu.grown_set _ b4 2 (.slice (some ⟨gW, 0, none⟩) 2 cW))
    have hBF := ((ZB.out.setCell (p := ⟨b4, 0, none⟩) hB4 (.int .i64 (n : Int))).setCell (p := ⟨b4, 1, none⟩) hB4 (.slice (some ⟨g8, 0, none⟩) 11 c8)).setCell (p := ⟨b4, 2, none⟩) hB4 (.slice (some ⟨gW, 0, none⟩) 2 cW)
    have hTE := TextsAt.grownB ZE.out hgF (sig_nostring ZR.out)
    have hTW := TextsAt.grownB ZW.out hgF (sig_nostring ZR.out)
    clear z0 z1 z2 f0 f1 f2 hgF ZE ZW ZB ZR
    generalize ((wz.setCell ⟨b4, 0, none⟩ (.int .i64 (n : Int))).setCell ⟨b4, 1, none⟩ (.slice (some ⟨g8, 0, none⟩) 11 c8)).setCell ⟨b4, 2, none⟩ (.slice (some ⟨gW, 0, none⟩) 2 cW) = wF at *
    have x0 : wF.cell? ⟨b4, 0, none⟩ = some (.int .i64 (n : Int)) := by rw [hRF.cell 0]; rfl
    have x1 : wF.cell? ⟨b4, 1, none⟩ = some (.slice (some ⟨g8, 0, none⟩) 11 c8) := by rw [hRF.cell 1]; rfl
    have x2 : wF.cell? ⟨b4, 2, none⟩ = some (.slice (some ⟨gW, 0, none⟩) 2 cW) := by rw [hRF.cell 2]; rfl
    refine bodyPost_ret (v := .tuple #[.int .i64 sd, .string ⟨(t).toArray⟩, .agg #[.int .i64 (n : Int), (.slice (some ⟨g8, 0, none⟩) 11 c8), (.slice (some ⟨gW, 0, none⟩) 2 cW)]]) (by simp [results, Tryd.results69, go_sem, x0, x1, x2]) rfl ?_
    obtain ⟨d1, d2, d3, d4⟩ := HBD2.out
    exact ⟨sd, t, _, (n : Int), ([49] :: E.drop 1), W, by omega, rfl, ⟨⟨_, _, rfl, hTE, hTW⟩, by omega, by omega, fun x hx => Nat.le_trans (d3 x hx) (by omega), fun x hx => Nat.le_trans (d4 x hx) (by omega)⟩, hBF⟩
  · have x0 : ((x : Int) == 0) = false := by simp; omega
    have x1 : ((x : Int) == 1) = false := by simp; omega
    have x2 : ((x : Int) == 2) = false := by simp; omega
    have x3 : ((x : Int) == 3) = false := by simp; omega
    have x4 : ((x : Int) == 4) = false := by simp; omega
    go_wp2_with fail
    clear x0 x1 x2 x3 x4
    have l7x := HS7.out.lt
    have n0 : ∀ p : Near w7.heap.size w7, p.w.cell? ⟨b7, 0, none⟩ = some (.int .i64 (n : Int)) := fun p => by rw [(HS7.out.below p.h l7x).cell 0]; rfl
    have n1 : ∀ p : Near w7.heap.size w7, p.w.cell? ⟨b7, 1, none⟩ = some (.slice (some ⟨gE, 0, none⟩) 11 cE) := fun p => by rw [(HS7.out.below p.h l7x).cell 1]; rfl
    have n2 : ∀ p : Near w7.heap.size w7, p.w.cell? ⟨b7, 2, none⟩ = some (.slice (some ⟨gW, 0, none⟩) 2 cW) := fun p => by rw [(HS7.out.below p.h l7x).cell 2]; rfl
    have hnn := Near.some w7.heap.size w7
    refine wp_region_cut_seq 5 6 (fun w' => ∃ p : Near w7.heap.size w7, w' = p.w) ⟨⟨_, (Below.refl _ _).drew⟩, rfl⟩ (by kernel_rfl) (by kernel_rfl) (by kernel_rfl) (by kernel_rfl) ?_
    simp only [List.take_succ_cons, List.take_zero, List.drop_succ_cons, List.drop_zero]
    repeat (go_big_quiet_step (fail))
    refine wpQuiet_nil ?_
    rintro wz ⟨pq, rfl⟩
    have hqb := pq.h
    obtain ⟨wz, hq⟩ := pq
    simp only at hqb ⊢
    have ZR := hide (HR7.out.below hqb HR7.out.lt)
    have ZE := hide (TE7.out.below hqb (Nat.le_refl _))
    have ZW := hide (TW7.out.below hqb (Nat.le_refl _))
    have ZB := hide (HB7.out.trans (hqb.mono (by have := HR7.out.lt; omega)))
    clear hq hqb n0 n1 n2 hnn
    have z0 : wz.cell? ⟨b4, 0, none⟩ = some (.int .i64 0) := by rw [ZR.out.cell 0]; rfl
    have z1 : wz.cell? ⟨b4, 1, none⟩ = some (.slice none 0 0) := by rw [ZR.out.cell 1]; rfl
    have z2 : wz.cell? ⟨b4, 2, none⟩ = some (.slice none 0 0) := by rw [ZR.out.cell 2]; rfl
    have f0 := ZR.out.free 0
    have f1 := ZR.out.free 1
    have f2 := ZR.out.free 2
    go_wp2_with fail
    have hRF := ((ZR.out.set 0 (.int .i64 (n : Int))).set 1 (.slice (some ⟨gE, 0, none⟩) 11 cE)).set 2 (.slice (some ⟨gW, 0, none⟩) 2 cW)
    have hgF := Cu.grown_trans (Cu.grown_trans (Cu.grown_set wz b4 0 (.int .i64 (n : Int))) (Cu.grown_set _ b4 1 (.slice (some ⟨gE, 0, none⟩) 11 cE))) (Cu.grown_set _ b4 2 (.slice (some ⟨gW, 0, none⟩) 2 cW))
    have hBF := ((ZB.out.setCell (p := ⟨b4, 0, none⟩) hB4 (.int .i64 (n : Int))).setCell (p := ⟨b4, 1, none⟩) hB4 (.slice (some ⟨gE, 0, none⟩) 11 cE)).setCell (p := ⟨b4, 2, none⟩) hB4 (.slice (some ⟨gW, 0, none⟩) 2 cW)
    have hTE := TextsAt.grownB ZE.out hgF (sig_nostring ZR.out)
    have hTW := TextsAt.grownB ZW.out hgF (sig_nostring ZR.out)
    clear z0 z1 z2 f0 f1 f2 hgF ZE ZW ZB ZR
    generalize ((wz.setCell ⟨b4, 0, none⟩ (.int .i64 (n : Int))).setCell ⟨b4, 1, none⟩ (.slice (some ⟨gE, 0, none⟩) 11 cE)).setCell ⟨b4, 2, none⟩ (.slice (some ⟨gW, 0, none⟩) 2 cW) = wF at *
    have x0 : wF.cell? ⟨b4, 0, none⟩ = some (.int .i64 (n : Int)) := by rw [hRF.cell 0]; rfl
    have x1 : wF.cell? ⟨b4, 1, none⟩ = some (.slice (some ⟨gE, 0, none⟩) 11 cE) := by rw [hRF.cell 1]; rfl
    have x2 : wF.cell? ⟨b4, 2, none⟩ = some (.slice (some ⟨gW, 0, none⟩) 2 cW) := by rw [hRF.cell 2]; rfl
    refine bodyPost_ret (v := .tuple #[.int .i64 sd, .string ⟨(t).toArray⟩, .agg #[.int .i64 (n : Int), (.slice (some ⟨gE, 0, none⟩) 11 cE), (.slice (some ⟨gW, 0, none⟩) 2 cW)]]) (by simp [results, Tryd.results69, go_sem, x0, x1, x2]) rfl ?_
    obtain ⟨d1, d2, d3, d4⟩ := HBD.out
    exact ⟨sd, t, _, (n : Int), E, W, by omega, rfl, ⟨⟨_, _, rfl, hTE, hTW⟩, by omega, by omega, fun x hx => Nat.le_trans (d3 x hx) (by omega), fun x hx => Nat.le_trans (d4 x hx) (by omega)⟩, hBF⟩
end Go.Proofs.YtmjpdccfdaajmaaDoor.P4
namespace Go.Proofs.YtmjpdccfdaajmaaDoor.P4
set_option maxRecDepth 8000
open Go.RowKit P1 P3 Cu

set_option maxHeartbeats 2000000 in
theorem drawSigned_calls (w : World) (a : Option Addr) (len cap : Nat) (hc : Cu.Code w.heap.size w (.slice a len cap) len) :
    Calls Tryd.prog 26 #[.slice a len cap] w fun e w' => ∃ (k t : List UInt8) (v : Value) (leaf : Int) (E W : List (List UInt8)), k.length = 8 ∧ t.length ≤ 15 ∧ e = .returned (.tuple #[.string ⟨k.toArray⟩, .string ⟨t.toArray⟩, v]) ∧ SigAt w' v leaf E W ∧ Below w.heap.size w w' := by
  have hbA : Below w.heap.size w (w.alloc (.cells #[.int .i64 0, .slice none 0 0, .slice none 0 0] 29)) := (Below.refl _ _).alloc (Nat.le_refl _) _
  have HR1 := hide (Blk.new w #[.int .i64 0, .slice none 0 0, .slice none 0 0] 29)
  have HC1 := hide ((hc.below (fun k hk => hbA.block k hk)).more hbA.size)
  have HB1 := hide hbA
  clear hc hbA
  go_enter Tryd.func26, Tryd.ntmps26
  go_wp2_with fail
  obtain ⟨b4, hb4⟩ : ∃ b, b = w.heap.size := ⟨_, rfl⟩
  have hB4 : w.heap.size ≤ b4 := by omega
  rw [← hb4] at HR1 ⊢
  clear hb4
  generalize w.alloc (.cells #[.int .i64 0, .slice none 0 0, .slice none 0 0] 29) = w1 at *
  refine (new_calls w1 a len cap HC1.out).mono ?_
  rintro e w2 ⟨rfl, hc2, hb2⟩
  have HC2 := hide hc2
  have HR2 := hide (HR1.out.below hb2 HR1.out.lt)
  have HB2 := hide (HB1.out.trans (hb2.mono HB1.out.size))
  have hz12 := hb2.size
  have hl4 := HR1.out.lt
  clear hc2 hb2 HC1 HR1 HB1
  obtain ⟨gc, hgc⟩ : ∃ gc, gc = w1.heap.size := ⟨_, rfl⟩
  obtain ⟨B1, hB1⟩ : ∃ B1, B1 = w1.heap.size := ⟨_, rfl⟩
  have HC3 : Hid (Cur B1 w2 gc) := by show Cur B1 w2 gc; rw [hgc, hB1]; exact HC2.out
  rw [← hgc]
  have hbB : b4 < B1 := by omega
  have hwB : w.heap.size ≤ B1 := by omega
  clear HC2 hgc hB1
  go_wp2_with fail
  refine (any_calls B1 gc w2 HC3.out).mono ?_
  rintro e w3 ⟨sd, t, v, leaf, E, W, ht, rfl, hv, hb3⟩
  obtain ⟨⟨vE, vW, rfl, tE, tW⟩, d1, d2, d3, d4⟩ := hv
  obtain ⟨aE, cE, hE⟩ := texts_len tE
  obtain ⟨aW, cW, hW⟩ := texts_len tW
  generalize E.length = nE at hE
  generalize W.length = nW at hW
  subst hE hW
  have hbA : Below w3.heap.size w3 (w3.alloc (.cells #[.int .i64 leaf, .slice aE nE cE, .slice aW nW cW] 29)) := (Below.refl _ _).alloc (Nat.le_refl _) _
  have HS4 := hide (Blk.new w3 #[.int .i64 leaf, .slice aE nE cE, .slice aW nW cW] 29)
  have hR3 := HR2.out.below hb3 hbB
  have HR4 := hide (hR3.below hbA hR3.lt)
  have TE4 := hide (tE.below hbA (Nat.le_refl _))
  have TW4 := hide (tW.below hbA (Nat.le_refl _))
  have hb3' := HB2.out.trans (hb3.mono hwB)
  have HB4 := hide (hb3'.trans (hbA.mono hb3'.size))
  have D3 := hide d3
  have D4 := hide d4
  clear tE tW hb3 hbA hR3 hb3' HR2 HB2 HC3 d3 d4
  go_wp2_with fail
  obtain ⟨b7, hb7⟩ : ∃ b, b = w3.heap.size := ⟨_, rfl⟩
  rw [← hb7] at HS4 ⊢
  clear hb7
  generalize w3.alloc (.cells #[.int .i64 leaf, .slice aE nE cE, .slice aW nW cW] 29) = w4 at *
  have l7x := HS4.out.lt
  have n0 : ∀ p : Near w4.heap.size w4, p.w.cell? ⟨b7, 0, none⟩ = some (.int .i64 leaf) := fun p => by rw [(HS4.out.below p.h l7x).cell 0]; rfl
  have n1 : ∀ p : Near w4.heap.size w4, p.w.cell? ⟨b7, 1, none⟩ = some (.slice aE nE cE) := fun p => by rw [(HS4.out.below p.h l7x).cell 1]; rfl
  have n2 : ∀ p : Near w4.heap.size w4, p.w.cell? ⟨b7, 2, none⟩ = some (.slice aW nW cW) := fun p => by rw [(HS4.out.below p.h l7x).cell 2]; rfl
  have hnn := Near.some w4.heap.size w4
  have HK := hide (fun (p : Near w4.heap.size w4) => specKey_calls sd p.w)
  have hkl := key_length sd
  generalize key sd = ks at *
  refine wp_region_cut_seq 6 6 (fun w' => ∃ p : Near w4.heap.size w4, w' = p.w) ⟨⟨_, (Below.refl _ _).drew⟩, rfl⟩ (by kernel_rfl) (by kernel_rfl) (by kernel_rfl) (by kernel_rfl) ?_
  simp only [List.take_succ_cons, List.take_zero, List.drop_succ_cons, List.drop_zero]
  repeat (go_big_quiet_step (fail))
  go_big_quiet_step (exact calls_near (Nat.le_refl _) (HK.out _))
  repeat (go_big_quiet_step (fail))
  refine wpQuiet_nil ?_
  rintro wz ⟨pq, rfl⟩
  have hqb := pq.h
  obtain ⟨wz, hq⟩ := pq
  simp only at hqb ⊢
  have ZR := hide (HR4.out.below hqb HR4.out.lt)
  have ZE := hide (TE4.out.below hqb (Nat.le_refl _))
  have ZW := hide (TW4.out.below hqb (Nat.le_refl _))
  have ZB := hide (HB4.out.trans (hqb.mono HB4.out.size))
  clear hq hqb n0 n1 n2 hnn
  have z0 : wz.cell? ⟨b4, 0, none⟩ = some (.int .i64 0) := by rw [ZR.out.cell 0]; rfl
  have z1 : wz.cell? ⟨b4, 1, none⟩ = some (.slice none 0 0) := by rw [ZR.out.cell 1]; rfl
  have z2 : wz.cell? ⟨b4, 2, none⟩ = some (.slice none 0 0) := by rw [ZR.out.cell 2]; rfl
  have f0 := ZR.out.free 0
  have f1 := ZR.out.free 1
  have f2 := ZR.out.free 2
  go_wp2_with fail
  have hRF := ((ZR.out.set 0 (.int .i64 leaf)).set 1 (.slice aE nE cE)).set 2 (.slice aW nW cW)
  have hgF := Cu.grown_trans (Cu.grown_trans (Cu.grown_set wz b4 0 (.int .i64 leaf)) (Cu.grown_set _ b4 1 (.slice aE nE cE))) (Cu.grown_set _ b4 2 (.slice aW nW cW))
  have hBF := ((ZB.out.setCell (p := ⟨b4, 0, none⟩) hB4 (.int .i64 leaf)).setCell (p := ⟨b4, 1, none⟩) hB4 (.slice aE nE cE)).setCell (p := ⟨b4, 2, none⟩) hB4 (.slice aW nW cW)
  have hTE := TextsAt.grownB ZE.out hgF (sig_nostring ZR.out)
  have hTW := TextsAt.grownB ZW.out hgF (sig_nostring ZR.out)
  clear z0 z1 z2 f0 f1 f2 hgF ZE ZW ZB ZR
  generalize ((wz.setCell ⟨b4, 0, none⟩ (.int .i64 leaf)).setCell ⟨b4, 1, none⟩ (.slice aE nE cE)).setCell ⟨b4, 2, none⟩ (.slice aW nW cW) = wF at *
  have x0 : wF.cell? ⟨b4, 0, none⟩ = some (.int .i64 leaf) := by rw [hRF.cell 0]; rfl
  have x1 : wF.cell? ⟨b4, 1, none⟩ = some (.slice aE nE cE) := by rw [hRF.cell 1]; rfl
  have x2 : wF.cell? ⟨b4, 2, none⟩ = some (.slice aW nW cW) := by rw [hRF.cell 2]; rfl
  refine bodyPost_ret (v := .tuple #[.string ⟨ks.toArray⟩, .string ⟨t.toArray⟩, .agg #[.int .i64 leaf, .slice aE nE cE, .slice aW nW cW]]) (by simp [results, Tryd.results26, go_sem, x0, x1, x2]) rfl ?_
  exact ⟨ks, t, _, leaf, E, W, hkl, ht, rfl, ⟨⟨_, _, rfl, hTE, hTW⟩, d1, d2, D3.out, D4.out⟩, hBF⟩
end Go.Proofs.YtmjpdccfdaajmaaDoor.P4
