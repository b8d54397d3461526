/- The draws of texts and places: some text of the length that was asked, some numbers within their bounds; only the cursor is written. -/
import Derived.Test.YtknlhejpcjpeeaaDoorCur
import Derived.Test.YtknlhejpcjpeeaaDoorKit2
namespace Go.Proofs.YtknlhejpcjpeeaaDoor.Cu
set_option maxRecDepth 8000
open Go.RowKit P1

theorem cur_below {B C g : Nat} {w w' : World} (h : Cur B w g) (hb : Below C w w') (hg : g < C) : Cur B w' g := by
  obtain ⟨h1, h2, v, n, i, z, h3, h4, h5, h6, h7, h8⟩ := h
  have hc : ∀ o, w'.cell? ⟨g, o, none⟩ = w.cell? ⟨g, o, none⟩ := fun o => hb.cell (p := ⟨g, o, none⟩) hg
  exact ⟨h1, Nat.lt_of_lt_of_le h2 hb.size, v, n, i, z, h3.below (fun k hk => hb.block k (by omega)), h4, by rw [hc]; exact h5, by rw [hc]; exact h6, by rw [hc]; exact h7, fun o => by rw [hb.frozen (p := ⟨g, o, none⟩) hg]; exact h8 o⟩

theorem grown_below {w w0 w' : World} {r : Option Nat} (h : w.grownBy w0 r) (hb : Below w.heap.size w0 w') : w.grownBy w' r :=
  ⟨hb.os.trans h.os, hb.tape.trans h.tape, hb.output.trans h.output, Nat.le_trans h.size hb.size, fun k hk hne => (hb.block k hk).trans (h.block k hk hne)⟩

theorem own_kept {w w' : World} {B e size n g : Nat} {v : Value} {xs : List Value} (h : w.ownsRow B e size v n xs) (hg : w.grownBy w' (some g)) (hlt : g < B) : w'.ownsRow B e size v n xs := by
  refine h.kept hg ?_
  cases hb : v.ownBlock with
  | none => exact .inl rfl
  | some k =>
    right
    intro e
    have h1 : k = g := by simpa using e
    have h2 := (h.lt k hb).1
    omega

/-- What a drawn text leaves. -/
def TextR (B g m : Nat) (w : World) (e : Ending) (w' : World) : Prop := ∃ l : List UInt8, l.length = m ∧ e = .returned (.string ⟨l.toArray⟩) ∧ Cur B w' g ∧ w.grownBy w' (some g)

theorem info_byte : (Tryd.prog.info? 5).map (fun i => (i.zero, i.size, i.bytes)) = some (some (.int .u8 0), 1, 1) := by kernel_rfl

theorem byte_cast (x : Nat) (hx : x < 256) : ((UInt8.ofNat x).toNat : Int) = (x : Int) := by simp; omega

set_option maxHeartbeats 400000 in
theorem text_calls (B g : Nat) (w : World) (hc : Cur B w g) (n : Nat) (hn : n ≤ 5000) :
    Calls Tryd.prog 22 #[.pointer (some ⟨g, 0, none⟩), .int .i64 n] w fun e w' => TextR B g n w e w' := by
  have hg := hc.2.1
  have Hc := hide hc
  clear hc
  obtain ⟨i0, hi, hz0, hz1, hz2⟩ := info_parts info_byte
  go_enter Tryd.func22, Tryd.ntmps22
  go_wp2
  go_loopw [5, 6] (fun v i wr => ∃ pre : List UInt8, pre.length ≤ n ∧ i = .int .i64 pre.length ∧ wr.ownsRow w.heap.size 5 1 v pre.length (cellsB pre) ∧ Cur B wr g ∧ w.grownBy wr (some g)) (fun _ i _ => n - (intOf i).toNat)
  case atStart =>
    have hb : Below w.heap.size w (w.alloc (.cells #[] 5)) := (Below.refl _ _).alloc (Nat.le_refl _) _
    exact ⟨[], Nat.zero_le _, rfl, World.ownsRow_lit _ _ 0 (Nat.le_refl _) (by decide) rfl, cur_below Hc.out hb hg, grown_below (grown_refl _ _) hb⟩
  case round =>
    obtain ⟨pre, hpre, rfl, hown, hcur, hgr⟩ := hrel
    have Hown := hide hown
    have Hcur := hide hcur
    have Hgr := hide hgr
    have hsz := hgr.size
    clear hown hcur hgr
    by_cases hlt : pre.length < n
    · go_wp2_with fail
      refine (byte_calls B g _ Hcur.out).mono ?_
      rintro e w1 ⟨x, hx, rfl, hc1, hg1⟩
      have Hc1 := hide hc1
      have Hg1 := hide hg1
      have hsz1 := hg1.size
      have Hown1 := hide (own_kept Hown.out hg1 hg)
      clear hc1 hg1
      go_wp2_with (at_builtin; refine wpList_append_byte (Below.refl w.heap.size _) (by omega) rfl (.tmp 15) (.tmp 19) 22 rfl 5 i0 Tryd.underlying22 hi hz0 hz1 hz2 _ _ _ rfl Hown1.out 1 rfl (by omega) ?_)
      intro v' w2 hown2 hbel2
      have Hown2 := hide hown2
      have Hbel2 := hide hbel2
      clear hown2 hbel2
      go_wp2
      go_roundw
      case rel => exact ⟨pre ++ [UInt8.ofNat x], by simp; omega, by simp, own_snoc Hown2.out _ (byte_cast x hx).symm, cur_below Hc1.out Hbel2.out hg, grown_below (grown_trans Hgr.out Hg1.out) Hbel2.out⟩
      case measure => simp [intOf]; omega
    · have hcv := own_text_any Hown.out 22 9 Tryd.underlying22 Tryd.underlying5 Tryd.underlying9
      go_wp2
      go_ret
      exact ⟨pre, by omega, rfl, Hcur.out, Hgr.out⟩

theorem info_int : (Tryd.prog.info? 3).map (fun i => (i.zero, i.size, i.bytes)) = some (some (.int .i64 0), 1, 8) := by kernel_rfl

/-- Twelve places below 10000, in memory of their own. -/
def PlacesR (w : World) (e : Ending) (w' : World) : Prop := ∃ v, ∃ l : List Int, l.length = 12 ∧ (∀ x ∈ l, 0 ≤ x ∧ x < 10000) ∧ e = .returned v ∧ w'.ownsRow w.heap.size 3 1 v l.length (cellsI l) ∧ Below w.heap.size w w'

theorem big_calls (w : World) (a : Option Addr) (len cap : Nat) :
    Calls Tryd.prog 4 #[.slice a len cap] w fun e w' => e = .returned (.bool (decide (1048576 < (len : Int)))) ∧ w' = w := by
  go_enter Tryd.func4, Tryd.ntmps4
  go_wp2
  go_ret
  exact ⟨rfl, rfl⟩
end Go.Proofs.YtknlhejpcjpeeaaDoor.Cu
