/- The draws of texts and places: some text of the length that was asked, some numbers within their bounds; only the cursor is written.
The draws that pick out of a written list: some member of it; only the cursor is written.
The draws of chapter 4: some text of four, some numbers; only the cursor is written. -/
import Derived.Test.YteladljgnbfcnaaGreatDoorZD
import Derived.Test.YteladljgnbfcnaaGreatDoorZA
namespace Go.Proofs.YteladljgnbfcnaaGreatDoor.Cu
set_option maxRecDepth 8000
open Go.RowKit P1

theorem cur_below {B C g : Nat} {w w' : World} (h : Cur B w g) (hb : Below C w w') (hg : g < C) : Cur B w' g := by
  obtain ⟨h1, h2, v, n, i, z, h3, h4, h5, h6, h7, h8⟩ := h
  have hc : ∀ o, w'.cell? ⟨g, o, none⟩ = w.cell? ⟨g, o, none⟩ := fun o => hb.cell (p := ⟨g, o, none⟩) hg
  exact ⟨h1, Nat.lt_of_lt_of_le h2 hb.size, v, n, i, z, h3.below (fun k hk => hb.block k (by omega)), h4, by rw [hc]; exact h5, by rw [hc]; exact h6, by rw [hc]; exact h7, fun o => by rw [hb.frozen (p := ⟨g, o, none⟩) hg]; exact h8 o⟩

theorem own_kept {w w' : World} {B e size n g : Nat} {v : Value} {xs : List Value} (h : w.ownsRow B e size v n xs) (hg : w.grownBy w' (some g)) (hlt : g < B) : w'.ownsRow B e size v n xs := by
  refine h.kept hg ?_
  cases hb : v.ownBlock with
  | none => exact .inl rfl
  | some k =>
    right
    intro e
    have h1 : k = g := by simpa using e
    have h2 := (h.lt k hb).1
    omega

theorem info_int : (Tryz.prog.info? 3).map (fun i => (i.zero, i.size, i.bytes)) = some (some (.int .i64 0), 1, 8) := by kernel_rfl

/-- Twelve places below 10000, in memory of their own. -/
def PlacesR (w : World) (e : Ending) (w' : World) : Prop := ∃ v, ∃ l : List Int, l.length = 12 ∧ (∀ x ∈ l, 0 ≤ x ∧ x < 10000) ∧ e = .returned v ∧ w'.ownsRow w.heap.size 3 1 v l.length (cellsI l) ∧ Below w.heap.size w w'

set_option maxHeartbeats 400000 in
theorem places_calls (w : World) (a : Option Addr) (len cap : Nat) (hc : Code w.heap.size w (.slice a len cap) len) :
    Calls Tryz.prog 7 #[.slice a len cap] w fun e w' => PlacesR w e w' := by
  have Hc := hide hc
  clear hc
  obtain ⟨i0, hi, hz0, hz1, hz2⟩ := info_parts info_int
  go_enter Tryz.func7, Tryz.ntmps7
  go_wp2_with fail
  refine (new_calls _ a len cap Hc.out).mono ?_
  rintro e w1 ⟨rfl, hc1, hb1⟩
  have Hc1 := hide hc1
  have Hb1 := hide hb1
  clear hc1 hb1
  go_wp2_with fail
  refine (byte_calls _ _ _ Hc1.out).mono ?_
  rintro e w2 ⟨x, hx, rfl, hc2, hg2⟩
  have hlt := hc2.2.1
  have Hc2 := hide hc2
  have Hb2 := hide (Hb1.out.trans (below_of_grown hg2 (Nat.le_refl _) Hb1.out.size))
  clear hc2 hg2
  go_wp2
  go_loopw [4, 5] (fun v i wr => ∃ l : List Int, l.length ≤ 12 ∧ i = .int .i64 l.length ∧ (∀ x ∈ l, 0 ≤ x ∧ x < 10000) ∧ wr.ownsRow w2.heap.size 3 1 v l.length (cellsI l) ∧ Cur w.heap.size wr w.heap.size ∧ Below w.heap.size w wr ∧ w2.heap.size ≤ wr.heap.size) (fun _ i _ => 12 - (intOf i).toNat)
  case atStart =>
    have hb : Below w2.heap.size w2 (w2.alloc (.cells #[] 3)) := (Below.refl _ _).alloc (Nat.le_refl _) _
    exact ⟨[], Nat.zero_le _, rfl, by simp, World.ownsRow_lit _ _ 0 (Nat.le_refl _) (by decide) rfl, cur_below Hc2.out hb hlt, Hb2.out.trans (hb.mono (Nat.le_of_lt hlt)), hb.size⟩
  case round =>
    obtain ⟨l, hl, rfl, hall, hown, hcur, hbel, hsz⟩ := hrel
    have Hown := hide hown
    have Hcur := hide hcur
    have Hbel := hide hbel
    have Hall := hide hall
    clear hown hcur hbel hall
    by_cases h12 : l.length < 12
    · go_wp2_with fail
      refine (below_calls _ _ _ Hcur.out 10000 (by decide) (by decide)).mono ?_
      rintro e w3 ⟨y, hy, rfl, hc3, hg3⟩
      have Hc3 := hide hc3
      have Hown3 := hide (own_kept Hown.out hg3 hlt)
      have Hb3 := hide (Hbel.out.trans (below_of_grown hg3 (Nat.le_refl _) Hbel.out.size))
      have hsz3 : w2.heap.size ≤ w3.heap.size := Nat.le_trans hsz hg3.size
      clear hc3 hg3
      go_wp2_with (at_builtin; refine wpList_append_one (cs := #[.int .i64 y]) (Below.refl w2.heap.size _) hsz3 rfl (.tmp 15) (.tmp 18) 28 rfl 3 i0 (.int .i64 0) 1 8 Tryz.underlying28 hi hz0 hz1 hz2 rfl (by decide) rfl (by simp [Value.oneCell']) _ _ _ rfl Hown3.out 1 rfl (by omega) (by omega) ?_)
      intro v' w4 hown4 hbel4
      have Hown4 := hide hown4
      have Hbel4 := hide hbel4
      have hsz4 := hbel4.size
      clear hown4 hbel4
      go_wp2
      go_roundw
      case rel =>
        refine ⟨l ++ [(y : Int)], by simp; omega, by simp, ?_, own_snocI Hown4.out, cur_below Hc3.out Hbel4.out hlt, Hb3.out.trans (Hbel4.out.mono (Nat.le_of_lt hlt)), by omega⟩
        intro x hx
        rcases List.mem_append.1 hx with h | h
        · exact Hall.out x h
        · simp at h; omega
      case measure => simp [intOf]; omega
    · go_wp2
      go_ret
      exact ⟨_, l, by omega, Hall.out, rfl, own_mono Hown.out (Nat.le_of_lt hlt), Hbel.out⟩

theorem big_calls (w : World) (a : Option Addr) (len cap : Nat) :
    Calls Tryz.prog 5 #[.slice a len cap] w fun e w' => e = .returned (.bool (decide (1048576 < (len : Int)))) ∧ w' = w := by
  go_enter Tryz.func5, Tryz.ntmps5
  go_wp2
  go_ret
  exact ⟨rfl, rfl⟩
end Go.Proofs.YteladljgnbfcnaaGreatDoor.Cu
namespace Go.Proofs.YteladljgnbfcnaaGreatDoor.Cu
open Go.RowKit P1

end Go.Proofs.YteladljgnbfcnaaGreatDoor.Cu
namespace Go.Proofs.YteladljgnbfcnaaGreatDoor.Cu
set_option maxRecDepth 8000
open Go.RowKit P1

/-- What a pick of a text leaves. -/
def PickS (B g : Nat) (l : List (List UInt8)) (w : World) (e : Ending) (w' : World) : Prop := ∃ x, x ∈ l ∧ e = .returned (.string ⟨x.toArray⟩) ∧ Cur B w' g ∧ w.grownBy w' (some g)

end Go.Proofs.YteladljgnbfcnaaGreatDoor.Cu
