/- The draws of texts and places: some text of the length that was asked, some numbers within their bounds; only the cursor is written. -/
import Derived.Test.YtfckfgabeeeccaaCur
import Derived.Test.YtfckfgabeeeccaaKit2
namespace Go.Proofs.Ytfckfgabeeeccaa.Cu
open Go.RowKit P1

theorem cur_below {B C g : Nat} {w w' : World} (h : Cur B w g) (hb : Below C w w') (hg : g < C) : Cur B w' g := by
  obtain ⟨h1, h2, v, n, i, z, h3, h4, h5, h6, h7, h8⟩ := h
  have hc : ∀ o, w'.cell? ⟨g, o, none⟩ = w.cell? ⟨g, o, none⟩ := fun o => hb.cell (p := ⟨g, o, none⟩) hg
  exact ⟨h1, Nat.lt_of_lt_of_le h2 hb.size, v, n, i, z, h3.below (fun k hk => hb.block k (by omega)), h4, by rw [hc]; exact h5, by rw [hc]; exact h6, by rw [hc]; exact h7, fun o => by rw [hb.frozen (p := ⟨g, o, none⟩) hg]; exact h8 o⟩

theorem grown_below {w w0 w' : World} {r : Option Nat} (h : w.grownBy w0 r) (hb : Below w.heap.size w0 w') : w.grownBy w' r :=
  ⟨hb.os.trans h.os, hb.tape.trans h.tape, hb.output.trans h.output, Nat.le_trans h.size hb.size, fun k hk hne => (hb.block k hk).trans (h.block k hk hne)⟩

theorem own_kept {w w' : World} {B e size n g : Nat} {v : Value} {xs : List Value} (h : w.ownsRow B e size v n xs) (hg : w.grownBy w' (some g)) (hlt : g < B) : w'.ownsRow B e size v n xs := by
  refine h.kept hg ?_
  cases hb : v.ownBlock with
  | none => exact .inl rfl
  | some k =>
    right
    intro e
    have h1 : k = g := by simpa using e
    have h2 := (h.lt k hb).1
    omega

/-- What a drawn text leaves. -/
def TextR (B g m : Nat) (w : World) (e : Ending) (w' : World) : Prop := ∃ l : List UInt8, l.length = m ∧ e = .returned (.string ⟨l.toArray⟩) ∧ Cur B w' g ∧ w.grownBy w' (some g)

theorem info_byte : (Try.prog.info? 5).map (fun i => (i.zero, i.size, i.bytes)) = some (some (.int .u8 0), 1, 1) := by kernel_rfl

theorem byte_cast (x : Nat) (hx : x < 256) : ((UInt8.ofNat x).toNat : Int) = (x : Int) := by simp; omega

theorem info_int : (Try.prog.info? 3).map (fun i => (i.zero, i.size, i.bytes)) = some (some (.int .i64 0), 1, 8) := by kernel_rfl

/-- Twelve places below 10000, in memory of their own. -/
def PlacesR (w : World) (e : Ending) (w' : World) : Prop := ∃ v, ∃ l : List Int, l.length = 12 ∧ (∀ x ∈ l, 0 ≤ x ∧ x < 10000) ∧ e = .returned v ∧ w'.ownsRow w.heap.size 3 1 v l.length (cellsI l) ∧ Below w.heap.size w w'
end Go.Proofs.Ytfckfgabeeeccaa.Cu
