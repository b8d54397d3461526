/- The draws of texts and places: some text of the length that was asked, some numbers within their bounds; only the cursor is written.
The draws that pick out of a written list: some member of it; only the cursor is written.
The draws of chapter 4: some text of four, some numbers; only the cursor is written. -/
import Derived.Test.YteladljgnbfcnaaGreatZD
import Derived.Test.YteladljgnbfcnaaGreatZA
namespace Go.Proofs.YteladljgnbfcnaaGreat.Cu
set_option maxRecDepth 8000
open Go.RowKit P1

theorem cur_below {B C g : Nat} {w w' : World} (h : Cur B w g) (hb : Below C w w') (hg : g < C) : Cur B w' g := by
  obtain ⟨h1, h2, v, n, i, z, h3, h4, h5, h6, h7, h8⟩ := h
  have hc : ∀ o, w'.cell? ⟨g, o, none⟩ = w.cell? ⟨g, o, none⟩ := fun o => hb.cell (p := ⟨g, o, none⟩) hg
  exact ⟨h1, Nat.lt_of_lt_of_le h2 hb.size, v, n, i, z, h3.below (fun k hk => hb.block k (by omega)), h4, by rw [hc]; exact h5, by rw [hc]; exact h6, by rw [hc]; exact h7, fun o => by rw [hb.frozen (p := ⟨g, o, none⟩) hg]; exact h8 o⟩

theorem big_calls (w : World) (a : Option Addr) (len cap : Nat) :
    Calls Tryz.prog 4 #[.slice a len cap] w fun e w' => e = .returned (.bool (decide (1048576 < (len : Int)))) ∧ w' = w := by
  go_enter Tryz.func4, Tryz.ntmps4
  go_wp2
  go_ret
  exact ⟨rfl, rfl⟩
end Go.Proofs.YteladljgnbfcnaaGreat.Cu
namespace Go.Proofs.YteladljgnbfcnaaGreat.Cu
open Go.RowKit P1

end Go.Proofs.YteladljgnbfcnaaGreat.Cu
namespace Go.Proofs.YteladljgnbfcnaaGreat.Cu
set_option maxRecDepth 8000
open Go.RowKit P1

/-- What a pick of a text leaves. -/
def PickS (B g : Nat) (l : List (List UInt8)) (w : World) (e : Ending) (w' : World) : Prop := ∃ x, x ∈ l ∧ e = .returned (.string ⟨x.toArray⟩) ∧ Cur B w' g ∧ w.grownBy w' (some g)

end Go.Proofs.YteladljgnbfcnaaGreat.Cu
