/- The draw of a text (l03Some, DrawTextOf): some text of at most 200 bytes; and the laws' own 'turned': a text with one byte turned. -/
import Derived.Test.YtmjpdccfdaajmaaDoorPick
import Derived.Test.YtmjpdccfdaajmaaDoorKit3
import Derived.Laws.BitsAllLaws
namespace Go.Proofs.YtmjpdccfdaajmaaDoor.Cu
set_option maxRecDepth 8000
open Go.RowKit P1

def someLens : List Int := [0, 1, 3, 9, 54, 55, 56, 63, 64, 65, 119, 120, 200]

theorem someLens_le (x : Int) (h : x ∈ someLens) : 0 ≤ x ∧ x ≤ 200 := by
  simp [someLens] at h
  omega

/-- Some text. -/
def SomeR (B g m : Nat) (w : World) (e : Ending) (w' : World) : Prop := ∃ l : List UInt8, l.length ≤ m ∧ e = .returned (.string ⟨l.toArray⟩) ∧ Cur B w' g ∧ w.grownBy w' (some g)

set_option maxHeartbeats 400000 in
theorem some_calls (B g : Nat) (w : World) (hc : Cur B w g) :
    Calls Tryd.prog 46 #[.pointer (some ⟨g, 0, none⟩)] w fun e w' => SomeR B g 200 w e w' := by
  have HC := hide hc
  clear hc
  go_enter Tryd.func46, Tryd.ntmps46
  go_wp2_with fail
  refine (pick_calls B g _ HC.out someLens (by decide) (by decide) 13 rfl _ rfl).mono ?_
  rintro e w1 ⟨x, hx, rfl, hc1, hg1⟩
  have hx2 := someLens_le x hx
  obtain ⟨n, rfl⟩ := Int.eq_ofNat_of_zero_le hx2.1
  have hn : n ≤ 200 := by omega
  have HC1 := hide hc1
  have HG1 := hide hg1
  clear hc1 hg1 hx hx2 HC
  go_wp2_with fail
  refine (text_calls B g _ HC1.out n (by omega)).mono ?_
  rintro e w2 ⟨l, hl, rfl, hc2, hg2⟩
  have HC2 := hide hc2
  have HG2 := hide hg2
  clear hc2 hg2
  go_wp2
  go_ret
  exact ⟨l, by omega, rfl, HC2.out, grown_trans HG1.out HG2.out⟩

set_option maxHeartbeats 400000 in
theorem textOf_calls (w : World) (a : Option Addr) (len cap : Nat) (hc : Code w.heap.size w (.slice a len cap) len) :
    Calls Tryd.prog 14 #[.slice a len cap] w fun e w' => ∃ l : List UInt8, l.length ≤ 200 ∧ e = .returned (.string ⟨l.toArray⟩) ∧ Below w.heap.size w w' := by
  have HC := hide hc
  clear hc
  go_enter Tryd.func14, Tryd.ntmps14
  go_wp2_with fail
  refine (new_calls _ a len cap HC.out).mono ?_
  rintro e w1 ⟨rfl, hc1, hb1⟩
  have HC1 := hide hc1
  have HB1 := hide hb1
  clear hc1 hb1
  go_wp2_with fail
  refine (some_calls _ _ _ HC1.out).mono ?_
  rintro e w2 ⟨l, hl, rfl, hc2, hg2⟩
  have HB2 := hide (HB1.out.trans (below_of_grown hg2 (Nat.le_refl _) HB1.out.size))
  clear hc2 hg2
  go_wp2
  go_ret
  exact ⟨l, hl, rfl, HB2.out⟩

theorem xor_cancel (a b c : Nat) (h : a ^^^ c = b ^^^ c) : a = b := by
  have := congrArg (fun z => z ^^^ c) h
  simpa [Nat.xor_assoc, Nat.xor_self, Nat.xor_zero] using this

/-- A byte turned by a number that is not 0 is another one. -/
theorem turn8 (b : UInt8) (n : Nat) : ∃ c : UInt8, c ≠ b ∧ bits .xor .u8 (b.toNat : Int) (1 + (n : Int) % 255) = (c.toNat : Int) := by
  have hb := b.toNat_lt
  refine ⟨b ^^^ UInt8.ofNat (1 + n % 255), ?_, ?_⟩
  · intro h
    have h1 := congrArg UInt8.toNat h
    rw [UInt8.toNat_xor] at h1
    have h2 : (UInt8.ofNat (1 + n % 255)).toNat = 1 + n % 255 := by simp; omega
    rw [h2] at h1
    have h3 : (1 + n % 255) ^^^ b.toNat = 0 ^^^ b.toNat := by rw [Nat.xor_comm, h1, Nat.zero_xor]
    have := xor_cancel _ _ _ h3
    omega
  · have h := u8_xor_nat b.toNat (1 + n % 255) (by omega) (by omega)
    have h2 : (UInt8.ofNat (1 + n % 255)).toNat = 1 + n % 255 := by simp; omega
    rw [UInt8.toNat_xor, h2, ← h]
    rfl
end Go.Proofs.YtmjpdccfdaajmaaDoor.Cu
