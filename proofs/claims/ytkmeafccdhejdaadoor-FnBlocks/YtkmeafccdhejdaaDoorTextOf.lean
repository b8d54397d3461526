/- The draw of a text (l03Some, DrawTextOf): some text of at most 200 bytes; and the laws' own 'turned': a text with one byte turned. -/
import Derived.Test.YtkmeafccdhejdaaDoorPick
import Derived.Test.YtkmeafccdhejdaaDoorKit3
import Derived.Laws.BitsAllLaws
namespace Go.Proofs.YtkmeafccdhejdaaDoor.Cu
open Go.RowKit P1

def someLens : List Int := [0, 1, 3, 9, 54, 55, 56, 63, 64, 65, 119, 120, 200]

theorem someLens_le (x : Int) (h : x ∈ someLens) : 0 ≤ x ∧ x ≤ 200 := by
  simp [someLens] at h
  omega

/-- Some text. -/
def SomeR (B g m : Nat) (w : World) (e : Ending) (w' : World) : Prop := ∃ l : List UInt8, l.length ≤ m ∧ e = .returned (.string ⟨l.toArray⟩) ∧ Cur B w' g ∧ w.grownBy w' (some g)

set_option maxHeartbeats 400000 in
theorem some_calls (B g : Nat) (w : World) (hc : Cur B w g) :
    Calls Tryd.prog 31 #[.pointer (some ⟨g, 0, none⟩)] w fun e w' => SomeR B g 200 w e w' := by
  have HC := hide hc
  clear hc
  go_enter Tryd.func31, Tryd.ntmps31
  go_wp2_with fail
  refine (pick_calls B g _ HC.out someLens (by decide) (by decide) 13 rfl _ rfl).mono ?_
  rintro e w1 ⟨x, hx, rfl, hc1, hg1⟩
  have hx2 := someLens_le x hx
  obtain ⟨n, rfl⟩ := Int.eq_ofNat_of_zero_le hx2.1
  have hn : n ≤ 200 := by omega
  have HC1 := hide hc1
  have HG1 := hide hg1
  clear hc1 hg1 hx hx2 HC
  go_wp2_with fail
  refine (text_calls B g _ HC1.out n (by omega)).mono ?_
  rintro e w2 ⟨l, hl, rfl, hc2, hg2⟩
  have HC2 := hide hc2
  have HG2 := hide hg2
  clear hc2 hg2
  go_wp2
  go_ret
  exact ⟨l, by omega, rfl, HC2.out, grown_trans HG1.out HG2.out⟩

set_option maxHeartbeats 400000 in
theorem textOf_calls (w : World) (a : Option Addr) (len cap : Nat) (hc : Code w.heap.size w (.slice a len cap) len) :
    Calls Tryd.prog 11 #[.slice a len cap] w fun e w' => ∃ l : List UInt8, l.length ≤ 200 ∧ e = .returned (.string ⟨l.toArray⟩) ∧ Below w.heap.size w w' := by
  have HC := hide hc
  clear hc
  go_enter Tryd.func11, Tryd.ntmps11
  go_wp2_with fail
  refine (new_calls _ a len cap HC.out).mono ?_
  rintro e w1 ⟨rfl, hc1, hb1⟩
  have HC1 := hide hc1
  have HB1 := hide hb1
  clear hc1 hb1
  go_wp2_with fail
  refine (some_calls _ _ _ HC1.out).mono ?_
  rintro e w2 ⟨l, hl, rfl, hc2, hg2⟩
  have HB2 := hide (HB1.out.trans (below_of_grown hg2 (Nat.le_refl _) HB1.out.size))
  clear hc2 hg2
  go_wp2
  go_ret
  exact ⟨l, hl, rfl, HB2.out⟩

theorem xor_cancel (a b c : Nat) (h : a ^^^ c = b ^^^ c) : a = b := by
  have := congrArg (fun z => z ^^^ c) h
  simpa [Nat.xor_assoc, Nat.xor_self, Nat.xor_zero] using this

/-- A byte turned by a number that is not 0 is another one. -/
theorem turn8 (b : UInt8) (n : Nat) : ∃ c : UInt8, c ≠ b ∧ bits .xor .u8 (b.toNat : Int) (1 + (n : Int) % 255) = (c.toNat : Int) := by
  have hb := b.toNat_lt
  refine ⟨b ^^^ UInt8.ofNat (1 + n % 255), ?_, ?_⟩
  · intro h
    have h1 := congrArg UInt8.toNat h
    rw [UInt8.toNat_xor] at h1
    have h2 : (UInt8.ofNat (1 + n % 255)).toNat = 1 + n % 255 := by simp; omega
    rw [h2] at h1
    have h3 : (1 + n % 255) ^^^ b.toNat = 0 ^^^ b.toNat := by rw [Nat.xor_comm, h1, Nat.zero_xor]
    have := xor_cancel _ _ _ h3
    omega
  · have h := u8_xor_nat b.toNat (1 + n % 255) (by omega) (by omega)
    have h2 : (UInt8.ofNat (1 + n % 255)).toNat = 1 + n % 255 := by simp; omega
    rw [UInt8.toNat_xor, h2, ← h]
    rfl

set_option maxHeartbeats 1000000 in
theorem turned_calls (w : World) (t : List UInt8) (ht0 : 0 < t.length) (ht : t.length ≤ 1048576) (g cap len : Nat) (n0 n1 : Nat) (hg : g < w.heap.size) (h2 : 2 ≤ len) (q0 : w.cell? ⟨g, 0, none⟩ = some (.int .i64 (n0 : Int))) (q1 : w.cell? ⟨g, 1, none⟩ = some (.int .i64 (n1 : Int))) :
    Calls Tryd.prog 21 #[.string ⟨t.toArray⟩, .slice (some ⟨g, 0, none⟩) len cap] w fun e w' => ∃ c : UInt8, ∃ k, ∃ hk : k < t.length, c ≠ t[k] ∧ e = .returned (.string ⟨(t.set k c).toArray⟩) ∧ Below w.heap.size w w' := by
  obtain ⟨c, w1, hrun, hsz, hb, hcell, hfz⟩ := bytes_of (P := Tryd.prog) w 9 22 5 t Tryd.underlying9 Tryd.underlying22 Tryd.underlying5
  have hklt : n0 % t.length < t.length := Nat.mod_lt _ ht0
  obtain ⟨k, hk⟩ : ∃ k : Nat, k = n0 % t.length := ⟨_, rfl⟩
  rw [← hk] at hklt
  have hke : (n0 : Int) % (t.length : Int) = (k : Int) := by rw [hk]; rfl
  have p0 : w1.cell? ⟨g, 0, none⟩ = some (.int .i64 (n0 : Int)) := by rw [hb.cell (p := ⟨g, 0, none⟩) hg]; exact q0
  have p1 : w1.cell? ⟨g, 1, none⟩ = some (.int .i64 (n1 : Int)) := by rw [hb.cell (p := ⟨g, 1, none⟩) hg]; exact q1
  have qk := hcell k hklt
  have fk := hfz k hklt
  obtain ⟨c', hne, hc'⟩ := turn8 t[k] n1
  have HB := hide hb
  have HCe := hide hcell
  have HNE := hide hne
  have HCX := hide hc'
  obtain ⟨N, hN⟩ : ∃ N, N = w.heap.size := ⟨_, rfl⟩
  have HN := hide hN
  rw [← hN] at hrun qk fk hg hsz
  clear hb hcell hfz hne hc' q0 q1 hk hN
  go_enter Tryd.func21, Tryd.ntmps21
  go_wp2
  go_region
  rw [HCX.out]
  obtain ⟨w7, hw7⟩ : ∃ w7 : World, w7 = (w1.setCell ⟨N, k, none⟩ (.int .u8 (c'.toNat : Int))).drew := ⟨_, rfl⟩
  rw [← hw7]
  have hb7 : Below w.heap.size w w7 := by rw [hw7]; exact (HB.out.setCell (by show w.heap.size ≤ N; rw [HN.out]; exact Nat.le_refl _) _).drew
  have hrow : ∀ j (hj : j < (t.set k c').length), w7.cell? ((⟨N, 0, none⟩ : Addr).add j) = some (.int .u8 ((t.set k c')[j].toNat : Int)) := by
    intro j hj
    have hj' : j < t.length := by simpa using hj
    have hcj := HCe.out j hj'
    rw [← HN.out] at hcj
    rw [Go.WideShapes.add_plain, Nat.zero_add, hw7]
    by_cases hjk : k = j
    · subst hjk
      simp [go_sem, hcj]
    · rw [List.getElem_set_ne hjk]
      simp [go_sem, hcj]
  have hconv := run_convert_bytes_back (P := Tryd.prog) w7 22 9 5 ⟨N, 0, none⟩ c (t.set k c') Tryd.underlying22 Tryd.underlying5 Tryd.underlying9 hrow
  rw [List.length_set] at hconv
  have HB7 := hide hb7
  obtain ⟨t', Et⟩ : ∃ t', Hid (t' = t.set k c') := ⟨_, rfl⟩
  rw [← Et.out] at hconv
  clear hw7 hb7 hrow qk fk p0 p1 hrun hke HCX HCe
  go_wp2
  go_ret
  exact ⟨c', k, hklt, HNE.out, by rw [← Et.out]; rfl, HB7.out⟩
end Go.Proofs.YtkmeafccdhejdaaDoor.Cu
