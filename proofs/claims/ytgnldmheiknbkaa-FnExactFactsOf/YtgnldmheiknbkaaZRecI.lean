/- The laws' own helpers over slices of ints, in the form of those over slices of structs; condition: at most 10485760 of them. -/
import Derived.Test.YtgnldmheiknbkaaZN
import Derived.Test.YtgnldmheiknbkaaZD
namespace Go.Proofs.Ytgnldmheiknbkaa.P6
open Go.RowKit P1 P5 Rc

theorem ints_of_row {w : World} {v : Value} {l : List Int} (h : RowAt inR w v l) : IntsAt w v l := by
  obtain ⟨a, cap, h1, h2⟩ := h.open_
  refine ⟨a, cap, h1, fun j hj => ?_⟩
  obtain ⟨g, off, h3, h4, h5⟩ := h2 j hj
  refine ⟨g, off, h3, h4, ?_⟩
  have := h5 0 (by decide)
  simpa [inR] using this

theorem eqIntR_calls (w : World) (v u : Value) (l : List Int) (hv : RowAt inR w v l) (hu : RowAt inR w u l) (hl : l.length ≤ 1073741824) :
    Calls Try.prog 43 #[v, u] w fun e w' => e = .returned (.bool true) ∧ Below w.heap.size w w' := by
  refine (eqInts_calls w v u l l (ints_of_row hv) (ints_of_row hu) hl hl).mono ?_
  rintro e w' ⟨rfl, n, rfl⟩
  exact ⟨by simp, below_drewN (Below.refl _ _) n⟩

theorem sameIntR_calls (w : World) (v u : Value) (l : List Int) (hv : RowAt inR w v l) (hu : RowAt inR w u l) (hl : l.length ≤ 1073741824) :
    Calls Try.prog 27 #[v, u] w fun e w' => e = .returned (.bool true) ∧ Below w.heap.size w w' := by
  refine (sameInts_calls w v u l l (ints_of_row hv) (ints_of_row hu) hl hl).mono ?_
  rintro e w' ⟨rfl, n, rfl⟩
  exact ⟨by simp, below_drewN (Below.refl _ _) n⟩

theorem markIntR_calls (w : World) (B : Nat) (v : Value) (m : Nat) (F : List Int) (k : Nat) (hF : F.length = m * 1) (hv : w.ownsRow B 3 1 v m (cellsI F)) (hk : k ≤ 1073741824) (hn : m ≤ 10485760) :
    Calls Try.prog 44 #[v, .int .i64 k] w fun e w' => e = .returned (.int .i64 ((k + m * 1 : Nat) : Int)) ∧ w'.ownsRow B 3 1 v m (cellsI (marks k (m * 1))) ∧ w.grownBy w' v.ownBlock := by
  rw [Nat.mul_one] at hF ⊢
  subst hF
  exact markInts_calls w B v F k hv hk (by omega)

theorem heldIntR_calls (w : World) (B : Nat) (v : Value) (m k : Nat) (hv : w.ownsRow B 3 1 v m (cellsI (marks k (m * 1)))) (hk : k ≤ 1073741824) (hn : m ≤ 10485760) :
    Calls Try.prog 45 #[v, .int .i64 k] w fun e w' => e = .returned (.int .i64 ((k + m * 1 : Nat) : Int)) ∧ w' = w := by
  rw [Nat.mul_one] at hv ⊢
  refine heldInts_calls w v k m (IntsAt.of_own (B := B) (e := 3) ?_) hk (by omega)
  rw [marks_length]
  exact hv
end Go.Proofs.Ytgnldmheiknbkaa.P6
