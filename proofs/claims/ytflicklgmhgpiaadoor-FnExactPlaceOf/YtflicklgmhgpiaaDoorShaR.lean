/- Numbers of an array that is gone round: where the i-th stands behind so many turns; a block's words that take the place of the oldest; no condition. -/
import Derived.Test.YtflicklgmhgpiaaDoorShaP
import Derived.Test.YtflicklgmhgpiaaDoorArr
namespace Go.Proofs.YtflicklgmhgpiaaDoor.P3
open P1

/-- Where the i-th number stands behind t turns. -/
def pl (t i : Nat) : Nat := (i + 64 - t) % 8

theorem pl_lt (t i : Nat) : pl t i < 8 := Nat.mod_lt _ (by decide)

/-- The array xs, behind t turns, is the state s. -/
structure Rnd (t : Nat) (xs : List Nat) (s : St) : Prop where
  len : xs.length = 8
  a : xs.getD (pl t 0) 0 = s.a
  b : xs.getD (pl t 1) 0 = s.b
  c : xs.getD (pl t 2) 0 = s.c
  d : xs.getD (pl t 3) 0 = s.d
  e : xs.getD (pl t 4) 0 = s.e
  f : xs.getD (pl t 5) 0 = s.f
  g : xs.getD (pl t 6) 0 = s.g
  h : xs.getD (pl t 7) 0 = s.h

theorem Rnd.first (s : St) : Rnd 0 s.list s := ⟨rfl, rfl, rfl, rfl, rfl, rfl, rfl, rfl, rfl⟩

/-- One turn: two numbers are new. -/
theorem Rnd.next {t : Nat} {xs : List Nat} {s : St} (ht : t < 64) (r : Rnd t xs s) (k w : Nat) :
    Rnd (t + 1) ((xs.set (pl t 3) (round1 s k w).e).set (pl t 7) (round1 s k w).a) (round1 s k w) := by
  have hl := r.len
  have e0 : pl (t + 1) 0 = pl t 7 := by unfold pl; omega
  have e1 : pl (t + 1) 1 = pl t 0 := by unfold pl; omega
  have e2 : pl (t + 1) 2 = pl t 1 := by unfold pl; omega
  have e3 : pl (t + 1) 3 = pl t 2 := by unfold pl; omega
  have e4 : pl (t + 1) 4 = pl t 3 := by unfold pl; omega
  have e5 : pl (t + 1) 5 = pl t 4 := by unfold pl; omega
  have e6 : pl (t + 1) 6 = pl t 5 := by unfold pl; omega
  have e7 : pl (t + 1) 7 = pl t 6 := by unfold pl; omega
  have p3 := pl_lt t 3
  have p7 := pl_lt t 7
  refine ⟨by simpa using hl, ?_, ?_, ?_, ?_, ?_, ?_, ?_, ?_⟩
  · rw [e0, P1.getD_set_eq _ _ _ (by simpa using (by omega : pl t 7 < xs.length))]
  · rw [e1, P1.getD_set_ne _ _ _ _ (by unfold pl; omega), P1.getD_set_ne _ _ _ _ (by unfold pl; omega)]; exact r.a
  · rw [e2, P1.getD_set_ne _ _ _ _ (by unfold pl; omega), P1.getD_set_ne _ _ _ _ (by unfold pl; omega)]; exact r.b
  · rw [e3, P1.getD_set_ne _ _ _ _ (by unfold pl; omega), P1.getD_set_ne _ _ _ _ (by unfold pl; omega)]; exact r.c
  · rw [e4, P1.getD_set_ne _ _ _ _ (by unfold pl; omega), P1.getD_set_eq _ _ _ (by omega)]
  · rw [e5, P1.getD_set_ne _ _ _ _ (by unfold pl; omega), P1.getD_set_ne _ _ _ _ (by unfold pl; omega)]; exact r.e
  · rw [e6, P1.getD_set_ne _ _ _ _ (by unfold pl; omega), P1.getD_set_ne _ _ _ _ (by unfold pl; omega)]; exact r.f
  · rw [e7, P1.getD_set_ne _ _ _ _ (by unfold pl; omega), P1.getD_set_ne _ _ _ _ (by unfold pl; omega)]; exact r.g

/-- Behind all turns they stand as they stood. -/
theorem Rnd.last {xs : List Nat} {s : St} (r : Rnd 64 xs s) : xs = s.list := by
  obtain ⟨hl, h0, h1, h2, h3, h4, h5, h6, h7⟩ := r
  match xs, hl with
  | [x0, x1, x2, x3, x4, x5, x6, x7], _ =>
    have q : ∀ i, i < 8 → pl 64 i = i := by intro i hi; unfold pl; omega
    rw [q 0 (by decide)] at h0
    rw [q 1 (by decide)] at h1
    rw [q 2 (by decide)] at h2
    rw [q 3 (by decide)] at h3
    rw [q 4 (by decide)] at h4
    rw [q 5 (by decide)] at h5
    rw [q 6 (by decide)] at h6
    rw [q 7 (by decide)] at h7
    simp only [List.getD_cons_zero, List.getD_cons_succ] at h0 h1 h2 h3 h4 h5 h6 h7
    simp only [St.list]
    rw [h0, h1, h2, h3, h4, h5, h6, h7]

/-- The array ws holds the words t - 16 .. t - 1 of a schedule, each at its number's rest (of the first sixteen, all). -/
structure Wnd (S : Nat → Nat) (t : Nat) (ws : List Nat) : Prop where
  len : ws.length = 16
  at_ : ∀ j, j < t → t ≤ j + 16 → ws.getD (j % 16) 0 = S j

theorem Wnd.next {S : Nat → Nat} {t : Nat} {ws : List Nat} (h : Wnd S t ws) : Wnd S (t + 1) (ws.set (t % 16) (S t)) := by
  have hl := h.len
  refine ⟨by simpa using hl, fun j h1 h2 => ?_⟩
  by_cases e : j = t
  · subst e; exact P1.getD_set_eq _ _ _ (by rw [hl]; exact Nat.mod_lt _ (by decide))
  · rw [P1.getD_set_ne _ _ _ _ (by omega)]; exact h.at_ j (by omega) (by omega)

/-- The first m bytes of the j-th word. -/
def pw (b : List UInt8) (j : Nat) : Nat → Nat
  | 0 => 0
  | m + 1 => pw b j m * 256 + (b.getD (4 * j + m) 0).toNat

theorem pw_word (b : List UInt8) (j : Nat) : pw b j 4 = word b j := by
  simp only [pw, word, Nat.add_zero]
  omega

theorem pw_lt (b : List UInt8) (j m : Nat) : pw b j m < 256 ^ m := by
  induction m with
  | zero => simp [pw]
  | succ m ih =>
    have h0 := (b.getD (4 * j + m) 0).toNat_lt
    simp only [pw]
    rw [Nat.pow_succ]
    omega

/-- The words behind i bytes. -/
structure Fill (b : List UInt8) (i : Nat) (ws : List Nat) : Prop where
  len : ws.length = 16
  at_ : ∀ j, j < 16 → ws.getD j 0 = pw b j (min 4 (i - 4 * j))

theorem Fill.first (b : List UInt8) : Fill b 0 (List.replicate 16 0) := by
  refine ⟨rfl, fun j hj => ?_⟩
  have h0 : min 4 (0 - 4 * j) = 0 := by omega
  rw [h0]
  rw [List.getD_eq_getElem?_getD, List.getElem?_replicate, if_pos hj]
  rfl

theorem Fill.cur {b : List UInt8} {i : Nat} {ws : List Nat} (h : Fill b i ws) (hi : i < 64) : ws.getD (i / 4) 0 = pw b (i / 4) (i % 4) := by
  rw [h.at_ (i / 4) (by omega), show min 4 (i - 4 * (i / 4)) = i % 4 by omega]

theorem Fill.next {b : List UInt8} {i : Nat} {ws : List Nat} (h : Fill b i ws) : Fill b (i + 1) (ws.set (i / 4) (pw b (i / 4) (i % 4) * 256 + (b.getD i 0).toNat)) := by
  have hl := h.len
  refine ⟨by simpa using hl, fun j hj => ?_⟩
  by_cases e : i / 4 = j
  · subst e
    rw [P1.getD_set_eq _ _ _ (by omega), show min 4 (i + 1 - 4 * (i / 4)) = i % 4 + 1 by omega]
    simp only [pw]
    rw [show 4 * (i / 4) + i % 4 = i by omega]
  · rw [P1.getD_set_ne _ _ _ _ e, h.at_ j hj]
    rw [show min 4 (i + 1 - 4 * j) = min 4 (i - 4 * j) by omega]

theorem Fill.last {b : List UInt8} {ws : List Nat} (h : Fill b 64 ws) : ws = words16 b := by
  have hl := h.len
  apply List.ext_getElem?
  intro j
  by_cases hj : j < 16
  · have := h.at_ j hj
    rw [show min 4 (64 - 4 * j) = 4 by omega, pw_word] at this
    rw [List.getElem?_eq_getElem (by omega)]
    rw [List.getD_eq_getElem?_getD, List.getElem?_eq_getElem (by omega)] at this
    simp only [Option.getD_some] at this
    rw [this]
    simp [words16, hj]
  · rw [List.getElem?_eq_none (by omega), List.getElem?_eq_none (by simp [words16]; omega)]

/-- The first sixteen words are the schedule's. -/
theorem wnd_first (b : List UInt8) (S : Nat → Nat) (hS : ∀ j, j < 16 → S j = word b j) : Wnd S 16 (words16 b) := by
  refine ⟨by simp [words16], fun j h1 h2 => ?_⟩
  rw [hS j h1, show j % 16 = j by omega]
  simp [words16, List.getD_eq_getElem?_getD, h1]

theorem words16_lt (b : List UInt8) (j : Nat) (hj : j < 16) : (words16 b).getD j 0 = word b j := by
  simp [words16, List.getD_eq_getElem?_getD, hj]

/-- What a turn makes, with the constant and the word ahead of the rest. -/
theorem round1_e (s : St) (k w : Nat) : (round1 s k w).e = add s.d (add (add (add s.h k) w) (add (Sig1 s.e) (ch s.e s.f s.g))) := by
  show add s.d (add (add (add (add s.h (Sig1 s.e)) (ch s.e s.f s.g)) k) w) = _
  unfold add
  omega

theorem round1_a (s : St) (k w : Nat) : (round1 s k w).a = add (add (add (add (add s.h k) w) (add (Sig1 s.e) (ch s.e s.f s.g))) (Sig0 s.a)) (maj s.a s.b s.c) := by
  show add (add (add (add (add s.h (Sig1 s.e)) (ch s.e s.f s.g)) k) w) (add (Sig0 s.a) (maj s.a s.b s.c)) = _
  unfold add
  omega
end Go.Proofs.YtflicklgmhgpiaaDoor.P3
