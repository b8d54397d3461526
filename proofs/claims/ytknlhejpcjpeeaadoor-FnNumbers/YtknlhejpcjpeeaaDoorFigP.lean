/- The plain mathematics of reading figures: what they are worth, and two of them as one byte; no condition. -/
import Derived.Test.YtknlhejpcjpeeaaDoorPlain
namespace Go.Proofs.YtknlhejpcjpeeaaDoor.P1

/-- What a figure is worth. -/
def figV (base c : Nat) : Option Nat := if 48 ≤ c ∧ c ≤ 57 then some (c - 48) else if base = 16 ∧ 97 ≤ c ∧ c ≤ 102 then some (c - 87) else none

theorem figV_lt {base c v : Nat} (h : figV base c = some v) : v < 16 := by
  unfold figV at h
  split at h
  · simp at h; omega
  · split at h
    · simp at h; omega
    · cases h

/-- What the figures are worth, up to the first byte that is none. -/
def figs (base : Nat) : List UInt8 → List UInt8
  | [] => []
  | c :: r => match figV base c.toNat with
    | some v => UInt8.ofNat v :: figs base r
    | none => []

theorem figs_len (base : Nat) (l : List UInt8) : (figs base l).length ≤ l.length := by
  induction l with
  | nil => simp [figs]
  | cons c r ih =>
    simp only [figs]
    split
    · simp; omega
    · simp

/-- So far all of them were figures. -/
structure Figs (base : Nat) (l : List UInt8) (k : Nat) (pre : List UInt8) : Prop where
  len : pre.length = k
  eq : figs base l = pre ++ figs base (l.drop k)

theorem Figs.start (base : Nat) (l : List UInt8) : Figs base l 0 [] := ⟨rfl, rfl⟩

theorem Figs.next {base : Nat} {l : List UInt8} {k : Nat} {pre : List UInt8} (s : Figs base l k pre) (h : k < l.length) {v : Nat} (hv : figV base (l[k]).toNat = some v) : Figs base l (k + 1) (pre ++ [UInt8.ofNat v]) := by
  refine ⟨by simp [s.len], ?_⟩
  rw [s.eq, List.drop_eq_getElem_cons h]
  simp [figs, hv]

theorem Figs.stop {base : Nat} {l : List UInt8} {k : Nat} {pre : List UInt8} (s : Figs base l k pre) (h : k < l.length) (hv : figV base (l[k]).toNat = none) : figs base l = pre := by
  rw [s.eq, List.drop_eq_getElem_cons h]
  simp [figs, hv]

theorem Figs.end_ {base : Nat} {l : List UInt8} {k : Nat} {pre : List UInt8} (s : Figs base l k pre) (h : l.length ≤ k) : figs base l = pre := by
  rw [s.eq, List.drop_of_length_le h]
  simp [figs]

/-- Two halves as one byte each. -/
def pairs : List UInt8 → List UInt8
  | a :: b :: r => UInt8.ofNat (16 * a.toNat + b.toNat) :: pairs r
  | _ => []

/-- The bytes whose figures these are. -/
def unhexB : List UInt8 → Option (List UInt8)
  | [] => some []
  | [_] => none
  | a :: b :: r => match figV 16 a.toNat, figV 16 b.toNat with
    | some h, some l => (unhexB r).map (UInt8.ofNat (16 * h + l) :: ·)
    | _, _ => none

theorem ofNat_toNat {v : Nat} (h : v < 16) : (UInt8.ofNat v).toNat = v := by
  rw [UInt8.toNat_ofNat']; omega

/-- By what the figures are worth. -/
theorem unhexB_figs (n : Nat) : ∀ l : List UInt8, l.length = 2 * n → unhexB l = if (figs 16 l).length = l.length then some (pairs (figs 16 l)) else none := by
  induction n with
  | zero => intro l h; obtain rfl : l = [] := List.eq_nil_of_length_eq_zero (by omega); simp [unhexB, figs, pairs]
  | succ n ih =>
    intro l h
    match l, h with
    | a :: b :: r, h =>
      have hr : r.length = 2 * n := by simp at h; omega
      have ih' := ih r hr
      have hle := figs_len 16 r
      simp only [unhexB]
      cases ha : figV 16 a.toNat with
      | none =>
        have e : figs 16 (a :: b :: r) = [] := by simp [figs, ha]
        rw [e]; simp
      | some x =>
        cases hb : figV 16 b.toNat with
        | none =>
          have e : figs 16 (a :: b :: r) = [UInt8.ofNat x] := by simp [figs, ha, hb]
          rw [e]; simp
        | some y =>
          have e : figs 16 (a :: b :: r) = UInt8.ofNat x :: UInt8.ofNat y :: figs 16 r := by simp [figs, ha, hb]
          rw [e]
          simp only [List.length_cons, Nat.add_right_cancel_iff]
          rw [ih']
          by_cases hc : (figs 16 r).length = r.length
          · rw [if_pos hc, if_pos hc]
            simp [pairs, ofNat_toNat (figV_lt ha), ofNat_toNat (figV_lt hb)]
          · rw [if_neg hc, if_neg hc]
            simp

/-- So far: what two and two made. -/
structure Pairs (l : List UInt8) (k : Nat) (pre : List UInt8) : Prop where
  len : pre.length = k
  eq : unhexB l = (unhexB (l.drop (2 * k))).map (pre ++ ·)

theorem Pairs.start (l : List UInt8) : Pairs l 0 [] := ⟨rfl, by simp⟩

theorem drop_two (l : List UInt8) (k : Nat) (h : k + 1 < l.length) : l.drop k = l[k] :: l[k + 1] :: l.drop (k + 2) := by
  rw [List.drop_eq_getElem_cons (by omega), List.drop_eq_getElem_cons h]

theorem Pairs.next {l : List UInt8} {k : Nat} {pre : List UInt8} (s : Pairs l k pre) (h : 2 * k + 1 < l.length) {x y : Nat} (hx : figV 16 (l[2 * k]).toNat = some x) (hy : figV 16 (l[2 * k + 1]).toNat = some y) :
    Pairs l (k + 1) (pre ++ [UInt8.ofNat (16 * x + y)]) := by
  refine ⟨by simp [s.len], ?_⟩
  rw [s.eq, drop_two l (2 * k) h]
  simp only [unhexB, hx, hy, Option.map_map]
  congr 1
  funext r
  simp

theorem Pairs.bad {l : List UInt8} {k : Nat} {pre : List UInt8} (s : Pairs l k pre) (h : 2 * k + 1 < l.length) (hx : figV 16 (l[2 * k]).toNat = none ∨ figV 16 (l[2 * k + 1]).toNat = none) : unhexB l = none := by
  rw [s.eq, drop_two l (2 * k) h]
  rcases hx with hx | hx
  · simp [unhexB, hx]
  · cases hy : figV 16 (l[2 * k]).toNat <;> simp [unhexB, hx]

theorem Pairs.done {l : List UInt8} {k : Nat} {pre : List UInt8} (s : Pairs l k pre) (h : l.length ≤ 2 * k) : unhexB l = some pre := by
  rw [s.eq, List.drop_of_length_le h]
  simp [unhexB]

theorem figs_lt (base : Nat) (l : List UInt8) : ∀ (j : Nat) (h : j < (figs base l).length), ((figs base l)[j]).toNat < 16 := by
  induction l with
  | nil => intro j h; simp [figs] at h
  | cons c r ih =>
    intro j h
    cases hc : figV base c.toNat with
    | none => simp [figs, hc] at h
    | some v =>
      have e : figs base (c :: r) = UInt8.ofNat v :: figs base r := by simp [figs, hc]
      simp only [e] at h ⊢
      cases j with
      | zero => simp only [List.getElem_cons_zero, ofNat_toNat (figV_lt hc)]; exact figV_lt hc
      | succ j => simp only [List.getElem_cons_succ]; exact ih j (by simpa using h)

theorem pairs_length (n : Nat) : ∀ F : List UInt8, F.length = 2 * n → (pairs F).length = n := by
  induction n with
  | zero => intro F h; obtain rfl : F = [] := List.eq_nil_of_length_eq_zero (by omega); rfl
  | succ n ih =>
    intro F h
    match F, h with
    | a :: b :: r, h => simp [pairs, ih r (by simp at h; omega)]

theorem pairs_get (n : Nat) : ∀ (F : List UInt8) (_ : F.length = 2 * n) (k : Nat) (hk : k < (pairs F).length) (h1 : 2 * k < F.length) (h2 : 2 * k + 1 < F.length), (pairs F)[k] = UInt8.ofNat (16 * (F[2 * k]).toNat + (F[2 * k + 1]).toNat) := by
  induction n with
  | zero => intro F h k _ h1; omega
  | succ n ih =>
    intro F h k hk h1 h2
    match F, h with
    | a :: b :: r, h =>
      cases k with
      | zero => simp [pairs]
      | succ k =>
        have := ih r (by simp at h; omega) k (by simpa [pairs] using hk) (by simp at h1; omega) (by simp at h2; omega)
        simp only [pairs, List.getElem_cons_succ]
        rw [this]
        rfl

/-- What is done so far, and noughts. -/
def halfU (F : List UInt8) (n k : Nat) : List UInt8 := (pairs F).take k ++ List.replicate (n - k) 0

theorem halfU_length (F : List UInt8) (n k : Nat) (hF : F.length = 2 * n) (hk : k ≤ n) : (halfU F n k).length = n := by
  simp [halfU, pairs_length n F hF]; omega

theorem halfU_next (F : List UInt8) (n k : Nat) (hF : F.length = 2 * n) (hk : k < n) (h1 : 2 * k < F.length) (h2 : 2 * k + 1 < F.length) :
    (halfU F n k).set k (UInt8.ofNat (16 * (F[2 * k]).toNat + (F[2 * k + 1]).toNat)) = halfU F n (k + 1) := by
  have hl := pairs_length n F hF
  have hg := pairs_get n F hF k (by omega) h1 h2
  rw [← hg]
  unfold halfU
  have hlen : ((pairs F).take k).length = k := by simp; omega
  rw [List.set_append_right _ _ (by omega), hlen, Nat.sub_self]
  have e1 : List.replicate (n - k) (0 : UInt8) = 0 :: List.replicate (n - (k + 1)) 0 := by
    rw [show n - k = (n - (k + 1)) + 1 by omega, List.replicate_succ]
  rw [e1, List.set_cons_zero, List.take_succ_eq_append_getElem (by omega), List.append_assoc]
  rfl

theorem halfU_end (F : List UInt8) (n k : Nat) (hF : F.length = 2 * n) (hk : n ≤ k) : halfU F n k = pairs F := by
  unfold halfU
  rw [List.take_of_length_le (by rw [pairs_length n F hF]; exact hk), show n - k = 0 by omega]
  simp

theorem halfU_start (F : List UInt8) (n : Nat) : halfU F n 0 = List.replicate n 0 := by simp [halfU]

/-- What Unhex answers. -/
def unhexL (l : List UInt8) : List UInt8 × Bool :=
  if l.length ≤ 40000 ∧ l.length % 2 = 0 then
    match unhexB l with
    | some r => (r, true)
    | none => ([], false)
  else ([], false)

theorem unhexL_out {l : List UInt8} (h : ¬ (l.length ≤ 40000 ∧ l.length % 2 = 0)) : unhexL l = ([], false) := by simp only [unhexL, if_neg h]
theorem unhexL_in {l r : List UInt8} (h : l.length ≤ 40000 ∧ l.length % 2 = 0) (hr : unhexB l = some r) : unhexL l = (r, true) := by simp only [unhexL, if_pos h, hr]
theorem unhexL_bad {l : List UInt8} (h : l.length ≤ 40000 ∧ l.length % 2 = 0) (hr : unhexB l = none) : unhexL l = ([], false) := by simp only [unhexL, if_pos h, hr]
end Go.Proofs.YtknlhejpcjpeeaaDoor.P1
