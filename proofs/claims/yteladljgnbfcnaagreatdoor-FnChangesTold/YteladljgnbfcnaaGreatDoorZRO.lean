/- slices.Concat over rows of ints that are only read, however many; condition: at most 2^22 ints in all, at most 2^16 rows.
A step as the program takes it is a step as the specification takes it, where all who are there are on the ring; the rings that a law begins with; no condition.
The library's contract of slices.DeleteFunc laid at this program, for ints; no condition.
What a peer knows, as the program lists it: those behind it, and its fingers but for -1; condition: at most 2^21 in all.
Of those that a peer knows the furthest on the way to the key, as the program finds it; condition: what it knows at most 2^21.
The program's StepTo; condition: at most 2^20 peers, all who are there on the ring, what each knows at most 2^21 in all. -/
import Derived.Test.YteladljgnbfcnaaGreatDoorZRA
import Derived.Test.YteladljgnbfcnaaGreatDoorZRH
import Derived.Test.YteladljgnbfcnaaGreatDoorZRE
import Derived.Test.YteladljgnbfcnaaGreatDoorZRB
import Derived.Test.YteladljgnbfcnaaGreatDoorZRL
import Derived.Test.YteladljgnbfcnaaGreatDoorProg
import Derived.Test.YteladljgnbfcnaaGreatDoorZA
import Derived.Shelf.SlicesE.DeleteFunc
import Derived.Lib.SliceRun
namespace Go.Proofs.YteladljgnbfcnaaGreatDoor.P8
set_option maxRecDepth 8000
open Go.RowKit P1 Rc P9 Ap

set_option maxHeartbeats 2000000 in
theorem concatRead_calls (w : World) (bR K : Nat) (V : Nat → Value) (R : Nat → List Int) (hK : K ≤ 65536) (hR : ∀ d, d < K → w.cell? ⟨bR, d, none⟩ = some (V d) ∧ IntsAt w (V d) (R d)) (hb : bR < w.heap.size) (hl : (upTo R K).length ≤ 4194304) :
    Calls Tryz.prog 123 #[.slice (some ⟨bR, 0, none⟩) K K] w fun e w' => ∃ v, e = .returned v ∧ w'.ownsRow w.heap.size 3 1 v (upTo R K).length (cellsI (upTo R K)) ∧ Below w.heap.size w w' := by
  obtain ⟨i0, hi, hz0, hz1, hz2⟩ := info_parts info_i64
  have HR := hide hR
  have HU := hide (fun k => upTo_succ R k)
  have HL : Hid (∀ k, k ≤ K → (upTo R k).length ≤ 4194304) := fun k hk => Nat.le_trans (upTo_le R hk) hl
  have HU0 : Hid (upTo R 0 = []) := rfl
  clear hR
  generalize upTo R = U at *
  go_enter Tryz.func123, Tryz.ntmps123
  go_wp2
  go_loopw [3, 11] (fun z i wr => ∃ k : Nat, k ≤ K ∧ i = .int .i64 k ∧ z = .int .i64 ((U k).length : Nat) ∧ wr = w) (fun _ i _ => K - (intOf i).toNat)
  case atStart => exact ⟨0, Nat.zero_le _, rfl, by rw [HU0.out]; rfl, rfl⟩
  case round =>
    obtain ⟨k, hk, rfl, rfl, rfl⟩ := hrel
    by_cases hlt : k < K
    · obtain ⟨hc, ho⟩ := HR.out k hlt
      obtain ⟨ak, ck, hsh, -⟩ := ho
      rw [hsh] at hc
      have hs : (U (k + 1)).length = (U k).length + (R k).length := by rw [HU.out, List.length_append]
      have hl1 := HL.out k hk
      have hl2 := HL.out (k + 1) hlt
      rw [hs] at hl2
      have HS := hide hs
      have hneg : decide ((((U k).length : Nat) : Int) + (((R k).length : Nat) : Int) < 0) = false := decide_eq_false (by omega)
      clear hsh hs
      generalize (U k).length = n1 at *
      generalize (R k).length = n2 at *
      go_wp2
      go_roundw
      case rel => exact ⟨k + 1, by omega, by go_num, by rw [HS.out]; go_num, trivial⟩
      case measure => simp [intOf]; omega
    · have hk6 : k = K := by omega
      subst hk6
      obtain ⟨wo, ewo⟩ : ∃ wo, wo = wr := ⟨_, rfl⟩
      subst ewo
      have HG := hide (grow_calls wo (U k).length (HL.out k (Nat.le_refl _)))
      have hl6 := HL.out k (Nat.le_refl _)
      go_wp2_with fail
      refine HG.out.mono ?_
      rintro e w1 ⟨v1, rfl, ho1, hb1⟩
      have HO1 := hide ho1
      have HB1 := hide hb1
      obtain ⟨B0, eB⟩ : ∃ B, B = wo.heap.size := ⟨_, rfl⟩
      rw [← eB] at HO1 HB1
      have HEB := hide eB
      clear ho1 hb1 eB HG
      obtain ⟨a1, c1, hs1⟩ := own_sh HO1.out
      subst hs1
      obtain ⟨K, eK⟩ : ∃ K, K = k := ⟨_, rfl⟩
      subst eK
      go_wp2_with fail
      go_loopw [6, 27] (fun v i wx => ∃ k : Nat, k ≤ K ∧ i = .int .i64 k ∧ Hid (wx.ownsRow B0 3 1 v (U k).length (cellsI (U k))) ∧ Hid (Below B0 wo wx)) (fun _ i _ => K - (intOf i).toNat)
      case atStart => exact ⟨0, Nat.zero_le _, rfl, by show World.ownsRow _ _ _ _ _ _ _; rw [HU0.out]; exact HO1.out, HB1.out⟩
      case round =>
        clear HO1 HB1
        obtain ⟨k, hk, rfl, HO, HB⟩ := hrel
        by_cases hlt : k < K
        · obtain ⟨hc0, ho0⟩ := HR.out k hlt
          obtain ⟨ak, ck, hsh, -⟩ := id ho0
          have hb0 : bR < B0 := by rw [HEB.out]; exact hb
          have hc : wr.cell? ⟨bR, k, none⟩ = some (.slice ak (R k).length ck) := by rw [HB.out.cell (p := ⟨bR, k, none⟩) hb0, hc0, hsh]
          have hbx : bR < wr.heap.size := Nat.lt_of_lt_of_le hb HB.out.size
          have hBr : B0 ≤ wr.heap.size := by rw [HEB.out]; exact HB.out.size
          have hI : IntsAt wr (.slice ak (R k).length ck) (R k) := by rw [← hsh]; exact ho0.below HB.out (by rw [HEB.out]; exact Nat.le_refl _)
          have HX := hide (ints_news hI)
          have hs : (U (k + 1)).length = (U k).length + (R k).length := by rw [HU.out, List.length_append]
          have hl1 := HL.out k hk
          have hl2 := HL.out (k + 1) hlt
          rw [hs] at hl2
          have HS := hide hs
          have HC : Hid (cellsI (U (k + 1)) = cellsI (U k) ++ cellsI (R k)) := by show _ = _; rw [HU.out]; simp [cellsI]
          clear hs hsh hc0 ho0 hI
          obtain ⟨ao, co, hso⟩ := own_sh HO.out
          subst hso
          go_wp2_with (at_builtin; refine wpList_append_any rfl (.tmp 31) (.tmp 32) 28 rfl B0 3 i0 (.int .i64 0) 1 8 Tryz.underlying28 hi hz0 hz1 hz2 rfl (by decide) _ _ _ rfl HO.out ak (R k).length ck rfl (cellsI (R k)) (cellsI_len (R k)) HX.out (cellsI_one (R k)) (by unfold maxLen; omega) (by omega) hBr ?_)
          intro v6 w6 hown hg6
          have hb6 : Below B0 wo w6 := HB.out.grown hg6 hBr (fun j hj => (HO.out.lt j hj).1)
          have HO6 : Hid (w6.ownsRow B0 3 1 v6 (U (k + 1)).length (cellsI (U (k + 1)))) := by
            show World.ownsRow _ _ _ _ _ _ _
            rw [HS.out, HC.out]
            exact hown
          have HB6 := hide hb6
          clear hown hg6 hb6
          go_wp2
          go_roundw
          case rel => exact ⟨k + 1, by omega, by go_num, HO6.out, HB6.out⟩
          case measure => simp [intOf]; omega
        · have hk6 : k = K := by omega
          subst hk6
          go_wp2
          go_ret
          have hO := HO.out
          have hB := HB.out
          rw [HEB.out] at hO hB
          exact ⟨_, rfl, hO, hB⟩
end Go.Proofs.YteladljgnbfcnaaGreatDoor.P8
namespace Go.Proofs.YteladljgnbfcnaaGreatDoor.P9
open Go.RowKit P1 P8 Da

/-- Of these the furthest on the way to the key, and how far it is: 0 where there is none. -/
def farI1 (l : List Pr) (id key : Int) (b : Int × Nat) (x : Int) : Int × Nat :=
  if decide (0 ≤ peerAt l x) && (decide (x ≠ key) && btw id x key) && decide (b.2 < ahd id x) then (x, ahd id x) else b

def farI (l : List Pr) (id key : Int) (xs : List Int) : Int × Nat := xs.foldl (farI1 l id key) (-1, 0)

theorem farI_snoc (l : List Pr) (id key : Int) (xs : List Int) (x : Int) : farI l id key (xs ++ [x]) = farI1 l id key (farI l id key xs) x := by simp [farI]

theorem farI_le (l : List Pr) (id key : Int) (xs : List Int) : (farI l id key xs).2 < 256 := by
  have : ∀ (xs : List Int) (b : Int × Nat), b.2 < 256 → (xs.foldl (farI1 l id key) b).2 < 256 := by
    intro xs
    induction xs with
    | nil => intro b h; exact h
    | cons x xs ih =>
      intro b h
      refine ih _ ?_
      unfold farI1
      split
      · exact ahd_lt _ _
      · exact h
  exact this xs _ (by decide)

theorem further_eq (l : List Pr) (id key b x : Int) : further l id key b x = (decide (0 ≤ peerAt l x) && (decide (x ≠ key) && btw id x key) && decide (ahd id b < ahd id x)) := by
  unfold further
  cases decide (x ≠ key) <;> cases decide (0 ≤ peerAt l x) <;> simp

theorem far_post (l : List Pr) (id key : Int) : ∀ (xs : List Int) (b : Int), xs.foldl (farI1 l id key) (b, ahd id b) = (xs.foldl (farStep l id key) b, ahd id (xs.foldl (farStep l id key) b)) := by
  intro xs
  induction xs with
  | nil => intro b; rfl
  | cons x xs ih =>
    intro b
    rw [List.foldl_cons, List.foldl_cons, ← ih]
    congr 1
    unfold farI1 farStep
    rw [further_eq]
    split <;> rfl

theorem far_pre (l : List Pr) (id key : Int) : ∀ (xs : List Int), (∀ x ∈ xs, decide (0 ≤ peerAt l x) = false) → ∀ (c : Int × Nat) (b : Int), xs.foldl (farI1 l id key) c = c ∧ xs.foldl (farStep l id key) b = b := by
  intro xs
  induction xs with
  | nil => intro _ c b; exact ⟨rfl, rfl⟩
  | cons x xs ih =>
    intro h c b
    have hx := h x (by simp)
    have e1 : farI1 l id key c x = c := by unfold farI1; rw [hx]; simp
    have e2 : farStep l id key b x = b := by unfold farStep; rw [further_eq, hx]; simp
    rw [List.foldl_cons, List.foldl_cons, e1, e2]
    exact ih (fun y hy => h y (by simp [hy])) c b

theorem far_same {l : List Pr} {id key next : Int} {b f : List Int} (hn : firstHere l b = some next) (hid : 0 ≤ id ∧ id < 256) (hkey : 0 ≤ key ∧ key < 256) (h1 : key ≠ id) (h2 : btw id key next = false) :
    farI l id key (b ++ f) = (farthest l id key next (b ++ f), ahd id (farthest l id key next (b ++ f))) ∧ 0 < ahd id (farthest l id key next (b ++ f)) := by
  unfold firstHere at hn
  obtain ⟨hh, pre, post, rfl, hpre⟩ := List.find?_eq_some_iff_append.1 hn
  have hk0 : 0 < ahd id key := ahd_pos hid hkey (fun e => h1 e.symm)
  have hu : ¬ id % 256 = next % 256 := by
    intro e
    rw [btw_same e] at h2
    have := of_decide_eq_false h2
    omega
  have hn0 : 0 < ahd id next := by
    rcases Nat.eq_zero_or_pos (ahd id next) with h | h
    · exact absurd ((ahd_zero_iff _ _).1 h) hu
    · exact h
  have hlt : ahd id next < ahd id key := by
    rw [btw_unlike hu] at h2
    rw [decide_eq_true hk0, Bool.true_and] at h2
    have := of_decide_eq_false h2
    omega
  have hnk : next ≠ key := fun e => by rw [e] at hlt; omega
  have hb : btw id next key = true := by
    rw [btw_unlike (fun e => by have := (ahd_zero_iff _ _).2 e; omega)]
    rw [decide_eq_true hn0, decide_eq_true (by omega : ahd id next ≤ ahd id key)]
    rfl
  have hp := far_pre l id key pre (fun x hx => by simpa using hpre x hx)
  have e1 : farI1 l id key (-1, 0) next = (next, ahd id next) := by
    unfold farI1
    rw [hh, hb, decide_eq_true hnk, decide_eq_true hn0]
    rfl
  have e2 : farStep l id key next next = next := by
    unfold farStep
    split <;> rfl
  have e3 : (pre ++ next :: post) ++ f = pre ++ (next :: (post ++ f)) := by simp
  have e4 : farthest l id key next ((pre ++ next :: post) ++ f) = (post ++ f).foldl (farStep l id key) next := by
    unfold farthest
    rw [e3, List.foldl_append, (hp (-1, 0) next).2, List.foldl_cons, e2]
  have e5 : farI l id key ((pre ++ next :: post) ++ f) = (post ++ f).foldl (farI1 l id key) (next, ahd id next) := by
    unfold farI
    rw [e3, List.foldl_append, (hp (-1, 0) next).1, List.foldl_cons, e1]
  refine ⟨by rw [e5, far_post, e4], ?_⟩
  have := farthest_ge l id key next ((pre ++ next :: post) ++ f)
  omega

theorem peerAt_of {l : List Pr} {id : Int} {j : Nat} (h : hereIdx l id = some j) : peerAt l id = j := by
  unfold peerAt
  show ((hereIdx l id).map fun (i : Nat) => (i : Int)).getD (-1) = _
  rw [h]
  rfl

theorem peerAt_no {l : List Pr} {id : Int} (h : hereIdx l id = none) : peerAt l id = -1 := by
  unfold peerAt
  show ((hereIdx l id).map fun (i : Nat) => (i : Int)).getD (-1) = _
  rw [h]
  rfl

/-- What the program's step tells, of a key on the ring, by the first of its Behind that is there. -/
theorem step_nobody {l : List Pr} {id key : Int} (h : hereIdx l id = none) : stepTo l id key = (-1, false) := stepTo_none (.inl (by rw [peerAt_no h]; decide))

theorem step_alone {l : List Pr} {id key : Int} {j : Nat} (hj : j < l.length) (h : hereIdx l id = some j) (hn : firstHere l l[j].behind = none) : stepTo l id key = (-1, false) := by
  refine stepTo_none (.inr ?_)
  have e : nextOf l id = (firstHere l l[j].behind).getD (-1) := nextOf_hit hj (peerAt_of h)
  rw [e, hn]
  decide

structure Nxt (l : List Pr) (id : Int) (j : Nat) (hj : j < l.length) (next : Int) : Prop where
  at_ : peerAt l id = j
  nx : nextOf l id = next
  here : 0 ≤ peerAt l next
  onId : 0 ≤ id ∧ id < 256
  on : 0 ≤ next ∧ next < 256

theorem nxt_of {l : List Pr} (hr : OnRing l) {id next : Int} {j : Nat} (hj : j < l.length) (h : hereIdx l id = some j) (hn : firstHere l l[j].behind = some next) : Nxt l id j hj next := by
  have e : nextOf l id = (firstHere l l[j].behind).getD (-1) := nextOf_hit hj (peerAt_of h)
  have hh : 0 ≤ peerAt l next := by
    unfold firstHere at hn
    have := List.find?_some hn
    simpa using this
  exact ⟨peerAt_of h, by rw [e, hn]; rfl, hh, on_of_at hr (by rw [peerAt_of h]; omega), on_of_at hr hh⟩

theorem step_far {l : List Pr} {id key next : Int} {j : Nat} {hj : j < l.length} (hn : firstHere l l[j].behind = some next) (h : Nxt l id j hj next) (hkey : 0 ≤ key ∧ key < 256) (h1 : id ≠ key) (h2 : btw id key next = false) :
    stepTo l id key = ((farI l id key (l[j].behind ++ l[j].fingers)).1, false) ∧ 0 < (farI l id key (l[j].behind ++ l[j].fingers)).2 := by
  have ek : key % 256 = key := by omega
  obtain ⟨e1, e2⟩ := far_same (f := l[j].fingers) hn h.onId hkey (fun e => h1 e.symm) h2
  refine ⟨?_, by rw [e1]; exact e2⟩
  rw [stepTo_far (by rw [h.at_]; omega) (by rw [h.nx]; exact h.on.1) (by rw [ek]; exact fun e => h1 e.symm) (by rw [ek, h.nx]; exact h2), ek, h.nx, knownOf_hit hj h.at_, e1]

theorem step_self {l : List Pr} {id key next : Int} {j : Nat} {hj : j < l.length} (h : Nxt l id j hj next) (hkey : 0 ≤ key ∧ key < 256) (h1 : id = key) : stepTo l id key = (id, true) :=
  stepTo_self (by rw [h.at_]; omega) (by rw [h.nx]; exact h.on.1) (by omega)

theorem step_next {l : List Pr} {id key next : Int} {j : Nat} {hj : j < l.length} (h : Nxt l id j hj next) (hkey : 0 ≤ key ∧ key < 256) (h1 : id ≠ key) (h2 : btw id key next = true) : stepTo l id key = (next, true) := by
  have ek : key % 256 = key := by omega
  rw [stepTo_next (by rw [h.at_]; omega) (by rw [h.nx]; exact h.on.1) (by rw [ek]; exact fun e => h1 e.symm) (by rw [ek, h.nx]; exact h2), h.nx]

theorem stepTo_mod (l : List Pr) (id key : Int) : stepTo l id (key % 256) = stepTo l id key := by
  unfold stepTo
  rw [Int.emod_emod]
end Go.Proofs.YteladljgnbfcnaaGreatDoor.P9
namespace Go.Proofs
open Go.Shelf
def Tryz.dfA_ren : Go.Shelf.Ren := ⟨fun | 6 => 116 | 10 => 99 | n => n, fun | 0 => 0 | 3 => 3 | 4 => 4 | 22 => 28 | 23 => 3 | 25 => 95 | n => n, fun | n => n⟩
theorem Tryz.dfA : Go.Proofs.SlLaysH.n10 Tryz.prog Tryz.dfA_ren := {
  mixed := by kernel_rfl
  f6 := ⟨Tryz.f116.name, by decide, Tryz.func116.trans (congrArg some (by kernel_rfl))⟩
  f10 := ⟨Tryz.f99.name, by decide, Tryz.func99.trans (congrArg some (by kernel_rfl))⟩
  t0 := Tryz.underlying0
  a0 := Tryz.isAgg0
  z0 := Tryz.sizeOf0
  v0 := Tryz.zeroValue0
  t3 := Tryz.underlying3
  a3 := Tryz.isAgg3
  z3 := Tryz.sizeOf3
  v3 := Tryz.zeroValue3
  t4 := Tryz.underlying4
  a4 := Tryz.isAgg4
  z4 := Tryz.sizeOf4
  v4 := Tryz.zeroValue4
  t22 := Tryz.underlying28
  a22 := Tryz.isAgg28
  z22 := Tryz.sizeOf28
  v22 := Tryz.zeroValue28
  a23 := Tryz.isAgg3
  z23 := Tryz.sizeOf3
  t25 := Tryz.underlying95
  a25 := Tryz.isAgg95
  z25 := Tryz.sizeOf95
  v25 := Tryz.zeroValue95 }
end Go.Proofs
namespace Go.Proofs.YteladljgnbfcnaaGreatDoor.P9
set_option maxRecDepth 8000
open Go.RowKit Go.Sort P1 P8 Da Mp Ap

/-- These but for -1. -/
def keepF (xs : List Int) : List Int := xs.filter fun x => !(x == -1)

theorem keepF_le (xs : List Int) : (keepF xs).length ≤ xs.length := List.length_filter_le _ _

theorem farI_keep {l : List Pr} (hr : OnRing l) (id key : Int) (xb xf : List Int) : farI l id key (xb ++ keepF xf) = farI l id key (xb ++ xf) := by
  unfold farI
  rw [List.foldl_append, List.foldl_append]
  generalize xb.foldl (farI1 l id key) (-1, 0) = b
  induction xf generalizing b with
  | nil => rfl
  | cons x xs ih =>
    by_cases hx : x = -1
    · subst hx
      have e : keepF (-1 :: xs) = keepF xs := by simp [keepF]
      have e1 : farI1 l id key b (-1) = b := by
        have : ¬ 0 ≤ peerAt l (-1) := fun h => by have := on_of_at hr h; omega
        unfold farI1
        rw [decide_eq_false this]
        simp
      rw [e, List.foldl_cons, e1]
      exact ih b
    · have e : keepF (x :: xs) = x :: keepF xs := by simp [keepF, hx]
      rw [e, List.foldl_cons, List.foldl_cons]
      exact ih _

/-- The program's test of a finger. -/
theorem unknown_gives (W : World) (x : Int) : FnGives Tryz.prog 143 #[] #[.int .i64 x] (.bool (x == -1)) W := by
  unfold FnGives
  go_enter Tryz.func143, Tryz.ntmps143
  go_wp2
  go_ret
  exact ⟨rfl, 0, rfl⟩

set_option maxHeartbeats 1000000 in
/-- slices.Clone over ints that are only read. -/
theorem clone_calls (w : World) (v : Value) (xs : List Int) (hI : IntsAt w v xs) (hl : xs.length ≤ 4194304) :
    Calls Tryz.prog 111 #[v] w fun e w' => ∃ v', e = .returned v' ∧ w'.ownsRow w.heap.size 3 1 v' xs.length (cellsI xs) ∧ Below w.heap.size w w' := by
  obtain ⟨i0, hi, hz0, hz1, hz2⟩ := info_parts info_i64
  have HI := hide hI
  obtain ⟨a, c, rfl, -⟩ := hI
  have q22 : ∀ (w : World) (a : Option Addr) (n c n' c' : Nat), (binOp .eql 28 (.slice a n c) (.slice none n' c')).run Tryz.prog w = .ok (.bool a.isNone) w := fun w a n c n' c' => Lib.run_eql_slice_nil w _ _ a n c n' c' Tryz.underlying28
  cases a with
  | none =>
    have h0 : xs = [] := by
      cases xs with
      | nil => rfl
      | cons x xs =>
        obtain ⟨a', c', e, HA⟩ := HI.out
        cases e
        obtain ⟨g, off, e2, -⟩ := HA 0 (by simp)
        cases e2
    clear HI
    subst h0
    go_enter Tryz.func111, Tryz.ntmps111
    go_wp2_with fail
    go_ret
    exact ⟨_, rfl, ⟨rfl, .inl ⟨rfl, rfl⟩⟩, Below.refl _ _⟩
  | some a =>
    have hmade := World.ownsRow_made (e := 3) (base := w.heap.size) (size := 1) w #[] 0 (Nat.le_refl _) (Nat.zero_le _) (by simp)
    have hba := (Below.refl w.heap.size w).alloc (Nat.le_refl _) (.cells #[] 3)
    have HX := hide (ints_news (HI.out.below hba (Nat.le_refl _)))
    have HB := hide hba
    have HM := hide hmade
    clear HI hba hmade
    go_enter Tryz.func111, Tryz.ntmps111
    go_wp2_with (at_builtin; refine wpList_append_any rfl (.tmp 5) (.tmp 6) 28 rfl w.heap.size 3 i0 (.int .i64 0) 1 8 Tryz.underlying28 hi hz0 hz1 hz2 rfl (by decide) _ _ _ rfl HM.out (some a) xs.length c rfl (cellsI xs) (cellsI_len xs) HX.out (cellsI_one xs) (by unfold maxLen; omega) (by omega) HB.out.size ?_)
    intro v6 w6 hown hg6
    have HO := hide hown
    have HG := hide (HB.out.grown hg6 HB.out.size (fun j hj => (HM.out.lt j hj).1))
    clear hown hg6 HX HM HB
    go_wp2_with fail
    go_ret
    exact ⟨_, rfl, by simpa using HO.out, HG.out⟩

set_option maxHeartbeats 2000000 in
/-- slices.DeleteFunc over ints that the call made, by the program's test of a finger. -/
theorem delete_calls (w : World) (B : Nat) (v : Value) (xs : List Int) (ho : w.ownsRow B 3 1 v xs.length (cellsI xs)) (hl : xs.length ≤ 4194304) :
    Calls Tryz.prog 99 #[v, .func (.func 143) #[] #[]] w fun e w' => ∃ v', e = .returned v' ∧ IntsAt w' v' (keepF xs) ∧ Below B w w' := by
  have eg : ∀ args w, (callFunc 143 args).run Tryz.prog w = .ok (.enter 143 args) w := enters_of Tryz.func143 (by kernel_rfl) rfl
  have hB : B ≤ w.heap.size ∨ xs = [] := by
    rcases Nat.eq_zero_or_pos xs.length with h | h
    · exact .inr (List.length_eq_zero_iff.1 h)
    · obtain ⟨g, cap, -, h1, h2, -⟩ := own_at ho h
      exact .inl (by omega)
  cases xs with
  | nil =>
    obtain ⟨a, c, rfl⟩ := own_sh ho
    clear ho hB
    have HI := hide (AnyE.slices_IndexFunc_empty (P := Tryz.prog) (ρ := Tryz.dfA_ren) { Tryz.dfA with } a c (.func (.func 143) #[] #[]) w)
    go_enter Tryz.func99, Tryz.ntmps99
    go_wp2_with fail
    refine HI.out.mono ?_
    rintro e w' ⟨rfl, rfl⟩
    go_wp2_with fail
    go_ret
    exact ⟨_, rfl, ⟨_, _, rfl, fun j hj => by simp [keepF] at hj⟩, Below.refl _ _⟩
  | cons x xs =>
    obtain ⟨g, cap, rfl, hg, hgs, hcap, hcell, hfz⟩ := own_at ho (by simp)
    generalize hX : x :: xs = X at *
    have hH : Holds (Value.int .i64) w g 0 X.toArray := fun j hj => by
      have hj' : j < X.length := by simpa using hj
      refine ⟨?_, hfz _⟩
      rw [Nat.zero_add, hcell j (by omega), getElem!_pos X.toArray j hj]
      simp [cellsI, hj']
    have hc := AnyE.slices_DeleteFunc Tryz.dfA (Value.int .i64) (fun _ => rfl) (fun x => x == -1) 143 #[] eg 0 Tryz.zeroValue3 g 0 cap X.toArray w (fun W x _ => unknown_gives W x) (fun n os dk x _ => unknown_gives _ x) hH (by simp; omega) (by simpa using hcap)
    refine hc.mono ?_
    rintro e w' ⟨rfl, q, rfl⟩
    have el : (X.toArray.toList.filter fun x => !(x == -1)) = keepF X := by simp [keepF]
    rw [el]
    have hle := keepF_le X
    have hsz : (keepF X ++ List.replicate (X.toArray.size - (keepF X).length) 0).toArray.size = X.toArray.size := by simp; omega
    refine ⟨_, rfl, ⟨some ⟨g, 0, none⟩, cap, rfl, fun j hj => ⟨g, 0, rfl, by simpa using hgs, ?_⟩⟩, ?_⟩
    · rw [cell?_putRow (Value.int .i64) (Sort.ahead w q) g 0 X.toArray _ (holds_ahead _ w q g 0 _ hH) hsz j (by rw [hsz]; simp; omega)]
      congr 2
      rw [getElem!_pos _ j (by rw [hsz]; simp; omega)]
      simp [List.getElem_append_left hj]
    · refine ⟨rfl, rfl, rfl, by simp, fun k hk => ?_⟩
      have hne : g ≠ k := by omega
      simp [putRow, mapBlock, Array.getElem?_modify, hne, Sort.ahead]

set_option maxHeartbeats 1000000 in
theorem known_calls (w : World) (u3 u4 : Value) (xb xf : List Int) (g p : Nat) (c3 : w.cell? ⟨g, p + 3, none⟩ = some u3) (c4 : w.cell? ⟨g, p + 4, none⟩ = some u4) (h3 : IntsAt w u3 xb) (h4 : IntsAt w u4 xf) (hl : (xb ++ xf).length ≤ 2097152) :
    Calls Tryz.prog 127 #[.pointer (some ⟨g, p, none⟩)] w fun e w' => ∃ v, e = .returned v ∧ IntsAt w' v (xb ++ keepF xf) ∧ Below w.heap.size w w' := by
  rw [List.length_append] at hl
  have hg : g < w.heap.size := cell_lt' c3
  have H3 := hide h3
  have HC3 := hide c3
  have HC := hide (clone_calls w u4 xf h4 (by omega))
  have HL : Hid ((xb ++ keepF xf).length ≤ 4194304) := by show _ ≤ _; rw [List.length_append]; have := keepF_le xf; omega
  have HLF : Hid (xf.length ≤ 4194304) := by show _ ≤ _; omega
  clear h3 h4 hl c3
  go_enter Tryz.func127, Tryz.ntmps127
  go_wp2_with fail
  refine HC.out.mono ?_
  rintro e w2 ⟨v2, rfl, ho2, hb2⟩
  have HB2 := hide hb2
  have HD := hide (delete_calls w2 w.heap.size v2 xf ho2 HLF.out)
  clear ho2 hb2 HC
  go_wp2_with fail
  refine HD.out.mono ?_
  rintro e w3 ⟨v3, rfl, hI3, hb3⟩
  have HB3 := hide (HB2.out.trans hb3)
  have HI3 := hide hI3
  clear hI3 hb3 HD HB2
  have c3 : w3.cell? ⟨g, p + 3, none⟩ = some u3 := (HB3.out.cell (p := ⟨g, p + 3, none⟩) hg).trans HC3.out
  obtain ⟨a3, d3, e3, -⟩ := H3.out
  obtain ⟨a4, d4, e4, -⟩ := HI3.out
  subst e3 e4
  have S := Blk.new w3 #[.slice a3 xb.length d3, .slice a4 (keepF xf).length d4] 28
  have hsl := (Below.refl w3.heap.size w3).alloc (Nat.le_refl _) (.cells #[.slice a3 xb.length d3, .slice a4 (keepF xf).length d4] 28)
  have HU : Hid (upTo (fun d => if d = 0 then xb else keepF xf) 2 = xb ++ keepF xf) := by show _ = _; simp [upTo, List.range_succ]
  have HC := hide (concatRead_calls _ w3.heap.size 2 (fun d => if d = 0 then .slice a3 xb.length d3 else .slice a4 (keepF xf).length d4) (fun d => if d = 0 then xb else keepF xf) (by decide) (fun d hd => by
    rcases (by omega : d = 0 ∨ d = 1) with rfl | rfl
    · exact ⟨by rw [S.cell 0]; rfl, (H3.out.below HB3.out (Nat.le_refl _)).below hsl (Nat.le_refl _)⟩
    · exact ⟨by rw [S.cell 1]; rfl, HI3.out.below hsl (Nat.le_refl _)⟩) S.lt (by rw [HU.out]; exact HL.out))
  rw [HU.out] at HC
  have HS := hide (HB3.out.trans (hsl.mono HB3.out.size))
  clear hsl S HU H3 HI3 HB3 HL HLF
  go_wp2_with fail
  refine HC.out.mono ?_
  rintro e w5 ⟨v5, rfl, ho5, hb5⟩
  have HI5 := hide (IntsAt.of_own ho5)
  have HB5 := hide (HS.out.trans (hb5.mono HS.out.size))
  clear ho5 hb5 HC HS
  go_wp2_with fail
  go_ret
  exact ⟨_, rfl, HI5.out, HB5.out⟩
end Go.Proofs.YteladljgnbfcnaaGreatDoor.P9
namespace Go.Proofs.YteladljgnbfcnaaGreatDoor.P9
set_option maxRecDepth 8000
open Go.RowKit P1 P8 Da Mp Ap

theorem farI_take {l : List Pr} {id key : Int} {xs : List Int} {k : Nat} (hk : k < xs.length) : farI l id key (xs.take (k + 1)) = farI1 l id key (farI l id key (xs.take k)) xs[k] := by
  rw [List.take_succ_eq_append_getElem hk, farI_snoc]

set_option maxRecDepth 100000 in
set_option maxHeartbeats 2000000 in
theorem furthest_calls (w : World) (v u3 u4 : Value) (l : List Pr) (id key : Int) (xb xf : List Int) (km n g p : Nat) (hm : MapR keyI w km n (hereV v l)) (c0 : w.cell? ⟨g, p, none⟩ = some (.int .i64 id)) (c3 : w.cell? ⟨g, p + 3, none⟩ = some u3) (c4 : w.cell? ⟨g, p + 4, none⟩ = some u4)
    (h3 : IntsAt w u3 xb) (h4 : IntsAt w u4 xf) (hl4 : (xb ++ xf).length ≤ 2097152) :
    Calls Tryz.prog 115 #[.map (some km), .pointer (some ⟨g, p, none⟩), .int .i64 key] w fun e w' => e = .returned (.tuple #[.int .i64 (farI l id key (xb ++ keepF xf)).1, .bool (decide (0 < (farI l id key (xb ++ keepF xf)).2))]) ∧ Below w.heap.size w w' := by
  have HC := hide (known_calls w u3 u4 xb xf g p c3 c4 h3 h4 hl4)
  have hlx : (xb ++ keepF xf).length ≤ 2097152 := by rw [List.length_append] at hl4 ⊢; have := keepF_le xf; omega
  generalize xb ++ keepF xf = xs at *
  obtain ⟨⟨ff, fm⟩, efr⟩ : ∃ r, r = farI l id key xs := ⟨_, rfl⟩
  have hfm : fm < 256 := by have := farI_le l id key xs; rw [← efr] at this; exact this
  rw [← efr]
  have HFR : Hid (farI l id key xs = (ff, fm)) := efr.symm
  clear efr
  show Calls _ _ _ _ fun e w' => e = .returned (.tuple #[.int .i64 ff, .bool (decide (0 < fm))]) ∧ Below w.heap.size w w'
  have HM := hide hm
  have hg : g < w.heap.size := cell_lt' c0
  have HC0 := hide c0
  clear hm c0 c3 c4 h3 h4 hl4
  go_enter Tryz.func115, Tryz.ntmps115
  go_wp2_with fail
  refine HC.out.mono ?_
  rintro e w3 ⟨u, rfl, hI, hb3⟩
  have hI0 := hI
  obtain ⟨ax, cx, rfl, -⟩ := hI0
  have HX := hide hI
  have HB3 := hide hb3
  clear hI hb3 HC
  have hlk := fun x => hereV_look (HM.out.at_ (HB3.out.block km HM.out.lt)) x
  have c0 : w3.cell? ⟨g, p, none⟩ = some (.int .i64 id) := (HB3.out.cell (p := ⟨g, p, none⟩) hg).trans HC0.out
  have HLK := hide hlk
  clear hlk HM HC0
  go_wp2_with fail
  go_loopw [8, 9, 18] (fun fv mv iv wr => ∃ (k : Nat) (fx : Int) (mx : Nat), k ≤ xs.length ∧ mx < 256 ∧ iv = .int .i64 k ∧ fv = .int .i64 fx ∧ mv = .int .i64 mx ∧ Hid (farI l id key (xs.take k) = (fx, mx)) ∧ wr = w3) (fun _ _ iv _ => xs.length - (intOf iv).toNat)
  case atStart => exact ⟨0, -1, 0, Nat.zero_le _, by decide, rfl, rfl, rfl, rfl, rfl⟩
  case round =>
    obtain ⟨k, fx, mx, hk, hmx, rfl, rfl, rfl, HF, hwr⟩ := hrel
    subst hwr
    by_cases hlt : k < xs.length
    · obtain ⟨a2, c2, hsh, HA⟩ := HX.out
      cases hsh
      obtain ⟨gi, oi, rfl, hgi, hci⟩ := HA k hlt
      have HT : Hid (farI l id key (xs.take (k + 1)) = farI1 l id key (fx, mx) xs[k]) := (farI_take hlt).trans (by rw [HF.out])
      have hlk := HLK.out xs[k]
      rw [hereIdx_isSome] at hlk
      clear HA HF
      generalize xs[k] = x at *
      have CB := hide (fun wx => implBetween_calls id x key wx)
      have CA := hide (fun wx => implAhead_calls id x wx)
      have HFS : Hid (farI1 l id key (fx, mx) x = if decide (0 ≤ peerAt l x) && (decide (x ≠ key) && btw id x key) && decide (mx < ahd id x) then (x, ahd id x) else (fx, mx)) := rfl
      have hal := ahd_lt id x
      generalize peerAt l x = px at *
      cases hp : decide (0 ≤ px) with
      | false =>
        have HR : Hid (farI l id key (xs.take (k + 1)) = (fx, mx)) := HT.out.trans (HFS.out.trans (by rw [hp]; simp))
        rw [hp] at hlk
        clear HT HFS hp CB CA
        go_wp2_with fail
        go_roundw
        case rel => exact ⟨k + 1, fx, mx, by omega, hmx, by go_num, rfl, rfl, HR.out, trivial⟩
        case measure => simp [intOf]; omega
      | true =>
        rw [hp] at hlk HFS
        rw [Bool.true_and] at HFS
        clear hp
        by_cases hx : x = key
        · have HR : Hid (farI l id key (xs.take (k + 1)) = (fx, mx)) := HT.out.trans (HFS.out.trans (by simp [hx]))
          have hxd : (x == key) = true := by simpa using hx
          clear HT HFS hx CB CA
          go_wp2_with fail
          go_roundw
          case rel => exact ⟨k + 1, fx, mx, by omega, hmx, by go_num, rfl, rfl, HR.out, trivial⟩
          case measure => simp [intOf]; omega
        · have hxd : (x == key) = false := by simpa using hx
          rw [decide_eq_true hx, Bool.true_and] at HFS
          clear hx
          cases hb : btw id x key with
          | false =>
            have HR : Hid (farI l id key (xs.take (k + 1)) = (fx, mx)) := HT.out.trans (HFS.out.trans (by rw [hb]; simp))
            rw [hb] at CB
            clear HT HFS hb CA
            go_wp2_with fail
            refine (CB.out _).mono ?_
            rintro e wy ⟨rfl, rfl⟩
            go_wp2_with fail
            go_roundw
            case rel => exact ⟨k + 1, fx, mx, by omega, hmx, by go_num, rfl, rfl, HR.out, trivial⟩
            case measure => simp [intOf]; omega
          | true =>
            rw [hb] at CB HFS
            rw [Bool.true_and] at HFS
            clear hb
            generalize ahd id x = ex at *
            by_cases hfx : mx < ex
            · have HR : Hid (farI l id key (xs.take (k + 1)) = (x, ex)) := HT.out.trans (HFS.out.trans (by rw [if_pos (decide_eq_true hfx)]))
              have hfd : decide ((ex : Int) > (mx : Int)) = true := decide_eq_true (by omega)
              clear HT HFS
              go_wp2_with fail
              refine (CB.out _).mono ?_
              rintro e wy ⟨rfl, rfl⟩
              go_wp2_with fail
              refine (CA.out _).mono ?_
              rintro e wz ⟨rfl, rfl⟩
              go_wp2_with fail
              go_roundw
              case rel => exact ⟨k + 1, x, ex, by omega, hal, by go_num, rfl, rfl, HR.out, trivial⟩
              case measure => simp [intOf]; omega
            · have HR : Hid (farI l id key (xs.take (k + 1)) = (fx, mx)) := HT.out.trans (HFS.out.trans (by rw [if_neg (by simpa using hfx)]))
              have hfd : decide ((ex : Int) > (mx : Int)) = false := decide_eq_false (by omega)
              clear HT HFS
              go_wp2_with fail
              refine (CB.out _).mono ?_
              rintro e wy ⟨rfl, rfl⟩
              go_wp2_with fail
              refine (CA.out _).mono ?_
              rintro e wz ⟨rfl, rfl⟩
              go_wp2_with fail
              go_roundw
              case rel => exact ⟨k + 1, fx, mx, by omega, hmx, by go_num, rfl, rfl, HR.out, trivial⟩
              case measure => simp [intOf]; omega
    · obtain rfl : k = xs.length := by omega
      have HE : Hid ((fx, mx) = (ff, fm)) := by
        have := HF.out
        rw [List.take_length] at this
        exact this.symm.trans HFR.out
      clear HF
      go_wp2_with fail
      go_ret2
      cases HE.out
      exact ⟨by simp, HB3.out⟩
end Go.Proofs.YteladljgnbfcnaaGreatDoor.P9
namespace Go.Proofs.YteladljgnbfcnaaGreatDoor.P9
set_option maxRecDepth 8000
open Go.RowKit P1 P8 Da Mp Ap

/-- What a peer knows is within reach. -/
def Reach (l : List Pr) : Prop := ∀ p ∈ l, p.behind.length ≤ 1048576 ∧ (p.behind ++ p.fingers).length ≤ 2097152

set_option maxRecDepth 100000 in
set_option maxHeartbeats 2000000 in
theorem step_calls (w : World) (v : Value) (l : List Pr) (id key : Int) (km n : Nat) (hm : MapR keyI w km n (hereV v l)) (hv : PeersAt w v l) (hre : Reach l) (hon : OnRing l) :
    Calls Tryz.prog 98 #[.map (some km), .int .i64 id, .int .i64 key] w fun e w' => e = .returned (.tuple #[.int .i64 (stepTo l id key).1, .bool (stepTo l id key).2]) ∧ Below w.heap.size w w' := by
  obtain ⟨R, eR⟩ : ∃ R, R = stepTo l id key := ⟨_, rfl⟩
  rw [← eR]
  obtain ⟨K, hK⟩ : ∃ K, K = key % 256 := ⟨_, rfl⟩
  have CO : Hid (∀ wx, Calls Tryz.prog 114 #[.int .i64 key] wx fun e w' => e = .returned (.int .i64 K) ∧ w' = wx) := by rw [hK]; exact fun wx => onRing_calls key wx
  rw [← stepTo_mod, ← hK] at eR
  have hkey : 0 ≤ K ∧ K < 256 := by omega
  clear hK
  have HV := hide hv
  have HM := hide hm
  have hlk := hereV_look hm id
  cases hi : hereIdx l id with
  | none =>
    have HE : Hid (R = (-1, false)) := eR.trans (step_nobody hi)
    rw [hi] at hlk
    simp only [Option.map_none, Option.getD_none, Option.isSome_none] at hlk
    clear hi hv hm hon hre eR HV HM
    go_enter Tryz.func98, Tryz.ntmps98
    go_wp2_with fail
    refine (CO.out _).mono ?_
    rintro e wk ⟨rfl, rfl⟩
    go_wp2_with fail
    go_ret2
    exact ⟨by rw [HE.out]; rfl, Below.refl _ _⟩
  | some j =>
    obtain ⟨hj, hjh, hji⟩ := hereIdx_some hi
    obtain ⟨a2, c2, hsh, HA⟩ := hv.open_
    cases hsh
    obtain ⟨g, off, u3, u4, u5, rfl, hg, hc⟩ := HA j hj
    obtain ⟨hlb, hlen⟩ := hre l[j] (List.getElem_mem hj)
    have HC := hide (next_calls w _ u3 l l[j].behind km n g (off + j * 6) hm hc.c3 hc.behind hlb)
    have hcid := hc.id
    rw [hji] at hcid
    have HF := hide (fun K => furthest_calls w _ u3 u4 l id K l[j].behind l[j].fingers km n g (off + j * 6) hm hcid hc.c3 hc.c4 hc.behind hc.fingers hlen)
    rw [hi] at hlk
    simp only [Option.map_some, Option.getD_some, Option.isSome_some] at hlk
    change _ = Result.ok (Value.tuple #[.pointer (some ⟨g, off + j * 6, none⟩), .bool true]) _ at hlk
    cases hf : firstHere l l[j].behind with
    | none =>
      have HE : Hid (R = (-1, false)) := eR.trans (step_alone hj hi hf)
      rw [hf] at HC
      change Hid (Calls _ _ _ _ fun e w' => e = .returned (.tuple #[.int .i64 (-1), .bool false]) ∧ w' = w) at HC
      clear hi HA hc HM HF eR hf hv hm hcid HV hon hre
      go_enter Tryz.func98, Tryz.ntmps98
      go_wp2_with fail
      refine (CO.out _).mono ?_
      rintro e wk ⟨rfl, rfl⟩
      go_wp2_with fail
      refine HC.out.mono ?_
      rintro e w3 ⟨rfl, rfl⟩
      go_wp2_with fail
      go_ret2
      exact ⟨by rw [HE.out]; rfl, Below.refl _ _⟩
    | some nx =>
      have hN := nxt_of hon hj hi hf
      rw [hf] at HC
      change Hid (Calls _ _ _ _ fun e w' => e = .returned (.tuple #[.int .i64 nx, .bool true]) ∧ w' = w) at HC
      have CB := hide (fun wx => implBetween_calls id K nx wx)
      by_cases hk : id = K
      · have HE : Hid (R = (id, true)) := eR.trans (step_self hN hkey hk)
        have hkd : (id == K) = true := by simpa using hk
        clear hi HA hc HM HF eR hf hv hm hcid HV hon hre hN hk CB
        go_enter Tryz.func98, Tryz.ntmps98
        go_wp2_with fail
        refine (CO.out _).mono ?_
        rintro e wk ⟨rfl, rfl⟩
        go_wp2_with fail
        refine HC.out.mono ?_
        rintro e w3 ⟨rfl, rfl⟩
        go_wp2_with fail
        go_ret2
        exact ⟨by rw [HE.out]; rfl, Below.refl _ _⟩
      · have hkd : (id == K) = false := by simpa using hk
        cases hb : btw id K nx with
        | true =>
          have HE : Hid (R = (nx, true)) := eR.trans (step_next hN hkey hk hb)
          rw [hb] at CB
          clear hi HA hc HM HF eR hf hv hm hcid HV hon hre hN hk hb
          go_enter Tryz.func98, Tryz.ntmps98
          go_wp2_with fail
          refine (CO.out _).mono ?_
          rintro e wk ⟨rfl, rfl⟩
          go_wp2_with fail
          refine HC.out.mono ?_
          rintro e w3 ⟨rfl, rfl⟩
          go_wp2_with fail
          refine (CB.out _).mono ?_
          rintro e w4 ⟨rfl, rfl⟩
          go_wp2_with fail
          go_ret2
          exact ⟨by rw [HE.out]; rfl, Below.refl _ _⟩
        | false =>
          obtain ⟨h1, h2⟩ := step_far hf hN hkey hk hb
          have HE : Hid (R = _) := eR.trans h1
          have HF2 := hide (HF.out K)
          rw [farI_keep hon, decide_eq_true h2] at HF2
          rw [hb] at CB
          generalize (farI l id K (l[j].behind ++ l[j].fingers)).1 = fx at *
          clear hi HA hc HM HF eR hf hv hm hcid HV hon hre hN hk hb h1 h2
          go_enter Tryz.func98, Tryz.ntmps98
          go_wp2_with fail
          refine (CO.out _).mono ?_
          rintro e wk ⟨rfl, rfl⟩
          go_wp2_with fail
          refine HC.out.mono ?_
          rintro e w3 ⟨rfl, rfl⟩
          go_wp2_with fail
          refine (CB.out _).mono ?_
          rintro e w4 ⟨rfl, rfl⟩
          go_wp2_with fail
          refine HF2.out.mono ?_
          rintro e w5 ⟨rfl, hb5⟩
          have HB5 := hide hb5
          clear hb5
          go_wp2_with fail
          go_ret2
          exact ⟨by rw [HE.out]; rfl, HB5.out⟩
end Go.Proofs.YteladljgnbfcnaaGreatDoor.P9
