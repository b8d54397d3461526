/- What the program's chapter 11 tells of a drawn ring, as plain mathematics; no condition. -/
import Derived.Test.YteladljgnbfcnaaGreatDoorZRK
import Derived.Test.YteladljgnbfcnaaGreatDoorZRI
import Derived.Test.YteladljgnbfcnaaGreatDoorZRO
import Derived.Test.YteladljgnbfcnaaGreatDoorZSC
namespace Go.Proofs.YteladljgnbfcnaaGreatDoor.P9
open Go.RowKit P1 P8 Da

/-! Who goes. -/
def goesAt (l : List Pr) (k : Nat) : Bool := match l[k]? with | none => true | some p => !p.here || (firstHere l p.behind).isSome

/-- Each that is there knows one behind it that is. -/
def goesOn (l : List Pr) : Bool := (List.range l.length).all (goesAt l)

theorem first_on {l : List Pr} (hr : OnRing l) {b : List Int} {x : Int} (h : firstHere l b = some x) : 0 ≤ peerAt l x ∧ 0 ≤ x ∧ x < 256 := by
  have h1 : 0 ≤ peerAt l x := by
    unfold firstHere at h
    simpa using List.find?_some h
  exact ⟨h1, on_of_at hr h1⟩

theorem goes_lonely {l : List Pr} (hr : OnRing l) (hn : (idsOf l).Nodup) {k : Nat} (hk : k < l.length) : goesAt l k = !(lonely l l[k]) := by
  unfold goesAt lonely
  rw [List.getElem?_eq_getElem hk]
  dsimp only
  cases hh : l[k].here with
  | false => rfl
  | true =>
    rw [nextOf_hit hk (at_self hn hk hh)]
    show (!true || (firstHere l l[k].behind).isSome) = !(true && decide ((firstHere l l[k].behind).getD (-1) < 0))
    cases hf : firstHere l l[k].behind with
    | none => rfl
    | some x =>
      have := (first_on hr hf).2.1
      have hd : decide ((some x).getD (-1) < 0) = false := decide_eq_false (by show ¬ x < 0; omega)
      rw [hd]
      rfl

theorem goesOn_eq {l : List Pr} (hr : OnRing l) (hn : (idsOf l).Nodup) : goesOn l = !(l.any (lonely l)) := by
  cases h : l.any (lonely l) with
  | false =>
    refine all_range fun j hj => ?_
    rw [goes_lonely hr hn hj]
    rw [List.any_eq_false] at h
    have := h l[j] (List.getElem_mem hj)
    simpa using this
  | true =>
    obtain ⟨p, hp, h1⟩ := List.any_eq_true.1 h
    obtain ⟨j, hj, rfl⟩ := List.mem_iff_getElem.1 hp
    exact not_all_range hj (by rw [goes_lonely hr hn hj, h1]; rfl)

theorem gone_low {l : List Pr} {id : Int} (h : peerAt l id < 4) : gone l id = (l, false) := by
  unfold gone
  rw [if_pos h]

theorem gone_high {l : List Pr} (hx : RingX l) {id : Int} {i : Nat} (hp : peerAt l id = i) (h4 : 4 ≤ i) :
    gone l id = if goesOn (l.set i (emptyP id)) = true then (l.set i (emptyP id), true) else (l, false) := by
  obtain ⟨hi, hh, hid⟩ := peerAt_id hp
  have e : idsOf (l.set i (emptyP id)) = idsOf l := ids_set hi hid.symm
  unfold gone
  rw [if_neg (by omega), hp, Int.toNat_natCast, goesOn_eq (on_ids (by rw [e]; exact hx.on)) (by rw [e]; exact hx.nodup)]
  cases (l.set i (emptyP id)).any (lonely (l.set i (emptyP id))) <;> rfl

/-! Who comes. -/
def awayIdx (l : List Pr) (id : Int) : Option Nat := l.findIdx? fun p => (p.id == id) && !p.here

theorem awayIdx_some {l : List Pr} {id : Int} {i : Nat} (h : awayIdx l id = some i) : ∃ hi : i < l.length, l[i].id = id ∧ l[i].here = false := by
  obtain ⟨hi, h1, _⟩ := List.findIdx?_eq_some_iff_getElem.1 h
  simp at h1
  exact ⟨hi, h1⟩

theorem freeAt_hit {l : List Pr} (hn : (idsOf l).Nodup) {id : Int} {i : Nat} (hi : i < l.length) (h1 : l[i].id = id) (h2 : l[i].here = false) : ∀ k, i < k → k ≤ l.length → freeAt l id k = i := by
  intro k
  induction k with
  | zero => intro h; omega
  | succ k ih =>
    intro hik hk
    rw [freeAt_step (by omega)]
    by_cases hc : l[k].id = id ∧ l[k].here = false
    · rw [if_pos hc, ids_inj hn (by omega) hi (hc.1.trans h1.symm)]
    · rw [if_neg hc]
      refine ih ?_ (by omega)
      rcases Nat.lt_or_ge i k with h | h
      · exact h
      · obtain rfl : i = k := by omega
        exact absurd ⟨h1, h2⟩ hc

theorem joined_none {l : List Pr} {id by_ : Int} (h : awayIdx l id = none) : joined l id by_ = (l, false) := by
  refine joined_free ?_
  rcases freeAt_lt l id l.length with h1 | ⟨i, hi, h1, -, h2, h3⟩
  · omega
  · have := List.findIdx?_eq_none_iff.1 h l[i] (List.getElem_mem hi)
    simp [h2, h3] at this

theorem find_here {l : List Pr} (hr : OnRing l) {by_ key n : Int} {m : Nat} (h : find l by_ key = some (n, m)) : 0 ≤ peerAt l n := (findGo_at hr key 66 by_ n m h).1

theorem joined_some {l : List Pr} (hx : RingX l) {id by_ n : Int} {m i : Nat} (hf : find l by_ id = some (n, m)) (ha : awayIdx l id = some i) : joined l id by_ = (l.set i (newP l id n), true) := by
  obtain ⟨hi, h1, h2⟩ := awayIdx_some ha
  refine joined_ok hf (freeAt_hit hx.nodup hi h1 h2 _ hi (Nat.le_refl _)) ?_ (find_here hx.ring hf)
  rcases Int.lt_or_le (peerAt l id) 0 with h | h
  · exact h
  · obtain ⟨j, hj, -, h3, h4⟩ := at_some h
    obtain rfl := ids_inj hx.nodup hi hj (h1.trans h4.symm)
    rw [h2] at h3
    cases h3

/-! Who asks. -/
theorem asked_is {l : List Pr} {id nx : Int} {j : Nat} (hj : j < l.length) (hp : peerAt l nx = j) :
    asked l id nx = if (decide (0 ≤ peerAt l l[j].ahead) && btw id l[j].ahead nx) = true then l[j].ahead else nx := by
  unfold asked
  rw [aheadOf_hit hj hp]
  by_cases h1 : 0 ≤ peerAt l l[j].ahead
  · by_cases h2 : btw id l[j].ahead nx = true
    · have e : (decide (0 ≤ peerAt l l[j].ahead) && btw id l[j].ahead nx) = true := by rw [decide_eq_true h1, h2]; rfl
      rw [if_pos e]
      by_cases h3 : l[j].ahead = nx
      · rw [h3, if_neg (fun h => h.2.1 rfl)]
      · refine if_pos ⟨h1, h3, fun e => ?_, h2⟩
        rw [e] at h2
        unfold btw at h2
        rw [ahd_self] at h2
        simp at h2
    · rw [if_neg (fun h => h2 h.2.2.2), if_neg (by simp [h2])]
  · rw [if_neg (fun h => h1 h.1), if_neg (by simp [h1])]

theorem behindBut_head {l : List Pr} {m but : Int} (h : m ≠ but) : ∃ r, behindBut l m but = m :: r := by
  unfold behindBut
  rw [List.filter_cons_of_pos (by simpa using h)]
  exact ⟨_, rfl⟩

theorem next_not {l : List Pr} (hx : RingX l) {id nx : Int} {i : Nat} (hi : i < l.length) (h : hereIdx l id = some i) (hn : firstHere l l[i].behind = some nx) : nx ≠ id := by
  intro e
  obtain ⟨_, _, h2⟩ := hereIdx_some h
  have hm : nx ∈ l[i].behind := by
    unfold firstHere at hn
    exact List.mem_of_find?_eq_some hn
  refine hx.self l[i] (List.getElem_mem hi) ?_
  rw [h2, ← e]
  exact hm

/-- Whether an Id is somebody's who is there. -/
theorem settle_nobody {l : List Pr} {id : Int} (h : hereIdx l id = none) : settle l id = (l, false) := settle_no (.inl (by rw [peerAt_no h]; decide))

theorem settle_alone {l : List Pr} {id : Int} {i : Nat} (hi : i < l.length) (h : hereIdx l id = some i) (hn : firstHere l l[i].behind = none) : settle l id = (l, false) := by
  refine settle_no (.inr ?_)
  have e : nextOf l id = (firstHere l l[i].behind).getD (-1) := nextOf_hit hi (peerAt_of h)
  rw [e, hn]
  decide

theorem settle_is {l : List Pr} (hx : RingX l) {id nx : Int} {i : Nat} (hi : i < l.length) (h : hereIdx l id = some i) (hn : firstHere l l[i].behind = some nx) {m : Int} (hm : asked l id nx = m) {j : Nat} (hj : j < l.length) (hp : peerAt l m = j) :
    settle l id = (if (!decide (0 ≤ peerAt l l[j].ahead) || btw l[j].ahead id m) = true then setAhead (setBehind l i (behindBut l m id)) j id else setBehind l i (behindBut l m id), true) := by
  have hnx := nxt_of hx.ring hi h hn
  rw [settle_yes hnx.at_ (by rw [hnx.nx]; exact hnx.on.1) (by rw [hnx.nx]; exact hm) hp, aheadOf_hit hj hp]
  by_cases h1 : 0 ≤ peerAt l l[j].ahead
  · rw [decide_eq_true h1]
    by_cases h2 : btw l[j].ahead id m = true
    · rw [if_pos (.inr h2), if_pos (by rw [h2]; rfl)]
    · rw [if_neg (fun h => h.elim (fun h => by omega) h2), if_neg (by simpa using h2)]
  · rw [if_pos (.inl (by omega)), if_pos (by rw [decide_eq_false h1]; rfl)]

/-! Who knows all. -/
def knowsAll (H : List Int) (p : Pr) : Bool := decide (p.ahead = wantAhead H p.id) && (decide (p.behind = (ordered p.id H).take 3) && decide (p.fingers = wantFingers H p.id))

def notAll (H : List Int) (p : Pr) : Bool := p.here && !knowsAll H p

theorem fingers_all {H : List Int} {p : Pr} (hid : 0 ≤ p.id ∧ p.id < 256) : (decide (p.fingers.length = 8) && (List.range 8).all (wantF H p)) = decide (p.fingers = wantFingers H p.id) := by
  have hk : ∀ k : Nat, k < 8 → keyW p.id k = p.id + 2 ^ k := by
    intro k hk
    have h8 : k = 0 ∨ k = 1 ∨ k = 2 ∨ k = 3 ∨ k = 4 ∨ k = 5 ∨ k = 6 ∨ k = 7 := by omega
    unfold keyW
    rcases h8 with rfl | rfl | rfl | rfl | rfl | rfl | rfl | rfl <;> (unfold wrap64; omega)
  have hlen : (wantFingers H p.id).length = 8 := by simp [wantFingers]
  by_cases h1 : p.fingers.length = 8
  · rw [decide_eq_true h1, Bool.true_and]
    by_cases h2 : p.fingers = wantFingers H p.id
    · rw [decide_eq_true h2]
      refine all_range fun k hk8 => ?_
      unfold wantF
      rw [h2, hk k hk8]
      unfold wantFingers
      simp [hk8]
    · rw [decide_eq_false h2]
      rcases hd : (List.range 8).all (wantF H p) with _ | _
      · rfl
      · refine absurd (List.ext_getElem (by omega) fun k h3 h4 => ?_) h2
        rw [List.all_eq_true] at hd
        have := hd k (List.mem_range.2 (by omega))
        unfold wantF at this
        rw [hk k (by omega), List.getElem?_eq_getElem h3] at this
        have h5 : p.fingers[k] = ownerOf (p.id + 2 ^ k) H := of_decide_eq_true this
        rw [h5]
        have e : (wantFingers H p.id)[k]? = some (ownerOf (p.id + 2 ^ k) H) := by
          have hk8 : k < 8 := by omega
          unfold wantFingers
          simp [hk8]
        rw [List.getElem?_eq_getElem h4] at e
        exact (Option.some.inj e).symm
  · rw [decide_eq_false h1, Bool.false_and]
    exact (decide_eq_false fun e => h1 (by rw [e, hlen])).symm

theorem knows_is {H : List Int} {p : Pr} (hid : 0 ≤ p.id ∧ p.id < 256) (ho : (ordered p.id H).length ≠ 0) : idealP H p = knowsAll H p := by
  unfold idealP headI knowsAll wantAhead
  rw [decide_eq_true ho, if_neg ho, Bool.true_and, ← fingers_all hid]
  cases decide (p.ahead = (ordered p.id H).getLastD 0) <;> cases decide (p.behind = (ordered p.id H).take 3) <;> simp
end Go.Proofs.YteladljgnbfcnaaGreatDoor.P9
