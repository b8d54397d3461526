/- The specification's NextOf; condition: at most 2^20 peers, each with at most 2^20 behind it. -/
import Derived.Test.YthkdgnohkdedpaaRg2
import Derived.Test.YthkdgnohkdedpaaKit
import Derived.Deep.CutRange
namespace Go.Proofs.Ythkdgnohkdedpaa.P9
set_option maxRecDepth 8000
open Go.RowKit P1 P8 Da

/-- The first one of its Behind that is there. -/
def nextOf (l : List Pr) (id : Int) : Int :=
  if peerAt l id < 0 then -1 else (((l[(peerAt l id).toNat]?).map fun p => p.behind).bind fun b => b.find? fun y => decide (0 ≤ peerAt l y)).getD (-1)

theorem peerAt_lt (l : List Pr) (id : Int) : peerAt l id = -1 ∨ ∃ i : Nat, ∃ _ : i < l.length, peerAt l id = i := by
  unfold peerAt
  cases h : l.findIdx? fun p => p.here && (p.id == id) with
  | none => exact .inl rfl
  | some i => exact .inr ⟨i, (List.findIdx?_eq_some_iff_getElem.1 h).1, rfl⟩

theorem nextOf_hit {l : List Pr} {id : Int} {i : Nat} (hi : i < l.length) (h : peerAt l id = i) : nextOf l id = (l[i].behind.find? fun y => decide (0 ≤ peerAt l y)).getD (-1) := by
  unfold nextOf
  rw [h, if_neg (by omega)]
  simp [hi]

set_option maxHeartbeats 2000000 in
theorem specNext_calls (w : World) (v : Value) (l : List Pr) (id : Int) (hv : PeersAt w v l) (hl : l.length ≤ 1048576) (hbl : ∀ p ∈ l, p.behind.length ≤ 1048576) :
    Calls Try.prog 46 #[.agg #[v], .int .i64 id] w fun e w' => e = .returned (.int .i64 (nextOf l id)) ∧ Below w.heap.size w w' := by
  have hb1 := (Below.refl w.heap.size w).alloc (Nat.le_refl _) (.cells #[v] 44)
  have HV := hide (hv.below hb1 (Nat.le_refl _))
  obtain ⟨a, cap, rfl, -⟩ := hv.open_
  have G := Blk.new w #[.slice a l.length cap] 44
  have HB := hide hb1
  clear hv hb1
  go_enter Try.func46, Try.ntmps46
  go_upto_region 1 with fail
  obtain ⟨b0, e0⟩ : ∃ b, b = w.heap.size := ⟨_, rfl⟩
  rw [← e0] at G ⊢
  clear e0
  generalize w.alloc (.cells #[.slice a l.length cap] 44) = w1 at *
  have c0 : w1.cell? ⟨b0, 0, none⟩ = some (.slice a l.length cap) := by rw [G.cell 0]; rfl
  have l0 := G.lt
  go_wp2_with fail
  refine (specPeerAt_calls w1 _ l id HV.out hl).mono ?_
  rintro e w2 ⟨rfl, hb2⟩
  have HV2 := hide (HV.out.below hb2 (Nat.le_refl _))
  have HB2 := hide (HB.out.trans (hb2.mono HB.out.size))
  have HG2 := hide (G.below hb2 G.lt)
  clear c0 l0 G HV HB hb2
  rcases peerAt_lt l id with hpa | ⟨i, hi, hpa⟩
  · have HE : Hid (nextOf l id = -1) := by show _ = _; unfold nextOf; rw [hpa, if_pos (by decide)]
    rw [hpa]
    go_wp2_with fail
    go_loopw [6] (fun k wr => k = .int .i64 0 ∧ wr = w2) (fun _ _ => 0)
    case atStart => exact ⟨rfl, rfl⟩
    case round =>
      obtain ⟨rfl, rfl⟩ := hrel
      go_wp2_with fail
      go_ret
      exact ⟨by rw [HE.out]; rfl, HB2.out⟩
  · have hNE := nextOf_hit hi hpa
    have hbh := hbl l[i] (List.getElem_mem hi)
    rw [hpa]
    obtain ⟨bs, EB⟩ : ∃ bs, bs = l[i].behind := ⟨_, rfl⟩
    rw [← EB] at hNE hbh
    have HNE := hide hNE
    have HEB := hide EB
    clear hNE hpa hbl EB
    go_wp2_with fail
    go_loopw [6] (fun q wr => ∃ k : Nat, k ≤ bs.length ∧ q = .int .i64 k ∧ Hid (∀ j (hj : j < k) (hj' : j < bs.length), peerAt l bs[j] < 0) ∧ Hid (Below w2.heap.size w2 wr)) (fun q _ => bs.length - (intOf q).toNat)
    case atStart => exact ⟨0, Nat.zero_le _, rfl, fun j hj => by omega, Below.refl _ _⟩
    case round =>
      obtain ⟨k, hk, rfl, HN, HBr⟩ := hrel
      have HVr := hide (HV2.out.below HBr.out (Nat.le_refl _))
      have G := HG2.out.below HBr.out HG2.out.lt
      obtain ⟨a2, c2, hsh, HA⟩ := HVr.out.open_
      cases hsh
      obtain ⟨g, off, u3, u4, u5, rfl, hg, hc⟩ := HA i hi
      have f3 := hc.c3
      have hI := hc.behind
      rw [← HEB.out] at hI
      obtain ⟨ab, cb, rfl, HI⟩ := hI
      have c0 : wr.cell? ⟨b0, 0, none⟩ = some (.slice (some ⟨g, off, none⟩) l.length cap) := by rw [G.cell 0]; rfl
      have l0 := G.lt
      have HBw := hide (HB2.out.trans (HBr.out.mono HB2.out.size))
      clear HA hc G
      by_cases hlt : k < bs.length
      · obtain ⟨gb, ob, rfl, hb2, hb3⟩ := HI k hlt
        clear HI
        have HC := hide (fun p : Near wr.heap.size wr => specPeerAt_calls p.w _ l bs[k] (HVr.out.below p.h (Nat.le_refl _)) hl)
        have n0 : ∀ p : Near wr.heap.size wr, p.w.cell? ⟨b0, 0, none⟩ = some (.slice (some ⟨g, off, none⟩) l.length cap) := fun p => (p.h.cell (p := ⟨b0, 0, none⟩) l0).trans c0
        have n1 : ∀ p : Near wr.heap.size wr, p.w.cell? ⟨g, off + i * 6 + 3, none⟩ = some (.slice (some ⟨gb, ob, none⟩) bs.length cb) := fun p => (p.h.cell (p := ⟨g, off + i * 6 + 3, none⟩) hg).trans f3
        have n2 : ∀ p : Near wr.heap.size wr, p.w.cell? ⟨gb, ob + k, none⟩ = some (.int .i64 bs[k]) := fun p => (p.h.cell (p := ⟨gb, ob + k, none⟩) hb2).trans hb3
        have hnn := Near.some wr.heap.size wr
        have HS : Hid (peerAt l bs[k] < 0 → ∀ j (hj : j < k + 1) (hj' : j < bs.length), peerAt l bs[j] < 0) := fun h j hj hj' => by
          rcases Nat.lt_or_ge j k with h1 | h1
          · exact HN.out j h1 hj'
          · obtain rfl : j = k := by omega
            exact h
        have HE : Hid (0 ≤ peerAt l bs[k] → nextOf l id = bs[k]) := fun h => by
          rw [HNE.out]
          have : bs.find? (fun y => decide (0 ≤ peerAt l y)) = some bs[k] := by
            rw [List.find?_eq_some_iff_getElem]
            exact ⟨by simpa using h, k, hlt, rfl, fun j hj => by have := HN.out j hj (by omega); simpa using this⟩
          rw [this]
          rfl
        clear HN HVr
        generalize bs[k] = y at *
        go_wp2_with fail
        refine wp_region_near wr.heap.size wr (Below.refl _ _) (by kernel_rfl) (by kernel_rfl) ?_
        repeat (go_big_quiet_step (fail))
        go_big_quiet_step (exact calls_near (Nat.le_refl _) (HC.out _))
        repeat (go_big_quiet_step (fail))
        refine wpQuiet_nil ?_
        rintro w3 ⟨pq, rfl⟩
        have m0 := n0 pq
        have m1 := n1 pq
        have m2 := n2 pq
        have hqb := pq.h
        obtain ⟨w3, hq⟩ := pq
        simp only at hqb m0 m1 m2 ⊢
        have hs3 := hqb.size
        have hg3 : g < w3.heap.size := by omega
        have hb03 : b0 < w3.heap.size := by omega
        have hgb3 : gb < w3.heap.size := by omega
        have HB3 := hide (HBr.out.trans (hqb.mono HBr.out.size))
        have HB4 := hide (HBw.out.trans (hqb.mono HBw.out.size))
        clear hq n0 n1 n2 hnn HC hqb c0 f3 hb3
        by_cases hp : 0 ≤ peerAt l y
        · have HR := hide (HE.out hp)
          generalize peerAt l y = pa at *
          go_wp2_with fail
          go_ret
          exact ⟨by rw [HR.out]; rfl, HB4.out⟩
        · have hp2 : peerAt l y < 0 := by omega
          have HR := hide (HS.out hp2)
          generalize peerAt l y = pa at *
          go_wp2_with fail
          go_roundw
          case rel => exact ⟨k + 1, by omega, by go_num, HR.out, HB3.out⟩
          case measure => simp [intOf]; omega
      · have HE : Hid (nextOf l id = -1) := by
          show _ = _
          rw [HNE.out]
          have : bs.find? (fun y => decide (0 ≤ peerAt l y)) = none := by
            rw [List.find?_eq_none]
            intro y hy
            obtain ⟨j, hj, rfl⟩ := List.getElem_of_mem hy
            have := HN.out j (by omega) hj
            simpa using this
          rw [this]
          rfl
        clear HI HN HVr
        go_wp2_with fail
        go_ret
        exact ⟨by rw [HE.out]; rfl, HBw.out⟩
end Go.Proofs.Ythkdgnohkdedpaa.P9
