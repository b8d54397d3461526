/- The specification's PeerAt, HereOf, NextOf; condition: at most 2^20 peers. -/
import Derived.Test.YtfckfgabeeeccaaRg1
import Derived.Test.YtfckfgabeeeccaaRng3
import Derived.Test.YtfckfgabeeeccaaBlk
namespace Go.Proofs.Ytfckfgabeeeccaa.P9
set_option maxRecDepth 8000
open Go.RowKit P1 P8 Da

/-- Where the one with this id is that is there. -/
def peerAt (l : List Pr) (id : Int) : Int := ((l.findIdx? fun p => p.here && (p.id == id)).map (fun (i : Nat) => (i : Int))).getD (-1)

theorem peerAt_hit {l : List Pr} {id : Int} {k : Nat} (hk : k < l.length) (h : (l[k].here && (l[k].id == id)) = true) (hb : ∀ j (hj : j < k), (l[j].here && (l[j].id == id)) = false) : peerAt l id = k := by
  unfold peerAt
  rw [List.findIdx?_eq_some_iff_getElem.2 ⟨hk, h, fun j hj => by rw [hb j hj]; simp⟩]
  rfl

theorem peerAt_none {l : List Pr} {id : Int} (hb : ∀ j (hj : j < l.length), (l[j].here && (l[j].id == id)) = false) : peerAt l id = -1 := by
  unfold peerAt
  rw [List.findIdx?_eq_none_iff.2 (fun x hx => by
    obtain ⟨j, hj, rfl⟩ := List.getElem_of_mem hx
    exact hb j hj)]
  rfl

set_option maxHeartbeats 1000000 in
theorem specPeerAt_calls (w : World) (v : Value) (l : List Pr) (id : Int) (hv : PeersAt w v l) (hl : l.length ≤ 1048576) :
    Calls Try.prog 40 #[.agg #[v], .int .i64 id] w fun e w' => e = .returned (.int .i64 (peerAt l id)) ∧ Below w.heap.size w w' := by
  have hb1 := (Below.refl w.heap.size w).alloc (Nat.le_refl _) (.cells #[v] 41)
  have HV := hide (hv.below hb1 (Nat.le_refl _))
  obtain ⟨a, cap, rfl, -⟩ := hv.open_
  have G := Blk.new w #[.slice a l.length cap] 41
  have HB := hide hb1
  clear hv hb1
  go_enter Try.func40, Try.ntmps40
  go_wp2_with fail
  obtain ⟨b0, e0⟩ : ∃ b, b = w.heap.size := ⟨_, rfl⟩
  rw [← e0] at G ⊢
  clear e0
  generalize w.alloc (.cells #[.slice a l.length cap] 41) = w1 at *
  have c0 : w1.cell? ⟨b0, 0, none⟩ = some (.slice a l.length cap) := by rw [G.cell 0]; rfl
  have l0 := G.lt
  clear G
  go_loopw [5] (fun i wr => ∃ k : Nat, k ≤ l.length ∧ i = .int .i64 k ∧ Hid (∀ j (hj : j < k) (hj' : j < l.length), (l[j].here && (l[j].id == id)) = false) ∧ wr = w1) (fun i _ => l.length - (intOf i).toNat)
  case atStart => exact ⟨0, Nat.zero_le _, rfl, fun j hj => by omega, rfl⟩
  case round =>
    obtain ⟨k, hk, rfl, HN, hwr⟩ := hrel
    subst hwr
    by_cases hlt : k < l.length
    · obtain ⟨a2, c2, hsh, HA⟩ := HV.out.open_
      cases hsh
      obtain ⟨g, off, u3, u4, u5, rfl, hg, hc⟩ := HA k hlt
      have f0 := hc.id
      have f1 := hc.here
      have HS : Hid ((l[k].here && (l[k].id == id)) = false → ∀ j (hj : j < k + 1) (hj' : j < l.length), (l[j].here && (l[j].id == id)) = false) := fun h j hj hj' => by
        rcases Nat.lt_or_ge j k with h1 | h1
        · exact HN.out j h1 hj'
        · obtain rfl : j = k := by omega
          exact h
      have HE : Hid ((l[k].here && (l[k].id == id)) = true → peerAt l id = k) := fun h => peerAt_hit hlt h (fun j hj => HN.out j hj (by omega))
      clear HA hc HN
      generalize l[k].here = hh at *
      generalize l[k].id = ii at *
      cases hh with
      | false =>
        go_wp2
        go_roundw
        case rel => exact ⟨k + 1, by omega, by go_num, HS.out rfl, trivial⟩
        case measure => simp [intOf]; omega
      | true =>
        by_cases hi : ii = id
        · subst hi
          go_wp2
          go_ret
          exact ⟨by rw [HE.out (by simp)]; rfl, HB.out⟩
        · have hne : (ii == id) = false := by simpa using hi
          go_wp2
          go_roundw
          case rel => exact ⟨k + 1, by omega, by go_num, HS.out (by simp [hne]), trivial⟩
          case measure => simp [intOf]; omega
    · have HE : Hid (peerAt l id = -1) := peerAt_none (fun j hj => HN.out j (by omega) hj)
      clear HN
      go_wp2
      go_ret
      exact ⟨by rw [HE.out]; rfl, HB.out⟩
end Go.Proofs.Ytfckfgabeeeccaa.P9
