/- Whether each that is there knows one behind it that is, as plain mathematics; no condition.
Whether each that is there knows one behind it that is, as the program asks it; condition: at most 2^20 peers, at most 2^20 behind each. -/
import Derived.Test.YteladljgnbfcnaaGreatZRE
import Derived.Test.YteladljgnbfcnaaGreatZRB
import Derived.Test.YteladljgnbfcnaaGreatZRC
import Derived.Deep.CutRange
namespace Go.Proofs.YteladljgnbfcnaaGreat.P9
open Go.RowKit P1 P8 Da

def goesAt (l : List Pr) (k : Nat) : Bool := match l[k]? with | none => true | some p => !p.here || (firstHere l p.behind).isSome

/-- Each that is there knows one behind it that is. -/
def goesOn (l : List Pr) : Bool := (List.range l.length).all (goesAt l)
end Go.Proofs.YteladljgnbfcnaaGreat.P9
namespace Go.Proofs.YteladljgnbfcnaaGreat.P9
set_option maxRecDepth 8000
open Go.RowKit P1 P8 Da Mp

set_option maxRecDepth 100000 in
set_option maxHeartbeats 4000000 in
theorem goesOn_calls (w : World) (v : Value) (l : List Pr) (hv : PeersAt w v l) (hl : l.length ≤ 1048576) (hbl : ∀ p ∈ l, p.behind.length ≤ 1048576) :
    Calls Tryz.prog 37 #[.agg #[v]] w fun e w' => e = .returned (.bool (goesOn l)) ∧ Below w.heap.size w w' := by
  have hb1 := (Below.refl w.heap.size w).alloc (Nat.le_refl _) (.cells #[v] 28)
  have HV := hide (hv.below hb1 (Nat.le_refl _))
  obtain ⟨a, cap, rfl, -⟩ := hv.open_
  have G := Blk.new w #[.slice a l.length cap] 28
  have HB := hide hb1
  have HBL := hide hbl
  obtain ⟨R, eR⟩ : ∃ R, R = goesOn l := ⟨_, rfl⟩
  have HRT : Hid ((∀ j, j < l.length → goesAt l j = true) → R = true) := fun h => eR.trans (all_range h)
  have HRF : Hid (∀ k, k < l.length → goesAt l k = false → R = false) := fun k hk h => eR.trans (not_all_range hk h)
  rw [← eR]
  clear hv hb1 hbl eR
  go_enter Tryz.func37, Tryz.ntmps37
  go_upto_region 1 with fail
  obtain ⟨b0, e0⟩ : ∃ b, b = w.heap.size := ⟨_, rfl⟩
  rw [← e0] at G ⊢
  clear e0
  generalize w.alloc (.cells #[.slice a l.length cap] 28) = w1 at *
  have c0 : w1.cell? ⟨b0, 0, none⟩ = some (.slice a l.length cap) := by rw [G.cell 0]; rfl
  have l0 := G.lt
  go_wp2_with fail
  refine (present_calls w1 _ l HV.out hl).mono ?_
  rintro e w3 ⟨km, rfl, hkm, hm3, hb3⟩
  have HV3 := hide (HV.out.below hb3 (Nat.le_refl _))
  have HB3 := hide (HB.out.trans (hb3.mono HB.out.size))
  have HG3 := hide (G.below hb3 G.lt)
  have HM3 := hide hm3
  have c3 : w3.cell? ⟨b0, 0, none⟩ = some (.slice a l.length cap) := by rw [HG3.out.cell 0]; rfl
  have l3 := HG3.out.lt
  clear hb3 HV HB hm3 hkm c0 l0 G
  go_wp2_with fail
  clear c3 l3
  go_loopw [13] (fun i wr => ∃ k : Nat, k ≤ l.length ∧ i = .int .i64 k ∧ Hid (∀ j, j < k → goesAt l j = true) ∧ wr = w3) (fun i _ => l.length - (intOf i).toNat)
  case atStart => exact ⟨0, Nat.zero_le _, rfl, fun j hj => by omega, rfl⟩
  case round =>
    obtain ⟨k, hk, rfl, HN, hwr⟩ := hrel
    subst hwr
    by_cases hlt : k < l.length
    · obtain ⟨ax, cx, hax, HA⟩ := HV3.out.open_
      cases hax
      obtain ⟨g, off, u3, u4, u5, rfl, hg, hc⟩ := HA k hlt
      have hsk : goesAt l k = (!l[k].here || (firstHere l l[k].behind).isSome) := by unfold goesAt; rw [List.getElem?_eq_getElem hlt]
      have HB4 : Hid (l[k].behind.length ≤ 1048576) := HBL.out _ (List.getElem_mem hlt)
      have HF : Hid (goesAt l k = false → R = false) := fun h => HRF.out k hlt h
      have HS : Hid (goesAt l k = true → ∀ j, j < k + 1 → goesAt l j = true) := fun h j hj => by
        rcases Nat.lt_or_ge j k with h1 | h1
        · exact HN.out j h1
        · obtain rfl : j = k := by omega
          exact h
      clear HA HN
      have f0 := hc.id
      have f1 := hc.here
      have CN := hide (next_calls _ _ u3 l l[k].behind km l.length g (off + k * 6) HM3.out hc.c3 hc.behind HB4.out)
      have HST := hide hsk
      have c0 : wr.cell? ⟨b0, 0, none⟩ = some (.slice (some ⟨g, off, none⟩) l.length cap) := blk_free_cell HG3.out 0 rfl
      have l0 := HG3.out.lt
      clear hsk hc
      generalize l[k].here = hh at *
      generalize (firstHere l l[k].behind).getD (-1) = r1 at *
      generalize (firstHere l l[k].behind).isSome = r2 at *
      generalize l[k].id = qid at *
      cases hh with
      | false =>
        have HR := hide (HS.out HST.out)
        clear HST HF HS
        go_wp2_with fail
        refine CN.out.mono ?_
        rintro e wz ⟨rfl, rfl⟩
        clear CN
        go_wp2_with fail
        go_roundw
        case rel => exact ⟨k + 1, by omega, by go_num, HR.out, trivial⟩
        case measure => simp [intOf]; omega
      | true =>
        cases r2 with
        | true =>
          have HR := hide (HS.out HST.out)
          clear HST HF HS
          go_wp2_with fail
          refine CN.out.mono ?_
          rintro e wz ⟨rfl, rfl⟩
          clear CN
          go_wp2_with fail
          go_roundw
          case rel => exact ⟨k + 1, by omega, by go_num, HR.out, trivial⟩
          case measure => simp [intOf]; omega
        | false =>
          have HR := hide (HF.out HST.out)
          clear HST HF HS
          go_wp2_with fail
          refine CN.out.mono ?_
          rintro e wz ⟨rfl, rfl⟩
          clear CN
          go_wp2_with fail
          go_ret
          exact ⟨by rw [HR.out]; rfl, HB3.out⟩
    · obtain rfl : k = l.length := by omega
      have HR := hide (HRT.out HN.out)
      clear HN
      go_wp2_with fail
      go_ret
      exact ⟨by rw [HR.out]; rfl, HB3.out⟩
end Go.Proofs.YteladljgnbfcnaaGreat.P9
