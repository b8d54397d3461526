/- The program's Find; condition: at most 2^20 peers, all who are there on the ring, what each knows at most 2^20 in all. -/
import Derived.Test.YteladljgnbfcnaaGreatDoorZRO
import Derived.Test.YteladljgnbfcnaaGreatDoorZRH
import Derived.ScopeJumps
import Derived.WalkMore
namespace Go.Proofs.YteladljgnbfcnaaGreatDoor.P9
set_option maxRecDepth 8000
open Go.RowKit P1 P8 Da Mp Ap

/-- The hops that a trip's cell holds. -/
def hopsIn (w : World) (b : Nat) : Nat := match w.cell? ⟨b, 1, none⟩ with | some v => (intOf v).toNat | none => 0

theorem jump_ret {l : Nat} {J : Act → World → Prop} {Q : Exit → Act → World → Prop} {a : Act} {w : World} (h : Q .ret a w) : Exit.jump l J Q .ret a w := h

set_option maxRecDepth 100000 in
set_option maxHeartbeats 4000000 in
theorem walk_calls (w : World) (v : Value) (l : List Pr) (by_ key : Int) (km n : Nat) (hm : MapR keyI w km n (hereV v l)) (hv : PeersAt w v l) (hre : Reach l) (hon : OnRing l) :
    Calls Tryz.prog 68 #[.map (some km), .int .i64 by_, .int .i64 key] w fun e w' => e = .returned (tripV (find l by_ key)) ∧ Below w.heap.size w w' := by
  have HE0 : Hid (find l by_ key = findGo l key 66 by_) := rfl
  generalize find l by_ key = R at *
  have hb1 := (Below.refl w.heap.size w).alloc (Nat.le_refl _) (.cells #[.int .i64 0, .int .i64 0] 69)
  have G0 := Blk.new w #[.int .i64 0, .int .i64 0] 69
  have HB := hide hb1
  have HS := hide (fun wr at_ (hb : Below w.heap.size w wr) => step_calls wr v l at_ key km n (hm.at_ (hb.block km hm.lt)) (hv.below hb (Nat.le_refl _)) hre hon)
  have HON := hide hon
  have hmlt := hm.lt
  clear hm hv hb1 hre hon
  go_enter Tryz.func68, Tryz.ntmps68
  go_upto_region 1 with fail
  obtain ⟨b0, e0⟩ : ∃ b, b = w.heap.size := ⟨_, rfl⟩
  rw [← e0] at G0 ⊢
  have HW0 : Hid (w.heap.size ≤ b0) := Nat.le_of_eq e0.symm
  clear e0
  generalize w.alloc (.cells #[.int .i64 0, .int .i64 0] 69) = w1 at *
  have G := Blk.new w1 #[.int .i64 by_, .int .i64 0] 69
  have hba := (Below.refl w1.heap.size w1).alloc (Nat.le_refl _) (.cells #[.int .i64 by_, .int .i64 0] 69)
  have HG0 := hide (G0.below hba G0.lt)
  have h01 := G0.lt
  have HG := hide G
  have HB1 := hide (HB.out.trans (hba.mono HB.out.size))
  clear G G0 hba HB
  refine wp_scope_jumps 0 (fun a' w' => Hid (R = none) ∧ (∃ c0 c1, Hid (Blk w' b0 [c0, c1] 69)) ∧ Hid (Below w.heap.size w w') ∧ ∃ (u0 u1 u2 u3 u4 u5 u7 u8 u9 u10 u11 u12 u13 u14 u15 u16 u17 u18 u19 u20 u21 u22 u23 u24 u25 u26 u27 u28 u29 u30 u31 u32 u33 u34 u35 u36 u37 u38 u39 u40 u41 u42 u43 u44 u45 u46 u47 u48 u49 u50 : Value), a' = { tmps := #[u0, u1, u2, u3, u4, u5, (.pointer (some ⟨b0, 0, none⟩)), u7, u8, u9, u10, u11, u12, u13, u14, u15, u16, u17, u18, u19, u20, u21, u22, u23, u24, u25, u26, u27, u28, u29, u30, u31, u32, u33, u34, u35, u36, u37, u38, u39, u40, u41, u42, u43, u44, u45, u46, u47, u48, u49, u50], defers := [] }) (fun _ _ => 0) rfl ?_ ?_
  · have hw0 := HW0.out
    go_wp2_with fail
    obtain ⟨b1, e1⟩ : ∃ b, b = w1.heap.size := ⟨_, rfl⟩
    rw [← e1] at HG h01 ⊢
    clear e1 HW0
    generalize w1.alloc (.cells #[.int .i64 by_, .int .i64 0] 69) = w2 at *
    go_loopw [9] (fun _ wr => ∃ (h f : Nat) (at_ : Int), h + f = 65 ∧ Hid (Blk wr b0 [.int .i64 0, .int .i64 0] 69) ∧ Hid (Blk wr b1 [.int .i64 at_, .int .i64 ((h : Nat) : Int)] 69) ∧ Hid (R = findGo l key (f + 1) at_) ∧ Hid (Below w.heap.size w wr)) (fun _ wr => 67 - hopsIn wr b1)
    case atStart => exact ⟨0, 65, by_, rfl, HG0.out, HG.out, HE0.out, HB1.out⟩
    case round =>
      clear HE0 HG0 HG HB1
      obtain ⟨h, f, at_, hhf, HGa, HGb, HE, HBr⟩ := hrel
      have m0 := HGb.out.cell 0
      have ml := HGb.out.lt
      have CS := hide (HS.out wr at_ HBr.out)
      have hh : hopsIn wr b1 = h := by
        unfold hopsIn
        rw [HGb.out.cell 1]
        simp [intOf]
      have HH := hide hh
      have hE := HE.out
      unfold findGo at hE
      clear HE hh
      rcases step_cases HON.out at_ key with e | ⟨x, e, hx⟩ | ⟨x, e, hx, hne⟩
      · rw [e] at CS hE
        have HR : Hid (R = none) := by show _ = _; rw [hE]; rfl
        clear hE e
        by_cases hn : (-1 : Int) = at_
        · have hnd : ((-1 : Int) == at_) = true := by simpa using hn
          clear hn
          go_wp2_with fail
          refine CS.out.mono ?_
          rintro e wy ⟨rfl, hby⟩
          have HBy := hide (HBr.out.trans (hby.mono HBr.out.size))
          have HQa := hide (HGa.out.below hby HGa.out.lt)
          have HQb := hide (HGb.out.below hby HGb.out.lt)
          have m1 := HQb.out.free 0
          have m2 := HQb.out.free 1
          have k0 := HQb.out.cell 0
          have k1 := HQb.out.cell 1
          have kl := HQb.out.lt
          have n1 := HQa.out.free 0
          have n2 := HQa.out.free 1
          have j0 := HQa.out.cell 0
          have j1 := HQa.out.cell 1
          have nl := HQa.out.lt
          have hne : b0 ≠ b1 := by omega
          have hwb : w.heap.size ≤ b1 := by omega
          clear hby HGa HGb HBr m0 ml CS
          go_wp2_with fail
          go_step3
          exact ⟨rfl, HR.out, ⟨_, _, HQa.out⟩, HBy.out, _, _, _, _, _, _, _, _, _, _, _, _, _, _, _, _, _, _, _, _, _, _, _, _, _, _, _, _, _, _, _, _, _, _, _, _, _, _, _, _, _, _, _, _, _, _, _, _, _, _, rfl⟩
        · have hnd : ((-1 : Int) == at_) = false := by simpa using hn
          clear hn
          go_wp2_with fail
          refine CS.out.mono ?_
          rintro e wy ⟨rfl, hby⟩
          have HBy := hide (HBr.out.trans (hby.mono HBr.out.size))
          have HQa := hide (HGa.out.below hby HGa.out.lt)
          have HQb := hide (HGb.out.below hby HGb.out.lt)
          have m1 := HQb.out.free 0
          have m2 := HQb.out.free 1
          have k0 := HQb.out.cell 0
          have k1 := HQb.out.cell 1
          have kl := HQb.out.lt
          have n1 := HQa.out.free 0
          have n2 := HQa.out.free 1
          have j0 := HQa.out.cell 0
          have j1 := HQa.out.cell 1
          have nl := HQa.out.lt
          have hne : b0 ≠ b1 := by omega
          have hwb : w.heap.size ≤ b1 := by omega
          clear hby HGa HGb HBr m0 ml CS
          go_wp2_with fail
          go_step3
          exact ⟨rfl, HR.out, ⟨_, _, HQa.out.other (p := ⟨b1, 1, none⟩) hne _⟩, HBy.out.setCell (p := ⟨b1, 1, none⟩) hwb _, _, _, _, _, _, _, _, _, _, _, _, _, _, _, _, _, _, _, _, _, _, _, _, _, _, _, _, _, _, _, _, _, _, _, _, _, _, _, _, _, _, _, _, _, _, _, _, _, _, _, rfl⟩
      · have hx0 := peer_pos HON.out hx
        rw [e] at CS hE
        have hxn : (x == -1) = false := by simp; omega
        simp only [if_true] at hE
        rw [if_neg (by omega)] at hE
        clear e hx
        by_cases hna : x = at_
        · rw [if_neg (by simpa using hna)] at hE
          have HR : Hid (R = some (x, h)) := by show _ = _; rw [hE, show 65 - f = h by omega]
          have hnd : (x == at_) = true := by simpa using hna
          have hd2 : decide ((h : Int) > 65) = false := decide_eq_false (by omega)
          clear hE hna hx0
          go_wp2_with fail
          refine CS.out.mono ?_
          rintro e wy ⟨rfl, hby⟩
          have HBy := hide (HBr.out.trans (hby.mono HBr.out.size))
          have HQa := hide (HGa.out.below hby HGa.out.lt)
          have HQb := hide (HGb.out.below hby HGb.out.lt)
          have m1 := HQb.out.free 0
          have m2 := HQb.out.free 1
          have k0 := HQb.out.cell 0
          have k1 := HQb.out.cell 1
          have kl := HQb.out.lt
          have n1 := HQa.out.free 0
          have n2 := HQa.out.free 1
          have j0 := HQa.out.cell 0
          have j1 := HQa.out.cell 1
          have nl := HQa.out.lt
          have hne : b0 ≠ b1 := by omega
          have hwb : w.heap.size ≤ b1 := by omega
          clear hby HGa HGb HBr m0 ml CS
          go_wp2_with fail
          have Rd := ((HQa.out.other (p := ⟨b1, 0, none⟩) hne (.int .i64 x)).set 0 (.int .i64 x)).set 1 (.int .i64 ((h : Nat) : Int))
          have x0 := Rd.cell 0
          have x1 := Rd.cell 1
          refine jump_ret (bodyPost_ret (v := .tuple #[.agg #[.int .i64 x, .int .i64 ((h : Nat) : Int)], .bool true]) (by simp [results, Tryz.results68, go_sem, x0, x1]) rfl ⟨by rw [HR.out]; rfl, ((HBy.out.setCell (p := ⟨b1, 0, none⟩) hwb _).setCell (p := ⟨b0, 0, none⟩) hw0 _).setCell (p := ⟨b0, 1, none⟩) hw0 _⟩)
        · rw [if_pos hna] at hE
          have hnd : (x == at_) = false := by simpa using hna
          clear hna hx0
          by_cases hf0 : f = 0
          · rw [if_pos hf0] at hE
            have HR : Hid (R = none) := hE
            have hd2 : decide ((h : Int) + 1 > 65) = true := decide_eq_true (by omega)
            clear hE
            go_wp2_with fail
            refine CS.out.mono ?_
            rintro e wy ⟨rfl, hby⟩
            have HBy := hide (HBr.out.trans (hby.mono HBr.out.size))
            have HQa := hide (HGa.out.below hby HGa.out.lt)
            have HQb := hide (HGb.out.below hby HGb.out.lt)
            have m1 := HQb.out.free 0
            have m2 := HQb.out.free 1
            have k0 := HQb.out.cell 0
            have k1 := HQb.out.cell 1
            have kl := HQb.out.lt
            have n1 := HQa.out.free 0
            have n2 := HQa.out.free 1
            have j0 := HQa.out.cell 0
            have j1 := HQa.out.cell 1
            have nl := HQa.out.lt
            have hne : b0 ≠ b1 := by omega
            have hwb : w.heap.size ≤ b1 := by omega
            clear hby HGa HGb HBr m0 ml CS
            go_wp2_with fail
            go_step3
            exact ⟨rfl, HR.out, ⟨_, _, HQa.out.other (p := ⟨b1, 1, none⟩) hne _⟩, HBy.out.setCell (p := ⟨b1, 1, none⟩) hwb _, _, _, _, _, _, _, _, _, _, _, _, _, _, _, _, _, _, _, _, _, _, _, _, _, _, _, _, _, _, _, _, _, _, _, _, _, _, _, _, _, _, _, _, _, _, _, _, _, _, _, rfl⟩
          · rw [if_neg hf0] at hE
            have HR : Hid (R = some (x, h + 1)) := by show _ = _; rw [hE, show 66 - f = h + 1 by omega]
            have hd2 : decide ((h : Int) + 1 > 65) = false := decide_eq_false (by omega)
            clear hE
            go_wp2_with fail
            refine CS.out.mono ?_
            rintro e wy ⟨rfl, hby⟩
            have HBy := hide (HBr.out.trans (hby.mono HBr.out.size))
            have HQa := hide (HGa.out.below hby HGa.out.lt)
            have HQb := hide (HGb.out.below hby HGb.out.lt)
            have m1 := HQb.out.free 0
            have m2 := HQb.out.free 1
            have k0 := HQb.out.cell 0
            have k1 := HQb.out.cell 1
            have kl := HQb.out.lt
            have n1 := HQa.out.free 0
            have n2 := HQa.out.free 1
            have j0 := HQa.out.cell 0
            have j1 := HQa.out.cell 1
            have nl := HQa.out.lt
            have hne : b0 ≠ b1 := by omega
            have hwb : w.heap.size ≤ b1 := by omega
            clear hby HGa HGb HBr m0 ml CS
            go_wp2_with fail
            have Rd := (((HQa.out.other (p := ⟨b1, 1, none⟩) hne (.int .i64 ((h : Int) + 1))).other (p := ⟨b1, 0, none⟩) hne (.int .i64 x)).set 0 (.int .i64 x)).set 1 (.int .i64 ((h : Int) + 1))
            have x0 := Rd.cell 0
            have x1 := Rd.cell 1
            refine jump_ret (bodyPost_ret (v := .tuple #[.agg #[.int .i64 x, .int .i64 ((h : Int) + 1)], .bool true]) (by simp [results, Tryz.results68, go_sem, x0, x1]) rfl ⟨by rw [HR.out]; simp [tripV], (((HBy.out.setCell (p := ⟨b1, 1, none⟩) hwb _).setCell (p := ⟨b1, 0, none⟩) hwb _).setCell (p := ⟨b0, 0, none⟩) hw0 _).setCell (p := ⟨b0, 1, none⟩) hw0 _⟩)
      · have hx0 := peer_pos HON.out hx
        rw [e] at CS hE
        have hxn : (x == -1) = false := by simp; omega
        simp only [Bool.false_eq_true, if_false] at hE
        rw [if_neg (by omega)] at hE
        have hnd : (x == at_) = false := by simpa using hne
        clear e hx hx0 hne
        cases f with
        | zero =>
          have HR : Hid (R = none) := hE
          have hd2 : decide ((h : Int) + 1 > 65) = true := decide_eq_true (by omega)
          clear hE
          go_wp2_with fail
          refine CS.out.mono ?_
          rintro e wy ⟨rfl, hby⟩
          have HBy := hide (HBr.out.trans (hby.mono HBr.out.size))
          have HQa := hide (HGa.out.below hby HGa.out.lt)
          have HQb := hide (HGb.out.below hby HGb.out.lt)
          have m1 := HQb.out.free 0
          have m2 := HQb.out.free 1
          have k0 := HQb.out.cell 0
          have k1 := HQb.out.cell 1
          have kl := HQb.out.lt
          have n1 := HQa.out.free 0
          have n2 := HQa.out.free 1
          have j0 := HQa.out.cell 0
          have j1 := HQa.out.cell 1
          have nl := HQa.out.lt
          have hne : b0 ≠ b1 := by omega
          have hwb : w.heap.size ≤ b1 := by omega
          clear hby HGa HGb HBr m0 ml CS
          go_wp2_with fail
          go_step3
          exact ⟨rfl, HR.out, ⟨_, _, HQa.out.other (p := ⟨b1, 1, none⟩) hne _⟩, HBy.out.setCell (p := ⟨b1, 1, none⟩) hwb _, _, _, _, _, _, _, _, _, _, _, _, _, _, _, _, _, _, _, _, _, _, _, _, _, _, _, _, _, _, _, _, _, _, _, _, _, _, _, _, _, _, _, _, _, _, _, _, _, _, _, rfl⟩
        | succ f =>
          have HR : Hid (R = findGo l key (f + 1) x) := hE
          have hd2 : decide ((h : Int) + 1 > 65) = false := decide_eq_false (by omega)
          clear hE
          go_wp2_with fail
          refine CS.out.mono ?_
          rintro e wy ⟨rfl, hby⟩
          have HBy := hide (HBr.out.trans (hby.mono HBr.out.size))
          have HQa := hide (HGa.out.below hby HGa.out.lt)
          have HQb := hide (HGb.out.below hby HGb.out.lt)
          have m1 := HQb.out.free 0
          have m2 := HQb.out.free 1
          have k0 := HQb.out.cell 0
          have k1 := HQb.out.cell 1
          have kl := HQb.out.lt
          have n1 := HQa.out.free 0
          have n2 := HQa.out.free 1
          have j0 := HQa.out.cell 0
          have j1 := HQa.out.cell 1
          have nl := HQa.out.lt
          have hne : b0 ≠ b1 := by omega
          have hwb : w.heap.size ≤ b1 := by omega
          clear hby HGa HGb HBr m0 ml CS
          go_wp2_with fail
          have Rd := (HQb.out.set 1 (.int .i64 ((h : Int) + 1))).set 0 (.int .i64 x)
          have Ra := (HQa.out.other (p := ⟨b1, 1, none⟩) hne (.int .i64 ((h : Int) + 1))).other (p := ⟨b1, 0, none⟩) hne (.int .i64 x)
          have HBz := hide ((HBy.out.setCell (p := ⟨b1, 1, none⟩) hwb (.int .i64 ((h : Int) + 1))).setCell (p := ⟨b1, 0, none⟩) hwb (.int .i64 x))
          go_roundw
          case rel => exact ⟨h + 1, f, x, by omega, Ra, by show Blk _ _ _ _; simpa using Rd, HR.out, HBz.out⟩
          case measure =>
            have e1 : hopsIn ((wy.setCell ⟨b1, 1, none⟩ (.int .i64 ((h : Int) + 1))).setCell ⟨b1, 0, none⟩ (.int .i64 x)) b1 = h + 1 := by
              unfold hopsIn
              rw [Rd.cell 1]
              simp [intOf]
            have := HH.out
            omega
  · rintro ap wp ⟨HR, ⟨c0, c1, HQ⟩, HBy, u0, u1, u2, u3, u4, u5, u7, u8, u9, u10, u11, u12, u13, u14, u15, u16, u17, u18, u19, u20, u21, u22, u23, u24, u25, u26, u27, u28, u29, u30, u31, u32, u33, u34, u35, u36, u37, u38, u39, u40, u41, u42, u43, u44, u45, u46, u47, u48, u49, u50, rfl⟩
    have m1 := HQ.out.free 0
    have m2 := HQ.out.free 1
    have k0 := HQ.out.cell 0
    have k1 := HQ.out.cell 1
    have kl := HQ.out.lt
    have hw0 := HW0.out
    clear HG0 HS HON HE0 HG HB1
    go_wp2_with fail
    have Rd := (HQ.out.set 0 (.int .i64 (-1))).set 1 (.int .i64 0)
    have x0 := Rd.cell 0
    have x1 := Rd.cell 1
    refine jump_ret (bodyPost_ret (v := .tuple #[.agg #[.int .i64 (-1), .int .i64 0], .bool false]) (by simp [results, Tryz.results68, go_sem, x0, x1]) rfl ⟨by rw [HR.out]; rfl, (HBy.out.setCell (p := ⟨b0, 0, none⟩) hw0 _).setCell (p := ⟨b0, 1, none⟩) hw0 _⟩)

end Go.Proofs.YteladljgnbfcnaaGreatDoor.P9
