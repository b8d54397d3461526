/- The program's Find; condition: at most 2^20 peers, all who are there on the ring, what each knows at most 2^20 in all.
What chapter 10's laws draw: a ring, an Id and a key; in memory of their own. -/
import Derived.Test.YtckldfknhmhkgaaZRO
import Derived.Test.YtckldfknhmhkgaaZRH
import Derived.Test.YtckldfknhmhkgaaZRL
import Derived.Test.YtckldfknhmhkgaaZJ
import Derived.ScopeJumps
import Derived.WalkMore
namespace Go.Proofs.Ytckldfknhmhkgaa.P9
set_option maxRecDepth 8000
open Go.RowKit P1 P8 Da Mp Ap

theorem findGo_mod (l : List Pr) (key : Int) : ∀ (f : Nat) (a : Int), findGo l (key % 256) f a = findGo l key f a := by
  intro f
  induction f with
  | zero => intro a; rfl
  | succ f ih =>
    intro a
    unfold findGo
    rw [stepTo_mod, ih]

theorem find_mod (l : List Pr) (by_ key : Int) : find l by_ (key % 256) = find l by_ key := findGo_mod l key 66 by_

/-- The hops that a trip's cell holds. -/
def hopsIn (w : World) (b : Nat) : Nat := match w.cell? ⟨b, 1, none⟩ with | some v => (intOf v).toNat | none => 0

theorem jump_ret {l : Nat} {J : Act → World → Prop} {Q : Exit → Act → World → Prop} {a : Act} {w : World} (h : Q .ret a w) : Exit.jump l J Q .ret a w := h

set_option maxRecDepth 100000 in
set_option maxHeartbeats 4000000 in
theorem walk_calls (w : World) (v : Value) (l : List Pr) (by_ key : Int) (km n : Nat) (hm : MapR keyI w km n (hereV v l)) (hv : PeersAt w v l) (hre : Reach l) (hon : OnRing l) :
    Calls Try.prog 25 #[.map (some km), .int .i64 by_, .int .i64 key] w fun e w' => e = .returned (tripV (find l by_ key)) ∧ Below w.heap.size w w' := by
  have HE0 : Hid (find l by_ key = findGo l key 66 by_) := rfl
  generalize find l by_ key = R at *
  have hb1 := (Below.refl w.heap.size w).alloc (Nat.le_refl _) (.cells #[.int .i64 0, .int .i64 0] 31)
  have G0 := Blk.new w #[.int .i64 0, .int .i64 0] 31
  have HB := hide hb1
  have HS := hide (fun wr at_ (hb : Below w.heap.size w wr) => step_calls wr v l at_ key km n (hm.at_ (hb.block km hm.lt)) (hv.below hb (Nat.le_refl _)) hre hon)
  have HON := hide hon
  have hmlt := hm.lt
  clear hm hv hb1 hre hon
  go_enter Try.func25, Try.ntmps25
  go_upto_region 1 with fail
  obtain ⟨b0, e0⟩ : ∃ b, b = w.heap.size := ⟨_, rfl⟩
  rw [← e0] at G0 ⊢
  have HW0 : Hid (w.heap.size ≤ b0) := Nat.le_of_eq e0.symm
  clear e0
  generalize w.alloc (.cells #[.int .i64 0, .int .i64 0] 31) = w1 at *
  have G := Blk.new w1 #[.int .i64 by_, .int .i64 0] 31
  have hba := (Below.refl w1.heap.size w1).alloc (Nat.le_refl _) (.cells #[.int .i64 by_, .int .i64 0] 31)
  have HG0 := hide (G0.below hba G0.lt)
  have h01 := G0.lt
  have HG := hide G
  have HB1 := hide (HB.out.trans (hba.mono HB.out.size))
  clear G G0 hba HB
  refine wp_scope_jumps 0 (fun a' w' => Hid (R = none) ∧ (∃ c0 c1, Hid (Blk w' b0 [c0, c1] 31)) ∧ Hid (Below w.heap.size w w') ∧ ∃ (u0 u1 u2 u3 u4 u5 u7 u8 u9 u10 u11 u12 u13 u14 u15 u16 u17 u18 u19 u20 u21 u22 u23 u24 u25 u26 u27 u28 u29 u30 u31 u32 u33 u34 u35 u36 u37 u38 u39 u40 u41 u42 u43 u44 u45 u46 u47 u48 u49 u50 : Value), a' = { tmps := #[u0, u1, u2, u3, u4, u5, (.pointer (some ⟨b0, 0, none⟩)), u7, u8, u9, u10, u11, u12, u13, u14, u15, u16, u17, u18, u19, u20, u21, u22, u23, u24, u25, u26, u27, u28, u29, u30, u31, u32, u33, u34, u35, u36, u37, u38, u39, u40, u41, u42, u43, u44, u45, u46, u47, u48, u49, u50], defers := [] }) (fun _ _ => 0) rfl ?_ ?_
  · have hw0 := HW0.out
    go_wp2_with fail
    obtain ⟨b1, e1⟩ : ∃ b, b = w1.heap.size := ⟨_, rfl⟩
    rw [← e1] at HG h01 ⊢
    clear e1 HW0
    generalize w1.alloc (.cells #[.int .i64 by_, .int .i64 0] 31) = w2 at *
    go_loopw [9] (fun _ wr => ∃ (h f : Nat) (at_ : Int), h + f = 65 ∧ Hid (Blk wr b0 [.int .i64 0, .int .i64 0] 31) ∧ Hid (Blk wr b1 [.int .i64 at_, .int .i64 ((h : Nat) : Int)] 31) ∧ Hid (R = findGo l key (f + 1) at_) ∧ Hid (Below w.heap.size w wr)) (fun _ wr => 67 - hopsIn wr b1)
    case atStart => exact ⟨0, 65, by_, rfl, HG0.out, HG.out, HE0.out, HB1.out⟩
    case round =>
      clear HE0 HG0 HG HB1
      obtain ⟨h, f, at_, hhf, HGa, HGb, HE, HBr⟩ := hrel
      have m0 := HGb.out.cell 0
      have ml := HGb.out.lt
      have CS := hide (HS.out wr at_ HBr.out)
      have hh : hopsIn wr b1 = h := by
        unfold hopsIn
        rw [HGb.out.cell 1]
        simp [intOf]
      have HH := hide hh
      have hE := HE.out
      unfold findGo at hE
      clear HE hh
      rcases step_cases HON.out at_ key with e | ⟨x, e, hx⟩ | ⟨x, e, hx, hne⟩
      · rw [e] at CS hE
        have HR : Hid (R = none) := by show _ = _; rw [hE]; rfl
        clear hE e
        by_cases hn : (-1 : Int) = at_
        · have hnd : ((-1 : Int) == at_) = true := by simpa using hn
          clear hn
          go_wp2_with fail
          refine CS.out.mono ?_
          rintro e wy ⟨rfl, hby⟩
          have HBy := hide (HBr.out.trans (hby.mono HBr.out.size))
          have HQa := hide (HGa.out.below hby HGa.out.lt)
          have HQb := hide (HGb.out.below hby HGb.out.lt)
          have m1 := HQb.out.free 0
          have m2 := HQb.out.free 1
          have k0 := HQb.out.cell 0
          have k1 := HQb.out.cell 1
          have kl := HQb.out.lt
          have n1 := HQa.out.free 0
          have n2 := HQa.out.free 1
          have j0 := HQa.out.cell 0
          have j1 := HQa.out.cell 1
          have nl := HQa.out.lt
          have hne : b0 ≠ b1 := by omega
          have hwb : w.heap.size ≤ b1 := by omega
          clear hby HGa HGb HBr m0 ml CS
          go_wp2_with fail
          go_step3
          exact ⟨rfl, HR.out, ⟨_, _, HQa.out⟩, HBy.out, _, _, _, _, _, _, _, _, _, _, _, _, _, _, _, _, _, _, _, _, _, _, _, _, _, _, _, _, _, _, _, _, _, _, _, _, _, _, _, _, _, _, _, _, _, _, _, _, _, _, rfl⟩
        · have hnd : ((-1 : Int) == at_) = false := by simpa using hn
          clear hn
          go_wp2_with fail
          refine CS.out.mono ?_
          rintro e wy ⟨rfl, hby⟩
          have HBy := hide (HBr.out.trans (hby.mono HBr.out.size))
          have HQa := hide (HGa.out.below hby HGa.out.lt)
          have HQb := hide (HGb.out.below hby HGb.out.lt)
          have m1 := HQb.out.free 0
          have m2 := HQb.out.free 1
          have k0 := HQb.out.cell 0
          have k1 := HQb.out.cell 1
          have kl := HQb.out.lt
          have n1 := HQa.out.free 0
          have n2 := HQa.out.free 1
          have j0 := HQa.out.cell 0
          have j1 := HQa.out.cell 1
          have nl := HQa.out.lt
          have hne : b0 ≠ b1 := by omega
          have hwb : w.heap.size ≤ b1 := by omega
          clear hby HGa HGb HBr m0 ml CS
          go_wp2_with fail
          go_step3
          exact ⟨rfl, HR.out, ⟨_, _, HQa.out.other (p := ⟨b1, 1, none⟩) hne _⟩, HBy.out.setCell (p := ⟨b1, 1, none⟩) hwb _, _, _, _, _, _, _, _, _, _, _, _, _, _, _, _, _, _, _, _, _, _, _, _, _, _, _, _, _, _, _, _, _, _, _, _, _, _, _, _, _, _, _, _, _, _, _, _, _, _, _, rfl⟩
      · have hx0 := peer_pos HON.out hx
        rw [e] at CS hE
        have hxn : (x == -1) = false := by simp; omega
        simp only [if_true] at hE
        rw [if_neg (by omega)] at hE
        clear e hx
        by_cases hna : x = at_
        · rw [if_neg (by simpa using hna)] at hE
          have HR : Hid (R = some (x, h)) := by show _ = _; rw [hE, show 65 - f = h by omega]
          have hnd : (x == at_) = true := by simpa using hna
          have hd2 : decide ((h : Int) > 65) = false := decide_eq_false (by omega)
          clear hE hna hx0
          go_wp2_with fail
          refine CS.out.mono ?_
          rintro e wy ⟨rfl, hby⟩
          have HBy := hide (HBr.out.trans (hby.mono HBr.out.size))
          have HQa := hide (HGa.out.below hby HGa.out.lt)
          have HQb := hide (HGb.out.below hby HGb.out.lt)
          have m1 := HQb.out.free 0
          have m2 := HQb.out.free 1
          have k0 := HQb.out.cell 0
          have k1 := HQb.out.cell 1
          have kl := HQb.out.lt
          have n1 := HQa.out.free 0
          have n2 := HQa.out.free 1
          have j0 := HQa.out.cell 0
          have j1 := HQa.out.cell 1
          have nl := HQa.out.lt
          have hne : b0 ≠ b1 := by omega
          have hwb : w.heap.size ≤ b1 := by omega
          clear hby HGa HGb HBr m0 ml CS
          go_wp2_with fail
          have Rd := ((HQa.out.other (p := ⟨b1, 0, none⟩) hne (.int .i64 x)).set 0 (.int .i64 x)).set 1 (.int .i64 ((h : Nat) : Int))
          have x0 := Rd.cell 0
          have x1 := Rd.cell 1
          refine jump_ret (bodyPost_ret (v := .tuple #[.agg #[.int .i64 x, .int .i64 ((h : Nat) : Int)], .bool true]) (by simp [results, Try.results25, go_sem, x0, x1]) rfl ⟨by rw [HR.out]; rfl, ((HBy.out.setCell (p := ⟨b1, 0, none⟩) hwb _).setCell (p := ⟨b0, 0, none⟩) hw0 _).setCell (p := ⟨b0, 1, none⟩) hw0 _⟩)
        · rw [if_pos hna] at hE
          have hnd : (x == at_) = false := by simpa using hna
          clear hna hx0
          by_cases hf0 : f = 0
          · rw [if_pos hf0] at hE
            have HR : Hid (R = none) := hE
            have hd2 : decide ((h : Int) + 1 > 65) = true := decide_eq_true (by omega)
            clear hE
            go_wp2_with fail
            refine CS.out.mono ?_
            rintro e wy ⟨rfl, hby⟩
            have HBy := hide (HBr.out.trans (hby.mono HBr.out.size))
            have HQa := hide (HGa.out.below hby HGa.out.lt)
            have HQb := hide (HGb.out.below hby HGb.out.lt)
            have m1 := HQb.out.free 0
            have m2 := HQb.out.free 1
            have k0 := HQb.out.cell 0
            have k1 := HQb.out.cell 1
            have kl := HQb.out.lt
            have n1 := HQa.out.free 0
            have n2 := HQa.out.free 1
            have j0 := HQa.out.cell 0
            have j1 := HQa.out.cell 1
            have nl := HQa.out.lt
            have hne : b0 ≠ b1 := by omega
            have hwb : w.heap.size ≤ b1 := by omega
            clear hby HGa HGb HBr m0 ml CS
            go_wp2_with fail
            go_step3
            exact ⟨rfl, HR.out, ⟨_, _, HQa.out.other (p := ⟨b1, 1, none⟩) hne _⟩, HBy.out.setCell (p := ⟨b1, 1, none⟩) hwb _, _, _, _, _, _, _, _, _, _, _, _, _, _, _, _, _, _, _, _, _, _, _, _, _, _, _, _, _, _, _, _, _, _, _, _, _, _, _, _, _, _, _, _, _, _, _, _, _, _, _, rfl⟩
          · rw [if_neg hf0] at hE
            have HR : Hid (R = some (x, h + 1)) := by show _ = _; rw [hE, show 66 - f = h + 1 by omega]
            have hd2 : decide ((h : Int) + 1 > 65) = false := decide_eq_false (by omega)
            clear hE
            go_wp2_with fail
            refine CS.out.mono ?_
            rintro e wy ⟨rfl, hby⟩
            have HBy := hide (HBr.out.trans (hby.mono HBr.out.size))
            have HQa := hide (HGa.out.below hby HGa.out.lt)
            have HQb := hide (HGb.out.below hby HGb.out.lt)
            have m1 := HQb.out.free 0
            have m2 := HQb.out.free 1
            have k0 := HQb.out.cell 0
            have k1 := HQb.out.cell 1
            have kl := HQb.out.lt
            have n1 := HQa.out.free 0
            have n2 := HQa.out.free 1
            have j0 := HQa.out.cell 0
            have j1 := HQa.out.cell 1
            have nl := HQa.out.lt
            have hne : b0 ≠ b1 := by omega
            have hwb : w.heap.size ≤ b1 := by omega
            clear hby HGa HGb HBr m0 ml CS
            go_wp2_with fail
            have Rd := (((HQa.out.other (p := ⟨b1, 1, none⟩) hne (.int .i64 ((h : Int) + 1))).other (p := ⟨b1, 0, none⟩) hne (.int .i64 x)).set 0 (.int .i64 x)).set 1 (.int .i64 ((h : Int) + 1))
            have x0 := Rd.cell 0
            have x1 := Rd.cell 1
            refine jump_ret (bodyPost_ret (v := .tuple #[.agg #[.int .i64 x, .int .i64 ((h : Int) + 1)], .bool true]) (by simp [results, Try.results25, go_sem, x0, x1]) rfl ⟨by rw [HR.out]; simp [tripV], (((HBy.out.setCell (p := ⟨b1, 1, none⟩) hwb _).setCell (p := ⟨b1, 0, none⟩) hwb _).setCell (p := ⟨b0, 0, none⟩) hw0 _).setCell (p := ⟨b0, 1, none⟩) hw0 _⟩)
      · have hx0 := peer_pos HON.out hx
        rw [e] at CS hE
        have hxn : (x == -1) = false := by simp; omega
        simp only [Bool.false_eq_true, if_false] at hE
        rw [if_neg (by omega)] at hE
        have hnd : (x == at_) = false := by simpa using hne
        clear e hx hx0 hne
        cases f with
        | zero =>
          have HR : Hid (R = none) := hE
          have hd2 : decide ((h : Int) + 1 > 65) = true := decide_eq_true (by omega)
          clear hE
          go_wp2_with fail
          refine CS.out.mono ?_
          rintro e wy ⟨rfl, hby⟩
          have HBy := hide (HBr.out.trans (hby.mono HBr.out.size))
          have HQa := hide (HGa.out.below hby HGa.out.lt)
          have HQb := hide (HGb.out.below hby HGb.out.lt)
          have m1 := HQb.out.free 0
          have m2 := HQb.out.free 1
          have k0 := HQb.out.cell 0
          have k1 := HQb.out.cell 1
          have kl := HQb.out.lt
          have n1 := HQa.out.free 0
          have n2 := HQa.out.free 1
          have j0 := HQa.out.cell 0
          have j1 := HQa.out.cell 1
          have nl := HQa.out.lt
          have hne : b0 ≠ b1 := by omega
          have hwb : w.heap.size ≤ b1 := by omega
          clear hby HGa HGb HBr m0 ml CS
          go_wp2_with fail
          go_step3
          exact ⟨rfl, HR.out, ⟨_, _, HQa.out.other (p := ⟨b1, 1, none⟩) hne _⟩, HBy.out.setCell (p := ⟨b1, 1, none⟩) hwb _, _, _, _, _, _, _, _, _, _, _, _, _, _, _, _, _, _, _, _, _, _, _, _, _, _, _, _, _, _, _, _, _, _, _, _, _, _, _, _, _, _, _, _, _, _, _, _, _, _, _, rfl⟩
        | succ f =>
          have HR : Hid (R = findGo l key (f + 1) x) := hE
          have hd2 : decide ((h : Int) + 1 > 65) = false := decide_eq_false (by omega)
          clear hE
          go_wp2_with fail
          refine CS.out.mono ?_
          rintro e wy ⟨rfl, hby⟩
          have HBy := hide (HBr.out.trans (hby.mono HBr.out.size))
          have HQa := hide (HGa.out.below hby HGa.out.lt)
          have HQb := hide (HGb.out.below hby HGb.out.lt)
          have m1 := HQb.out.free 0
          have m2 := HQb.out.free 1
          have k0 := HQb.out.cell 0
          have k1 := HQb.out.cell 1
          have kl := HQb.out.lt
          have n1 := HQa.out.free 0
          have n2 := HQa.out.free 1
          have j0 := HQa.out.cell 0
          have j1 := HQa.out.cell 1
          have nl := HQa.out.lt
          have hne : b0 ≠ b1 := by omega
          have hwb : w.heap.size ≤ b1 := by omega
          clear hby HGa HGb HBr m0 ml CS
          go_wp2_with fail
          have Rd := (HQb.out.set 1 (.int .i64 ((h : Int) + 1))).set 0 (.int .i64 x)
          have Ra := (HQa.out.other (p := ⟨b1, 1, none⟩) hne (.int .i64 ((h : Int) + 1))).other (p := ⟨b1, 0, none⟩) hne (.int .i64 x)
          have HBz := hide ((HBy.out.setCell (p := ⟨b1, 1, none⟩) hwb (.int .i64 ((h : Int) + 1))).setCell (p := ⟨b1, 0, none⟩) hwb (.int .i64 x))
          go_roundw
          case rel => exact ⟨h + 1, f, x, by omega, Ra, by show Blk _ _ _ _; simpa using Rd, HR.out, HBz.out⟩
          case measure =>
            have e1 : hopsIn ((wy.setCell ⟨b1, 1, none⟩ (.int .i64 ((h : Int) + 1))).setCell ⟨b1, 0, none⟩ (.int .i64 x)) b1 = h + 1 := by
              unfold hopsIn
              rw [Rd.cell 1]
              simp [intOf]
            have := HH.out
            omega
  · rintro ap wp ⟨HR, ⟨c0, c1, HQ⟩, HBy, u0, u1, u2, u3, u4, u5, u7, u8, u9, u10, u11, u12, u13, u14, u15, u16, u17, u18, u19, u20, u21, u22, u23, u24, u25, u26, u27, u28, u29, u30, u31, u32, u33, u34, u35, u36, u37, u38, u39, u40, u41, u42, u43, u44, u45, u46, u47, u48, u49, u50, rfl⟩
    have m1 := HQ.out.free 0
    have m2 := HQ.out.free 1
    have k0 := HQ.out.cell 0
    have k1 := HQ.out.cell 1
    have kl := HQ.out.lt
    have hw0 := HW0.out
    clear HG0 HS HON HE0 HG HB1
    go_wp2_with fail
    have Rd := (HQ.out.set 0 (.int .i64 (-1))).set 1 (.int .i64 0)
    have x0 := Rd.cell 0
    have x1 := Rd.cell 1
    refine jump_ret (bodyPost_ret (v := .tuple #[.agg #[.int .i64 (-1), .int .i64 0], .bool false]) (by simp [results, Try.results25, go_sem, x0, x1]) rfl ⟨by rw [HR.out]; rfl, (HBy.out.setCell (p := ⟨b0, 0, none⟩) hw0 _).setCell (p := ⟨b0, 1, none⟩) hw0 _⟩)

theorem tripV_shape (R : Option (Int × Nat)) : ∃ (x : Int) (h : Nat) (b : Bool), tripV R = .tuple #[.agg #[.int .i64 x, .int .i64 (h : Int)], .bool b] := by
  cases R with
  | none => exact ⟨-1, 0, false, rfl⟩
  | some p => exact ⟨p.1, p.2, true, rfl⟩

set_option maxHeartbeats 1000000 in
theorem implFind_calls (w : World) (v : Value) (l : List Pr) (by_ key : Int) (hv : PeersAt w v l) (hl : l.length ≤ 1048576) (hre : Reach l) (hon : OnRing l) :
    Calls Try.prog 8 #[.agg #[v], .int .i64 by_, .int .i64 key] w fun e w' => e = .returned (tripV (find l by_ key)) ∧ Below w.heap.size w w' := by
  have HS := hide (fun w km n h1 h2 => walk_calls w v l by_ key km n h1 h2 hre hon)
  obtain ⟨tx, th, tb, et⟩ := tripV_shape (find l by_ key)
  rw [et] at HS ⊢
  have hb1 := (Below.refl w.heap.size w).alloc (Nat.le_refl _) (.cells #[v] 28)
  have hb2 := hb1.alloc (by simp) (.cells #[.int .i64 0, .int .i64 0] 31)
  have HV := hide (hv.below hb2 (Nat.le_refl _))
  obtain ⟨a, cap, rfl, -⟩ := hv.open_
  have G0 := Blk.new w #[.slice a l.length cap] 28
  have G := Blk.new (w.alloc (.cells #[.slice a l.length cap] 28)) #[.int .i64 0, .int .i64 0] 31
  have hba := (Below.refl (w.alloc (.cells #[.slice a l.length cap] 28)).heap.size (w.alloc (.cells #[.slice a l.length cap] 28))).alloc (Nat.le_refl _) (.cells #[.int .i64 0, .int .i64 0] 31)
  have G0' := G0.below hba G0.lt
  have HB := hide hb2
  have es : (w.alloc (.cells #[.slice a l.length cap] 28)).heap.size = w.heap.size + 1 := by simp
  rw [es] at G
  clear hv hb1 hb2 hre hon G0 hba es et
  go_enter Try.func8, Try.ntmps8
  go_upto_region 1 with fail
  obtain ⟨b0, e0⟩ : ∃ b, b = w.heap.size := ⟨_, rfl⟩
  rw [← e0] at G G0' ⊢
  have HW0 : Hid (w.heap.size ≤ b0) := Nat.le_of_eq e0.symm
  clear e0
  generalize (w.alloc (.cells #[.slice a l.length cap] 28)).alloc (.cells #[.int .i64 0, .int .i64 0] 31) = w1 at *
  have HG := hide G
  have c0 : w1.cell? ⟨b0, 0, none⟩ = some (.slice a l.length cap) := by rw [G0'.cell 0]; rfl
  have l0 := G0'.lt
  clear G G0'
  go_wp2_with fail
  refine (present_calls w1 _ l HV.out hl).mono ?_
  rintro e w2 ⟨km, rfl, hkm, hm, hb2⟩
  have HB2 := hide (HB.out.trans (hb2.mono HB.out.size))
  have HV2 := hide (HV.out.below hb2 (Nat.le_refl _))
  have HG2 := hide (HG.out.below hb2 HG.out.lt)
  have HM := hide hm
  clear hm hb2 HB HV hkm HG c0 l0
  go_wp2_with fail
  refine (HS.out _ km _ HM.out HV2.out).mono ?_
  rintro e w4 ⟨rfl, hb4⟩
  have HB4 := hide (HB2.out.trans (hb4.mono HB2.out.size))
  have Q := HG2.out.below hb4 HG2.out.lt
  have HQ := hide Q
  have m1 := Q.free 0
  have m2 := Q.free 1
  have k0 := Q.cell 0
  have k1 := Q.cell 1
  have kl := Q.lt
  have hw0 := HW0.out
  clear hb4 Q HG2 HM HV2
  go_wp2_with fail
  have Rd := (HQ.out.set 0 (.int .i64 tx)).set 1 (.int .i64 (th : Int))
  have x0 := Rd.cell 0
  have x1 := Rd.cell 1
  refine bodyPost_ret (v := .tuple #[.agg #[.int .i64 tx, .int .i64 (th : Int)], .bool tb]) (by simp [results, Try.results8, go_sem, x0, x1]) rfl ⟨rfl, (HB4.out.setCell (p := ⟨b0 + 1, 0, none⟩) (by show _ ≤ b0 + 1; omega) _).setCell (p := ⟨b0 + 1, 1, none⟩) (by show _ ≤ b0 + 1; omega) _⟩
end Go.Proofs.Ytckldfknhmhkgaa.P9
namespace Go.Proofs.Ytckldfknhmhkgaa.P9
set_option maxRecDepth 8000
open Go.RowKit P1 P8 Da Ap Rr Rc Cu

set_option maxHeartbeats 2000000 in
theorem drawStepTo_calls (w : World) (a : Option Addr) (len cap : Nat) (hc : Cu.Code w.heap.size w (.slice a len cap) len) :
    Calls Try.prog 26 #[.slice a len cap] w fun e w' => ∃ v l id key fp, e = .returned (.tuple #[.agg #[v], .int .i64 id, .int .i64 key]) ∧ Owns w' v (peersD T0 l) fp ∧ (∀ q ∈ fp, w.heap.size ≤ q) ∧ RingX l ∧ Below w.heap.size w w' := by
  have hb1 := (Below.refl w.heap.size w).alloc (Nat.le_refl _) (.cells #[.slice none 0 0] 28)
  have A0 := Blk.new w #[.slice none 0 0] 28
  have HC1 := hide (code_at hc hb1)
  have HB1 := hide hb1
  clear hc hb1
  go_enter Try.func26, Try.ntmps26
  go_upto_region 1 with fail
  obtain ⟨s, es⟩ : ∃ s, s = w.heap.size := ⟨_, rfl⟩
  rw [← es] at A0 ⊢
  have HS : Hid (w.heap.size = s) := es.symm
  clear es
  generalize w.alloc (.cells #[.slice none 0 0] 28) = w1 at *
  go_wp2_with fail
  refine (new_calls w1 a len cap HC1.out).mono ?_
  rintro e w2 ⟨rfl, hc2, hb2⟩
  have HC2 := hide hc2
  have A2 := A0.below hb2 A0.lt
  have HB2 := hide (HB1.out.trans (hb2.mono HB1.out.size))
  have h1s := A0.lt
  clear hc2 hb2 A0
  obtain ⟨g0, eg0⟩ : ∃ g, g = w1.heap.size := ⟨_, rfl⟩
  rw [← eg0] at HC2 h1s ⊢
  have HG0 : Hid (w.heap.size ≤ g0) := by show _ ≤ _; have := HB1.out.size; omega
  clear eg0
  go_wp2_with fail
  refine (pick_calls _ g0 w2 HC2.out [0, 5, 81, 100, 150, 255, 256, -1] (by decide) (by decide) 8 rfl _ rfl).mono ?_
  rintro e w3 ⟨x, hx, rfl, hc3, hg3⟩
  have HC3 := hide hc3
  have A3 := Cu_blk A2 hg3 (by omega)
  have HB3 := hide (HB2.out.trans (below_of_grown hg3 HG0.out HB2.out.size))
  clear hc3 hg3 A2 HC2 hx
  go_wp2_with fail
  refine (any_calls _ _ w3 HC3.out).mono ?_
  rintro e w4 ⟨v, l, id, fp, rfl, ho, hf, hr, hc4, hg4⟩
  obtain ⟨av, cv, hsh⟩ := peers_sl ho
  subst hsh
  have A4 := Cu_blk A3 hg4 (by omega)
  have HB4 := hide (HB3.out.trans (below_of_grown hg4 HG0.out HB3.out.size))
  have h3z := HB3.out.size
  have h3s := A3.lt
  clear hc4 hg4 A3 HC3
  go_upto_region 4 with fail
  have YB := Blk.new w4 #[.slice av l.length cv] 28
  have hba := (Below.refl w4.heap.size w4).alloc (Nat.le_refl _) (.cells #[.slice av l.length cv] 28)
  have A5 := A4.below hba A4.lt
  have HO5 := hide (owns_below ho hba)
  have HB5 := hide (HB4.out.trans (hba.mono HB4.out.size))
  have HF := hide hf
  have HR := hide hr
  have hsb := A4.lt
  clear ho hf hr A4 hba HB4
  have y0 := blk_free_cell YB 0 rfl
  have yl := YB.lt
  generalize w4.alloc (.cells #[.slice av l.length cv] 28) = w5 at *
  have z0 := blk_free_cell A5 0 rfl
  have zf := A5.free 0
  have zl := A5.lt
  go_wp2_with fail
  have Rd := A5.set 0 (.slice av l.length cv)
  have x0 := blk_free_cell Rd 0 rfl
  have hs := HS.out
  refine bodyPost_ret (v := .tuple #[.agg #[.slice av l.length cv], .int .i64 id, .int .i64 x]) (by simp [results, Try.results26, go_sem, x0]) rfl ⟨_, ⟨id, x, rfl⟩, l, fp, owns_set (b := s) (i := 0) HO5.out (fun q hq => by have := HF.out q hq; omega) _, fun q hq => by have := HF.out q hq; omega, HR.out, HB5.out.setCell (p := ⟨s, 0, none⟩) (by show _ ≤ s; omega) _⟩

set_option maxHeartbeats 2000000 in
theorem drawFind_calls (w : World) (a : Option Addr) (len cap : Nat) (hc : Cu.Code w.heap.size w (.slice a len cap) len) :
    Calls Try.prog 9 #[.slice a len cap] w fun e w' => ∃ v l id key fp, e = .returned (.tuple #[.agg #[v], .int .i64 id, .int .i64 key]) ∧ Owns w' v (peersD T0 l) fp ∧ (∀ q ∈ fp, w.heap.size ≤ q) ∧ RingX l ∧ Below w.heap.size w w' := by
  have hb1 := (Below.refl w.heap.size w).alloc (Nat.le_refl _) (.cells #[.slice none 0 0] 28)
  have A0 := Blk.new w #[.slice none 0 0] 28
  have HC1 := hide (code_at hc hb1)
  have HB1 := hide hb1
  clear hc hb1
  go_enter Try.func9, Try.ntmps9
  go_upto_region 1 with fail
  obtain ⟨s, es⟩ : ∃ s, s = w.heap.size := ⟨_, rfl⟩
  rw [← es] at A0 ⊢
  have HS : Hid (w.heap.size = s) := es.symm
  clear es
  generalize w.alloc (.cells #[.slice none 0 0] 28) = w1 at *
  go_wp2_with fail
  refine (drawStepTo_calls w1 a len cap HC1.out).mono ?_
  rintro e w3 ⟨v, l, id, key, fp, rfl, ho, hf, hr, hb3⟩
  obtain ⟨av, cv, hsh⟩ := peers_sl ho
  subst hsh
  have A3 := A0.below hb3 A0.lt
  have HO := hide ho
  have HF := hide hf
  have HR := hide hr
  have HB3 := hide (HB1.out.trans (hb3.mono HB1.out.size))
  have h1s := A0.lt
  have h1z := HB1.out.size
  have z0 := blk_free_cell A3 0 rfl
  have zf := A3.free 0
  have zl := A3.lt
  clear ho hf hr hb3 A0 HC1
  go_wp2_with fail
  have Rd := A3.set 0 (.slice av l.length cv)
  have x0 := blk_free_cell Rd 0 rfl
  have hs := HS.out
  refine bodyPost_ret (v := .tuple #[.agg #[.slice av l.length cv], .int .i64 id, .int .i64 key]) (by simp [results, Try.results9, go_sem, x0]) rfl ⟨_, l, id, key, fp, rfl, owns_set (b := s) (i := 0) HO.out (fun q hq => by have := HF.out q hq; omega) _, fun q hq => by have := HF.out q hq; omega, HR.out, HB3.out.setCell (p := ⟨s, 0, none⟩) (by show _ ≤ s; omega) _⟩
end Go.Proofs.Ytckldfknhmhkgaa.P9
