/- For every code: a drawn text's digest is made block by block, and a drawn state and block go as the specification has it (FnBlocks returns true); condition: the listed tables hold what their text lays, tied by the given tie. -/
import Derived.Test.YtkmeafccdhejdaaDoorRows
import Derived.Test.YtkmeafccdhejdaaDoorFrame
import Derived.Test.YtkmeafccdhejdaaDoorFrame2
import Derived.Test.YtkmeafccdhejdaaDoorShaH
import Derived.Test.YtkmeafccdhejdaaDoorShaHI
import Derived.Test.YtkmeafccdhejdaaDoorShaPadI
import Derived.Test.YtkmeafccdhejdaaDoorShaK
import Derived.Test.YtkmeafccdhejdaaDoorShaKI
import Derived.Test.YtkmeafccdhejdaaDoorShaS
import Derived.Test.YtkmeafccdhejdaaDoorShaSI
import Derived.Test.YtkmeafccdhejdaaDoorShaW
import Derived.Test.YtkmeafccdhejdaaDoorShaL
import Derived.Test.YtkmeafccdhejdaaDoorIntS
import Derived.Test.YtkmeafccdhejdaaDoorTextOf
import Derived.Test.YtkmeafccdhejdaaDoorCut
import Derived.Test.YtkmeafccdhejdaaDoorCallT
import Derived.Test.YtkmeafccdhejdaaDoorTie
import Derived.Test.YtkmeafccdhejdaaDoorCards
import Derived.WalkKit
import Derived.ProofKit
import Derived.OpenShut
import Derived.ShutString
import Derived.ChangeVars
import Derived.SevenTiedAt
import Derived.LaidMore
import Derived.Stop.Joined
namespace Go.Proofs.YtkmeafccdhejdaaDoor.fnBlocks
open Go.ChangeShapes Go.WideShapes Go.ChangeAt Go.RowKit
open Go.ChangeMaps (open_string shut_string)
set_option linter.unusedVariables false

theorem own : ownKnob Tryd.prog.godebug = none := by kernel_rfl
theorem laidOut : laidOutB Tryd.prog = true := by kernel_rfl

theorem stOf_ints (s : P3.St) : P3.stOf (P3.intsOf s.list) = s := by
  simp [P3.stOf, P3.intsOf, P3.St.list]

theorem shaV_ints (s : P3.St) (h : s.ok) (q : List UInt8) (hq : q.length = 64) : P3.shaV (P3.intsOf s.list) q = P3.intsOf (P3.block s q).list := by
  have hok : P3.shaOk (P3.intsOf s.list) q := by
    refine ⟨rfl, hq, ?_⟩
    obtain ⟨h0, h1, h2, h3, h4, h5, h6, h7⟩ := h
    intro x hx
    simp [P3.intsOf, P3.St.list] at hx
    omega
  unfold P3.shaV
  rw [if_pos hok, stOf_ints]

theorem pad_take (t : List UInt8) : (P3.pad t).take t.length = t := by
  simp [P3.pad]

open P1 in
theorem four_run (x : Nat) (hx : x < 4294967296) (w : World) :
    (convert 22 9 (.slice (some ⟨w.heap.size, 0, none⟩) 4 4)).run Tryd.prog (w.alloc (.cells #[.int .u8 ((x : Int) / 16777216), .int .u8 ((x : Int) / 65536 % 256), .int .u8 ((x : Int) / 256 % 256), .int .u8 ((x : Int) % 256)] 5)).drew =
      .ok (.string ⟨(P3.four x).toArray⟩) (w.alloc (.cells #[.int .u8 ((x : Int) / 16777216), .int .u8 ((x : Int) / 65536 % 256), .int .u8 ((x : Int) / 256 % 256), .int .u8 ((x : Int) % 256)] 5)).drew := by
  refine run_convert_bytes_back _ 22 9 5 ⟨w.heap.size, 0, none⟩ 4 (P3.four x) Tryd.underlying22 Tryd.underlying5 Tryd.underlying9 ?_
  intro j hj
  have b0 := byte_of (x / 16777216) (by omega)
  have b1 := byte_of (x / 65536 % 256) (by omega)
  have b2 := byte_of (x / 256 % 256) (by omega)
  have b3 := byte_of (x % 256) (by omega)
  unfold P3.four at hj ⊢
  match j, hj with
  | 0, _ => simp only [List.getElem_cons_zero, b0]; simp [Addr.add, go_sem]
  | 1, _ => simp only [List.getElem_cons_zero, List.getElem_cons_succ, b1]; simp [Addr.add, go_sem]
  | 2, _ => simp only [List.getElem_cons_zero, List.getElem_cons_succ, b2]; simp [Addr.add, go_sem]
  | 3, _ => simp only [List.getElem_cons_zero, List.getElem_cons_succ, b3]; simp [Addr.add, go_sem]

open P1 in
theorem enterIB (args : Array Value) (w : World) : (callFunc 14 args).run Tryd.prog w = .ok (.enter 14 args) w :=
  run_enter Tryd.func14 (by kernel_rfl) (by kernel_rfl) args w

open P1 in
theorem enterSB (args : Array Value) (w : World) : (callFunc 20 args).run Tryd.prog w = .ok (.enter 20 args) w :=
  run_enter Tryd.func20 (by kernel_rfl) (by kernel_rfl) args w

open P1 in
theorem enterSI (args : Array Value) (w : World) : (callFunc 19 args).run Tryd.prog w = .ok (.enter 19 args) w :=
  run_enter Tryd.func19 (by kernel_rfl) (by kernel_rfl) args w

open P1 in
set_option maxRecDepth 8000 in
set_option maxHeartbeats 2000000 in
theorem walk (w : World) (a : Option Addr) (len cap : Nat) (z : List Int) (hr : Frame.IsRow .u8 w a len cap z) (hG : P3.Glo w) :
    Calls Tryd.prog 4 #[.slice a len cap] w fun e w' => e = .returned (.bool true) ∧ Below w.heap.size w w' := by
  have Hr := hide hr
  have HGl := hide hG
  clear hr hG
  by_cases hbig : 1048576 < len
  · have hd : decide (1048576 < (len : Int)) = true := by simp; omega
    go_enter Tryd.func4, Tryd.ntmps4
    go_wp2_with fail
    refine (Cu.big_calls _ a len cap).mono ?_
    rintro e w1 ⟨rfl, rfl⟩
    rw [hd]
    go_wp2
    go_ret
    exact ⟨rfl, Below.refl _ _⟩
  · have hd : decide (1048576 < (len : Int)) = false := by simp; omega
    have HC := hide (Cu.code_of_row Hr.out (by omega))
    clear Hr hbig
    go_enter Tryd.func4, Tryd.ntmps4
    go_wp2_with fail
    refine (Cu.big_calls _ a len cap).mono ?_
    rintro e w1 ⟨rfl, rfl⟩
    rw [hd]
    clear hd
    go_wp2_with fail
    refine (Cu.textOf_calls _ a len cap HC.out).mono ?_
    rintro e w2 ⟨t, ht, rfl, hb⟩
    have HB2 := hide hb
    have HC2 := hide (HC.out.below (fun k hk => hb.block k hk))
    clear hb HC
    go_wp2_with fail
    refine (P3.implPad_calls t (by omega) _).mono ?_
    rintro e w3 ⟨rfl, hb3⟩
    have HB3 := hide (HB2.out.trans (hb3.mono HB2.out.size))
    have HC3 := hide (HC2.out.below (fun k hk => hb3.block k (Nat.lt_of_lt_of_le hk HB2.out.size)))
    clear hb3 HB2 HC2
    go_wp2_with fail
    refine (P3.implStart_calls _ (HGl.out.below HB3.out).s).mono ?_
    rintro e w4 ⟨v, rfl, hos, hb4⟩
    have HI4 : Hid (IntsAt w4 v (P3.intsOf P3.start.list)) := IntsAt.of_own (B := w3.heap.size) (e := 3) hos
    have HB4 := hide (HB3.out.trans (hb4.mono HB3.out.size))
    have HC4 := hide (HC3.out.below (fun k hk => hb4.block k (Nat.lt_of_lt_of_le hk HB3.out.size)))
    clear hb4 hos HB3 HC3
    have hpl := P3.pad_length t
    have hpm := P3.pad_mod t
    have hz : P3.zeros t.length < 64 := Nat.mod_lt _ (by decide)
    have hpt := pad_take t
    obtain ⟨p, EP⟩ : ∃ p, Hid (p = P3.pad t) := ⟨_, hide rfl⟩
    rw [← EP.out] at hpl hpm hpt ⊢
    obtain ⟨n, hn⟩ : ∃ n, p.length = 64 * n := ⟨p.length / 64, by omega⟩
    have hn0 : n ≤ 5 := by omega
    have hsl := fun wx => P3.slice_to p (t.length : Int) (by omega) (by omega) wx
    simp only [Int.toNat_natCast, hpt] at hsl
    have m0 : (((p.length : Int) % 64) == 0) = true := by simp; omega
    go_wp2
    clear m0 hsl hpt hpm
    go_loopw [5, 6] (fun v i wr => ∃ k : Nat, k ≤ n ∧ i = .int .i64 (64 * (k : Int)) ∧ IntsAt wr v (P3.intsOf (P3.bl p k).list) ∧ Cu.Code w1.heap.size wr (.slice a len cap) len ∧ Below w1.heap.size w1 wr) (fun _ i _ => 64 * n - (intOf i).toNat)
    case atStart => exact ⟨0, by omega, rfl, HI4.out, HC4.out, HB4.out⟩
    case round =>
      clear HI4 HC4 HB4
      obtain ⟨k, hk, rfl, hi, hc, hb⟩ := hrel
      have HI := hide hi
      have HC := hide hc
      have HB := hide hb
      clear hi hc hb
      by_cases hlt : k < n
      · have hsl := P3.slice_block p k (by omega)
        have hql : ((p.drop (64 * k)).take 64).length = 64 := by rw [List.length_take, List.length_drop]; omega
        obtain ⟨q, EQ⟩ : ∃ q, Hid (q = (p.drop (64 * k)).take 64) := ⟨_, hide rfl⟩
        rw [← EQ.out] at hql
        simp only [← EQ.out] at hsl
        have HN : Hid (P3.shaV (P3.intsOf (P3.bl p k).list) q = P3.intsOf (P3.bl p (k + 1)).list) := by
          show _ = _
          rw [shaV_ints _ (P3.bl_ok p k) _ hql, EQ.out]
          rfl
        obtain ⟨L, EL⟩ : ∃ L, Hid (L = P3.intsOf (P3.bl p k).list) := ⟨_, hide rfl⟩
        have hL8 : L.length = 8 := by rw [EL.out]; rfl
        rw [← EL.out] at HI HN
        clear EL EQ
        go_wp2_with fail
        refine (P3.implBlock_calls _ _ L q HI.out (by omega) (HGl.out.below HB.out).k).mono ?_
        rintro e w5 ⟨v5, rfl, ho5, hb5⟩
        have HI5 := hide (IntsAt.of_own ho5)
        have HB5 := hide (HB.out.trans (hb5.mono HB.out.size))
        have HC5 := hide (HC.out.below (fun k hk => hb5.block k (Nat.lt_of_lt_of_le hk HB.out.size)))
        rw [HN.out] at HI5
        clear ho5 hb5 HI HB HC HN hsl hql
        go_wp2
        go_roundw
        case rel => exact ⟨k + 1, by omega, by go_num, HI5.out, HC5.out, HB5.out⟩
        case measure => simp [intOf]; omega
      · have hkn : k = n := by omega
        have hEn : n = (P3.pad t).length / 64 := by rw [← EP.out]; omega
        rw [hkn] at HI
        obtain ⟨st, Est⟩ : ∃ st, Hid (st = P3.bl p n) := ⟨_, hide rfl⟩
        have hok : st.ok := by rw [Est.out]; exact P3.bl_ok p n
        have HG : Hid (P3.digest t = st.list.flatMap P3.four) := by rw [Est.out, EP.out, hEn]; exact rfl
        rw [← Est.out] at HI
        clear Est hkn hEn EP hk
        obtain ⟨av, cv, rfl, HA⟩ := HI.out
        clear HI
        obtain ⟨gb, go, rfl, hglt, -⟩ := HA 0 (by show 0 < 8; omega)
        have hcells : ∀ j, j < 8 → wr.cell? ⟨gb, go + j, none⟩ = some (.int .i64 (st.list.getD j 0 : Nat)) := by
          intro j hj
          obtain ⟨g', off', e1, _, e3⟩ := HA j hj
          cases e1
          rw [e3]
          have : j < st.list.length := hj
          simp [P3.intsOf, List.getD_eq_getElem?_getD, this]
        have hi8 : (P3.intsOf st.list).length = 8 := rfl
        have HCL := hide hcells
        clear HA hcells
        rw [hi8]
        clear hi8
        go_wp2
        go_loopw [7, 8] (fun d i wx => ∃ k : Nat, k ≤ 8 ∧ i = .int .i64 k ∧ d = .string ⟨((st.list.take k).flatMap P3.four).toArray⟩ ∧ Below wr.heap.size wr wx) (fun _ i _ => 8 - (intOf i).toNat)
        case atStart => exact ⟨0, by omega, rfl, rfl, Below.refl _ _⟩
        case round =>
          obtain ⟨j, hj, rfl, rfl, hbx⟩ := hrel
          have HBX := hide hbx
          by_cases hlt8 : j < 8
          · have ck := HCL.out j hlt8
            rw [← hbx.cell (p := ⟨gb, go + j, none⟩) hglt] at ck
            have hx := P3.list_lt st hok j hlt8
            have HFN := hide (P3.flat_next st j hlt8)
            obtain ⟨x, hxe⟩ : ∃ x, x = st.list.getD j 0 := ⟨_, rfl⟩
            rw [← hxe] at ck hx HFN
            clear hxe hbx
            obtain ⟨D, ED⟩ : ∃ D, Hid (D = (st.list.take j).flatMap P3.four) := ⟨_, hide rfl⟩
            rw [← ED.out] at HFN ⊢
            have hfr := four_run x hx wr
            have hcat : (⟨D.toArray⟩ : ByteArray) ++ ⟨(P3.four x).toArray⟩ = ⟨(D ++ P3.four x).toArray⟩ := ByteArray.mk_append_mk D (P3.four x)
            have hD : D.length ≤ 32 := by
              rw [ED.out]
              have : ∀ l : List Nat, (l.flatMap P3.four).length = 4 * l.length := by
                intro l
                induction l with
                | nil => rfl
                | cons a l ih => rw [List.flatMap_cons, List.length_append, ih]; simp [P3.four]; omega
              rw [this, List.length_take]
              omega
            have hF : (P3.four x).length = 4 := rfl
            generalize P3.four x = F at hfr hcat HFN hF
            go_wp2
            go_region
            go_wp2
            go_roundw
            case rel => exact ⟨j + 1, by omega, by go_num, by rw [HFN.out], (HBX.out.alloc HBX.out.size _).drew⟩
            case measure => simp [intOf]; omega
          · have hj8 : j = 8 := by omega
            have hdg : (st.list.take j).flatMap P3.four = P3.digest t := by
              rw [hj8, HG.out, List.take_of_length_le (by show 8 ≤ 8; omega)]
            rw [hdg]
            have HB6 := hide (HB.out.trans (hbx.mono HB.out.size))
            have HC6 := hide (HC.out.below (fun k hk => hbx.block k (Nat.lt_of_lt_of_le hk HB.out.size)))
            have HD := hide (fun wx (hg : P3.Glo wx) => P3.implDigest_calls t (by omega) wx hg.s hg.k)
            have HS := hide (fun wx => P3.specDigest_calls t (by omega) wx)
            have HCt := hide (fun wx (hg : P3.Glo wx) => P3.implCut_calls t (by omega) 5 wx hg)
            have hdl := P3.digest_length t
            have hm5 : P3.cutV t 5 = (P3.digest t).take 5 := rfl
            simp only [hm5] at HCt
            clear hm5 hbx HBX HB HC HG hdg HCL hglt
            generalize P3.digest t = dg at *
            have hsl := fun wx => P3.slice_to dg 5 (by omega) (by rw [hdl]; omega) wx
            simp only [show (5 : Int).toNat = 5 from rfl] at hsl
            have hds : ((dg.length : Int) == 32) = true := by rw [hdl]; rfl
            obtain ⟨c5, E5⟩ : ∃ c5, Hid (c5 = dg.take 5) := ⟨_, hide rfl⟩
            simp only [← E5.out] at HCt hsl
            clear E5
            go_wp2_with fail
            refine (P3.drawSha_calls _ a len cap (HC6.out.more HB6.out.size)).mono ?_
            rintro e w7 ⟨va, l, b, hl8, hb64, rfl, hia, hb7⟩
            have HIA := hide hia
            have HB7 := hide (HB6.out.trans (hb7.mono HB6.out.size))
            clear hia hb7 HB6 HC6
            obtain ⟨V, EV⟩ : ∃ V, Hid (V = P3.shaV l b) := ⟨_, hide rfl⟩
            have hV : V.length ≤ 8 := by
              rw [EV.out]
              unfold P3.shaV
              split
              · show 8 ≤ 8
                omega
              · exact hl8
            have HSP := hide (fun wx v hv => P3.specBlock_calls wx v l b hv (by omega))
            have HIP := hide (fun wx v hv (hk : P3.KeyT wx) => P3.implBlock_calls wx v l b hv (by omega) hk)
            simp only [← EV.out] at HSP HIP
            clear EV
            have HG7 := hide (HGl.out.below HB7.out)
            go_wp2_with fail
            have HDn := hide (fun (p : Near w7.heap.size w7) => HD.out p.w (HG7.out.below p.h))
            have HSn := hide (fun (p : Near w7.heap.size w7) => HS.out p.w)
            have HCn := hide (fun (p : Near w7.heap.size w7) => HCt.out p.w (HG7.out.below p.h))
            clear HD HS HCt
            have hnn := Near.some w7.heap.size w7
            refine wp_region_cut 23 8 (fun w' => ∃ p : Near w7.heap.size w7, w' = p.w) ⟨⟨_, (Below.refl _ _).drew⟩, rfl⟩ (by kernel_rfl) (by kernel_rfl) (by kernel_rfl) ?_
            simp only [List.take_succ_cons, List.take_zero]
            repeat (go_big_quiet_step (first | exact calls_near (Nat.le_refl _) (HDn.out _) | exact calls_near (Nat.le_refl _) (HSn.out _) | exact calls_near (Nat.le_refl _) (HCn.out _)))
            refine wpQuiet_nil ?_
            rintro w8 ⟨q, rfl⟩
            obtain ⟨w8, hqb⟩ := q
            simp only
            have HI8 := hide (HIA.out.below hqb (Nat.le_refl _))
            have HB8 := hide (HB7.out.trans (hqb.mono HB7.out.size))
            have HG8 := hide (HGl.out.below HB8.out)
            clear hqb HDn HSn HCn HIA HB7 HG7
            refine wpAny_seg_lit 23 2 7 rfl (by decide) (by kernel_rfl) (by kernel_rfl) (fun _ _ _ _ _ h => h) ?_
            simp only [List.take_succ_cons, List.take_zero, List.drop_succ_cons, List.drop_zero]
            repeat (go_big_quiet_step (fail))
            refine wpQuiet_nil ?_
            refine wpAny_seg_lit 26 2 5 rfl (by decide) (by kernel_rfl) (by kernel_rfl) (fun _ _ _ _ _ h => h) ?_
            simp only [List.take_succ_cons, List.take_zero, List.drop_succ_cons, List.drop_zero]
            repeat (go_big_quiet_step (fail))
            refine wpQuiet_nil ?_
            refine wpAny_call2 25 _ (by kernel_rfl) rfl rfl 14 (.tmp 110) (.tmp 111) 24 9 rfl enterIB va (.string ⟨b.toArray⟩) rfl rfl (fun r wz => IntsAt wz r V ∧ IntsAt wz va l ∧ Below w1.heap.size w1 wz) ((HIP.out _ va HI8.out HG8.out.k).mono ?_) ?_
            · rintro e w9 ⟨vg, rfl, hog, hb9⟩
              exact ⟨vg, rfl, IntsAt.of_own hog, HI8.out.below hb9 (Nat.le_refl _), HB8.out.trans (hb9.mono HB8.out.size)⟩
            rintro vg w9 ⟨hig, hia, hb9⟩
            have HIG := hide hig
            have HI9 := hide hia
            have HB9 := hide hb9
            clear hig hia hb9 HI8 HB8 HG8
            refine wpAny_call2 28 _ (by kernel_rfl) rfl rfl 20 (.tmp 113) (.tmp 114) 24 9 rfl enterSB va (.string ⟨b.toArray⟩) rfl rfl (fun r wz => IntsAt wz r V ∧ IntsAt wz vg V ∧ Below w1.heap.size w1 wz) ((HSP.out _ va HI9.out).mono ?_) ?_
            · rintro e w10 ⟨vw, rfl, how, hb10⟩
              exact ⟨vw, rfl, IntsAt.of_own how, HIG.out.below hb10 (Nat.le_refl _), HB9.out.trans (hb10.mono HB9.out.size)⟩
            rintro vw w10 ⟨hiw, hig, hb10⟩
            have HIG10 := hide hig
            have HIW10 := hide hiw
            have HB10 := hide hb10
            clear hiw hig hb10 HI9 HB9 HIG
            refine wpAny_call2 29 _ (by kernel_rfl) rfl rfl 19 (.tmp 112) (.tmp 115) 24 24 rfl enterSI vg vw rfl rfl (fun r wz => r = .bool true ∧ Below w1.heap.size w1 wz) ((sameInts_calls _ vg vw V V HIG10.out HIW10.out (by omega) (by omega)).mono ?_) ?_
            · rintro e w11 ⟨rfl, m, rfl⟩
              exact ⟨.bool true, by simp, rfl, below_drewN HB10.out m⟩
            rintro r w11 ⟨rfl, hb11⟩
            have HB11 := hide hb11
            clear hb11 HIG10 HIW10 HB10
            refine wpAny_rest 30 rfl (by kernel_rfl) ?_
            simp only [List.drop_succ_cons, List.drop_zero, Act.put, List.setIfInBounds_toArray]
            go_wp2
            go_ret
            exact ⟨rfl, HB11.out⟩

def laidL : List (String × DataW Unit) := [("loop.example/g00474/impl.startNumbers", Rows.laid_loop_example_g00474_impl_startNumbers), ("loop.example/g00474/impl.turnNumbers", Rows.laid_loop_example_g00474_impl_turnNumbers)]

theorem door_met (os : Os) (args : Array Value) : laidMetH Tryd.prog laidL ((World.doorLaid Tryd.prog 400 os).forCall (fun _ _ => 0) ⟨#[], args, []⟩).memory :=
  laidMetH_of_parts3 (fuel := 8) (laidMet_of_run' 8 (by kernel_rfl) (by kernel_rfl)) (by kernel_rfl) (by kernel_rfl)

set_option maxRecDepth 100000 in
theorem lifted (os : Os) (started : os.Started) (H : Type) (enc : TypeId × Value → H) :
    ReturnsInHanded {} Tryd.checked os 4 .any (fun w args => (Rows.fnBlocksSpec.pre enc Tryd.prog Tryd.f4 [] false w args ∧ laidMetH Tryd.prog laidL w) ∧ sizedMet enc Tryd.prog Tryd.f4 (OpenSpec.ofChange Rows.fnBlocksSpec) false w args)
      (Rows.fnBlocksSpec.post enc Tryd.prog Tryd.f4 false true false false) := by
  refine returnsInHanded_of_change_and (C := Tryd.checked) (X := fun w _ => laidMetH Tryd.prog laidL w) (fun _ _ _ hh h => h.of_heap hh) own started (by kernel_rfl) Tryd.func4
    (ChangeSpec.witness_shaped (enc := enc) (C := Tryd.checked) (os := os) (X := fun w _ => laidMetH Tryd.prog laidL w) false (World.doorLaid Tryd.prog 400 os) #[.slice none 0 0] 8 rfl (World.shaped_of_RefB (by kernel_rfl) (by kernel_rfl)) (by kernel_rfl) (by kernel_rfl) (by kernel_rfl) (door_met os _)) ?_
  intro W base args ds gs before hval0 hW _ _ hL _
  have hval : ∀ (j : Nat) t v, Tryd.f4.params[j]? = some t → args[j]? = some v → Value.okWide Tryd.prog W .any base t v := hval0
  have hW' := hW
  obtain ⟨p, q, hA0, hV0, rfl, hfz, hnd⟩ := hW
  have hA : DataW.TrodAll enc Tryd.prog W 0 (fun _ => true) true Tryd.f4.params.toList args.toList ds p := hA0
  rw [Tryd.params4] at hA hval
  obtain ⟨v0, vs0, d0, ds0, p0, q0, hargs, rfl, rfl, h0, r0⟩ := trodAll_cons hA
  obtain ⟨rfl, rfl, rfl⟩ := trodAll_nil r0
  obtain rfl : args = #[v0] := by cases args; simp_all
  obtain ⟨g0, g1, rfl⟩ : ∃ g0 g1, gs = [g0, g1] := Frame.vars_2 rfl hV0
  obtain ⟨a0, len0, cap0, rfl⟩ := okWide_slice Tryd.underlying22 (hval 0 22 v0 rfl rfl)
  obtain ⟨z0, w0⟩ := Frame.open_row (k := .u8) Tryd.underlying22 Tryd.underlying5 (by kernel_rfl) h0
  clear hA0 hval0
  refine (walk (w := W) a0 len0 cap0 z0 w0 (P3.glo_of_laid (l := laidL) (by kernel_rfl) (List.Mem.head _) (List.Mem.tail _ (List.Mem.head _)) hL)).mono fun e W' ⟨he, bel⟩ => ?_
  subst he
  exact ⟨_, rfl, Frame.post_law laidOut (by kernel_rfl) (by kernel_rfl) (by kernel_rfl) Tryd.underlying4 hW' rfl bel⟩

theorem over : Rows.FnBlocksSaid :=
  OpenClaim.holds_of_wide 4 Tryd.f4 rfl rfl rfl rfl rfl rfl rfl ⟨rfl, rfl, rfl, rfl, rfl⟩ rfl rfl rfl rfl rfl (by kernel_rfl) Tryd.func4 (by kernel_rfl)
    (of_decide_eq_true (by kernel_rfl)) (by unfold Func.isWrapper; first | (rw [if_pos (by decide +kernel)]; kernel_rfl) | (rw [if_neg (by decide +kernel)]; exact ⟨rfl, rfl⟩))
    (fun os started H enc _ => lifted os started H enc)

theorem proved : Rows.FnBlocksCardSaid :=
  Claim7.holds_tied_plain_at .later [] [.data, .data] true (true, "f1292d61ad92dddede17e9ed7a1ab2e25f36a7adc5bee8d82c1fdb439a375a17") false
    over (fun _ h => by cases h) (by kernel_rfl) (fun _ h => by cases h) fnBlocks_row_tie rfl ⟨rfl, rfl⟩ (by kernel_rfl) rfl
    (fun f fn hf hfn => by
      obtain rfl : f = 4 := Option.some.inj ((show Tryd.prog.funcNamed "loop.example/g00474/laws.FnBlocks" = some 4 by kernel_rfl).symm.trans hf) |>.symm
      obtain rfl : fn = Tryd.f4 := (Option.some.inj (Tryd.func4.symm.trans hfn)).symm
      exact ⟨by kernel_rfl, fun j t ht => by
        rw [Tryd.params4] at ht
        have hm : t ∈ [22] := by simpa using Array.mem_of_getElem? ht
        have hall : ([22].all fun u => !Tryd.prog.wantsStandIn u) = true := by kernel_rfl
        exact (show Tryd.prog.wantsStandIn t = false by simpa using List.all_eq_true.1 hall t hm)⟩)
    (by kernel_rfl)
#print axioms proved
end Go.Proofs.YtkmeafccdhejdaaDoor.fnBlocks
