/- The program's newIds; condition: at most 2^20 ids.
The program's fingersOf, by whoever owns a place; condition: an id on the ring, and how the owner is told.
What one knows who knows all, as plain mathematics; no condition.
The program's knowing; condition: an id on the ring, at most 2^20 ids. -/
import Derived.Test.YteladljgnbfcnaaGreatDoorZRA
import Derived.Test.YteladljgnbfcnaaGreatDoorZRD
import Derived.Test.YteladljgnbfcnaaGreatDoorZRI
import Derived.Test.YteladljgnbfcnaaGreatDoorZA
namespace Go.Proofs.YteladljgnbfcnaaGreatDoor.P9
open Go.RowKit Go.Shelf P1 P8 Da Mp Rc Rf

attribute [local go_sem] Oper.semAt_some

end Go.Proofs.YteladljgnbfcnaaGreatDoor.P9
namespace Go.Proofs.YteladljgnbfcnaaGreatDoor.P9
set_option maxRecDepth 8000
open Go.RowKit P1 P8 Da Rc

set_option maxHeartbeats 1000000 in
theorem implFingers_calls (w : World) (id : Int) (k0 : FuncId) (caps : Array Value) (f : Int → Int) (h0 : 0 ≤ id) (h1 : id < 256) (hk : ∀ args w, (callFunc k0 args).run Tryz.prog w = .ok (.enter k0 args) w)
    (hown : ∀ (wx : World) (x : Int), Below w.heap.size w wx → Calls Tryz.prog k0 (#[.int .i64 x] ++ caps) wx fun e w' => e = .returned (.int .i64 (f x)) ∧ Below wx.heap.size wx w') :
    Calls Tryz.prog 77 #[.int .i64 id, .func (.func k0) #[] caps] w fun e w' => ∃ v', e = .returned v' ∧ w'.ownsRow w.heap.size 3 1 v' 8 (cellsI ((List.range 8).map fun j => f (id + (2 : Int) ^ j))) ∧ Below w.heap.size w w' := by
  have HOW := hide hown
  clear hown
  have hf8 : ((List.range 8).map fun j => f (id + (2 : Int) ^ j)).length = 8 := by simp
  obtain ⟨F, EF⟩ : ∃ F, F = (List.range 8).map fun j => f (id + (2 : Int) ^ j) := ⟨_, rfl⟩
  have HFG : Hid (∀ k (hk : k < 8), F[k]? = some (f (id + (2 : Int) ^ k))) := fun k hk => by
    rw [EF]
    simp [hk]
  rw [← EF] at hf8 ⊢
  clear EF
  obtain ⟨i0, hi, hz0, hz1, hz2⟩ := info_parts info_i64
  go_enter Tryz.func77, Tryz.ntmps77
  go_wp2_with (at_make; refine wpList_make_full _ rfl (.const (.int .i64 8)) (.const (.int .i64 8)) 28 rfl w.heap.size 3 i0 (.int .i64 0) 1 Tryz.underlying28 hi hz0 hz1 .i64 .i64 _ _ 8 rfl rfl (by omega) (by omega) (by rw [hz2]; omega) (by unfold maxLen; omega) (Nat.le_refl _) ?_)
  intro w2 hown2 hgr2
  rw [cellsI_zeros] at hown2
  have hb2 : Below w.heap.size w w2 := (Below.refl _ _).grown hgr2 (Nat.le_refl _) (by intro k hk; cases hk)
  have HO2 := hide hown2
  have HB2 := hide hb2
  clear hown2 hgr2 hb2
  obtain ⟨g, hg⟩ : ∃ g, g = w.heap.size := ⟨_, rfl⟩
  go_wp2
  rw [← hg]
  have hgw : w.heap.size ≤ g := by omega
  have HG := hide hg
  clear hg
  have HH0 : Hid (cellsI (half F 0) = cellsI (List.replicate 8 0)) := by
    show _ = _
    unfold half
    rw [hf8]
    rfl
  have HF8 := hide hf8
  clear hf8
  go_loopw [10] (fun i wr => ∃ k : Nat, k ≤ 8 ∧ i = .int .i64 k ∧ Hid (wr.ownsRow w.heap.size 3 1 (.slice (some ⟨g, 0, none⟩) 8 8) 8 (cellsI (half F k))) ∧ Hid (Below w.heap.size w wr)) (fun i _ => 8 - (intOf i).toNat)
  case atStart => exact ⟨0, Nat.zero_le _, rfl, by show World.ownsRow _ _ _ _ _ _ _; rw [HG.out, HH0.out]; exact HO2.out, HB2.out⟩
  case round =>
    clear HO2 HB2
    obtain ⟨k, hk, rfl, HO, HB⟩ := hrel
    by_cases hlt : k < 8
    · have HC := hide (HOW.out wr (id + (2 : Int) ^ k) HB.out)
      have HFk := hide (half_set? F k _ (HFG.out k hlt))
      have hkey := key_of h0 h1 hlt
      generalize f (id + (2 : Int) ^ k) = fo at *
      go_wp2_with fail
      rw [hkey]
      refine HC.out.mono ?_
      rintro e w5 ⟨rfl, hb5⟩
      have hown5 := own_below HO.out hb5
      have hB5 := HB.out.trans (hb5.mono HB.out.size)
      have hc2 : ∃ x, w5.cell? ⟨g, k, none⟩ = some x := by rw [hown5.cellAt k (by omega)]; exact ⟨_, List.getElem?_eq_getElem (by rw [cellsI_length, half_length F k (by rw [HF8.out]; omega), HF8.out]; exact hlt)⟩
      obtain ⟨x0, hc2⟩ := hc2
      have hf2 := hown5.frozenAt k
      have h1' := (hown5.stored k (.int .i64 fo)).1
      rw [cellsI_set, HFk.out] at h1'
      have HO5 := hide h1'
      have HB5 := hide (hB5.setCell (p := ⟨g, k, none⟩) hgw (.int .i64 fo))
      clear hown5 hB5 hb5 h1' HC hkey HO HB HFk
      go_wp2
      go_roundw
      case rel => exact ⟨k + 1, by omega, by go_num, HO5.out, HB5.out⟩
      case measure => simp [intOf]; omega
    · obtain rfl : k = 8 := by omega
      have h2 := HO.out
      rw [half_all F 8 (by rw [HF8.out]; omega)] at h2
      have HO5 := hide h2
      clear h2 HO
      go_wp2
      go_ret
      exact ⟨_, rfl, HO5.out, HB.out⟩
end Go.Proofs.YteladljgnbfcnaaGreatDoor.P9
namespace Go.Proofs.YteladljgnbfcnaaGreatDoor.P9
open P8

/-- The one ahead, those behind, its fingers. -/
def wantAhead (H : List Int) (id : Int) : Int := if (ordered id H).length = 0 then -1 else (ordered id H).getLastD 0
def wantFingers (H : List Int) (id : Int) : List Int := (List.range 8).map fun k => ownerOf (id + (2 : Int) ^ k) H
end Go.Proofs.YteladljgnbfcnaaGreatDoor.P9
namespace Go.Proofs.YteladljgnbfcnaaGreatDoor.P9
set_option maxRecDepth 8000
open Go.RowKit P1 P8 Da Rc

set_option maxHeartbeats 1000000 in
theorem knowing1_calls (w : World) (b : Nat) (v : Value) (here : List Int) (x : Int) (hc : w.cell? ⟨b, 0, none⟩ = some v) (hv : IntsAt w v here) (hl : here.length ≤ 1048576) :
    Calls Tryz.prog 107 #[.int .i64 x, .pointer (some ⟨b, 0, none⟩)] w fun e w' => e = .returned (.int .i64 (ownerOf x here)) ∧ Below w.heap.size w w' := by
  have HC := hide (implOwner_calls w v here x hv hl)
  obtain ⟨a, c, rfl, -⟩ := hv
  have hg := cell_lt' hc
  generalize ownerOf x here = o at *
  go_enter Tryz.func107, Tryz.ntmps107
  go_wp2_with fail
  refine HC.out.mono ?_
  rintro e w2 ⟨rfl, hb⟩
  have HB := hide hb
  clear hb HC hc hg
  go_wp2_with fail
  go_ret
  exact ⟨rfl, HB.out⟩

theorem own_cut3 {w : World} {B : Nat} {e : TypeId} {a : Option Addr} {n c m : Nat} {xs : List Value} (h : w.ownsRow B e 1 (.slice a n c) n xs) (hm : m ≤ n) : w.ownsRow B e 1 (.slice a m c) m (xs.take m) ∧ n ≤ c := by
  obtain ⟨h0, h1⟩ := h
  rcases h1 with ⟨h2, h3⟩ | ⟨g, cap, cur, h2, h3, h4, h5, h6, h7, h8⟩
  · cases h2
    obtain rfl : m = 0 := by omega
    exact ⟨⟨by rw [List.length_take]; omega, .inl ⟨rfl, rfl⟩⟩, by omega⟩
  · cases h2
    refine ⟨⟨by rw [List.length_take]; omega, .inr ⟨g, c, cur, rfl, h3, h4, by omega, h6, h7, ?_⟩⟩, h5⟩
    rw [← h8, List.take_take, Nat.mul_one, Nat.mul_one, Nat.min_eq_left hm]

theorem own_stays {w w' : World} {B : Nat} {e : TypeId} {size n : Nat} {v : Value} {xs : List Value} (h : w.ownsRow B e size v n xs) (hk : ∀ g, v.ownBlock = some g → w'.heap[g]? = w.heap[g]?) : w'.ownsRow B e size v n xs := by
  refine ⟨h.1, ?_⟩
  rcases h.2 with h1 | ⟨g, cap, cur, rfl, h2, h3, h4⟩
  · exact .inl h1
  · exact .inr ⟨g, cap, cur, rfl, h2, (hk g rfl).trans h3, h4⟩

set_option maxRecDepth 100000 in
set_option maxHeartbeats 4000000 in
theorem knowing_calls (w : World) (a : Option Addr) (n c : Nat) (here : List Int) (x : Int) (hv : IntsAt w (.slice a n c) here) (hl : here.length ≤ 1048576) (h0 : 0 ≤ x) (h1 : x < 256) :
    Calls Tryz.prog 82 #[.slice a n c, .int .i64 x] w fun e w' => ∃ v3 v4, e = .returned (.agg #[.int .i64 x, .bool true, .int .i64 (wantAhead here x), v3, v4, .slice none 0 0]) ∧
      w'.ownsRow w.heap.size 3 1 v3 ((ordered x here).take 3).length (cellsI ((ordered x here).take 3)) ∧ w'.ownsRow w.heap.size 3 1 v4 8 (cellsI (wantFingers here x)) ∧ (∀ g, v3.ownBlock = some g → v4.ownBlock ≠ some g) ∧ Below w.heap.size w w' := by
  have hol := ordered_length x here
  have HWA : Hid (wantAhead here x = if (ordered x here).length = 0 then -1 else (ordered x here).getLastD 0) := rfl
  obtain ⟨D, eD⟩ : ∃ D, D = ordered x here := ⟨_, rfl⟩
  rw [← eD] at hol HWA ⊢
  have HDE := hide eD
  clear eD
  have HV := hide hv
  obtain ⟨an, cn, hsh, -⟩ := hv
  cases hsh
  have hB1 := (Below.refl w.heap.size w).alloc (Nat.le_refl _) (.cells #[.slice a here.length c] 28)
  have hB2 := hB1.alloc hB1.size (.cells #[.int .i64 0, .bool false, .int .i64 0, .slice none 0 0, .slice none 0 0, .slice none 0 0] 32)
  have A0 := Blk.new w #[.slice a here.length c] 28
  have R := Blk.new (w.alloc (.cells #[.slice a here.length c] 28)) #[.int .i64 0, .bool false, .int .i64 0, .slice none 0 0, .slice none 0 0, .slice none 0 0] 32
  have A0' := A0.below ((Below.refl (w.alloc (.cells #[.slice a here.length c] 28)).heap.size (w.alloc (.cells #[.slice a here.length c] 28))).alloc (Nat.le_refl _) (.cells #[.int .i64 0, .bool false, .int .i64 0, .slice none 0 0, .slice none 0 0, .slice none 0 0] 32)) A0.lt
  have e1 : (w.alloc (.cells #[.slice a here.length c] 28)).heap.size = w.heap.size + 1 := by simp
  rw [e1] at R
  have HV1 := hide (HV.out.below hB2 (Nat.le_refl _))
  have HB1 := hide hB2
  clear hB1 hB2 A0 e1 HV
  go_enter Tryz.func82, Tryz.ntmps82
  go_upto_region 1 with fail
  obtain ⟨s, es⟩ : ∃ s, s = w.heap.size := ⟨_, rfl⟩
  rw [← es] at A0' R ⊢
  have HSs : Hid (w.heap.size = s) := es.symm
  clear es
  generalize (w.alloc (.cells #[.slice a here.length c] 28)).alloc (.cells #[.int .i64 0, .bool false, .int .i64 0, .slice none 0 0, .slice none 0 0, .slice none 0 0] 32) = w1 at *
  have HCo := hide (implOrdered_calls w1 _ here x HV1.out hl)
  have k0 := blk_free_cell A0' 0 rfl
  have kl := A0'.lt
  have hrl := R.lt
  rw [← HDE.out] at HCo
  clear HDE
  go_wp2_with fail
  refine HCo.out.mono ?_
  rintro e w8 ⟨v8, rfl, hown8, hb8⟩
  obtain ⟨a8, c8, hsh⟩ := own_sh hown8
  subst hsh
  obtain ⟨hcut, hroom⟩ := own_cut3 hown8 (m := min D.length 3) (Nat.min_le_left _ _)
  have HCUT := hide hcut
  have HB8 := hide (HB1.out.trans (hb8.mono HB1.out.size))
  have HV8 := hide (HV1.out.below hb8 (Nat.le_refl _))
  have HR8 := hide (R.below hb8 R.lt)
  have B0 := A0'.below hb8 A0'.lt
  have HB0 := hide B0
  have hmc : min D.length 3 ≤ c8 := by omega
  have em : min (D.length : Int) 3 = ((min D.length 3 : Nat) : Int) := by omega
  have hz18 := hb8.size
  have H8I := hide (own_at (v := .slice a8 D.length c8) hown8)
  clear k0 kl HCo hb8 HB1 HV1 A0' R hown8 hcut B0
  by_cases hD : D.length = 0
  case' pos =>
    have hdz : decide (0 < D.length) = false := decide_eq_false (by omega)
    have HA : Hid (wantAhead here x = -1) := by
      show _ = _
      rw [HWA.out, if_pos hD]
    clear H8I HWA
    generalize hm3 : min D.length 3 = m3 at *
    clear hD
    go_upto_region 5 with fail
    obtain ⟨y, ey⟩ : ∃ y : Int, y = -1 := ⟨_, rfl⟩
    rw [← ey] at HA ⊢
    clear ey
  case' neg =>
    have hdz : decide (0 < D.length) = true := decide_eq_true (by omega)
    obtain ⟨g8, cap8, e8, -, hg8, -, hq8, -⟩ := H8I.out (by omega)
    cases e8
    have hlast : w8.cell? ⟨g8, D.length - 1, none⟩ = some (.int .i64 (D.getLastD 0)) := by
      rw [hq8 _ (by omega)]
      unfold cellsI
      rw [List.getElem?_map, List.getElem?_eq_getElem (by omega)]
      have : D.getLastD 0 = D[D.length - 1] := by
        rw [List.getLastD_eq_getLast?, List.getLast?_eq_getElem?, List.getElem?_eq_getElem (by omega)]
        rfl
      rw [this]
      rfl
    have HA : Hid (wantAhead here x = D.getLastD 0) := by
      show _ = _
      rw [HWA.out, if_neg hD]
    have hpos : 0 < D.length := by omega
    clear H8I HWA hq8
    generalize hm3 : min D.length 3 = m3 at *
    generalize D.getLastD 0 = y at *
    clear hD
    go_upto_region 5 with fail
    clear hlast hpos hg8
    generalize (some ⟨g8, 0, none⟩ : Option Addr) = a8 at *
  all_goals
    have hV8 := HV8.out
    have hc0 := blk_free_cell HB0.out 0 rfl
    have hl0 := HB0.out.lt
    have HF := hide (fun (wx : World) (hb : Below w8.heap.size w8 wx) => implFingers_calls wx x 107 #[.pointer (some ⟨s, 0, none⟩)] (fun key => ownerOf key here) h0 h1 (run_enter Tryz.func107 (by kernel_rfl) (by kernel_rfl))
      (fun wy key hy => knowing1_calls wy s _ here key (((hb.trans (hy.mono hb.size)).cell (p := ⟨s, 0, none⟩) hl0).trans hc0) (hV8.below (hb.trans (hy.mono hb.size)) (Nat.le_refl _)) hl))
    have hnn := Near.some w8.heap.size w8
    clear hV8 hc0 hl0 HV8 HB0
    refine wp_region_open (fun wd => ∃ p : Near w8.heap.size w8, wd = p.w) ⟨⟨_, (Below.refl _ _).drew⟩, rfl⟩ (by kernel_rfl) ?_
    rintro wd ⟨pd, rfl⟩
    refine wpAny_of_K (c := 10) (D := fun w' => ∃ p : Near w8.heap.size w8, w' = p.w) _ _ _ _ ?_
    refine wpAnyK_seg_lit4 0 8 8 4 rfl (by decide) (by decide) (by kernel_rfl) (by kernel_rfl) (by kernel_rfl) (by kernel_rfl) (fun _ _ _ _ _ h => h) ⟨pd, rfl⟩ ?_
    simp only [List.take_succ_cons, List.take_zero, List.drop_zero]
    repeat (go_big_quiet_step (fail))
    all_goals
      refine wpQuiet_nil ?_
      have e3 : (if 3 < (D.length : Int) then (3 : Int) else (D.length : Int)) = (m3 : Int) := by split <;> omega
      rw [e3, Int.toNat_natCast]
      clear e3
      have hpz := pd.h.size
      refine wpAnyK_one 8 (by kernel_rfl) rfl ?_
      go_wp2_with fail
      refine ⟨⟨pd, rfl⟩, ?_⟩
      refine wpAnyK_one 9 (by kernel_rfl) rfl ?_
      go_wp2_with fail
      refine (HF.out pd.w pd.h).mono ?_
      rintro e w9 ⟨v9, rfl, ho9, hb9⟩
      obtain ⟨a9, c9, hsh⟩ := own_sh ho9
      subst hsh
      have hq9 := pd.h.trans (hb9.mono hpz)
      clear HF hnn
      go_wp2_with fail
      refine ⟨⟨⟨_, hq9⟩, rfl⟩, ?_⟩
      refine wpAnyK_last (by kernel_rfl) (by decide) ?_
      refine wpAny_rest 10 rfl (by kernel_rfl) ?_
      simp only [List.drop_succ_cons, List.drop_zero]
      have R9 := HR8.out.below hq9 HR8.out.lt
      have hlen : (D.take 3).length = m3 := by rw [List.length_take, Nat.min_comm, hm3]
      have hcells : cellsI (D.take 3) = (cellsI D).take m3 := by
        rw [← hm3]
        unfold cellsI
        rw [← List.map_take]
        congr 1
        rw [Nat.min_comm, List.take_eq_take_min]
      have hO3 := own_below HCUT.out hq9
      have HO3 : Hid (w9.ownsRow w.heap.size 3 1 (.slice a8 m3 c8) (D.take 3).length (cellsI (D.take 3))) := by
        show World.ownsRow _ _ _ _ _ _ _
        rw [hlen, hcells]
        exact own_mono hO3 (by have := HSs.out; omega)
      have HO4 : Hid (w9.ownsRow w.heap.size 3 1 (.slice a9 8 c9) 8 (cellsI (wantFingers here x))) := own_mono ho9 (by have := HB8.out.size; omega)
      have HAP : Hid (∀ q, (Value.slice a8 m3 c8).ownBlock = some q → (Value.slice a9 8 c9).ownBlock ≠ some q) := fun q h3 h4 => by
        have k3 := HCUT.out.lt q h3
        have k4 := ho9.lt q h4
        omega
      have HL3 : Hid (∀ q, (Value.slice a8 m3 c8).ownBlock = some q → q ≠ s + 1) := fun q h3 e => by
        have k3 := HCUT.out.lt q h3
        omega
      have HL4 : Hid (∀ q, (Value.slice a9 8 c9).ownBlock = some q → q ≠ s + 1) := fun q h4 e => by
        have k4 := ho9.lt q h4
        have := HR8.out.lt
        omega
      have HB9 := hide (HB8.out.trans (hq9.mono HB8.out.size))
      clear ho9 hb9 hq9 HCUT HB8 hO3 hlen hcells hm3 hmc em
      have k0 := blk_free_cell R9 0 rfl
      have k1 := blk_free_cell R9 1 rfl
      have k2 := blk_free_cell R9 2 rfl
      have k3 := blk_free_cell R9 3 rfl
      have k4 := blk_free_cell R9 4 rfl
      have k5 := blk_free_cell R9 5 rfl
      have kf0 := R9.free 0
      have kf1 := R9.free 1
      have kf2 := R9.free 2
      have kf3 := R9.free 3
      have kf4 := R9.free 4
      have kf5 := R9.free 5
      have kl := R9.lt
      go_wp2_with fail
      have Rd := six_set R9 (.int .i64 x) (.bool true) (.int .i64 y) (.slice a8 m3 c8) (.slice a9 8 c9) (.slice none 0 0)
      have x0 := blk_free_cell Rd 0 rfl
      have x1 := blk_free_cell Rd 1 rfl
      have x2 := blk_free_cell Rd 2 rfl
      have x3 := blk_free_cell Rd 3 rfl
      have x4 := blk_free_cell Rd 4 rfl
      have x5 := blk_free_cell Rd 5 rfl
      have hss := HSs.out
      refine bodyPost_ret (v := .agg #[.int .i64 x, .bool true, .int .i64 y, .slice a8 m3 c8, .slice a9 8 c9, .slice none 0 0]) (by simp [results, Tryz.results82, go_sem, x0, x1, x2, x3, x4, x5]) rfl ?_
      refine ⟨_, _, by rw [HA.out], own_stays HO3.out (fun q hq => six_other (HL3.out q hq)), own_stays HO4.out (fun q hq => six_other (HL4.out q hq)), HAP.out, six_below HB9.out (by omega) _ _ _ _ _ _⟩
end Go.Proofs.YteladljgnbfcnaaGreatDoor.P9
