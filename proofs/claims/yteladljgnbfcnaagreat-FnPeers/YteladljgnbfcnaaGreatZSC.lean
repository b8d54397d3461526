/- The program's newIds; condition: at most 2^20 ids.
The program's fingersOf, by whoever owns a place; condition: an id on the ring, and how the owner is told.
What one knows who knows all, as plain mathematics; no condition.
The program's knowing; condition: an id on the ring, at most 2^20 ids.
The program's knowing, as a new ring asks it; condition: four ids of the ring that are here, of which it is one.
The program's RingNew; condition: at most 2^20 ids. -/
import Derived.Test.YteladljgnbfcnaaGreatZRA
import Derived.Test.YteladljgnbfcnaaGreatZRD
import Derived.Test.YteladljgnbfcnaaGreatZRI
import Derived.Test.YteladljgnbfcnaaGreatZA
namespace Go.Proofs.YteladljgnbfcnaaGreat.P9
set_option maxRecDepth 8000
open Go.RowKit Go.Shelf P1 P8 Da Mp Rc Rf

attribute [local go_sem] Oper.semAt_some

set_option maxHeartbeats 400000 in
theorem implOn_calls (x : Int) (w : World) : Calls Tryz.prog 42 #[.int .i64 x] w fun e w' => e = .returned (.bool (onR x)) ∧ w' = w := by
  unfold onR
  by_cases h0 : 0 ≤ x
  · by_cases h1 : x < 256
    · have d0 : decide (0 ≤ x) = true := decide_eq_true h0
      have d1 : decide (x < 256) = true := decide_eq_true h1
      go_enter Tryz.func42, Tryz.ntmps42
      go_wp2
      go_ret
      exact ⟨by rw [d0, d1]; rfl, rfl⟩
    · have d0 : decide (0 ≤ x) = true := decide_eq_true h0
      have d1 : decide (x < 256) = false := decide_eq_false h1
      go_enter Tryz.func42, Tryz.ntmps42
      go_wp2
      go_ret
      exact ⟨rfl, rfl⟩
  · have d0 : decide (0 ≤ x) = false := decide_eq_false h0
    go_enter Tryz.func42, Tryz.ntmps42
    go_wp2
    go_ret
    exact ⟨rfl, rfl⟩

/-- An int more in a row that a box holds: behind the append and the store. -/
theorem box_more {n₀ b n : Nat} {x : Int} {v v' : Value} {xs : List Value} {W w1 : World} (hb : Boxed W b 24 v) (ho : W.ownsRow n₀ 3 1 v n xs) (hn₀ : n₀ ≤ W.heap.size) (hbn : n₀ ≤ b)
    (hown : w1.ownsRow n₀ 3 1 v' (n + 1) (xs ++ [.int .i64 x])) (hgrow : (W.alloc (.cells #[.int .i64 x] 3)).grownBy w1 v.ownBlock) :
    Boxed w1 b 24 v ∧ Boxed (w1.setCell ⟨b, 0, none⟩ v') b 24 v' ∧ (w1.setCell ⟨b, 0, none⟩ v').ownsRow n₀ 3 1 v' (n + 1) (xs ++ [.int .i64 x]) ∧ KeepsOthers W (w1.setCell ⟨b, 0, none⟩ v') ∧ Below n₀ W (w1.setCell ⟨b, 0, none⟩ v') := by
  have hba := hb.alloc (.cells #[.int .i64 x] 3)
  have hoa := ho.alloc (.cells #[.int .i64 x] 3)
  have hb1 : Boxed w1 b 24 v := hba.kept hgrow (fun e => own_ne_blk hoa (cs := [v]) (show Blk _ b [v] 24 from hba) (by decide) e.symm)
  have hcells : ∀ (j : Nat) (o : Obj), v.ownBlock = some j → (W.alloc (.cells #[.int .i64 x] 3)).heap[j]? = some o → o.isCells = true := by
    intro j o ej hj
    rcases hoa.2 with ⟨e1, _⟩ | ⟨g, cap, cur, e1, _, hgb, _⟩
    · rw [e1] at ej; simp [Value.ownBlock] at ej
    · rw [e1] at ej
      obtain rfl : g = j := by simpa [Value.ownBlock] using ej
      rw [hgb] at hj; cases hj; rfl
  refine ⟨hb1, hb1.set v', ?_, ((KeepsOthers.alloc W _).trans (KeepsOthers.of_grownBy hgrow hcells)).trans (KeepsOthers.setCell _ _ _), (((Below.refl n₀ W).alloc hn₀ _).grown hgrow (by simp; omega) (fun j ej => (ho.lt j ej).1)).setCell (p := ⟨b, 0, none⟩) hbn v'⟩
  exact hown.kept (grownBy_setCell' w1 b v') (.inr (own_ne_blk hown (cs := [v]) (show Blk _ b [v] 24 from hb1) (by decide)))

set_option maxRecDepth 100000 in
set_option maxHeartbeats 2000000 in
theorem newIds_calls (w : World) (v : Value) (ids : List Int) (hv : IntsAt w v ids) (hl : ids.length ≤ 1048576) :
    Calls Tryz.prog 26 #[v] w fun e w' => ∃ v', e = .returned v' ∧ w'.ownsRow w.heap.size 3 1 v' (kept ids).length (cellsI (kept ids)) ∧ Below w.heap.size w w' := by
  refine (callsIn_wide (n := 9)).1 ?_
  have HV := hide hv
  obtain ⟨a, cap, rfl, -⟩ := hv
  obtain ⟨i0, hi, hz0, hz1, hz2⟩ := info_parts info_i64
  refine callsIn_of_wp_marks Tryz.func26 rfl trivial ?_ rfl
  simp only [Tryz.ntmps26, List.size_toArray, List.length_cons, List.length_nil, Nat.reduceAdd, Nat.reduceSub, Array.replicate_succ, Array.replicate_zero, List.push_toArray, List.append_toArray, List.nil_append, List.cons_append]
  gi_wp2
  refine ⟨trivial, ?_⟩
  refine (callsIn_wide.2 (once_calls _ a ids.length cap _ rfl)).mono ?_
  rintro e w' ⟨rfl, rfl⟩
  have bK := (Boxed.new w 24 (.slice none 0 0)).alloc (.cells #[.slice a ids.length cap] 24)
  have bI := Boxed.new (w.alloc (.cells #[.slice none 0 0] 24)) 24 (.slice a ids.length cap)
  have z1 : (w.alloc (.cells #[.slice none 0 0] 24)).heap.size = w.heap.size + 1 := by simp
  have z2 : ((w.alloc (.cells #[.slice none 0 0] 24)).alloc (.cells #[.slice a ids.length cap] 24)).heap.size = w.heap.size + 2 := by simp
  rw [z1] at bI ⊢
  have hB1 : Below w.heap.size w ((w.alloc (.cells #[.slice none 0 0] 24)).alloc (.cells #[.slice a ids.length cap] 24)) := ((Below.refl _ w).alloc (Nat.le_refl _) _).alloc (by simp) _
  clear z1
  generalize (w.alloc (.cells #[.slice none 0 0] 24)).alloc (.cells #[.slice a ids.length cap] 24) = w2 at *
  have hV2 : IntsLow w.heap.size w2 (.slice a ids.length cap) ids := (IntsLow.of HV.out).below hB1
  clear HV
  gi_wp2
  refine range_tells (gf := 64) (lb := #[.pointer (some ⟨w.heap.size + 1, 0, none⟩)]) rfl (enters_of Tryz.func64 (by kernel_rfl) rfl)
    (once_tells (w.heap.size + 1) w.heap.size _ ids hl w2 bI.cell hV2 (by omega)) (fun h k => h.trans k) (belowK_b (by omega)) (Below.refl _ _) (fun _ => rfl)
    (fun pre W => (∃ v3, Boxed W w.heap.size 24 v3 ∧ W.ownsRow w.heap.size 3 1 v3 (keep8 pre).length (cellsI (keep8 pre)) ∧ True) ∧ Below w.heap.size w W)
    (fun c pre W => ((∃ v3, Boxed W w.heap.size 24 v3 ∧ W.ownsRow w.heap.size 3 1 v3 (keep8 pre).length (cellsI (keep8 pre)) ∧ c = .exit 0 ∧ (keep8 pre).length = 8)) ∧ Below w.heap.size w W)
    (OwnFrom.and (Own.from (holdsRow_own _ _ _ _ _ (fun pre => (keep8 pre).length) (fun pre => cellsI (keep8 pre)) (fun _ _ => True)) _) (ownFrom_below (Nat.le_refl _) (by omega)))
    (fun c => OwnFrom.and (Own.from (holdsRow_own _ _ _ _ _ (fun pre => (keep8 pre).length) (fun pre => cellsI (keep8 pre)) (fun pre _ => c = .exit 0 ∧ (keep8 pre).length = 8)) _) (ownFrom_below (Nat.le_refl _) (by omega)))
    ⟨⟨_, bK, World.ownsRow_nil _ _ _ _, trivial⟩, hB1⟩
    (fun x => { tmps := #[.slice a ids.length cap, undef, .slice none 0 0, .pointer (some ⟨w.heap.size, 0, none⟩), .int .i64 x, .slice a ids.length cap, .func (.func 64) #[] #[.pointer (some ⟨w.heap.size + 1, 0, none⟩)], .int .i64 x, undef, undef, undef, undef, undef, undef, undef, undef, undef, undef], defers := [] }) ?assign ?body ?done ?stop
  case assign =>
    intro m l x W K hK
    gi_wp2
    exact hK
  case body =>
    rintro m l pre x W ⟨⟨v3, hb3, ho3, -⟩, hB⟩ hlt
    obtain ⟨a3, c3, hsh⟩ := own_sh ho3
    subst hsh
    have c1 := hb3.cell
    have f1 := hb3.frozen
    have l1 := hb3.lt
    have h8 := keep8_length pre
    by_cases h : (keep8 pre).length = 8
    · have hf := keep8_full h [x]
      have hd : (((keep8 pre).length : Int) == 8) = true := by simp; omega
      gi_wp2
      exact ⟨KeepsFrom.refl _ _, ⟨_, hb3, by rw [hf]; exact ho3, rfl, by rw [hf]; exact h⟩, hB⟩
    · have hs := keep8_snoc (l := pre) (x := x) h
      have hd : (((keep8 pre).length : Int) == 8) = false := by simp; omega
      obtain ⟨L, EL⟩ : ∃ L, L = keep8 pre := ⟨_, rfl⟩
      rw [← EL] at hs ho3 c1 hd h8 hb3
      have HB3 := hide hb3
      have HO3 := hide ho3
      have HB := hide hB
      have HS := hide hs
      have hsz := hB.size
      clear hb3 ho3 hB hs EL h
      gi_wp2
      refine ⟨trivial, ?_⟩
      refine ⟨fun h => (by cases h), ?_⟩
      refine (CallsIn.inRound l (callsIn_wide.2 (implOn_calls x _))).mono ?_
      rintro e w' ⟨rfl, hW'⟩
      replace hW' := hW'.symm
      subst hW'
      by_cases ho : onR x = true
      · rw [ho]
        have hN := HS.out
        rw [if_pos ho] at hN
        gi_wp2_with (gi_at_builtin; refine wpListIn_append_own _ rfl _ _ 24 rfl w.heap.size 3 i0 (.int .i64 0) 1 8 Tryz.underlying24 hi hz0 hz1 hz2 rfl (by decide) _ _ _ rfl (HO3.out.alloc _) ⟨W.heap.size, 0, none⟩ 1 1 [.int .i64 x] rfl rfl (cell_one_new _ _ _) (by simp [Value.oneCell']) (by unfold maxLen; omega) (by omega) (by simp; omega) ?_; intro v' w1 hown' hgrow _; obtain ⟨g', cap', rfl⟩ := ownsRow_succ hown'; obtain ⟨hx1, hx2, hx3, hx4, hx5⟩ := box_more HB3.out HO3.out hsz (Nat.le_refl _) hown' hgrow; have hc1 := hx1.cell; have hf1 := hx1.frozen; have hl1 := hx1.lt)
        exact ⟨hx4.from _, hx5, ⟨_, hx2, by rw [hN, List.length_append]; simpa [cellsI] using hx3, trivial⟩, HB.out.trans hx5⟩
      · have ho' : onR x = false := by simpa using ho
        rw [ho']
        have hN := HS.out
        rw [if_neg ho] at hN
        gi_wp2
        exact ⟨KeepsFrom.refl _ _, Below.refl _ _, ⟨_, HB3.out, by rw [hN]; exact HO3.out, trivial⟩, HB.out⟩
  case done =>
    rintro D ys W hD rfl ⟨⟨v3, hb3, ho3, -⟩, hB⟩ hK
    obtain ⟨a3, c3, hsh⟩ := own_sh ho3
    subst hsh
    have c1 := hb3.cell
    have l1 := hb3.lt
    gi_wp2
    refine ⟨by simp, .inl ⟨_, _, rfl, run_takeDeferred hK, ?_⟩⟩
    exact ⟨_, results_tmp rfl _ _ _, _, rfl, ownsRow_putObj ho3 _ hK rfl, hB.trans (belowK_b (w := w) (Nat.le_refl _) W D _ _ (by omega) hK rfl rfl)⟩
  case stop =>
    rintro D c pre W hD hpre ⟨⟨v3, hb3, ho3, rfl, h8⟩, hB⟩ hK
    have he : keep8 (nub ids) = keep8 pre := keep8_prefix hpre h8
    have he' : kept ids = keep8 pre := he
    rw [← he'] at ho3
    obtain ⟨a3, c3, hsh⟩ := own_sh ho3
    subst hsh
    have c1 := hb3.cell
    have l1 := hb3.lt
    clear h8 he he'
    gi_wp2
    refine ⟨by simp, .inl ⟨_, _, rfl, run_takeDeferred hK, ?_⟩⟩
    exact ⟨_, results_tmp rfl _ _ _, _, rfl, ownsRow_putObj ho3 _ hK rfl, hB.trans (belowK_b (w := w) (Nat.le_refl _) W D _ _ (by omega) hK rfl rfl)⟩
end Go.Proofs.YteladljgnbfcnaaGreat.P9
namespace Go.Proofs.YteladljgnbfcnaaGreat.P9
set_option maxRecDepth 8000
open Go.RowKit P1 P8 Da Rc

set_option maxHeartbeats 1000000 in
theorem implFingers_calls (w : World) (id : Int) (k0 : FuncId) (caps : Array Value) (f : Int → Int) (h0 : 0 ≤ id) (h1 : id < 256) (hk : ∀ args w, (callFunc k0 args).run Tryz.prog w = .ok (.enter k0 args) w)
    (hown : ∀ (wx : World) (x : Int), Below w.heap.size w wx → Calls Tryz.prog k0 (#[.int .i64 x] ++ caps) wx fun e w' => e = .returned (.int .i64 (f x)) ∧ Below wx.heap.size wx w') :
    Calls Tryz.prog 51 #[.int .i64 id, .func (.func k0) #[] caps] w fun e w' => ∃ v', e = .returned v' ∧ w'.ownsRow w.heap.size 3 1 v' 8 (cellsI ((List.range 8).map fun j => f (id + (2 : Int) ^ j))) ∧ Below w.heap.size w w' := by
  have HOW := hide hown
  clear hown
  have hf8 : ((List.range 8).map fun j => f (id + (2 : Int) ^ j)).length = 8 := by simp
  obtain ⟨F, EF⟩ : ∃ F, F = (List.range 8).map fun j => f (id + (2 : Int) ^ j) := ⟨_, rfl⟩
  have HFG : Hid (∀ k (hk : k < 8), F[k]? = some (f (id + (2 : Int) ^ k))) := fun k hk => by
    rw [EF]
    simp [hk]
  rw [← EF] at hf8 ⊢
  clear EF
  obtain ⟨i0, hi, hz0, hz1, hz2⟩ := info_parts info_i64
  go_enter Tryz.func51, Tryz.ntmps51
  go_wp2_with (at_make; refine wpList_make_full _ rfl (.const (.int .i64 8)) (.const (.int .i64 8)) 24 rfl w.heap.size 3 i0 (.int .i64 0) 1 Tryz.underlying24 hi hz0 hz1 .i64 .i64 _ _ 8 rfl rfl (by omega) (by omega) (by rw [hz2]; omega) (by unfold maxLen; omega) (Nat.le_refl _) ?_)
  intro w2 hown2 hgr2
  rw [cellsI_zeros] at hown2
  have hb2 : Below w.heap.size w w2 := (Below.refl _ _).grown hgr2 (Nat.le_refl _) (by intro k hk; cases hk)
  have HO2 := hide hown2
  have HB2 := hide hb2
  clear hown2 hgr2 hb2
  obtain ⟨g, hg⟩ : ∃ g, g = w.heap.size := ⟨_, rfl⟩
  go_wp2
  rw [← hg]
  have hgw : w.heap.size ≤ g := by omega
  have HG := hide hg
  clear hg
  have HH0 : Hid (cellsI (half F 0) = cellsI (List.replicate 8 0)) := by
    show _ = _
    unfold half
    rw [hf8]
    rfl
  have HF8 := hide hf8
  clear hf8
  go_loopw [10] (fun i wr => ∃ k : Nat, k ≤ 8 ∧ i = .int .i64 k ∧ Hid (wr.ownsRow w.heap.size 3 1 (.slice (some ⟨g, 0, none⟩) 8 8) 8 (cellsI (half F k))) ∧ Hid (Below w.heap.size w wr)) (fun i _ => 8 - (intOf i).toNat)
  case atStart => exact ⟨0, Nat.zero_le _, rfl, by show World.ownsRow _ _ _ _ _ _ _; rw [HG.out, HH0.out]; exact HO2.out, HB2.out⟩
  case round =>
    clear HO2 HB2
    obtain ⟨k, hk, rfl, HO, HB⟩ := hrel
    by_cases hlt : k < 8
    · have HC := hide (HOW.out wr (id + (2 : Int) ^ k) HB.out)
      have HFk := hide (half_set? F k _ (HFG.out k hlt))
      have hkey := key_of h0 h1 hlt
      generalize f (id + (2 : Int) ^ k) = fo at *
      go_wp2_with fail
      rw [hkey]
      refine HC.out.mono ?_
      rintro e w5 ⟨rfl, hb5⟩
      have hown5 := own_below HO.out hb5
      have hB5 := HB.out.trans (hb5.mono HB.out.size)
      have hc2 : ∃ x, w5.cell? ⟨g, k, none⟩ = some x := by rw [hown5.cellAt k (by omega)]; exact ⟨_, List.getElem?_eq_getElem (by rw [cellsI_length, half_length F k (by rw [HF8.out]; omega), HF8.out]; exact hlt)⟩
      obtain ⟨x0, hc2⟩ := hc2
      have hf2 := hown5.frozenAt k
      have h1' := (hown5.stored k (.int .i64 fo)).1
      rw [cellsI_set, HFk.out] at h1'
      have HO5 := hide h1'
      have HB5 := hide (hB5.setCell (p := ⟨g, k, none⟩) hgw (.int .i64 fo))
      clear hown5 hB5 hb5 h1' HC hkey HO HB HFk
      go_wp2
      go_roundw
      case rel => exact ⟨k + 1, by omega, by go_num, HO5.out, HB5.out⟩
      case measure => simp [intOf]; omega
    · obtain rfl : k = 8 := by omega
      have h2 := HO.out
      rw [half_all F 8 (by rw [HF8.out]; omega)] at h2
      have HO5 := hide h2
      clear h2 HO
      go_wp2
      go_ret
      exact ⟨_, rfl, HO5.out, HB.out⟩
end Go.Proofs.YteladljgnbfcnaaGreat.P9
namespace Go.Proofs.YteladljgnbfcnaaGreat.P9
open P8

/-- The one ahead, those behind, its fingers. -/
def wantAhead (H : List Int) (id : Int) : Int := if (ordered id H).length = 0 then -1 else (ordered id H).getLastD 0
def wantFingers (H : List Int) (id : Int) : List Int := (List.range 8).map fun k => ownerOf (id + (2 : Int) ^ k) H
end Go.Proofs.YteladljgnbfcnaaGreat.P9
namespace Go.Proofs.YteladljgnbfcnaaGreat.P9
set_option maxRecDepth 8000
open Go.RowKit P1 P8 Da Rc

set_option maxHeartbeats 1000000 in
theorem knowing1_calls (w : World) (b : Nat) (v : Value) (here : List Int) (x : Int) (hc : w.cell? ⟨b, 0, none⟩ = some v) (hv : IntsAt w v here) (hl : here.length ≤ 1048576) :
    Calls Tryz.prog 52 #[.int .i64 x, .pointer (some ⟨b, 0, none⟩)] w fun e w' => e = .returned (.int .i64 (ownerOf x here)) ∧ Below w.heap.size w w' := by
  have HC := hide (implOwner_calls w v here x hv hl)
  obtain ⟨a, c, rfl, -⟩ := hv
  have hg := cell_lt' hc
  generalize ownerOf x here = o at *
  go_enter Tryz.func52, Tryz.ntmps52
  go_wp2_with fail
  refine HC.out.mono ?_
  rintro e w2 ⟨rfl, hb⟩
  have HB := hide hb
  clear hb HC hc hg
  go_wp2_with fail
  go_ret
  exact ⟨rfl, HB.out⟩

theorem own_cut3 {w : World} {B : Nat} {e : TypeId} {a : Option Addr} {n c m : Nat} {xs : List Value} (h : w.ownsRow B e 1 (.slice a n c) n xs) (hm : m ≤ n) : w.ownsRow B e 1 (.slice a m c) m (xs.take m) ∧ n ≤ c := by
  obtain ⟨h0, h1⟩ := h
  rcases h1 with ⟨h2, h3⟩ | ⟨g, cap, cur, h2, h3, h4, h5, h6, h7, h8⟩
  · cases h2
    obtain rfl : m = 0 := by omega
    exact ⟨⟨by rw [List.length_take]; omega, .inl ⟨rfl, rfl⟩⟩, by omega⟩
  · cases h2
    refine ⟨⟨by rw [List.length_take]; omega, .inr ⟨g, c, cur, rfl, h3, h4, by omega, h6, h7, ?_⟩⟩, h5⟩
    rw [← h8, List.take_take, Nat.mul_one, Nat.mul_one, Nat.min_eq_left hm]

theorem own_stays {w w' : World} {B : Nat} {e : TypeId} {size n : Nat} {v : Value} {xs : List Value} (h : w.ownsRow B e size v n xs) (hk : ∀ g, v.ownBlock = some g → w'.heap[g]? = w.heap[g]?) : w'.ownsRow B e size v n xs := by
  refine ⟨h.1, ?_⟩
  rcases h.2 with h1 | ⟨g, cap, cur, rfl, h2, h3, h4⟩
  · exact .inl h1
  · exact .inr ⟨g, cap, cur, rfl, h2, (hk g rfl).trans h3, h4⟩

set_option maxRecDepth 100000 in
set_option maxHeartbeats 4000000 in
theorem knowing_calls (w : World) (a : Option Addr) (n c : Nat) (here : List Int) (x : Int) (hv : IntsAt w (.slice a n c) here) (hl : here.length ≤ 1048576) (h0 : 0 ≤ x) (h1 : x < 256) :
    Calls Tryz.prog 27 #[.slice a n c, .int .i64 x] w fun e w' => ∃ v3 v4, e = .returned (.agg #[.int .i64 x, .bool true, .int .i64 (wantAhead here x), v3, v4, .slice none 0 0]) ∧
      w'.ownsRow w.heap.size 3 1 v3 ((ordered x here).take 3).length (cellsI ((ordered x here).take 3)) ∧ w'.ownsRow w.heap.size 3 1 v4 8 (cellsI (wantFingers here x)) ∧ (∀ g, v3.ownBlock = some g → v4.ownBlock ≠ some g) ∧ Below w.heap.size w w' := by
  have hol := ordered_length x here
  have HWA : Hid (wantAhead here x = if (ordered x here).length = 0 then -1 else (ordered x here).getLastD 0) := rfl
  obtain ⟨D, eD⟩ : ∃ D, D = ordered x here := ⟨_, rfl⟩
  rw [← eD] at hol HWA ⊢
  have HDE := hide eD
  clear eD
  have HV := hide hv
  obtain ⟨an, cn, hsh, -⟩ := hv
  cases hsh
  have hB1 := (Below.refl w.heap.size w).alloc (Nat.le_refl _) (.cells #[.slice a here.length c] 24)
  have hB2 := hB1.alloc hB1.size (.cells #[.int .i64 0, .bool false, .int .i64 0, .slice none 0 0, .slice none 0 0, .slice none 0 0] 37)
  have A0 := Blk.new w #[.slice a here.length c] 24
  have R := Blk.new (w.alloc (.cells #[.slice a here.length c] 24)) #[.int .i64 0, .bool false, .int .i64 0, .slice none 0 0, .slice none 0 0, .slice none 0 0] 37
  have A0' := A0.below ((Below.refl (w.alloc (.cells #[.slice a here.length c] 24)).heap.size (w.alloc (.cells #[.slice a here.length c] 24))).alloc (Nat.le_refl _) (.cells #[.int .i64 0, .bool false, .int .i64 0, .slice none 0 0, .slice none 0 0, .slice none 0 0] 37)) A0.lt
  have e1 : (w.alloc (.cells #[.slice a here.length c] 24)).heap.size = w.heap.size + 1 := by simp
  rw [e1] at R
  have HV1 := hide (HV.out.below hB2 (Nat.le_refl _))
  have HB1 := hide hB2
  clear hB1 hB2 A0 e1 HV
  go_enter Tryz.func27, Tryz.ntmps27
  go_upto_region 1 with fail
  obtain ⟨s, es⟩ : ∃ s, s = w.heap.size := ⟨_, rfl⟩
  rw [← es] at A0' R ⊢
  have HSs : Hid (w.heap.size = s) := es.symm
  clear es
  generalize (w.alloc (.cells #[.slice a here.length c] 24)).alloc (.cells #[.int .i64 0, .bool false, .int .i64 0, .slice none 0 0, .slice none 0 0, .slice none 0 0] 37) = w1 at *
  have HCo := hide (implOrdered_calls w1 _ here x HV1.out hl)
  have k0 := blk_free_cell A0' 0 rfl
  have kl := A0'.lt
  have hrl := R.lt
  rw [← HDE.out] at HCo
  clear HDE
  go_wp2_with fail
  refine HCo.out.mono ?_
  rintro e w8 ⟨v8, rfl, hown8, hb8⟩
  obtain ⟨a8, c8, hsh⟩ := own_sh hown8
  subst hsh
  obtain ⟨hcut, hroom⟩ := own_cut3 hown8 (m := min D.length 3) (Nat.min_le_left _ _)
  have HCUT := hide hcut
  have HB8 := hide (HB1.out.trans (hb8.mono HB1.out.size))
  have HV8 := hide (HV1.out.below hb8 (Nat.le_refl _))
  have HR8 := hide (R.below hb8 R.lt)
  have B0 := A0'.below hb8 A0'.lt
  have HB0 := hide B0
  have hmc : min D.length 3 ≤ c8 := by omega
  have em : min (D.length : Int) 3 = ((min D.length 3 : Nat) : Int) := by omega
  have hz18 := hb8.size
  have H8I := hide (own_at (v := .slice a8 D.length c8) hown8)
  clear k0 kl HCo hb8 HB1 HV1 A0' R hown8 hcut B0
  by_cases hD : D.length = 0
  case' pos =>
    have hdz : decide (0 < D.length) = false := decide_eq_false (by omega)
    have HA : Hid (wantAhead here x = -1) := by
      show _ = _
      rw [HWA.out, if_pos hD]
    clear H8I HWA
    generalize hm3 : min D.length 3 = m3 at *
    clear hD
    go_upto_region 5 with fail
    obtain ⟨y, ey⟩ : ∃ y : Int, y = -1 := ⟨_, rfl⟩
    rw [← ey] at HA ⊢
    clear ey
  case' neg =>
    have hdz : decide (0 < D.length) = true := decide_eq_true (by omega)
    obtain ⟨g8, cap8, e8, -, hg8, -, hq8, -⟩ := H8I.out (by omega)
    cases e8
    have hlast : w8.cell? ⟨g8, D.length - 1, none⟩ = some (.int .i64 (D.getLastD 0)) := by
      rw [hq8 _ (by omega)]
      unfold cellsI
      rw [List.getElem?_map, List.getElem?_eq_getElem (by omega)]
      have : D.getLastD 0 = D[D.length - 1] := by
        rw [List.getLastD_eq_getLast?, List.getLast?_eq_getElem?, List.getElem?_eq_getElem (by omega)]
        rfl
      rw [this]
      rfl
    have HA : Hid (wantAhead here x = D.getLastD 0) := by
      show _ = _
      rw [HWA.out, if_neg hD]
    have hpos : 0 < D.length := by omega
    clear H8I HWA hq8
    generalize hm3 : min D.length 3 = m3 at *
    generalize D.getLastD 0 = y at *
    clear hD
    go_upto_region 5 with fail
    clear hlast hpos hg8
    generalize (some ⟨g8, 0, none⟩ : Option Addr) = a8 at *
  all_goals
    have hV8 := HV8.out
    have hc0 := blk_free_cell HB0.out 0 rfl
    have hl0 := HB0.out.lt
    have HF := hide (fun (wx : World) (hb : Below w8.heap.size w8 wx) => implFingers_calls wx x 52 #[.pointer (some ⟨s, 0, none⟩)] (fun key => ownerOf key here) h0 h1 (run_enter Tryz.func52 (by kernel_rfl) (by kernel_rfl))
      (fun wy key hy => knowing1_calls wy s _ here key (((hb.trans (hy.mono hb.size)).cell (p := ⟨s, 0, none⟩) hl0).trans hc0) (hV8.below (hb.trans (hy.mono hb.size)) (Nat.le_refl _)) hl))
    have hnn := Near.some w8.heap.size w8
    clear hV8 hc0 hl0 HV8 HB0
    refine wp_region_open (fun wd => ∃ p : Near w8.heap.size w8, wd = p.w) ⟨⟨_, (Below.refl _ _).drew⟩, rfl⟩ (by kernel_rfl) ?_
    rintro wd ⟨pd, rfl⟩
    refine wpAny_of_K (c := 10) (D := fun w' => ∃ p : Near w8.heap.size w8, w' = p.w) _ _ _ _ ?_
    refine wpAnyK_seg_lit4 0 8 8 4 rfl (by decide) (by decide) (by kernel_rfl) (by kernel_rfl) (by kernel_rfl) (by kernel_rfl) (fun _ _ _ _ _ h => h) ⟨pd, rfl⟩ ?_
    simp only [List.take_succ_cons, List.take_zero, List.drop_zero]
    repeat (go_big_quiet_step (fail))
    all_goals
      refine wpQuiet_nil ?_
      have e3 : (if 3 < (D.length : Int) then (3 : Int) else (D.length : Int)) = (m3 : Int) := by split <;> omega
      rw [e3, Int.toNat_natCast]
      clear e3
      have hpz := pd.h.size
      refine wpAnyK_one 8 (by kernel_rfl) rfl ?_
      go_wp2_with fail
      refine ⟨⟨pd, rfl⟩, ?_⟩
      refine wpAnyK_one 9 (by kernel_rfl) rfl ?_
      go_wp2_with fail
      refine (HF.out pd.w pd.h).mono ?_
      rintro e w9 ⟨v9, rfl, ho9, hb9⟩
      obtain ⟨a9, c9, hsh⟩ := own_sh ho9
      subst hsh
      have hq9 := pd.h.trans (hb9.mono hpz)
      clear HF hnn
      go_wp2_with fail
      refine ⟨⟨⟨_, hq9⟩, rfl⟩, ?_⟩
      refine wpAnyK_last (by kernel_rfl) (by decide) ?_
      refine wpAny_rest 10 rfl (by kernel_rfl) ?_
      simp only [List.drop_succ_cons, List.drop_zero]
      have R9 := HR8.out.below hq9 HR8.out.lt
      have hlen : (D.take 3).length = m3 := by rw [List.length_take, Nat.min_comm, hm3]
      have hcells : cellsI (D.take 3) = (cellsI D).take m3 := by
        rw [← hm3]
        unfold cellsI
        rw [← List.map_take]
        congr 1
        rw [Nat.min_comm, List.take_eq_take_min]
      have hO3 := own_below HCUT.out hq9
      have HO3 : Hid (w9.ownsRow w.heap.size 3 1 (.slice a8 m3 c8) (D.take 3).length (cellsI (D.take 3))) := by
        show World.ownsRow _ _ _ _ _ _ _
        rw [hlen, hcells]
        exact own_mono hO3 (by have := HSs.out; omega)
      have HO4 : Hid (w9.ownsRow w.heap.size 3 1 (.slice a9 8 c9) 8 (cellsI (wantFingers here x))) := own_mono ho9 (by have := HB8.out.size; omega)
      have HAP : Hid (∀ q, (Value.slice a8 m3 c8).ownBlock = some q → (Value.slice a9 8 c9).ownBlock ≠ some q) := fun q h3 h4 => by
        have k3 := HCUT.out.lt q h3
        have k4 := ho9.lt q h4
        omega
      have HL3 : Hid (∀ q, (Value.slice a8 m3 c8).ownBlock = some q → q ≠ s + 1) := fun q h3 e => by
        have k3 := HCUT.out.lt q h3
        omega
      have HL4 : Hid (∀ q, (Value.slice a9 8 c9).ownBlock = some q → q ≠ s + 1) := fun q h4 e => by
        have k4 := ho9.lt q h4
        have := HR8.out.lt
        omega
      have HB9 := hide (HB8.out.trans (hq9.mono HB8.out.size))
      clear ho9 hb9 hq9 HCUT HB8 hO3 hlen hcells hm3 hmc em
      have k0 := blk_free_cell R9 0 rfl
      have k1 := blk_free_cell R9 1 rfl
      have k2 := blk_free_cell R9 2 rfl
      have k3 := blk_free_cell R9 3 rfl
      have k4 := blk_free_cell R9 4 rfl
      have k5 := blk_free_cell R9 5 rfl
      have kf0 := R9.free 0
      have kf1 := R9.free 1
      have kf2 := R9.free 2
      have kf3 := R9.free 3
      have kf4 := R9.free 4
      have kf5 := R9.free 5
      have kl := R9.lt
      go_wp2_with fail
      have Rd := six_set R9 (.int .i64 x) (.bool true) (.int .i64 y) (.slice a8 m3 c8) (.slice a9 8 c9) (.slice none 0 0)
      have x0 := blk_free_cell Rd 0 rfl
      have x1 := blk_free_cell Rd 1 rfl
      have x2 := blk_free_cell Rd 2 rfl
      have x3 := blk_free_cell Rd 3 rfl
      have x4 := blk_free_cell Rd 4 rfl
      have x5 := blk_free_cell Rd 5 rfl
      have hss := HSs.out
      refine bodyPost_ret (v := .agg #[.int .i64 x, .bool true, .int .i64 y, .slice a8 m3 c8, .slice a9 8 c9, .slice none 0 0]) (by simp [results, Tryz.results27, go_sem, x0, x1, x2, x3, x4, x5]) rfl ?_
      refine ⟨_, _, by rw [HA.out], own_stays HO3.out (fun q hq => six_other (HL3.out q hq)), own_stays HO4.out (fun q hq => six_other (HL4.out q hq)), HAP.out, six_below HB9.out (by omega) _ _ _ _ _ _⟩
end Go.Proofs.YteladljgnbfcnaaGreat.P9
namespace Go.Proofs.YteladljgnbfcnaaGreat.P9
open Go.RowKit P1 P8 Da Rc

theorem row_owns {W : World} {B : Nat} {v : Value} {l : List Int} {n : Nat} (h : W.ownsRow B 3 1 v n (cellsI l)) : ∃ fp, Owns W v (intsD l) fp ∧ (∀ g, g ∈ fp ↔ v.ownBlock = some g) := by
  obtain ⟨fp, h1, h2⟩ := owns_of_row h
  have e : (cellsI l).map Dt.leaf = l.map intD := by simp [cellsI, intD]
  rw [e] at h1
  exact ⟨fp, h1, h2⟩

set_option maxHeartbeats 2000000 in
theorem implKnowing_calls (w : World) (a : Option Addr) (c : Nat) (here : List Int) (x : Int) (hv : IntsAt w (.slice a 4 c) here) (h4 : here.length = 4) (hn : here.Nodup) (hm : x ∈ here) (h0 : 0 ≤ x) (h1 : x < 256) :
    Calls Tryz.prog 27 #[.slice a 4 c, .int .i64 x] w fun e w' => ∃ y g3 c3 a4 c4 f, e = .returned (.agg #[.int .i64 x, .bool true, .int .i64 y, .slice (some ⟨g3, 0, none⟩) 3 c3, .slice a4 8 c4, .slice none 0 0]) ∧
      OwnsAll w' #[.int .i64 x, .bool true, .int .i64 y, .slice (some ⟨g3, 0, none⟩) 3 c3, .slice a4 8 c4, .slice none 0 0] 0 (prC T0 (knows here x)) f ∧ (∀ q ∈ f, w.heap.size ≤ q) ∧ Below w.heap.size w w' := by
  obtain ⟨y0, y1, y2, hL⟩ := three_of (ordered_three hn h4 hm)
  have hKN : knows here x = ⟨x, true, y2, [y0, y1, y2], fingers here x, []⟩ := by
    unfold knows
    rw [hL]
    rfl
  have hWA : wantAhead here x = y2 := by
    unfold wantAhead
    rw [hL]
    rfl
  refine (knowing_calls w a 4 c here x hv (by omega) h0 h1).mono ?_
  rintro e w' ⟨v3, v4, rfl, o3, o4, hap, hb⟩
  rw [hL] at o3
  rw [hWA]
  obtain ⟨g3, c3, e3, -⟩ := own_at o3 (by simp)
  obtain ⟨a4, c4, e4⟩ := own_sh o4
  subst e3 e4
  obtain ⟨f3, O3, m3⟩ := row_owns (l := [y0, y1, y2]) o3
  obtain ⟨f4, O4, m4⟩ := row_owns (l := fingers here x) o4
  have hOA := owns_six (T := T0) ⟨x, true, y2, [y0, y1, y2], fingers here x, []⟩ (u5 := .slice none 0 0) (f5 := []) O3 O4 (owns_nil _ _) (fun q h3 h4 => hap q ((m3 q).1 h3) ((m4 q).1 h4)) (by simp) (by simp)
  refine ⟨y2, g3, c3, a4, c4, _, rfl, by rw [hKN]; exact hOA, fun q hq => ?_, hb⟩
  rcases List.mem_append.1 hq with h | h
  · exact (o3.lt q ((m3 q).1 h)).1
  · exact (o4.lt q ((m4 q).1 (by simpa using h))).1
end Go.Proofs.YteladljgnbfcnaaGreat.P9
namespace Go.Proofs.YteladljgnbfcnaaGreat.P9
set_option maxRecDepth 8000
open Go.RowKit P1 P8 Da Rr Ap Rc

set_option maxHeartbeats 4000000 in
theorem implRingNew_calls (w : World) (v : Value) (ids : List Int) (hv : IntsAt w v ids) (hl : ids.length ≤ 1048576) :
    Calls Tryz.prog 6 #[v] w fun e w' => ∃ v' fp, e = .returned (.agg #[v']) ∧ Owns w' v' (peersD T0 (ringNew ids)) fp ∧ (∀ q ∈ fp, w.heap.size ≤ q) ∧ Below w.heap.size w w' := by
  have hR2 : ringNew ids = if (kept ids).length < 4 then [] else ((kept ids).take 4).map (knows ((kept ids).take 4)) ++ ((kept ids).drop 4).map away := rfl
  generalize ringNew ids = RN at *
  have HRN := hide hR2
  have HV := hide hv
  obtain ⟨av, cv, rfl, -⟩ := hv
  clear hR2
  have h1 := (Below.refl w.heap.size w).alloc (Nat.le_refl _) (.cells #[.slice none 0 0] 28)
  have R := Blk.new w #[.slice none 0 0] 28
  have HVb := hide (HV.out.below h1 (Nat.le_refl _))
  have HB1 := hide h1
  clear h1 HV
  go_enter Tryz.func6, Tryz.ntmps6
  go_upto_region 1 with fail
  obtain ⟨b2, e2⟩ : ∃ b, b = w.heap.size := ⟨_, rfl⟩
  rw [← e2] at R ⊢
  have hb2 : w.heap.size ≤ b2 := by omega
  clear e2
  generalize w.alloc (.cells #[.slice none 0 0] 28) = w1 at *
  have hlt2 := R.lt
  have HCN := hide (newIds_calls w1 _ ids HVb.out hl)
  have h8 := keep8_length (nub ids)
  change (kept ids).length ≤ 8 at h8
  have hnd := kept_nodup ids
  have hon := fun x (hx : x ∈ kept ids) => kept_on hx
  clear HVb
  generalize kept ids = M at *
  go_wp2_with fail
  refine HCN.out.mono ?_
  rintro e wr ⟨v3, rfl, hO, hbr⟩
  have Rr := R.below hbr hlt2
  have HBW := hide (HB1.out.trans (hbr.mono HB1.out.size))
  have HO := hide hO
  have hwr := hbr.size
  clear R HB1 HCN hbr hO
  obtain ⟨a3, c3, hsh⟩ := own_sh HO.out
  subst hsh
  have cR := blk_free_cell Rr 0 rfl
  have fR := Rr.free 0
  have lR := Rr.lt
  by_cases h4 : M.length < 4
  · have hd : decide ((M.length : Int) < 4) = true := decide_eq_true (by omega)
    go_wp2_with fail
    have Rd := Rr.set 0 (.slice none 0 0)
    have x0 := blk_free_cell Rd 0 rfl
    refine bodyPost_ret (v := .agg #[.slice none 0 0]) (by simp [results, Tryz.results6, go_sem, x0]) rfl ⟨_, [], rfl, ?_, (fun q hq => by cases hq), HBW.out.setCell (p := ⟨b2, 0, none⟩) hb2 _⟩
    rw [HRN.out, if_pos h4]
    exact owns_nil _ _
  · have hd : decide ((M.length : Int) < 4) = false := decide_eq_false (by omega)
    obtain ⟨g3, c3', hv3, hg31, hg32, hc3, hq3, -⟩ := own_at HO.out (by omega)
    cases hv3
    have hnn : ¬ ((M.length : Int) < 4) := by omega
    have hcc : 4 ≤ c3 := by omega
    go_upto_region 6 with fail
    have Q6 := Blk.new wr #[.slice none 0 0] 28
    have hb56 := (Below.refl wr.heap.size wr).alloc (Nat.le_refl _) (.cells #[.slice none 0 0] 28)
    have R5 := Rr.below hb56 lR
    have HB5 := hide (HBW.out.trans (hb56.mono HBW.out.size))
    have hK3 : ∀ j (hj : j < M.length), (wr.alloc (.cells #[.slice none 0 0] 28)).cell? ⟨g3, j, none⟩ = some (.int .i64 M[j]) := fun j hj => by
      rw [hb56.cell (p := ⟨g3, j, none⟩) hg32, hq3 j (by omega)]
      simp [cellsI, hj]
    have hlR := lR
    have hwz := HBW.out.size
    obtain ⟨hRl, hRg⟩ := ringNew_get (M := M) (by omega)
    have hRN := HRN.out
    rw [if_neg h4] at hRN
    rw [← hRN] at hRl hRg
    have HRG := hide hRg
    have HK3 := hide hK3
    have hsz : (wr.alloc (.cells #[.slice none 0 0] 28)).heap.size = wr.heap.size + 1 := by simp
    obtain ⟨b6, e6⟩ : ∃ b, b = wr.heap.size := ⟨_, rfl⟩
    rw [← e6] at Q6 ⊢
    have h62 : b6 ≠ b2 := by omega
    have h63 : g3 ≠ b6 := by omega
    have h6w : w.heap.size ≤ b6 := by omega
    have hC6 : (wr.alloc (.cells #[.slice none 0 0] 28)).heap.size = b6 + 1 := by omega
    have hg3C : g3 < b6 + 1 := by omega
    have HNE := hide (show b2 < b6 + 1 by omega)
    clear hb56 hK3 hsz e6 hRg hRN cR fR lR hlR hwz HBW Rr hq3 hg31 hg32 HO HRN hd hwr hlt2
    generalize wr.alloc (.cells #[.slice none 0 0] 28) = w5 at *
    obtain ⟨ip, hpi, hpz0, hpz1, hpz2⟩ := info_parts info_peer
    rw [← hRl] at h8
    have hB4l : (M.take 4).length = 4 := by rw [List.length_take]; omega
    have hB4n : (M.take 4).Nodup := hnd.sublist (List.take_sublist _ _)
    go_upto_region 7 with fail
    go_loopw [20] (fun i wx => ∃ k : Nat, k ≤ 4 ∧ i = .int .i64 k ∧ ∃ rv X fps, Hid (Blk wx b6 [rv] 28) ∧ Hid (RowD wx (b6 + 1) 37 6 rv k X ((RN.take k).flatMap (prC T0)) fps) ∧ Hid (Only [b6] w5 wx) ∧ Hid (∀ q ∈ fps, b6 + 1 ≤ q)) (fun i _ => 4 - (intOf i).toNat)
    case atStart => exact ⟨0, Nat.zero_le _, rfl, _, [], [], Q6, RowD.nil _ _ _ _, Only.refl _ _, fun q hq => by cases hq⟩
    case round =>
      clear Q6
      obtain ⟨k, hk, rfl, rv, X, fps, HQ, HR, HOn, HFP⟩ := hrel
      obtain ⟨ar, cr, hsh⟩ := own_sh HR.out.row
      subst hsh
      have hCx : b6 + 1 ≤ wr.heap.size := by have := HOn.out.size; omega
      by_cases hk4 : k < 4
      · have hlt : k < M.length := by omega
        have HG := hide (HRG.out k hlt)
        rw [if_pos hk4] at HG
        have hB4m : M[k] ∈ M.take 4 := by
          rw [← List.getElem_take (h := by rw [hB4l]; exact hk4)]
          exact List.getElem_mem _
        have hxon := hon M[k] (List.getElem_mem hlt)
        have c0 : wr.cell? ⟨g3, k, none⟩ = some (.int .i64 M[k]) := (only_cell HOn.out (p := ⟨g3, k, none⟩) (by show g3 < _; omega) (by simp [h63])).trans (HK3.out k hlt)
        have hg3x : g3 < wr.heap.size := by omega
        have HI4 := hide (fun (wq : World) (hq : Below wr.heap.size wr wq) => ints_of_cells (w := wq) (g := g3) (c := c3) (l := M.take 4) (by have := hq.size; omega) (fun j hj => by
          rw [hB4l] at hj
          have e1 := hq.cell (p := ⟨g3, j, none⟩) (show g3 < wr.heap.size by omega)
          have e2 := only_cell HOn.out (p := ⟨g3, j, none⟩) (by show g3 < _; omega) (by simp [h63])
          rw [e1, e2, HK3.out j (by omega), List.getElem_take]))
        rw [hB4l] at HI4
        obtain ⟨B4, eB4⟩ : ∃ B4, B4 = M.take 4 := ⟨_, rfl⟩
        rw [← eB4] at hB4l hB4n hB4m HG HI4
        have HCK := hide (fun (wq : World) (hq : Below wr.heap.size wr wq) => implKnowing_calls wq _ c3 B4 M[k] (HI4.out wq hq) hB4l hB4n hB4m hxon.1 hxon.2)
        clear HI4 hB4m eB4
        generalize M[k] = x at *
        have HX6 := hide (fun (p : Near wr.heap.size wr) => (show p.w.cell? ⟨b6, 0, none⟩ = some (.slice ar k cr) by rw [(HQ.out.below p.h HQ.out.lt).cell 0]; rfl))
        have n1 := HX6.out
        have hnn := Near.some wr.heap.size wr
        have l6 := HQ.out.lt
        clear HX6
        go_wp2_with fail
        refine wp_region_open (fun wd => ∃ p : Near wr.heap.size wr, wd = p.w) ⟨⟨_, (Below.refl _ _).drew⟩, rfl⟩ (by kernel_rfl) ?_
        rintro wd ⟨pd, rfl⟩
        refine wpAny_of_K (c := 6) (D := fun w' => ∃ p : Near wr.heap.size wr, w' = p.w) _ _ _ _ ?_
        refine wpAnyK_seg_lit4 0 4 4 5 rfl (by decide) (by decide) (by kernel_rfl) (by kernel_rfl) (by kernel_rfl) (by kernel_rfl) (fun _ _ _ _ _ h => h) ⟨pd, rfl⟩ ?_
        simp only [List.take_succ_cons, List.take_zero, List.drop_zero]
        repeat (go_big_quiet_step (fail))
        refine wpQuiet_nil ?_
        refine wpAnyK_one 4 (by kernel_rfl) rfl ?_
        go_wp2_with fail
        refine (HCK.out pd.w pd.h).mono ?_
        rintro e w9 ⟨y, g9, c9, a9, c9', f9, rfl, hOA, hlo, hb9⟩
        have hq9 := pd.h.trans (hb9.mono pd.h.size)
        go_wp2_with fail
        refine ⟨⟨⟨_, hq9⟩, rfl⟩, ?_⟩
        refine wpAnyK_value (i := 5) (v := .slice (some ⟨w9.heap.size, 0, none⟩) 1 1) (w' := w9.alloc (.cells #[.int .i64 x, .bool true, .int .i64 y, .slice (some ⟨g9, 0, none⟩) 3 c9, .slice a9 8 c9', .slice none 0 0] 37)) (by kernel_rfl) rfl rfl (by simp [execOp, go_sem]) ⟨⟨_, hq9.alloc hq9.size _⟩, rfl⟩ ?_
        refine wpAnyK_last (by kernel_rfl) (by decide) ?_
        refine wpAny_rest 6 rfl (by kernel_rfl) ?_
        simp only [List.drop_succ_cons, List.drop_zero]
        have HRd := hide (HR.out.below hq9)
        have HQd := hide (HQ.out.below hq9 HQ.out.lt)
        have HOd := hide (HOn.out.trans (Only.of_below hq9))
        have hCd : b6 + 1 ≤ w9.heap.size := Nat.le_trans hCx hq9.size
        have hpz := pd.h.size
        have HOA := hide hOA
        have HLO : Hid (∀ q ∈ f9, wr.heap.size ≤ q) := fun q hq => by have := hlo q hq; omega
        have HDI : Hid (∀ q ∈ f9, q ∉ fps ∧ (Value.slice ar k cr).ownBlock ≠ some q) := fun q hq => by
          have h1 := HLO.out q hq
          exact ⟨fun e => by have := HR.out.lt.2 q e; omega, fun e => by have := HR.out.lt.1 q e; omega⟩
        clear n1 hnn HR HQ HOn hg3x l6 hOA hlo hb9 hq9 HCK c0
        go_wp2_with (at_builtin; refine wpList_append_keep (cs := #[.int .i64 x, .bool true, .int .i64 y, .slice (some ⟨g9, 0, none⟩) 3 c9, .slice a9 8 c9', .slice none 0 0]) hCd rfl (.tmp 25) (.tmp 29) 26 rfl 37 ip (.agg #[.int .i64 0, .bool false, .int .i64 0, .slice none 0 0, .slice none 0 0, .slice none 0 0]) 6 96 Tryz.underlying26 hpi hpz0 hpz1 hpz2 rfl (by decide) rfl (by simp [Value.oneCell']) _ _ _ rfl HRd.out.row 1 rfl (by omega) (by omega) ?_)
        intro v6 w6 hown hgrew
        obtain ⟨a6, c6, hsh⟩ := own_sh hown
        subst hsh
        have hR6 := HRd.out.append (rs := prC T0 (knows B4 x)) HOA.out rfl HDI.out hown hgrew
        rw [← flat_take (prC T0) HG.out] at hR6
        have hne6 : ∀ q, (Value.slice ar k cr).ownBlock = some q → b6 + 1 ≤ q := fun q hq => (HRd.out.row.lt q hq).1
        have hQ6 := blk_grownR HQd.out hgrew.by_ (fun e => by have := hne6 _ e; omega)
        have hO6 := only_grown HOd.out hgrew.by_ (fun q hq => by have := hne6 q hq; omega)
        have hr6 : ∀ q, (Value.slice a6 (k + 1) c6).ownBlock = some q → b6 + 1 ≤ q := fun q hq => (hown.lt q hq).1
        have HFP7 : Hid (∀ q ∈ fps ++ f9, b6 + 1 ≤ q) := fun q hq => (List.mem_append.1 hq).elim (HFP.out q) (fun h => by have := HLO.out q h; omega)
        have c6b := blk_free_cell hQ6 0 rfl
        have f6b := hQ6.free 0
        have l6b := hQ6.lt
        have HQ7 := hide (hQ6.set 0 (.slice a6 (k + 1) c6))
        have HR7 := hide (hR6.stay (W' := w6.setCell ⟨b6, 0, none⟩ (.slice a6 (k + 1) c6)) (fun q hq => Below.heap_setCell _ _ _ _ (by have := hr6 q hq; show q ≠ b6; omega)) (fun q hq => Below.heap_setCell _ _ _ _ (by have := HFP7.out q hq; show q ≠ b6; omega)))
        have HO7 := hide (hO6.setCell (p := ⟨b6, 0, none⟩) (by simp) (.slice a6 (k + 1) c6))
        clear HRd HQd HOd hCd hown hgrew hR6 hne6 hO6 hr6 hQ6 HOA HDI HFP
        go_wp2
        go_roundw
        case rel => exact ⟨k + 1, by omega, by go_num, _, _, _, HQ7.out, HR7.out, HO7.out, HFP7.out⟩
        case measure => simp [intOf]; omega
      · obtain rfl : k = 4 := by omega
        have HR4 := hide HR.out
        clear HR
        go_upto_region 12 with fail
        all_goals
          go_loopw [36] (fun i wx => ∃ k : Nat, k ≤ M.length - 4 ∧ i = .int .i64 k ∧ ∃ rv X fps, Hid (Blk wx b6 [rv] 28) ∧ Hid (RowD wx (b6 + 1) 37 6 rv (4 + k) X ((RN.take (4 + k)).flatMap (prC T0)) fps) ∧ Hid (Only [b6] w5 wx) ∧ Hid (∀ q ∈ fps, b6 + 1 ≤ q)) (fun i _ => M.length - 4 - (intOf i).toNat)
          case atStart => exact ⟨0, Nat.zero_le _, rfl, _, _, _, HQ.out, HR4.out, HOn.out, HFP.out⟩
          case round =>
            clear HQ HR4 HOn HFP
            obtain ⟨k, hk, rfl, rv, X, fps, HQ, HR, HOn, HFP⟩ := hrel
            obtain ⟨ar, cr, hsh⟩ := own_sh HR.out.row
            subst hsh
            have hCx : b6 + 1 ≤ wr.heap.size := by have := HOn.out.size; omega
            by_cases hlt : k < M.length - 4
            · first
                | (exfalso; omega)
                | (have hlt' : 4 + k < M.length := by omega
                   have HG := hide (HRG.out (4 + k) hlt')
                   rw [if_neg (by omega)] at HG
                   have c0 : wr.cell? ⟨g3, 4 + k, none⟩ = some (.int .i64 M[4 + k]) := (only_cell HOn.out (p := ⟨g3, 4 + k, none⟩) (by show g3 < _; omega) (by simp [h63])).trans (HK3.out (4 + k) hlt')
                   have hg3x : g3 < wr.heap.size := by omega
                   have c6 := blk_free_cell HQ.out 0 rfl
                   have l6 := HQ.out.lt
                   generalize M[4 + k] = x at *
                   have hRw := HR.out.row
                   obtain ⟨n4, en4⟩ : ∃ n, n = 4 + k := ⟨_, rfl⟩
                   have HRn : Hid (RowD wr (b6 + 1) 37 6 (.slice ar n4 cr) n4 X ((RN.take n4).flatMap (prC T0)) fps) := by rw [en4]; exact HR.out
                   rw [← en4] at HG c6 HQ
                   have HEN := hide en4
                   have hn4 : n4 ≤ 8 := by omega
                   clear HR hRw hlt' en4
                   go_wp2_with (at_builtin; refine wpList_append_keep (cs := #[.int .i64 x, .bool false, .int .i64 0, .slice none 0 0, .slice none 0 0, .slice none 0 0]) hCx rfl (.tmp 41) (.tmp 44) 26 rfl 37 ip (.agg #[.int .i64 0, .bool false, .int .i64 0, .slice none 0 0, .slice none 0 0, .slice none 0 0]) 6 96 Tryz.underlying26 hpi hpz0 hpz1 hpz2 rfl (by decide) rfl (by simp [Value.oneCell']) _ _ _ rfl HRn.out.row 1 rfl (by omega) (by omega) ?_)
                   intro v6 w6 hown hgrew
                   obtain ⟨a6, c6', hsh⟩ := own_sh hown
                   subst hsh
                   have hR6 := HRn.out.append (rs := prC T0 (away x)) (f2 := []) (owns_away x) rfl (fun q hq => by cases hq) hown hgrew
                   rw [← flat_take (prC T0) HG.out] at hR6
                   have hne6 : ∀ q, (Value.slice ar n4 cr).ownBlock = some q → b6 + 1 ≤ q := fun q hq => (HRn.out.row.lt q hq).1
                   have hQ6 := blk_grownR HQ.out hgrew.by_ (fun e => by have := hne6 _ e; omega)
                   have hO6 := only_grown HOn.out hgrew.by_ (fun q hq => by have := hne6 q hq; omega)
                   have hr6 : ∀ q, (Value.slice a6 (n4 + 1) c6').ownBlock = some q → b6 + 1 ≤ q := fun q hq => (hown.lt q hq).1
                   have c6b := blk_free_cell hQ6 0 rfl
                   have f6b := hQ6.free 0
                   have l6b := hQ6.lt
                   have HQ7 := hide (hQ6.set 0 (.slice a6 (n4 + 1) c6'))
                   have HR7 := hide (hR6.stay (W' := w6.setCell ⟨b6, 0, none⟩ (.slice a6 (n4 + 1) c6')) (fun q hq => Below.heap_setCell _ _ _ _ (by have := hr6 q hq; show q ≠ b6; omega)) (fun q hq => Below.heap_setCell _ _ _ _ (by have := HFP.out q (by simpa using hq); show q ≠ b6; omega)))
                   have HO7 := hide (hO6.setCell (p := ⟨b6, 0, none⟩) (by simp) (.slice a6 (n4 + 1) c6'))
                   have HE1 : Hid (n4 + 1 = 4 + (k + 1)) := by have := HEN.out; show _ = _; omega
                   clear hown hgrew hR6 hne6 hO6 hr6 hQ6 HRn HQ HOn c6 c0
                   go_wp2
                   go_roundw
                   case rel => exact ⟨k + 1, by omega, by go_num, _, _, _, HQ7.out, by rw [← HE1.out]; exact HR7.out, HO7.out, fun q hq => HFP.out q (by simpa using hq)⟩
                   case measure => simp [intOf]; omega)
            · obtain rfl : k = M.length - 4 := by omega
              have hR := HR.out
              have hm4 : 4 + (M.length - 4) = M.length := by omega
              rw [hm4] at hR
              rw [List.take_of_length_le (by omega)] at hR
              obtain ⟨fp, ho, hm⟩ := hR.owns
              have HO := hide ho
              have HFA : Hid (∀ q ∈ fp, b6 + 1 ≤ q) := fun q hq => ((hm q).1 hq).elim (fun h => (hR.row.lt q h).1) (HFP.out q)
              have R6 := only_blk HOn.out R5 (by simp; omega)
              have HB7 := hide (HB5.out.trans (HOn.out.below (B := w.heap.size) (by omega) (fun q hq => by simp at hq; omega)))
              have hQ := HQ.out
              rw [hm4] at hQ
              have cQ := blk_free_cell hQ 0 rfl
              have lQ := hQ.lt
              have cR := blk_free_cell R6 0 rfl
              have fR := R6.free 0
              have lR := R6.lt
              clear ho hm hR HR HRG hQ HQ hm4
              go_wp2_with fail
              have Rd := R6.set 0 (.slice ar M.length cr)
              have x0 := blk_free_cell Rd 0 rfl
              refine bodyPost_ret (v := .agg #[.slice ar M.length cr]) (by simp [results, Tryz.results6, go_sem, x0]) rfl ⟨_, fp, rfl, owns_set HO.out (fun q hq => by have := HFA.out q hq; have := HNE.out; omega) _, fun q hq => by have := HFA.out q hq; omega, HB7.out.setCell (p := ⟨b2, 0, none⟩) hb2 _⟩
end Go.Proofs.YteladljgnbfcnaaGreat.P9
