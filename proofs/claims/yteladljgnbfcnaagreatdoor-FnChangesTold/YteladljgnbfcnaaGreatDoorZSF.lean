/- The program's changed: a change that is an error or none, on a copy; condition: how the change answers, at most 2^20 peers, their lists of at most 2^20, texts of at most 2^20 bytes.
slices.DeleteFunc over ints that the call made, by the program's test 'is it this one'; condition: at most 2^22 of them, at least one.
Whether an Id is somebody's who is there, and whom one who comes or asks has behind it, as the program has them; condition: all who are there on the ring, at most 2^20 behind one.
Whom one tells, as the program has it; condition: all who are there on the ring.
Whether each that is there knows one behind it that is, as the program asks it; condition: at most 2^20 peers, at most 2^20 behind each.
The program's depart and Gone; condition: a drawn ring, the error as it was laid.
The program's finger; condition: a drawn ring, the error as it was laid.
The program's settle; condition: a drawn ring, the error as it was laid. -/
import Derived.Test.YteladljgnbfcnaaGreatDoorZSD
import Derived.Test.YteladljgnbfcnaaGreatDoorZSB
import Derived.Test.YteladljgnbfcnaaGreatDoorZRO
import Derived.Test.YteladljgnbfcnaaGreatDoorZRI
import Derived.Test.YteladljgnbfcnaaGreatDoorZSE
import Derived.Test.YteladljgnbfcnaaGreatDoorZRE
import Derived.Test.YteladljgnbfcnaaGreatDoorZRT
import Derived.Test.YteladljgnbfcnaaGreatDoorZRC
import Derived.Test.YteladljgnbfcnaaGreatDoorZSC
import Derived.Test.YteladljgnbfcnaaGreatDoorZRP
import Derived.Test.YteladljgnbfcnaaGreatDoorZRK
import Derived.Test.YteladljgnbfcnaaGreatDoorZRL
import Derived.BigQuiet
import Derived.Deep.CutRange
namespace Go.Proofs.YteladljgnbfcnaaGreatDoor.P9
set_option maxRecDepth 8000
open Go.RowKit P1 P8 Da Ap Rr Rc

/-- The error that says no, as it was laid. -/
abbrev errV (a : Addr) : Value := .iface 186 (.pointer (some a))

/-- How a change answers: with nothing, the ring being l2 then, or with the error. -/
structure Outcome (a : Addr) (fp : List Nat) (w : World) (v : Value) (l2 : List Pr) (ok : Bool) (e : Ending) (w' : World) : Prop where
  only : Only fp w w'
  no : ok = false → e = .returned (errV a)
  yes : ok = true → e = .returned .nilIface ∧ ∃ fp', Owns w' v (peersD T0 l2) fp' ∧ ∀ q ∈ fp', q ∈ fp ∨ w.heap.size ≤ q

set_option maxRecDepth 100000 in
set_option maxHeartbeats 4000000 in
theorem changed_calls (W : World) (aE : Addr) (hS : Er.Sen1 W 0 aE) (w : World) (hW : Below W.heap.size W w) (v : Value) (l l2 : List Pr) (ok : Bool) (hv : PeersAt w v l) (hl : l.length ≤ 1048576) (hsm : ∀ p ∈ l, Small p) (k : FuncId) (caps : Array Value)
    (hk : ∀ args w, (callFunc k args).run Tryz.prog w = .ok (.enter k args) w)
    (hch : ∀ (wx : World) (vx : Value) (fp : List Nat), Below w.heap.size w wx → Owns wx vx (peersD T0 l) fp → (∀ q ∈ fp, w.heap.size ≤ q) → Calls Tryz.prog k (#[.agg #[vx]] ++ caps) wx fun e w' => Outcome aE fp wx vx l2 ok e w') :
    Calls Tryz.prog 32 #[.agg #[v], .func (.func k) #[] caps] w fun e w' => ∃ v' fp, e = .returned (.tuple #[.agg #[v'], .bool ok]) ∧ Owns w' v' (peersD T0 (if ok = true then l2 else l)) fp ∧ (∀ q ∈ fp, w.heap.size ≤ q) ∧ Below w.heap.size w w' := by
  have HV := hide hv
  have HSM := hide hsm
  have HCH := hide hch
  have hS1 := hS.below hW (Nat.le_refl _)
  obtain ⟨a, cap, rfl, -⟩ := hv.open_
  clear hv hsm hch
  have hb1 := (Below.refl w.heap.size w).alloc (Nat.le_refl _) (.cells #[.slice a l.length cap] 26)
  have hb2 := hb1.alloc hb1.size (.cells #[.slice none 0 0] 26)
  have A0 := Blk.new w #[.slice a l.length cap] 26
  have A1 := Blk.new (w.alloc (.cells #[.slice a l.length cap] 26)) #[.slice none 0 0] 26
  have hn (wq : World) (o : Obj) : Below wq.heap.size wq (wq.alloc o) := (Below.refl _ _).alloc (Nat.le_refl _) o
  have A0' := (A0.below (hn _ (.cells #[.slice none 0 0] 26)) A0.lt)
  have e1 : (w.alloc (.cells #[.slice a l.length cap] 26)).heap.size = w.heap.size + 1 := by simp
  rw [e1] at A1
  have HB := hide hb2
  have HS1 := hide hS1
  clear hb1 hb2 A0 hn e1 hS1 hS hW
  go_enter Tryz.func32, Tryz.ntmps32
  go_upto_region 1 with fail
  obtain ⟨s, es⟩ : ∃ s, s = w.heap.size := ⟨_, rfl⟩
  rw [← es] at A0' A1 ⊢
  have HS : Hid (w.heap.size = s) := es.symm
  clear es
  generalize (w.alloc (.cells #[.slice a l.length cap] 26)).alloc (.cells #[.slice none 0 0] 26) = w1 at *
  have HC := hide (copiedRing_calls w1 _ l (HV.out.below HB.out (Nat.le_refl _)) hl HSM.out)
  have c0 := blk_free_cell A0' 0 rfl
  have l0 := A0'.lt
  have l1 := A1.lt
  go_wp2_with fail
  refine HC.out.mono ?_
  rintro e w2 ⟨v2, fp, rfl, ho2, hf2, hb2⟩
  obtain ⟨a2, c2, hsh⟩ := peers_sl ho2
  subst hsh
  have B0 := A0'.below hb2 A0'.lt
  have B1 := A1.below hb2 A1.lt
  have HB2 := hide (HB.out.trans (hb2.mono HB.out.size))
  have hz12 := hb2.size
  have hw0 := HS.out
  clear c0 l0 HC hb2 A0' A1 HB
  go_upto_region 2 with fail
  have hba := (Below.refl w2.heap.size w2).alloc (Nat.le_refl _) (.cells #[.slice a2 l.length c2] 26)
  have S := Blk.new w2 #[.slice a2 l.length c2] 26
  have D0 := B0.below hba B0.lt
  have D1 := B1.below hba B1.lt
  have HB3 := hide (HB2.out.trans (hba.mono HB2.out.size))
  have HO3 := hide (owns_below ho2 hba)
  obtain ⟨b6, eb6⟩ : ∃ b, b = w2.heap.size := ⟨_, rfl⟩
  rw [← eb6] at S ⊢
  have HF : Hid (∀ q ∈ fp, s + 1 < q ∧ q < b6) := fun q hq => by
    have := hf2 q hq
    have := ho2.lt q hq
    exact ⟨by omega, by omega⟩
  have hb6 : s + 1 < b6 := by omega
  clear eb6 hba B0 B1 ho2 hf2 HB2 hz12
  generalize w2.alloc (.cells #[.slice a2 l.length c2] 26) = w3 at *
  have HS3 := hide (HS1.out.below HB3.out (Nat.le_refl _))
  have hgE : 0 ∉ fp := fun h => by
    have h1 := (HF.out _ h).1
    have h2 := HS1.out.lt
    omega
  have hb6n : b6 ∉ fp := fun h => by
    have := (HF.out _ h).2
    omega
  have n6 : ∀ p : NOnly fp w3, p.w.cell? ⟨b6, 0, none⟩ = some (.slice a2 l.length c2) := fun p => blk_free_cell (only_blk p.h S hb6n) 0 rfl
  have nE : ∀ p : NOnly fp w3, p.w.cell? ⟨0, 0, none⟩ = some (errV aE) := fun p => (only_cell p.h (p := ⟨0, 0, none⟩) HS3.out.lt hgE).trans HS3.out.cell
  have hnn := NOnly.some fp w3
  refine wp_region_open (fun wd => ∃ p : Near w3.heap.size w3, wd = p.w) ⟨⟨_, (Below.refl _ _).drew⟩, rfl⟩ (by kernel_rfl) ?_
  rintro wd ⟨pd, rfl⟩
  refine wpAny_of_K (c := 4) (D := fun w' => ∃ p : NOnly fp w3, w' = p.w) _ _ _ _ ?_
  refine wpAnyK_seg_lit4 0 2 6 3 rfl (by decide) (by decide) (by kernel_rfl) (by kernel_rfl) (by kernel_rfl) (by kernel_rfl) (fun _ _ _ _ _ h => h) ⟨⟨_, Only.of_below pd.h⟩, rfl⟩ ?_
  simp only [List.take_succ_cons, List.take_zero, List.drop_zero]
  repeat (go_big_quiet_step (fail))
  refine wpQuiet_nil ?_
  refine wpAnyK_seg_lit4 3 1 6 2 rfl (by decide) (by decide) (by kernel_rfl) (by kernel_rfl) (by kernel_rfl) (by kernel_rfl) (fun _ _ _ _ _ h => h) ⟨⟨_, Only.of_below pd.h⟩, rfl⟩ ?_
  simp only [List.take_succ_cons, List.take_zero, List.drop_succ_cons, List.drop_zero]
  repeat (go_big_quiet_step (fail))
  refine wpQuiet_nil ?_
  clear n6 nE hnn
  have HCC := hide (HCH.out pd.w _ fp (HB3.out.trans (pd.h.mono HB3.out.size)) (owns_below HO3.out pd.h) (fun q hq => by have := (HF.out q hq).1; omega))
  clear HCH
  refine wpAnyK_one 2 (by kernel_rfl) rfl ?_
  go_wp2_with fail
  refine HCC.out.mono ?_
  rintro e w4 ho4
  have hOx : Only fp w3 w4 := (Only.of_below pd.h).trans ho4.only
  have hsn : s ∉ fp := fun h => by have := (HF.out _ h).1; omega
  have hsn1 : s + 1 ∉ fp := fun h => by have := (HF.out _ h).1; omega
  have E0 := only_blk hOx D0 hsn
  have E1 := only_blk hOx D1 hsn1
  have E6 := only_blk hOx S hb6n
  have hz3 := HB3.out.size
  have HB4 := hide (HB3.out.trans (hOx.below (B := w.heap.size) hz3 (fun q hq => by have := (HF.out q hq).1; omega)))
  have hpz := pd.h.size
  have h3l := D1.lt
  clear HCC D0 D1 S HB3 HO3 HS3 hsn hsn1 hb6n hgE hw0
  cases ok with
  | false =>
    obtain rfl := ho4.no rfl
    clear ho4
    go_wp2_with fail
    refine ⟨⟨⟨_, hOx⟩, rfl⟩, ?_⟩
    refine wpAnyK_last (by kernel_rfl) (by decide) ?_
    refine wpAny_rest 4 rfl (by kernel_rfl) ?_
    simp only [List.drop_succ_cons, List.drop_zero]
    have HIS := hide (Er.is_same aE w4)
    clear hOx
    go_wp2_with fail
    refine HIS.out.mono ?_
    rintro e w4' ⟨rfl, rfl⟩
    have HC := hide (copiedRing_calls w4' _ l (HV.out.below HB4.out (Nat.le_refl _)) hl HSM.out)
    have c0 := blk_free_cell E0 0 rfl
    have l0 := E0.lt
    clear HIS E6
    go_wp2_with fail
    refine HC.out.mono ?_
    rintro e w5 ⟨v5, f5, rfl, ho5, hf5, hb5⟩
    obtain ⟨a5, c5, hsh⟩ := peers_sl ho5
    subst hsh
    have G1 := E1.below hb5 E1.lt
    have hl4 := E1.lt
    have HB5 := hide (HB4.out.trans (hb5.mono HB4.out.size))
    have HO5 := hide ho5
    have z0 := blk_free_cell G1 0 rfl
    have y0 := G1.free 0
    have zl := G1.lt
    clear c0 l0 HC hb5 ho5
    go_wp2_with fail
    have Rd := G1.set 0 (.slice a5 l.length c5)
    have x0 := blk_free_cell Rd 0 rfl
    refine bodyPost_ret (v := .tuple #[.agg #[.slice a5 l.length c5], .bool false]) (by simp [results, Tryz.results32, go_sem, x0]) rfl ⟨_, rfl, f5, ?_, fun q hq => by have := hf5 q hq; have := HB4.out.size; omega, HB5.out.setCell (p := ⟨s + 1, 0, none⟩) (by have := HS.out; show _ ≤ s + 1; omega) _⟩
    exact owns_set HO5.out (fun q hq => by have := hf5 q hq; omega) _
  | true =>
    obtain ⟨he, fp', ho', hfp'⟩ := ho4.yes rfl
    subst he
    have HO4 := hide ho'
    have HF4 : Hid (∀ q ∈ fp', s + 1 < q) := fun q hq => (hfp' q hq).elim (fun h => (HF.out q h).1) (fun h => by omega)
    clear ho4 ho' hfp'
    go_wp2_with fail
    refine ⟨⟨⟨_, hOx⟩, rfl⟩, ?_⟩
    refine wpAnyK_last (by kernel_rfl) (by decide) ?_
    refine wpAny_rest 4 rfl (by kernel_rfl) ?_
    simp only [List.drop_succ_cons, List.drop_zero]
    have HIS := hide (Er.is_nil aE w4)
    clear hOx
    go_wp2_with fail
    refine HIS.out.mono ?_
    rintro e w4' ⟨rfl, rfl⟩
    have c6 := blk_free_cell E6 0 rfl
    have l6 := E6.lt
    have z0 := blk_free_cell E1 0 rfl
    have y0 := E1.free 0
    have zl := E1.lt
    clear HIS
    go_wp2_with fail
    have Rd := E1.set 0 (.slice a2 l.length c2)
    have x0 := blk_free_cell Rd 0 rfl
    refine bodyPost_ret (v := .tuple #[.agg #[.slice a2 l.length c2], .bool true]) (by simp [results, Tryz.results32, go_sem, x0]) rfl ⟨_, rfl, fp', ?_, fun q hq => by have := HF4.out q hq; have := HS.out; omega, HB4.out.setCell (p := ⟨s + 1, 0, none⟩) (by have := HS.out; show _ ≤ s + 1; omega) _⟩
    exact owns_set HO4.out (fun q hq => by have := HF4.out q hq; omega) _
end Go.Proofs.YteladljgnbfcnaaGreatDoor.P9
namespace Go.Proofs.YteladljgnbfcnaaGreatDoor.P9
set_option maxRecDepth 8000
open Go.RowKit Go.Sort P1 P8 Da Mp Ap

def dropI (self : Int) (xs : List Int) : List Int := xs.filter fun x => !(x == self)

theorem dropI_le (self : Int) (xs : List Int) : (dropI self xs).length ≤ xs.length := List.length_filter_le _ _

/-- The test, where its own cell holds who is to be left out. -/
theorem self_gives (W : World) (b : Nat) (self x : Int) (hc : W.cell? ⟨b, 0, none⟩ = some (.int .i64 self)) : FnGives Tryz.prog 100 #[.pointer (some ⟨b, 0, none⟩)] #[.int .i64 x] (.bool (x == self)) W := by
  have hg := cell_lt' hc
  unfold FnGives
  go_enter Tryz.func100, Tryz.ntmps100
  go_wp2
  go_ret
  exact ⟨rfl, 0, rfl⟩

theorem own_of_block {w : World} {B g cap : Nat} {cur : Array Value} {ys : List Int} (hB : B ≤ g) (hk : w.heap[g]? = some (.cells cur 3 (0, 0))) (hm : ys.length ≤ cap) (hc : cap ≤ maxLen) (hs : cur.size = cap * 1) (hy : ∀ k (h : k < ys.length), w.cell? ⟨g, k, none⟩ = some (.int .i64 ys[k])) :
    w.ownsRow B 3 1 (.slice (some ⟨g, 0, none⟩) ys.length cap) ys.length (cellsI ys) := by
  refine ⟨cellsI_len ys, .inr ⟨g, cap, cur, rfl, hB, hk, hm, hc, hs, ?_⟩⟩
  apply List.ext_getElem?
  intro k
  rcases Nat.lt_or_ge k ys.length with h | h
  · have h1 := hy k h
    have h2 : cur[k]? = some (.int .i64 ys[k]) := by simpa [World.cell?, hk] using h1
    rw [List.getElem?_take_of_lt (by omega), Array.getElem?_toList, h2]
    simp [cellsI, h]
  · rw [List.getElem?_eq_none (by rw [List.length_take]; omega), List.getElem?_eq_none (by rw [cellsI_len]; omega)]

/-- The beginning of a row of one's own. -/
theorem own_cut {w : World} {B : Nat} {e : TypeId} {a : Option Addr} {n c m : Nat} {xs : List Value} (h : w.ownsRow B e 1 (.slice a n c) n xs) (hm : m ≤ n) : w.ownsRow B e 1 (.slice a m c) m (xs.take m) := by
  obtain ⟨h0, h1⟩ := h
  refine ⟨by rw [List.length_take]; omega, ?_⟩
  rcases h1 with ⟨h2, h3⟩ | ⟨g, cap, cur, h2, h3, h4, h5, h6, h7, h8⟩
  · cases h2
    obtain rfl : m = 0 := by omega
    exact .inl ⟨rfl, rfl⟩
  · cases h2
    refine .inr ⟨g, c, cur, rfl, h3, h4, by omega, h6, h7, ?_⟩
    rw [← h8, List.take_take, Nat.mul_one, Nat.mul_one, Nat.min_eq_left hm]

set_option maxHeartbeats 2000000 in
theorem deleteSelf_calls (w : World) (B : Nat) (v : Value) (xs : List Int) (self : Int) (b : Nat) (h0 : 0 < xs.length) (ho : w.ownsRow B 3 1 v xs.length (cellsI xs)) (hl : xs.length ≤ 4194304) (hc : w.cell? ⟨b, 0, none⟩ = some (.int .i64 self)) (hb : b < B) :
    Calls Tryz.prog 99 #[v, .func (.func 100) #[] #[.pointer (some ⟨b, 0, none⟩)]] w fun e w' => ∃ v', e = .returned v' ∧ w'.ownsRow B 3 1 v' (dropI self xs).length (cellsI (dropI self xs)) ∧ Below B w w' := by
  have eg : ∀ args w, (callFunc 100 args).run Tryz.prog w = .ok (.enter 100 args) w := enters_of Tryz.func100 (by kernel_rfl) rfl
  obtain ⟨g, cap, rfl, hg, hgs, hcap, hcell, hfz⟩ := own_at ho h0
  have hblk : ∃ cur, w.heap[g]? = some (.cells cur 3 (0, 0)) ∧ cap ≤ maxLen ∧ cur.size = cap * 1 := by
    rcases ho.2 with ⟨-, h⟩ | ⟨g', cap', cur, e, -, h1, -, h2, h3, -⟩
    · omega
    · cases e
      exact ⟨cur, h1, h2, h3⟩
  obtain ⟨cur, hk, hcm, hcs⟩ := hblk
  have hH : Holds (Value.int .i64) w g 0 xs.toArray := fun j hj => by
    have hj' : j < xs.length := by simpa using hj
    refine ⟨?_, hfz _⟩
    rw [Nat.zero_add, hcell j (by omega), getElem!_pos xs.toArray j hj]
    simp [cellsI, hj']
  have hbw : b < w.heap.size := cell_lt' hc
  have hbg : b ≠ g := by omega
  have hc1 := AnyE.slices_DeleteFunc Tryz.dfA (Value.int .i64) (fun _ => rfl) (fun x => x == self) 100 #[.pointer (some ⟨b, 0, none⟩)] eg 0 Tryz.zeroValue3 g 0 cap xs.toArray w
    (fun W x hb' => self_gives W b self x ((hb'.cell (p := ⟨b, 0, none⟩) hbw).trans hc))
    (fun n os dk x _ => self_gives _ b self x (by
      show (grow (putRow (Value.int .i64) (Sort.ahead w n) g 0 dk) os).cell? ⟨b, 0, none⟩ = _
      rw [cell?_grow _ _ _ (by rw [size_putRow]; exact hbw), cell?_putRow_other _ _ _ _ _ _ (.inl hbg)]
      exact hc)) hH (by simp; omega) (by simpa using hcap)
  refine hc1.mono ?_
  rintro e w' ⟨rfl, q, rfl⟩
  have el : (xs.toArray.toList.filter fun x => !(x == self)) = dropI self xs := by simp [dropI]
  rw [el]
  have hle := dropI_le self xs
  have hsz : (dropI self xs ++ List.replicate (xs.toArray.size - (dropI self xs).length) 0).toArray.size = xs.toArray.size := by simp; omega
  refine ⟨_, rfl, ?_, ?_⟩
  · obtain ⟨cur', h1, h2⟩ : ∃ cur', (putRow (Value.int .i64) (Sort.ahead w q) g 0 (dropI self xs ++ List.replicate (xs.toArray.size - (dropI self xs).length) 0).toArray).heap[g]? = some (.cells cur' 3 (0, 0)) ∧ cur'.size = cur.size := by
      refine ⟨putCells (Value.int .i64) 0 (dropI self xs ++ List.replicate (xs.toArray.size - (dropI self xs).length) 0).toArray cur, ?_, ?_⟩
      · simp [putRow, mapBlock, Array.getElem?_modify, Sort.ahead, hk, onCells]
      · simp [putCells]
    refine own_of_block hg h1 (by omega) hcm (by rw [h2, hcs]) fun k hk' => ?_
    have := cell?_putRow (Value.int .i64) (Sort.ahead w q) g 0 xs.toArray _ (holds_ahead _ w q g 0 _ hH) hsz k (by rw [hsz]; simp; omega)
    rw [Nat.zero_add] at this
    rw [this, getElem!_pos _ k (by rw [hsz]; simp; omega)]
    simp [List.getElem_append_left hk']
  · refine ⟨rfl, rfl, rfl, by simp, fun k hk => ?_⟩
    have hne : g ≠ k := by omega
    simp [putRow, mapBlock, Array.getElem?_modify, hne, Sort.ahead]
end Go.Proofs.YteladljgnbfcnaaGreatDoor.P9
namespace Go.Proofs.YteladljgnbfcnaaGreatDoor.P9
set_option maxRecDepth 8000
open Go.RowKit P1 P8 Da Mp Ap Rr Rc

theorem hereV_look1 {w : World} {km n : Nat} {v : Value} {l : List Pr} (h : MapR keyI w km n (hereV v l)) (x : Int) :
    (Instr.lookup 87 (.map (some km)) (.int .i64 x) false).run Tryz.prog w = .ok (((hereIdx l x).map (pt v)).getD (.pointer none)) w := by
  have := h.look (t := 87) Tryz.underlying87 (zero_ptr w) false x
  refine this.trans ?_
  unfold hereV
  simp

theorem knows_calls (w : World) (v : Value) (l : List Pr) (x : Int) (km n : Nat) (hm : MapR keyI w km n (hereV v l)) (hr : OnRing l) :
    Calls Tryz.prog 74 #[.map (some km), .int .i64 x] w fun e w' => e = .returned (.bool (decide (0 ≤ peerAt l x))) ∧ w' = w := by
  have hlk := hereV_look hm x
  rw [hereIdx_isSome] at hlk
  cases hd : decide (0 ≤ peerAt l x) with
  | true =>
    have hne : (x != -1) = true := by
      have := on_of_at hr (of_decide_eq_true hd)
      simp
      omega
    rw [hd] at hlk
    clear hd hm hr
    generalize (Option.map (pt v) (hereIdx l x)).getD (.pointer none) = u at *
    go_enter Tryz.func74, Tryz.ntmps74
    go_wp2_with fail
    go_ret
    exact ⟨rfl, rfl⟩
  | false =>
    rw [hd] at hlk
    clear hd hm hr
    generalize (Option.map (pt v) (hereIdx l x)).getD (.pointer none) = u at *
    go_enter Tryz.func74, Tryz.ntmps74
    go_wp2_with fail
    go_ret
    exact ⟨rfl, rfl⟩

theorem behindBut_drop {l : List Pr} {n but : Int} {i : Nat} (hi : i < l.length) (hp : peerAt l n = i) : behindBut l n but = (dropI but (n :: l[i].behind)).take 3 := by
  unfold behindBut dropI
  rw [hp, Int.toNat_natCast, List.getElem?_eq_getElem hi]
  congr 2
  funext x
  cases hx : (x == but) with
  | true => simp only [beq_iff_eq] at hx; simp [hx]
  | false => simp only [beq_eq_false_iff_ne, ne_eq] at hx; simp [hx]

set_option maxRecDepth 100000 in
set_option maxHeartbeats 4000000 in
theorem line_calls (w : World) (v : Value) (l : List Pr) (self first : Int) (km n j : Nat) (hm : MapR keyI w km n (hereV v l)) (hv : PeersAt w v l) (hj : j < l.length) (hi : hereIdx l first = some j) (hbl : l[j].behind.length ≤ 1048576) :
    Calls Tryz.prog 69 #[.map (some km), .int .i64 self, .int .i64 first] w fun e w' => ∃ v', e = .returned v' ∧ w'.ownsRow w.heap.size 3 1 v' (behindBut l first self).length (cellsI (behindBut l first self)) ∧ Below w.heap.size w w' := by
  have HBB := hide (behindBut_drop (but := self) hj (peerAt_of hi))
  obtain ⟨a0, c0, hsh, HA⟩ := hv.open_
  obtain ⟨g, off, u3, u4, u5, rfl, hg, hc⟩ := HA j hj
  cases hsh
  have HI := hide hc.behind
  have hc3 := hc.c3
  obtain ⟨a3, c3, e3, -⟩ := hc.behind
  subst e3
  obtain ⟨i0, hi0, hz0, hz1, hz2⟩ := info_parts info_i64
  have hmk := hm.lt
  have hba := (Below.refl w.heap.size w).alloc (Nat.le_refl _) (.cells #[.int .i64 self] 3)
  have hbb := hba.alloc hba.size (.cells #[.int .i64 first] 3)
  have S0 := Blk.new w #[.int .i64 self] 3
  have hn := (Below.refl (w.alloc (.cells #[.int .i64 self] 3)).heap.size (w.alloc (.cells #[.int .i64 self] 3))).alloc (Nat.le_refl _) (.cells #[.int .i64 first] 3)
  have S1 := S0.below hn S0.lt
  have e1 : (w.alloc (.cells #[.int .i64 self] 3)).heap.size = w.heap.size + 1 := by simp
  have hoI : ((w.alloc (.cells #[.int .i64 self] 3)).alloc (.cells #[.int .i64 first] 3)).ownsRow (w.heap.size + 1) 3 1 (.slice (some ⟨w.heap.size + 1, 0, none⟩) 1 1) 1 [.int .i64 first] := by
    have := World.ownsRow_lit (base := w.heap.size + 1) (e := 3) (size := 1) (w.alloc (.cells #[.int .i64 self] 3)) #[.int .i64 first] 1 (by rw [e1]; exact Nat.le_refl _) (by decide) rfl
    rw [e1] at this
    exact this
  have hlk := hereV_look1 (hm.at_ (hbb.block km hmk)) first
  rw [hi] at hlk
  change _ = Result.ok (Value.pointer (some ⟨g, off + j * 6, none⟩)) _ at hlk
  have hcx := (hbb.cell (p := ⟨g, off + j * 6 + 3, none⟩) hg).trans hc3
  have HIx := hide (HI.out.below hbb (Nat.le_refl _))
  have hgx : g < ((w.alloc (.cells #[.int .i64 self] 3)).alloc (.cells #[.int .i64 first] 3)).heap.size := Nat.lt_of_lt_of_le hg hbb.size
  have HO := hide hoI
  have HS1 := hide S1
  have HB2 := hide hbb
  have hz2' : ((w.alloc (.cells #[.int .i64 self] 3)).alloc (.cells #[.int .i64 first] 3)).heap.size = w.heap.size + 1 + 1 := by simp
  clear HA hc hv hi hm hc3 hba hbb S0 hn S1 e1 hoI hg hmk HI
  generalize l[j].behind = xb at *
  go_enter Tryz.func69, Tryz.ntmps69
  go_wp2_with (at_builtin; refine wpList_append_any rfl (.tmp 9) (.tmp 15) 28 rfl (w.heap.size + 1) 3 i0 (.int .i64 0) 1 8 Tryz.underlying28 hi0 hz0 hz1 hz2 rfl (by decide) _ _ _ rfl HO.out a3 xb.length c3 rfl (cellsI xb) (cellsI_len xb) (ints_news HIx.out) (cellsI_one xb) (by unfold maxLen; omega) (by omega) (by omega) ?_)
  intro v4 w4 hown hgr
  have hX : w4.ownsRow (w.heap.size + 1) 3 1 v4 (first :: xb).length (cellsI (first :: xb)) := by
    rw [List.length_cons, Nat.add_comm xb.length 1]
    exact hown
  have hb4 : Below w.heap.size w w4 := HB2.out.grown hgr HB2.out.size (fun k hk => Nat.le_trans (Nat.le_succ _) ((HO.out.lt k hk).1))
  have S4 : Blk w4 w.heap.size [.int .i64 self] 3 := by
    unfold Blk
    rw [hgr.block _ (by omega) (fun e => by have := (HO.out.lt _ e.symm).1; omega)]
    exact HS1.out
  have c4 : w4.cell? ⟨w.heap.size, 0, none⟩ = some (.int .i64 self) := blk_free_cell S4 0 rfl
  have HD := hide (deleteSelf_calls w4 (w.heap.size + 1) v4 (first :: xb) self w.heap.size (by simp) hX (by rw [List.length_cons]; omega) c4 (Nat.lt_succ_self _))
  have HB4 := hide hb4
  clear hown hgr hX hb4 S4 c4 hlk hcx hgx HO HS1 HB2 hz2' HIx
  go_wp2_with fail
  refine HD.out.mono ?_
  rintro e w5 ⟨v5, rfl, ho5, hb5⟩
  obtain ⟨a5, c5, hsh⟩ := own_sh ho5
  subst hsh
  have hB := HBB.out
  generalize dropI self (first :: xb) = D at *
  have hlen : (behindBut l first self).length = min D.length 3 := by rw [hB, List.length_take, Nat.min_comm]
  have HO5 : Hid (w5.ownsRow w.heap.size 3 1 (.slice a5 (min D.length 3) c5) (behindBut l first self).length (cellsI (behindBut l first self))) := by
    show World.ownsRow _ _ _ _ _ _ _
    have := own_mono (own_cut ho5 (m := min D.length 3) (Nat.min_le_left _ _)) (Nat.le_succ w.heap.size)
    rw [hlen]
    have e : cellsI (behindBut l first self) = (cellsI D).take (min D.length 3) := by
      rw [hB]
      unfold cellsI
      rw [← List.map_take]
      congr 1
      rw [Nat.min_comm, List.take_eq_take_min]
    rw [e]
    exact this
  have HB5 := hide (HB4.out.trans (hb5.mono (by have := HB4.out.size; omega)))
  have hroom : D.length ≤ c5 := by
    rcases ho5.2 with ⟨h1, h2⟩ | ⟨g', cap', cur, h1, _, _, h2, _⟩
    · omega
    · cases h1
      exact h2
  have hmc : min D.length 3 ≤ c5 := by omega
  have em : min (D.length : Int) 3 = ((min D.length 3 : Nat) : Int) := by omega
  clear ho5 hb5 hB hlen HBB HD HB4 hroom
  generalize hmm : min D.length 3 = m at *
  clear hmm
  go_wp2_with fail
  go_ret
  exact ⟨_, rfl, HO5.out, HB5.out⟩
end Go.Proofs.YteladljgnbfcnaaGreatDoor.P9
namespace Go.Proofs.YteladljgnbfcnaaGreatDoor.P9
set_option maxRecDepth 8000
open Go.RowKit P1 P8 Da Mp Ap Rr Rc

/-- Whether one who is ahead is put behind by the one who tells. -/
def hears (l : List Pr) (a by_ id : Int) : Bool := !decide (0 ≤ peerAt l a) || btw a by_ id

set_option maxRecDepth 100000 in
set_option maxHeartbeats 4000000 in
theorem hear_calls (w : World) (v : Value) (l : List Pr) (km n g p : Nat) (a by_ id : Int) (hm : MapR keyI w km n (hereV v l)) (hr : OnRing l) (c0 : w.cell? ⟨g, p, none⟩ = some (.int .i64 id)) (c2 : w.cell? ⟨g, p + 2, none⟩ = some (.int .i64 a)) (f2 : w.frozen? ⟨g, p + 2, none⟩ = false) :
    Calls Tryz.prog 76 #[.map (some km), .pointer (some ⟨g, p, none⟩), .int .i64 by_] w fun e w' => (∃ u, e = .returned u) ∧ ∃ q : Nat, w' = if hears l a by_ id = true then (w.drewN q).setCell ⟨g, p + 2, none⟩ (.int .i64 by_) else w.drewN q := by
  have hg : g < w.heap.size := cell_lt' c0
  have C1 := hide (fun q : Nat => knows_calls (w.drewN q) v l a km n (hm.at_ rfl) hr)
  have C2 := hide (fun wx : World => implBetween_calls a by_ id wx)
  clear hm hr
  unfold hears
  cases hd : decide (0 ≤ peerAt l a) with
  | false =>
    rw [hd] at C1
    clear hd C2
    go_enter Tryz.func76, Tryz.ntmps76
    go_wp2_with fail
    go_quiet (exact Calls.quiet_of_same (C1.out _))
    go_wp2_with fail
    exact bodyPost_end (results_none rfl _ _ _) rfl ⟨⟨_, rfl⟩, nq, rfl⟩
  | true =>
    rw [hd] at C1
    cases hb : btw a by_ id with
    | true =>
      rw [hb] at C2
      clear hd hb
      go_enter Tryz.func76, Tryz.ntmps76
      go_wp2_with fail
      go_quiet (first | exact Calls.quiet_of_same (C1.out _) | exact Calls.quiet_of_same (C2.out _))
      go_wp2_with fail
      exact bodyPost_end (results_none rfl _ _ _) rfl ⟨⟨_, rfl⟩, nq, rfl⟩
    | false =>
      rw [hb] at C2
      clear hd hb
      go_enter Tryz.func76, Tryz.ntmps76
      go_wp2_with fail
      go_quiet (first | exact Calls.quiet_of_same (C1.out _) | exact Calls.quiet_of_same (C2.out _))
      go_wp2_with fail
      exact bodyPost_end (results_none rfl _ _ _) rfl ⟨⟨_, rfl⟩, nq, rfl⟩
end Go.Proofs.YteladljgnbfcnaaGreatDoor.P9
namespace Go.Proofs.YteladljgnbfcnaaGreatDoor.P9
set_option maxRecDepth 8000
open Go.RowKit P1 P8 Da Mp

set_option maxRecDepth 100000 in
set_option maxHeartbeats 4000000 in
theorem goesOn_calls (w : World) (v : Value) (l : List Pr) (hv : PeersAt w v l) (hl : l.length ≤ 1048576) (hbl : ∀ p ∈ l, p.behind.length ≤ 1048576) :
    Calls Tryz.prog 72 #[.agg #[v]] w fun e w' => e = .returned (.bool (goesOn l)) ∧ Below w.heap.size w w' := by
  have hb1 := (Below.refl w.heap.size w).alloc (Nat.le_refl _) (.cells #[v] 26)
  have HV := hide (hv.below hb1 (Nat.le_refl _))
  obtain ⟨a, cap, rfl, -⟩ := hv.open_
  have G := Blk.new w #[.slice a l.length cap] 26
  have HB := hide hb1
  have HBL := hide hbl
  obtain ⟨R, eR⟩ : ∃ R, R = goesOn l := ⟨_, rfl⟩
  have HRT : Hid ((∀ j, j < l.length → goesAt l j = true) → R = true) := fun h => eR.trans (all_range h)
  have HRF : Hid (∀ k, k < l.length → goesAt l k = false → R = false) := fun k hk h => eR.trans (not_all_range hk h)
  rw [← eR]
  clear hv hb1 hbl eR
  go_enter Tryz.func72, Tryz.ntmps72
  go_upto_region 1 with fail
  obtain ⟨b0, e0⟩ : ∃ b, b = w.heap.size := ⟨_, rfl⟩
  rw [← e0] at G ⊢
  clear e0
  generalize w.alloc (.cells #[.slice a l.length cap] 26) = w1 at *
  have c0 : w1.cell? ⟨b0, 0, none⟩ = some (.slice a l.length cap) := by rw [G.cell 0]; rfl
  have l0 := G.lt
  go_wp2_with fail
  refine (present_calls w1 _ l HV.out hl).mono ?_
  rintro e w3 ⟨km, rfl, hkm, hm3, hb3⟩
  have HV3 := hide (HV.out.below hb3 (Nat.le_refl _))
  have HB3 := hide (HB.out.trans (hb3.mono HB.out.size))
  have HG3 := hide (G.below hb3 G.lt)
  have HM3 := hide hm3
  have c3 : w3.cell? ⟨b0, 0, none⟩ = some (.slice a l.length cap) := by rw [HG3.out.cell 0]; rfl
  have l3 := HG3.out.lt
  clear hb3 HV HB hm3 hkm c0 l0 G
  go_wp2_with fail
  clear c3 l3
  go_loopw [13] (fun i wr => ∃ k : Nat, k ≤ l.length ∧ i = .int .i64 k ∧ Hid (∀ j, j < k → goesAt l j = true) ∧ wr = w3) (fun i _ => l.length - (intOf i).toNat)
  case atStart => exact ⟨0, Nat.zero_le _, rfl, fun j hj => by omega, rfl⟩
  case round =>
    obtain ⟨k, hk, rfl, HN, hwr⟩ := hrel
    subst hwr
    by_cases hlt : k < l.length
    · obtain ⟨ax, cx, hax, HA⟩ := HV3.out.open_
      cases hax
      obtain ⟨g, off, u3, u4, u5, rfl, hg, hc⟩ := HA k hlt
      have hsk : goesAt l k = (!l[k].here || (firstHere l l[k].behind).isSome) := by unfold goesAt; rw [List.getElem?_eq_getElem hlt]
      have HB4 : Hid (l[k].behind.length ≤ 1048576) := HBL.out _ (List.getElem_mem hlt)
      have HF : Hid (goesAt l k = false → R = false) := fun h => HRF.out k hlt h
      have HS : Hid (goesAt l k = true → ∀ j, j < k + 1 → goesAt l j = true) := fun h j hj => by
        rcases Nat.lt_or_ge j k with h1 | h1
        · exact HN.out j h1
        · obtain rfl : j = k := by omega
          exact h
      clear HA HN
      have f0 := hc.id
      have f1 := hc.here
      have CN := hide (next_calls _ _ u3 l l[k].behind km l.length g (off + k * 6) HM3.out hc.c3 hc.behind HB4.out)
      have HST := hide hsk
      have c0 : wr.cell? ⟨b0, 0, none⟩ = some (.slice (some ⟨g, off, none⟩) l.length cap) := blk_free_cell HG3.out 0 rfl
      have l0 := HG3.out.lt
      clear hsk hc
      generalize l[k].here = hh at *
      generalize (firstHere l l[k].behind).getD (-1) = r1 at *
      generalize (firstHere l l[k].behind).isSome = r2 at *
      generalize l[k].id = qid at *
      cases hh with
      | false =>
        have HR := hide (HS.out HST.out)
        clear HST HF HS
        go_wp2_with fail
        refine CN.out.mono ?_
        rintro e wz ⟨rfl, rfl⟩
        clear CN
        go_wp2_with fail
        go_roundw
        case rel => exact ⟨k + 1, by omega, by go_num, HR.out, trivial⟩
        case measure => simp [intOf]; omega
      | true =>
        cases r2 with
        | true =>
          have HR := hide (HS.out HST.out)
          clear HST HF HS
          go_wp2_with fail
          refine CN.out.mono ?_
          rintro e wz ⟨rfl, rfl⟩
          clear CN
          go_wp2_with fail
          go_roundw
          case rel => exact ⟨k + 1, by omega, by go_num, HR.out, trivial⟩
          case measure => simp [intOf]; omega
        | false =>
          have HR := hide (HF.out HST.out)
          clear HST HF HS
          go_wp2_with fail
          refine CN.out.mono ?_
          rintro e wz ⟨rfl, rfl⟩
          clear CN
          go_wp2_with fail
          go_ret
          exact ⟨by rw [HR.out]; rfl, HB3.out⟩
    · obtain rfl : k = l.length := by omega
      have HR := hide (HRT.out HN.out)
      clear HN
      go_wp2_with fail
      go_ret
      exact ⟨by rw [HR.out]; rfl, HB3.out⟩
end Go.Proofs.YteladljgnbfcnaaGreatDoor.P9
namespace Go.Proofs.YteladljgnbfcnaaGreatDoor.P9
set_option maxRecDepth 8000
open Go.RowKit P1 P8 Da Mp Ap Rr Rc

theorem set_empty_small {l : List Pr} (h : ∀ p ∈ l, p.behind.length ≤ 1048576) (i : Nat) (id : Int) : ∀ p ∈ l.set i (emptyP id), p.behind.length ≤ 1048576 := by
  intro p hp
  rcases List.mem_or_eq_of_mem_set hp with hp | rfl
  · exact h p hp
  · exact Nat.zero_le _

theorem only_six {fp : List Nat} {w0 w : World} {g : Nat} (h : Only fp w0 w) (hg : g ∈ fp) (o : Nat) (v0 v1 v2 v3 v4 v5 : Value) :
    Only fp w0 ((((((w.setCell ⟨g, o, none⟩ v0).setCell ⟨g, o + 1, none⟩ v1).setCell ⟨g, o + 2, none⟩ v2).setCell ⟨g, o + 3, none⟩ v3).setCell ⟨g, o + 4, none⟩ v4).setCell ⟨g, o + 5, none⟩ v5) :=
  (((((h.setCell (p := ⟨g, o, none⟩) hg v0).setCell (p := ⟨g, o + 1, none⟩) hg v1).setCell (p := ⟨g, o + 2, none⟩) hg v2).setCell (p := ⟨g, o + 3, none⟩) hg v3).setCell (p := ⟨g, o + 4, none⟩) hg v4).setCell (p := ⟨g, o + 5, none⟩) hg v5

theorem sen_set {w : World} {b g o : Nat} {a : Addr} (h : Er.Sen1 w b a) (hne : b ≠ g) (v : Value) : Er.Sen1 (w.setCell ⟨g, o, none⟩ v) b a :=
  h.other (Below.heap_setCell _ _ _ _ hne) (by simp)

theorem sen_six {w : World} {b g : Nat} {a : Addr} (h : Er.Sen1 w b a) (hne : b ≠ g) (o : Nat) (v0 v1 v2 v3 v4 v5 : Value) :
    Er.Sen1 ((((((w.setCell ⟨g, o, none⟩ v0).setCell ⟨g, o + 1, none⟩ v1).setCell ⟨g, o + 2, none⟩ v2).setCell ⟨g, o + 3, none⟩ v3).setCell ⟨g, o + 4, none⟩ v4).setCell ⟨g, o + 5, none⟩ v5) b a :=
  sen_set (sen_set (sen_set (sen_set (sen_set (sen_set h hne v0) hne v1) hne v2) hne v3) hne v4) hne v5

set_option maxRecDepth 100000 in
set_option maxHeartbeats 4000000 in
theorem depart_calls (W : World) (aE : Addr) (hS : Er.Sen1 W 0 aE) (w : World) (hW : Below W.heap.size W w) (v : Value) (l : List Pr) (id : Int) (fp : List Nat) (ho : Owns w v (peersD T0 l) fp) (hf : ∀ q ∈ fp, W.heap.size ≤ q) (hx : RingX l) :
    Calls Tryz.prog 36 #[.agg #[v], .int .i64 id] w fun e w' => Outcome aE fp w v (gone l id).1 (gone l id).2 e w' := by
  obtain ⟨g0, c0, hsh⟩ := peers_shape ho (by have := hx.least; omega)
  subst hsh
  have hS1 := hS.below hW (Nat.le_refl _)
  have hb1 := (Below.refl w.heap.size w).alloc (Nat.le_refl _) (.cells #[.slice (some ⟨g0, 0, none⟩) l.length c0] 26)
  have G := Blk.new w #[.slice (some ⟨g0, 0, none⟩) l.length c0] 26
  have HO1 := hide (owns_below ho hb1)
  have HS1 := hide (hS1.below hb1 (Nat.le_refl _))
  have HON := hide (Only.of_below (fp := fp) hb1)
  have HLT := hide ho.lt
  have HF := hide hf
  have HGS : Hid (0 < W.heap.size) := hS.lt
  have HSZ : Hid (w.heap.size ≤ (w.alloc (.cells #[.slice (some ⟨g0, 0, none⟩) l.length c0] 26)).heap.size) := hb1.size
  have HX := hide hx
  have hll := hx.len
  clear hS1 hS hW ho hf hb1
  go_enter Tryz.func36, Tryz.ntmps36
  go_upto_region 1 with fail
  obtain ⟨b0, e0⟩ : ∃ b, b = w.heap.size := ⟨_, rfl⟩
  rw [← e0] at G HLT HSZ ⊢
  have HE0 := hide e0
  clear e0
  generalize w.alloc (.cells #[.slice (some ⟨g0, 0, none⟩) l.length c0] 26) = w1 at *
  have HV1 := hide (show PeersAt w1 (.slice (some ⟨g0, 0, none⟩) l.length c0) l from ⟨T0, HO1.out.reads⟩)
  have k0 := blk_free_cell G 0 rfl
  have kl := G.lt
  go_wp2_with fail
  refine (implPeerAt_calls w1 _ l id HV1.out hll).mono ?_
  rintro e w2 ⟨rfl, hb2⟩
  have HO2 := hide (owns_below HO1.out hb2)
  have HS2 := hide (HS1.out.below hb2 (Nat.le_refl _))
  have HON2 := hide (HON.out.trans (Only.of_below (fp := fp) hb2))
  have HG2 := hide (G.below hb2 G.lt)
  clear k0 kl hb2 HO1 HS1 HON G HV1
  by_cases h4 : peerAt l id < 4
  · have hd : decide (peerAt l id < 4) = true := decide_eq_true h4
    have HR := hide (gone_low h4)
    have e1 := HS2.out.cell
    have e2 := HS2.out.lt
    clear h4
    generalize peerAt l id = pa at *
    go_wp2_with fail
    go_ret
    exact ⟨HON2.out, fun _ => rfl, fun h => by rw [HR.out] at h; cases h⟩
  · obtain ⟨i, hi, hpi⟩ : ∃ i : Nat, ∃ _ : i < l.length, peerAt l id = i := (peerAt_lt l id).resolve_left (by omega)
    rw [hpi] at h4 ⊢
    have hi4 : 4 ≤ i := by omega
    have hd : decide ((i : Int) < 4) = false := decide_eq_false h4
    have HR := hide (gone_high HX.out hpi hi4)
    have k0 := blk_free_cell HG2.out 0 rfl
    have kl := HG2.out.lt
    obtain ⟨⟨y0, q0⟩, r0, gq, hmem⟩ := peer_cell HO2.out hi (j := 0) (by decide)
    obtain ⟨⟨y1, q1⟩, r1, -, -⟩ := peer_cell HO2.out hi (j := 1) (by decide)
    obtain ⟨⟨y2, q2⟩, r2, -, -⟩ := peer_cell HO2.out hi (j := 2) (by decide)
    obtain ⟨⟨y3, q3⟩, r3, -, -⟩ := peer_cell HO2.out hi (j := 3) (by decide)
    obtain ⟨⟨y4, q4⟩, r4, -, -⟩ := peer_cell HO2.out hi (j := 4) (by decide)
    obtain ⟨⟨y5, q5⟩, r5, -, -⟩ := peer_cell HO2.out hi (j := 5) (by decide)
    rw [Nat.add_zero] at q0 r0
    obtain ⟨fp', HP, hfp⟩ := put_empty HO2.out hi id
    clear h4 hi4
    go_upto_region 5 with fail
    have hg0b : g0 < b0 := HLT.out g0 hmem
    have hEg : 0 ≠ g0 := by have := HF.out g0 hmem; have := HGS.out; omega
    have hS3 := sen_six HS2.out hEg (i * 6) (.int .i64 id) (.bool false) (.int .i64 0) (.slice none 0 0) (.slice none 0 0) (.slice none 0 0)
    have hG3 := blk_six HG2.out (g := g0) (by omega) (i * 6) (.int .i64 id) (.bool false) (.int .i64 0) (.slice none 0 0) (.slice none 0 0) (.slice none 0 0)
    have hON3 := only_six HON2.out hmem (i * 6) (.int .i64 id) (.bool false) (.int .i64 0) (.slice none 0 0) (.slice none 0 0) (.slice none 0 0)
    have HS3 := hide hS3
    have HG3 := hide hG3
    have HON3 := hide hON3
    have HO3 := hide HP
    have HFP : Hid (∀ q ∈ fp', q ∈ fp) := hfp
    clear hS3 hG3 hON3 HP hfp q0 q1 q2 q3 q4 q5 r0 r1 r2 r3 r4 r5 k0 kl gq HO2 HS2 HON2 HG2
    generalize ((((((w2.setCell ⟨g0, i * 6, none⟩ (.int .i64 id)).setCell ⟨g0, i * 6 + 1, none⟩ (.bool false)).setCell ⟨g0, i * 6 + 2, none⟩ (.int .i64 0)).setCell ⟨g0, i * 6 + 3, none⟩ (.slice none 0 0)).setCell ⟨g0, i * 6 + 4, none⟩ (.slice none 0 0)).setCell ⟨g0, i * 6 + 5, none⟩ (.slice none 0 0)) = w3 at *
    have HCG := hide (goesOn_calls w3 _ (l.set i (emptyP id)) ⟨T0, HO3.out.reads⟩ (by rw [List.length_set]; exact hll) (set_empty_small (fun p hp => (HX.out.small p hp).b) i id))
    have k0 := blk_free_cell HG3.out 0 rfl
    have kl := HG3.out.lt
    clear hd hpi
    generalize goesOn (l.set i (emptyP id)) = gb at *
    cases gb with
    | false =>
      have HR2 : Hid (gone l id = (l, false)) := HR.out
      clear HR
      go_wp2_with fail
      refine HCG.out.mono ?_
      rintro e w4 ⟨rfl, hb4⟩
      have hS4 := HS3.out.below hb4 (Nat.le_refl _)
      have HON4 := hide (HON3.out.trans (Only.of_below (fp := fp) hb4))
      have e1 := hS4.cell
      have e2 := hS4.lt
      clear k0 kl hb4 HCG hS4
      go_wp2_with fail
      go_ret
      exact ⟨HON4.out, fun _ => rfl, fun h => by rw [HR2.out] at h; cases h⟩
    | true =>
      have HR2 : Hid (gone l id = (l.set i (emptyP id), true)) := HR.out
      clear HR
      go_wp2_with fail
      refine HCG.out.mono ?_
      rintro e w4 ⟨rfl, hb4⟩
      have HON4 := hide (HON3.out.trans (Only.of_below (fp := fp) hb4))
      have HO4 := hide (owns_below HO3.out hb4)
      clear k0 kl hb4 HCG
      go_wp2_with fail
      go_ret
      exact ⟨HON4.out, (fun h => by rw [HR2.out] at h; cases h), fun _ => ⟨rfl, fp', by rw [HR2.out]; exact HO4.out, fun q hq => .inl (HFP.out q hq)⟩⟩

set_option maxHeartbeats 1000000 in
theorem goneFn_calls (W : World) (aE : Addr) (hS : Er.Sen1 W 0 aE) (w : World) (hW : Below W.heap.size W w) (v : Value) (l : List Pr) (id : Int) (b : Nat) (hb : w.cell? ⟨b, 0, none⟩ = some (.int .i64 id)) (fp : List Nat) (ho : Owns w v (peersD T0 l) fp) (hf : ∀ q ∈ fp, W.heap.size ≤ q) (hx : RingX l) :
    Calls Tryz.prog 35 #[.agg #[v], .pointer (some ⟨b, 0, none⟩)] w fun e w' => Outcome aE fp w v (gone l id).1 (gone l id).2 e w' := by
  obtain ⟨a, c, hsh⟩ := peers_sl ho
  subst hsh
  have hb1 := (Below.refl w.heap.size w).alloc (Nat.le_refl _) (.cells #[.slice a l.length c] 26)
  have G := Blk.new w #[.slice a l.length c] 26
  have HD := hide (depart_calls W aE hS (w.alloc (.cells #[.slice a l.length c] 26)) (hW.trans (hb1.mono hW.size)) _ l id fp (owns_below ho hb1) hf hx)
  have hbl := cell_lt' hb
  have hb2 := (hb1.cell (p := ⟨b, 0, none⟩) hbl).trans hb
  have hbl2 := cell_lt' hb2
  have HON := hide (Only.of_below (fp := fp) hb1)
  have HSZ : Hid (w.heap.size ≤ (w.alloc (.cells #[.slice a l.length c] 26)).heap.size) := hb1.size
  clear hb hbl ho hf hx hW hS hb1
  go_enter Tryz.func35, Tryz.ntmps35
  go_upto_region 1 with fail
  obtain ⟨b0, e0⟩ : ∃ b, b = w.heap.size := ⟨_, rfl⟩
  rw [← e0] at G ⊢
  clear e0
  generalize w.alloc (.cells #[.slice a l.length c] 26) = w1 at *
  have k0 := blk_free_cell G 0 rfl
  have kl := G.lt
  clear G
  go_wp2_with fail
  refine HD.out.mono ?_
  rintro e w2 h2
  cases hok : (gone l id).2 with
  | false =>
    obtain rfl := h2.no hok
    go_wp2_with fail
    go_ret
    exact ⟨HON.out.trans h2.only, fun _ => rfl, fun h => by rw [hok] at h; cases h⟩
  | true =>
    obtain ⟨he, fp', h3, h4⟩ := h2.yes hok
    subst he
    go_wp2_with fail
    go_ret
    exact ⟨HON.out.trans h2.only, (fun h => by rw [hok] at h; cases h), fun _ => ⟨rfl, fp', h3, fun q hq => (h4 q hq).imp (fun h => h) (fun h => Nat.le_trans HSZ.out h)⟩⟩
end Go.Proofs.YteladljgnbfcnaaGreatDoor.P9
namespace Go.Proofs.YteladljgnbfcnaaGreatDoor.P9
set_option maxRecDepth 8000
open Go.RowKit P1 P8 Da Mp Ap Rr Rc

def tellsOf (l : List Pr) (id key : Int) : Int := match find l id key with | none => -1 | some (x, _) => x

theorem RingX.reach {l : List Pr} (h : RingX l) : Reach l := fun p hp => by
  have := h.tiny p hp
  have h1 := this.b
  have h2 := this.f
  exact ⟨by omega, by rw [List.length_append]; omega⟩

theorem trip_tells (l : List Pr) (id key : Int) : ∃ (x : Int) (h : Nat) (b : Bool), tripV (find l id key) = .tuple #[.agg #[.int .i64 x, .int .i64 (h : Int)], .bool b] ∧ tellsOf l id key = x := by
  unfold tellsOf
  cases find l id key with
  | none => exact ⟨-1, 0, false, rfl, rfl⟩
  | some p => exact ⟨p.1, p.2, true, rfl, rfl⟩

set_option maxHeartbeats 1000000 in
theorem finger1_calls (w : World) (v : Value) (l : List Pr) (id place : Int) (km n bm bi : Nat) (hm : MapR keyI w km n (hereV v l)) (hv : PeersAt w v l) (hre : Reach l) (hon : OnRing l) (cm : w.cell? ⟨bm, 0, none⟩ = some (.map (some km))) (ci : w.cell? ⟨bi, 0, none⟩ = some (.int .i64 id)) :
    Calls Tryz.prog 78 #[.int .i64 place, .pointer (some ⟨bm, 0, none⟩), .pointer (some ⟨bi, 0, none⟩)] w fun e w' => e = .returned (.int .i64 (tellsOf l id place)) ∧ Below w.heap.size w w' := by
  have HS := hide (walk_calls w v l id place km n hm hv hre hon)
  obtain ⟨tx, th, tb, et, ex⟩ := trip_tells l id place
  rw [et] at HS
  rw [ex]
  have lm := cell_lt' cm
  have li := cell_lt' ci
  clear hm hv hre hon et ex
  go_enter Tryz.func78, Tryz.ntmps78
  go_wp2_with fail
  refine HS.out.mono ?_
  rintro e w2 ⟨rfl, hb2⟩
  have HB3 := hide (hb2.alloc hb2.size (.cells #[.int .i64 tx, .int .i64 (th : Int)] 69))
  have S := Blk.new w2 #[.int .i64 tx, .int .i64 (th : Int)] 69
  clear HS cm ci lm li hb2
  go_upto_region 2 with fail
  obtain ⟨b5, e5⟩ : ∃ b, b = w2.heap.size := ⟨_, rfl⟩
  rw [← e5] at S ⊢
  clear e5
  generalize w2.alloc (.cells #[.int .i64 tx, .int .i64 (th : Int)] 69) = w3 at *
  have k0 := blk_free_cell S 0 rfl
  have kl := S.lt
  go_wp2_with fail
  go_ret
  exact ⟨rfl, HB3.out⟩

set_option maxRecDepth 100000 in
set_option maxHeartbeats 4000000 in
theorem finger_calls (W : World) (aE : Addr) (hS : Er.Sen1 W 0 aE) (w : World) (hW : Below W.heap.size W w) (v : Value) (l : List Pr) (id : Int) (fp : List Nat) (ho : Owns w v (peersD T0 l) fp) (hx : RingX l) :
    Calls Tryz.prog 40 #[.agg #[v], .int .i64 id] w fun e w' => Outcome aE fp w v (fingered l id).1 (fingered l id).2 e w' := by
  obtain ⟨g0, c0, hsh⟩ := peers_shape ho (by have := hx.least; omega)
  subst hsh
  have hS1 := hS.below hW (Nat.le_refl _)
  have hb1 := (Below.refl w.heap.size w).alloc (Nat.le_refl _) (.cells #[.slice (some ⟨g0, 0, none⟩) l.length c0] 26)
  have hb2 := hb1.alloc hb1.size (.cells #[.int .i64 id] 3)
  have hn (wq : World) (o : Obj) : Below wq.heap.size wq (wq.alloc o) := (Below.refl _ _).alloc (Nat.le_refl _) o
  have A0 := Blk.new w #[.slice (some ⟨g0, 0, none⟩) l.length c0] 26
  have A1 := Blk.new (w.alloc (.cells #[.slice (some ⟨g0, 0, none⟩) l.length c0] 26)) #[.int .i64 id] 3
  have A0' := A0.below (hn _ (.cells #[.int .i64 id] 3)) A0.lt
  have e1 : (w.alloc (.cells #[.slice (some ⟨g0, 0, none⟩) l.length c0] 26)).heap.size = w.heap.size + 1 := by simp
  rw [e1] at A1
  have HO1 := hide (owns_below ho hb2)
  have HS1 := hide (hS1.below hb2 (Nat.le_refl _))
  have HON := hide (Only.of_below (fp := fp) hb2)
  have HLT := hide ho.lt
  have HX := hide hx
  have hll := hx.len
  clear hS1 hS hW ho hb1 hb2 A0 hn e1
  go_enter Tryz.func40, Tryz.ntmps40
  go_upto_region 1 with fail
  obtain ⟨s, es⟩ : ∃ s, s = w.heap.size := ⟨_, rfl⟩
  rw [← es] at A0' A1 HLT ⊢
  have HSs : Hid (w.heap.size = s) := es.symm
  clear es
  generalize (w.alloc (.cells #[.slice (some ⟨g0, 0, none⟩) l.length c0] 26)).alloc (.cells #[.int .i64 id] 3) = w1 at *
  have HV1 := hide (show PeersAt w1 (.slice (some ⟨g0, 0, none⟩) l.length c0) l from ⟨T0, HO1.out.reads⟩)
  have k0 := blk_free_cell A0' 0 rfl
  have kl := A0'.lt
  go_wp2_with fail
  refine (present_calls w1 _ l HV1.out hll).mono ?_
  rintro e w2 ⟨km, rfl, hkm, hm2, hb2⟩
  have hzs : s + 1 < w1.heap.size := A1.lt
  have hba := (Below.refl w2.heap.size w2).alloc (Nat.le_refl _) (.cells #[.map (some km)] 87)
  have S := Blk.new w2 #[.map (some km)] 87
  have hbx := hb2.trans (hba.mono hb2.size)
  have HO3 := hide (owns_below HO1.out hbx)
  have HS3 := hide (HS1.out.below hbx (Nat.le_refl _))
  have HON3 := hide (HON.out.trans (Only.of_below (fp := fp) hbx))
  have A1' := A1.below hbx A1.lt
  have HM3 := hide (hm2.at_ (hba.block km hm2.lt))
  have hz2 := hb2.size
  clear k0 kl hb2 hba hbx HO1 HS1 HON A0' A1 HV1 hm2 hkm
  go_upto_region 2 with fail
  obtain ⟨b5, e5⟩ : ∃ b, b = w2.heap.size := ⟨_, rfl⟩
  rw [← e5] at S ⊢
  have hb5 : s + 1 < b5 := by omega
  clear e5 hz2 hzs
  generalize w2.alloc (.cells #[.map (some km)] 87) = w3 at *
  have hlk := hereV_look HM3.out id
  have m0 := blk_free_cell S 0 rfl
  have ml := S.lt
  have i0 := blk_free_cell A1' 0 rfl
  have il := A1'.lt
  cases hi : hereIdx l id with
  | none =>
    have HR := hide (fingered_no (l := l) (id := id) (by rw [peerAt_no hi]; decide))
    rw [hi] at hlk
    simp only [Option.map_none, Option.getD_none, Option.isSome_none] at hlk
    have e1 := HS3.out.cell
    have e2 := HS3.out.lt
    clear hi
    go_wp2_with fail
    go_ret
    exact ⟨HON3.out, fun _ => rfl, fun h => by rw [HR.out] at h; cases h⟩
  | some i =>
    obtain ⟨hil, hih, hid⟩ := hereIdx_some hi
    have HR := hide (fingered_ok (l := l) (id := id) (peerAt_of hi))
    rw [hi] at hlk
    simp only [Option.map_some, Option.getD_some, Option.isSome_some] at hlk
    replace hlk : (Instr.lookup 87 (.map (some km)) (.int .i64 id) true).run Tryz.prog w3 = .ok (.tuple #[.pointer (some ⟨g0, i * 6, none⟩), .bool true]) w3 := by
      rw [hlk]
      simp [pt]
    have hidr : 0 ≤ id ∧ id < 256 := on_of_at HX.out.ring (by rw [peerAt_of hi]; omega)
    have hV3 : PeersAt w3 (.slice (some ⟨g0, 0, none⟩) l.length c0) l := ⟨T0, HO3.out.reads⟩
    have HC := hide (implFingers_calls w3 id 78 #[.pointer (some ⟨b5, 0, none⟩), .pointer (some ⟨s + 1, 0, none⟩)] (tellsOf l id) hidr.1 hidr.2 (run_enter Tryz.func78 (by kernel_rfl) (by kernel_rfl))
      (fun wx x hb => finger1_calls wx _ l id x km l.length b5 (s + 1) (HM3.out.at_ (hb.block km HM3.out.lt)) (hV3.below hb (Nat.le_refl _)) HX.out.reach HX.out.ring ((hb.cell (p := ⟨b5, 0, none⟩) ml).trans m0) ((hb.cell (p := ⟨s + 1, 0, none⟩) il).trans i0)))
    clear hi hV3 hidr
    go_wp2_with fail
    refine HC.out.mono ?_
    rintro e w4 ⟨v4, rfl, ho4, hb4⟩
    obtain ⟨a4, c4, hsh⟩ := own_sh ho4
    subst hsh
    have hF : ((List.range 8).map fun j => tellsOf l id (id + (2 : Int) ^ j)) = (List.range 8).map (fingerOf l id) := rfl
    rw [hF] at ho4
    obtain ⟨f4, o4, g4⟩ := ints_owned (l := (List.range 8).map (fingerOf l id)) (by simpa using ho4)
    have ho4' := owns_below HO3.out hb4
    obtain ⟨⟨y4, q4⟩, r4, gq, hmem⟩ := peer_cell ho4' hil (j := 4) (by decide)
    have hz1 := HON3.out.size
    obtain ⟨fp', HP, hfp⟩ := put_fingers ho4' hil o4 (fun q h1 h2 => by
      have k1 := g4 q h1
      have k2 := HLT.out q h2
      have k3 := HSs.out
      omega)
    have HON4 := hide ((HON3.out.trans (Only.of_below (fp := fp) hb4)).setCell (p := ⟨g0, i * 6 + 4, none⟩) hmem (.slice a4 8 c4))
    have HPP := hide HP
    have HFP : Hid (∀ q ∈ fp', q ∈ fp ∨ w.heap.size ≤ q) := fun q hq => (hfp q hq).imp (fun h => h) (fun h => by have := g4 q h; omega)
    clear hlk m0 ml i0 il HC ho4 hb4 hF o4 g4 ho4' HP hfp A1' S HM3 HS3 hz1
    go_wp2_with fail
    go_ret
    exact ⟨HON4.out, (fun h => by rw [HR.out] at h; cases h), fun _ => ⟨rfl, fp', by rw [HR.out]; exact HPP.out, HFP.out⟩⟩
end Go.Proofs.YteladljgnbfcnaaGreatDoor.P9
namespace Go.Proofs.YteladljgnbfcnaaGreatDoor.P9
set_option maxRecDepth 8000
open Go.RowKit P1 P8 Da Mp Ap Rr Rc

theorem here_of_at {l : List Pr} {x : Int} (h : 0 ≤ peerAt l x) : ∃ j : Nat, ∃ _ : j < l.length, hereIdx l x = some j ∧ peerAt l x = j := by
  have h1 := hereIdx_isSome l x
  rw [decide_eq_true h] at h1
  obtain ⟨j, hj⟩ := Option.isSome_iff_exists.1 h1
  obtain ⟨hl, -, -⟩ := hereIdx_some hj
  exact ⟨j, hl, hj, peerAt_of hj⟩

theorem setBehind_id (l : List Pr) (i : Nat) (b : List Int) {j : Nat} (hj : j < (setBehind l i b).length) (hj' : j < l.length) : ((setBehind l i b)[j]).id = l[j].id ∧ ((setBehind l i b)[j]).ahead = l[j].ahead := by
  have key : ∀ (m : List Pr) (_ : m = l.modify i fun p => { p with behind := b }) (h : j < m.length), m[j].id = l[j].id ∧ m[j].ahead = l[j].ahead := by
    intro m hm h
    subst hm
    rw [List.getElem_modify]
    split <;> exact ⟨rfl, rfl⟩
  exact key _ rfl hj

theorem owns_drewN {W : World} {v : Value} {d : Dt} {fp : List Nat} (h : Owns W v d fp) (q : Nat) : Owns (W.drewN q) v d fp := h.stay fun _ _ => rfl

set_option maxRecDepth 100000 in
set_option maxHeartbeats 8000000 in
theorem settleI_calls (W : World) (aE : Addr) (hS : Er.Sen1 W 0 aE) (w : World) (hW : Below W.heap.size W w) (v : Value) (l : List Pr) (id : Int) (fp : List Nat) (ho : Owns w v (peersD T0 l) fp) (hx : RingX l) :
    Calls Tryz.prog 38 #[.agg #[v], .int .i64 id] w fun e w' => Outcome aE fp w v (settle l id).1 (settle l id).2 e w' := by
  obtain ⟨g0, c0, hsh⟩ := peers_shape ho (by have := hx.least; omega)
  subst hsh
  have hS1 := hS.below hW (Nat.le_refl _)
  have hb1 := (Below.refl w.heap.size w).alloc (Nat.le_refl _) (.cells #[.slice (some ⟨g0, 0, none⟩) l.length c0] 26)
  have A0 := Blk.new w #[.slice (some ⟨g0, 0, none⟩) l.length c0] 26
  have HO1 := hide (owns_below ho hb1)
  have HS1 := hide (hS1.below hb1 (Nat.le_refl _))
  have HON := hide (Only.of_below (fp := fp) hb1)
  have HLT := hide ho.lt
  have HX := hide hx
  have hll := hx.len
  have HBL : Hid (∀ p ∈ l, p.behind.length ≤ 1048576) := fun p hp => (hx.small p hp).b
  clear hS1 hS hW ho hb1
  go_enter Tryz.func38, Tryz.ntmps38
  go_upto_region 1 with fail
  obtain ⟨s, es⟩ : ∃ s, s = w.heap.size := ⟨_, rfl⟩
  rw [← es] at A0 HLT ⊢
  have HSs : Hid (w.heap.size = s) := es.symm
  clear es
  generalize w.alloc (.cells #[.slice (some ⟨g0, 0, none⟩) l.length c0] 26) = w1 at *
  have HV1 := hide (show PeersAt w1 (.slice (some ⟨g0, 0, none⟩) l.length c0) l from ⟨T0, HO1.out.reads⟩)
  have k0 := blk_free_cell A0 0 rfl
  have kl := A0.lt
  have hzs := A0.lt
  go_wp2_with fail
  refine (present_calls w1 _ l HV1.out hll).mono ?_
  rintro e w3 ⟨km, rfl, hkm, hm2, hb2⟩
  have HO3 := hide (owns_below HO1.out hb2)
  have HS3 := hide (HS1.out.below hb2 (Nat.le_refl _))
  have HON3 := hide (HON.out.trans (Only.of_below (fp := fp) hb2))
  have HM3 := hide hm2
  have hkms : s < km := by omega
  clear k0 kl hb2 HO1 HS1 HON A0 HV1 hm2 hkm hzs
  have hlk := hereV_look HM3.out id
  cases hi : hereIdx l id with
  | none =>
    have HR := hide (settle_nobody hi)
    rw [hi] at hlk
    simp only [Option.map_none, Option.getD_none, Option.isSome_none] at hlk
    have e1 := HS3.out.cell
    have e2 := HS3.out.lt
    clear hi
    go_wp2_with fail
    go_ret
    exact ⟨HON3.out, fun _ => rfl, fun h => by rw [HR.out] at h; cases h⟩
  | some i =>
    obtain ⟨hil, hih, hid⟩ := hereIdx_some hi
    rw [hi] at hlk
    simp only [Option.map_some, Option.getD_some, Option.isSome_some] at hlk
    replace hlk : (Instr.lookup 87 (.map (some km)) (.int .i64 id) true).run Tryz.prog w3 = .ok (.tuple #[.pointer (some ⟨g0, i * 6, none⟩), .bool true]) w3 := by
      rw [hlk]
      simp [pt]
    have hV3 : PeersAt w3 (.slice (some ⟨g0, 0, none⟩) l.length c0) l := ⟨T0, HO3.out.reads⟩
    obtain ⟨ax, cx, hax, HA⟩ := hV3.open_
    cases hax
    obtain ⟨gx, ox, u3, u4, u5, hgx, hg, hc⟩ := HA i hil
    cases hgx
    rw [Nat.zero_add] at hc
    have CN := hide (next_calls w3 _ u3 l l[i].behind km l.length g0 (i * 6) HM3.out hc.c3 hc.behind (HBL.out _ (List.getElem_mem hil)))
    clear hc
    cases hf : firstHere l l[i].behind with
    | none =>
      have HR := hide (settle_alone hil hi hf)
      rw [hf] at CN
      have e1 := HS3.out.cell
      have e2 := HS3.out.lt
      clear hi hf HA hV3
      go_wp2_with fail
      refine CN.out.mono ?_
      rintro e wz ⟨rfl, rfl⟩
      clear CN
      go_wp2_with fail
      go_ret
      exact ⟨HON3.out, fun _ => rfl, fun h => by rw [HR.out] at h; cases h⟩
    | some nx =>
      have hne := next_not HX.out hil hi hf
      have hN := nxt_of HX.out.ring hil hi hf
      obtain ⟨j0, hj0, hij0, hpj0⟩ := here_of_at hN.here
      have HSI := hide (fun (m : Int) (j : Nat) (hm : asked l id nx = m) (hj : j < l.length) (hp : peerAt l m = j) => settle_is HX.out hil hi hf hm hj hp)
      have HAS := hide (asked_is (id := id) hj0 hpj0)
      have HNE := hide hne
      rw [hf] at CN
      have hlk1 := hereV_look1 HM3.out nx
      rw [hij0] at hlk1
      replace hlk1 : (Instr.lookup 87 (.map (some km)) (.int .i64 nx) false).run Tryz.prog w3 = .ok (.pointer (some ⟨g0, j0 * 6, none⟩)) w3 := by
        rw [hlk1]
        simp [pt]
      obtain ⟨ca, -⟩ := peer_ahead hV3 hj0
      rw [Nat.zero_add] at ca
      have HKN := hide (knows_calls w3 _ l l[j0].ahead km l.length HM3.out HX.out.ring)
      have HAH : Hid (0 ≤ peerAt l l[j0].ahead → ∃ j : Nat, ∃ _ : j < l.length, hereIdx l l[j0].ahead = some j ∧ peerAt l l[j0].ahead = j) := here_of_at
      clear hi hf HA hV3 hne hN
      generalize l[j0].ahead = P at *
      have hcase : (0 ≤ peerAt l P ∧ btw id P nx = true) ∨ ((decide (0 ≤ peerAt l P) && btw id P nx) = false) := by
        cases h1 : (decide (0 ≤ peerAt l P) && btw id P nx) with
        | false => exact .inr rfl
        | true =>
          rw [Bool.and_eq_true, decide_eq_true_iff] at h1
          exact .inl h1
      rcases hcase with ⟨hk1, hk2⟩ | hk
      case' inl =>
        have HM : Hid (asked l id nx = P) := by
          show _ = _
          rw [HAS.out, decide_eq_true hk1, hk2]
          rfl
        have HPI : Hid (P ≠ id) := fun e => by
          rw [e] at hk2
          unfold btw at hk2
          rw [ahd_self] at hk2
          simp at hk2
        obtain ⟨j, hjl, hij, hpj⟩ := HAH.out hk1
        have CB := hide (fun wx => implBetween_calls id P nx wx)
        rw [hk2] at CB
        rw [decide_eq_true hk1] at HKN
        clear hk1 hk2 HAS HAH hpj0 hij0
        go_wp2_with fail
        refine CN.out.mono ?_
        rintro e wz ⟨rfl, hw⟩
        subst hw
        clear CN
        go_wp2_with fail
        refine HKN.out.mono ?_
        rintro e wy ⟨rfl, hw⟩
        subst hw
        clear HKN
        go_wp2_with fail
        refine (CB.out _).mono ?_
        rintro e w5 ⟨rfl, hw⟩
        subst hw
        clear CB
        go_upto_region 11 with fail
        obtain ⟨m, em⟩ : ∃ m, m = P := ⟨_, rfl⟩
        rw [← em] at hij hpj ⊢
        have HMM := hide (HM.out.trans em.symm)
        have HMI : Hid (m ≠ id) := by rw [em]; exact HPI.out
        clear em HPI HM HNE
      case' inr =>
        have HM : Hid (asked l id nx = nx) := by
          show _ = _
          rw [HAS.out, hk]
          rfl
        have CB := hide (fun wx => implBetween_calls id P nx wx)
        clear HAS HAH
        generalize decide (0 ≤ peerAt l P) = kb at *
        generalize btw id P nx = bb at *
        cases kb
        case' false =>
          clear hk CB
          go_wp2_with fail
          refine CN.out.mono ?_
          rintro e wz ⟨rfl, hw⟩
          subst hw
          clear CN
          go_wp2_with fail
          refine HKN.out.mono ?_
          rintro e w5 ⟨rfl, hw⟩
          subst hw
          clear HKN
          go_upto_region 11 with fail
          obtain ⟨m, em⟩ : ∃ m, m = nx := ⟨_, rfl⟩
          rw [← em] at hij0 hpj0 ⊢
          have HMM := hide (HM.out.trans em.symm)
          have HMI : Hid (m ≠ id) := by rw [em]; exact HNE.out
          have hjl := hj0
          have hij := hij0
          have hpj := hpj0
          clear em HM HNE hij0 hpj0
          generalize j0 = j at *
        case' true =>
          have hbb : bb = false := hk
          subst hbb
          clear hk
          go_wp2_with fail
          refine CN.out.mono ?_
          rintro e wz ⟨rfl, hw⟩
          subst hw
          clear CN
          go_wp2_with fail
          refine HKN.out.mono ?_
          rintro e wy ⟨rfl, hw⟩
          subst hw
          clear HKN
          go_wp2_with fail
          refine (CB.out _).mono ?_
          rintro e w5 ⟨rfl, hw⟩
          subst hw
          clear CB
          go_upto_region 11 with fail
          obtain ⟨m, em⟩ : ∃ m, m = nx := ⟨_, rfl⟩
          rw [← em] at hij0 hpj0 ⊢
          have HMM := hide (HM.out.trans em.symm)
          have HMI : Hid (m ≠ id) := by rw [em]; exact HNE.out
          have hjl := hj0
          have hij := hij0
          have hpj := hpj0
          clear em HM HNE hij0 hpj0
          generalize j0 = j at *
      all_goals
        have HSE := hide (HSI.out m j HMM.out hjl hpj)
        clear HSI HMM hlk hlk1 ca
        have hV5 : PeersAt w5 (.slice (some ⟨g0, 0, none⟩) l.length c0) l := ⟨T0, HO3.out.reads⟩
        have HL := hide (line_calls w5 _ l id m km l.length j HM3.out hV5 hjl hij (HBL.out _ (List.getElem_mem hjl)))
        obtain ⟨r, hNB⟩ := behindBut_head (l := l) HMI.out
        have HSE2 : Hid (settle l id = (if hears l l[j].ahead id m = true then setAhead (setBehind l i (behindBut l m id)) j id else setBehind l i (behindBut l m id), true)) := HSE.out
        have HNB : Hid (behindBut l m id = m :: r) := hNB
        have hjm : (l[j]'hjl).id = m := (hereIdx_some hij).2.2
        clear hV5 hNB HSE hpj
        generalize behindBut l m id = NB at *
        go_wp2_with fail
        refine HL.out.mono ?_
        rintro e w6 ⟨v6, rfl, ho6, hb6⟩
        have hnl : 0 < NB.length := by rw [HNB.out]; simp
        obtain ⟨g6, c6, hsh, hg6, hgs6, hcap6, hcell6, -⟩ := own_at ho6 hnl
        subst hsh
        have hz6 : w6.cell? ⟨g6, 0, none⟩ = some (.int .i64 m) := by
          rw [hcell6 0 (by omega), HNB.out]
          rfl
        obtain ⟨f6, o6, gf6⟩ := ints_owned ho6
        have hO6 := owns_below HO3.out hb6
        obtain ⟨⟨y3, q3⟩, r3, gq, hmem⟩ := peer_cell hO6 hil (j := 3) (by decide)
        obtain ⟨fp7, hP7, hfp7⟩ := put_behind hO6 hil o6 (fun q h1 h2 => by
          have k1 := gf6 q h1
          have k2 := HO3.out.lt q h2
          omega)
        have hg0s := HLT.out g0 hmem
        have hcx := (row_cell (vf := .slice (some ⟨g6, 0, none⟩) NB.length c6) (wx := w6.setCell ⟨g0, i * 6 + 3, none⟩ (.slice (some ⟨g6, 0, none⟩) NB.length c6)) q3 r3 rfl).1
        have hcm : (w6.setCell ⟨g0, i * 6 + 3, none⟩ (.slice (some ⟨g6, 0, none⟩) NB.length c6)).cell? ⟨g6, 0, none⟩ = some (.int .i64 m) := (World.cell?_of_block (Below.heap_setCell _ _ _ _ (by show g6 ≠ g0; omega))).trans hz6
        have hM7 : MapR keyI (w6.setCell ⟨g0, i * 6 + 3, none⟩ (.slice (some ⟨g6, 0, none⟩) NB.length c6)) km l.length (hereV (.slice (some ⟨g0, 0, none⟩) l.length c0) l) := HM3.out.at_ ((Below.heap_setCell _ _ _ _ (by show km ≠ g0; omega)).trans (hb6.block km HM3.out.lt))
        have hON7 := (HON3.out.trans (Only.of_below (fp := fp) hb6)).setCell (p := ⟨g0, i * 6 + 3, none⟩) hmem (.slice (some ⟨g6, 0, none⟩) NB.length c6)
        have HP7 := hide hP7
        have hzw := HON3.out.size
        have HFP7 : Hid (∀ q ∈ fp7, q ∈ fp ∨ w.heap.size ≤ q) := fun q hq => (hfp7 q hq).imp (fun h => h) (fun h => by have := gf6 q h; omega)
        have HON7 := hide hON7
        have HM7 := hide hM7
        have hl7 : g6 < (w6.setCell ⟨g0, i * 6 + 3, none⟩ (.slice (some ⟨g6, 0, none⟩) NB.length c6)).heap.size := by simpa using hgs6
        have hl0 : g0 < (w6.setCell ⟨g0, i * 6 + 3, none⟩ (.slice (some ⟨g6, 0, none⟩) NB.length c6)).heap.size := by simpa using gq
        clear hP7 hfp7 hON7 hM7 hO6 o6 gf6 ho6 hb6 hz6 hcell6 HL HO3 HS3 HON3 HM3 hg hzw hg6
        go_upto_region 12 with fail
        clear q3 r3 gq hgs6
        generalize w6.setCell ⟨g0, i * 6 + 3, none⟩ (.slice (some ⟨g6, 0, none⟩) NB.length c6) = w7 at *
        have hlk7 := hereV_look HM7.out m
        rw [hij] at hlk7
        simp only [Option.map_some, Option.getD_some, Option.isSome_some] at hlk7
        replace hlk7 : (Instr.lookup 87 (.map (some km)) (.int .i64 m) true).run Tryz.prog w7 = .ok (.tuple #[.pointer (some ⟨g0, j * 6, none⟩), .bool true]) w7 := by
          rw [hlk7]
          simp [pt]
        have hjb : j < (setBehind l i NB).length := by rw [setBehind_length]; exact hjl
        have hid7 := setBehind_id l i NB hjb hjl
        have cj0 := cell_of_id HP7.out hjb
        rw [hid7.1, hjm] at cj0
        obtain ⟨cj2, -⟩ := peer_ahead (⟨T0, HP7.out.reads⟩ : PeersAt w7 _ _) hjb
        rw [hid7.2, Nat.zero_add] at cj2
        obtain ⟨-, fj2, -, -⟩ := peer_cell HP7.out hjb (j := 2) (by decide)
        have HE := hide (hear_calls w7 _ l km l.length g0 (j * 6) l[j].ahead id m HM7.out HX.out.ring cj0 cj2 fj2)
        have hnz : ((NB.length : Int) == 0) = false := by
          rw [beq_eq_false_iff_ne]
          omega
        clear hid7 cj0 cj2 fj2 hij
        go_wp2_with fail
        refine HE.out.mono ?_
        rintro e w8 ⟨⟨u, rfl⟩, q, hw8⟩
        clear hlk7 hcx hcm HE hnz
        have hd7 : Only fp w7 (w7.drewN q) := Only.of_below (below_drewN (Below.refl _ _) q)
        cases hh : hears l l[j].ahead id m with
        | true =>
          rw [hh, if_pos rfl] at hw8
          subst hw8
          have HR : Hid (settle l id = (setAhead (setBehind l i NB) j id, true)) := by
            show _ = _
            rw [HSE2.out, hh, if_pos rfl]
          clear hh HSE2
          go_wp2_with fail
          go_ret
          exact ⟨(HON7.out.trans hd7).setCell (p := ⟨g0, j * 6 + 2, none⟩) hmem _, (fun h => by rw [HR.out] at h; cases h), fun _ => ⟨rfl, fp7, by rw [HR.out]; exact put_ahead (owns_drewN HP7.out q) hjb id, HFP7.out⟩⟩
        | false =>
          rw [hh, if_neg (by decide)] at hw8
          subst hw8
          have HR : Hid (settle l id = (setBehind l i NB, true)) := by
            show _ = _
            rw [HSE2.out, hh, if_neg (by decide)]
          clear hh HSE2
          go_wp2_with fail
          go_ret
          exact ⟨HON7.out.trans hd7, (fun h => by rw [HR.out] at h; cases h), fun _ => ⟨rfl, fp7, by rw [HR.out]; exact owns_drewN HP7.out q, HFP7.out⟩⟩
end Go.Proofs.YteladljgnbfcnaaGreatDoor.P9
