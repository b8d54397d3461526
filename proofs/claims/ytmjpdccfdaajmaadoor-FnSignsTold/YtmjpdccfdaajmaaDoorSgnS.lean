/- The contract of spec.SignText; conditions: the text is at most 2^20 bytes long, numbers are ints. -/
import Derived.Test.YtmjpdccfdaajmaaDoorSgn3
import Derived.Test.YtmjpdccfdaajmaaDoorSgn2
import Derived.Test.YtmjpdccfdaajmaaDoorSgn5
import Derived.Test.YtmjpdccfdaajmaaDoorLate
import Derived.Test.YtmjpdccfdaajmaaDoorBlk
namespace Go.Proofs.YtmjpdccfdaajmaaDoor.P4
set_option maxRecDepth 8000
open Go.RowKit P1 P3

/-- What may be signed with. -/
def sOk (seed leaf : Int) : Prop := (0 ≤ leaf ∧ leaf ≤ 3) ∧ few seed

instance (seed leaf : Int) : Decidable (sOk seed leaf) := by unfold sOk; infer_instance

/-- What stands beside on the way. -/
def wayN (seed : Int) (leaf : Nat) (k : Nat) : List (List UInt8) := (List.range k).map fun i => (lev seed i).getD ((leaf / 2 ^ i) ^^^ 1) []

def endN (seed leaf : Int) (t : List UInt8) (k : Nat) : List (List UInt8) := (List.range k).map fun (i : Nat) => chain ((quadsN t).getD i 0) (secret seed leaf i)

def sLeaf (seed leaf : Int) : Int := if sOk seed leaf then leaf else 0
def sEnds (seed leaf : Int) (t : List UInt8) : List (List UInt8) := if sOk seed leaf then endN seed leaf t 11 else []
def sWay (seed leaf : Int) : List (List UInt8) := if sOk seed leaf then wayN seed leaf.toNat 2 else []

/-- A signature of the call's own. -/
structure SigOwn (B : Nat) (w : World) (v : Value) (leaf : Int) (E W : List (List UInt8)) : Prop where
  val : ∃ vE vW, v = .agg #[.int .i64 leaf, vE, vW] ∧ w.ownsRow B 9 1 vE E.length (cellsS E) ∧ w.ownsRow B 9 1 vW W.length (cellsS W) ∧ (vE.ownBlock = none ∨ vE.ownBlock ≠ vW.ownBlock)

theorem endN_succ (seed leaf : Int) (t : List UInt8) (k : Nat) : endN seed leaf t (k + 1) = endN seed leaf t k ++ [chain ((quadsN t).getD k 0) (secret seed leaf k)] := by
  simp [endN, List.range_succ]

theorem wayN_succ (seed : Int) (leaf k : Nat) : wayN seed leaf (k + 1) = wayN seed leaf k ++ [(lev seed k).getD ((leaf / 2 ^ k) ^^^ 1) []] := by
  simp [wayN, List.range_succ]

theorem endN_length (seed leaf : Int) (t : List UInt8) (k : Nat) : (endN seed leaf t k).length = k := by simp [endN]
theorem wayN_length (seed : Int) (leaf k : Nat) : (wayN seed leaf k).length = k := by simp [wayN]

theorem xor1 (n : Nat) (h : n ≤ 3) : bits .xor .i64 (n : Int) 1 = ((n ^^^ 1 : Nat) : Int) := by
  have : n = 0 ∨ n = 1 ∨ n = 2 ∨ n = 3 := by omega
  rcases this with rfl | rfl | rfl | rfl <;> decide +kernel

/-- A slice of texts elsewhere. -/
theorem TextsAt.grownB {w w' : World} {v : Value} {l : List (List UInt8)} {b : Nat} (h : TextsAt w v l) (hg : w.grownBy w' (some b)) (hb : ∀ off x, w.cell? ⟨b, off, none⟩ ≠ some (.string x)) : TextsAt w' v l := by
  obtain ⟨a, cap, h1, h2⟩ := h
  refine ⟨a, cap, h1, fun j hj => ?_⟩
  obtain ⟨g, off, e1, e2, e3⟩ := h2 j hj
  have hne : g ≠ b := fun e => hb _ _ (by rw [← e]; exact e3)
  exact ⟨g, off, e1, Nat.lt_of_lt_of_le e2 hg.size, by rw [World.cell?_of_block (w := w) (hg.block g e2 (fun e => hne (by simpa using e)))]; exact e3⟩

theorem xor_lt (n k : Nat) (hn : n ≤ 3) (hk : k < 2) : (n / 2 ^ k) ^^^ 1 < levLen k := by
  have hk' : k = 0 ∨ k = 1 := by omega
  have hn' : n = 0 ∨ n = 1 ∨ n = 2 ∨ n = 3 := by omega
  rcases hk' with rfl | rfl <;> rcases hn' with rfl | rfl | rfl | rfl <;> decide

theorem sig_nostring {w : World} {b : Nat} {l : Int} {a a' : Option Addr} {m m' c c' : Nat} {t : TypeId} (h : Blk w b [.int .i64 l, .slice a m c, .slice a' m' c'] t) (off : Nat) (x : ByteArray) : w.cell? ⟨b, off, none⟩ ≠ some (.string x) := by
  rw [h.cell off]
  match off with
  | 0 => simp
  | 1 => simp
  | 2 => simp
  | _ + 3 => simp

set_option maxHeartbeats 2000000 in
theorem specSign_calls (seed leaf : Int) (t : List UInt8) (ht : t.length ≤ 1048576) (w : World) :
    Calls Tryd.prog 25 #[.int .i64 seed, .int .i64 leaf, .string ⟨t.toArray⟩] w fun e w' => ∃ v, e = .returned (.tuple #[v, .bool (decide (sOk seed leaf))]) ∧ SigOwn w.heap.size w' v (sLeaf seed leaf) (sEnds seed leaf t) (sWay seed leaf) ∧ Below w.heap.size w w' := by
  by_cases h1 : 0 ≤ leaf ∧ leaf ≤ 3
  · have HIN := hide (fun (wx : World) => inD_calls leaf 0 3 wx)
    simp only [decide_eq_true h1] at HIN
    by_cases h2 : few seed
    · have d2 := decide_eq_true h2
      obtain ⟨n, rfl⟩ := Int.eq_ofNat_of_zero_le h1.1
      have hn3 : n ≤ 3 := by have := h1.2; omega
      have HOK : Hid (decide (sOk seed n) = true ∧ sLeaf seed n = n ∧ sEnds seed n t = endN seed n t 11 ∧ sWay seed n = wayN seed n 2) := by
        have hok : sOk seed n := ⟨h1, h2⟩
        refine ⟨decide_eq_true hok, ?_, ?_, ?_⟩
        · unfold sLeaf; rw [if_pos hok]
        · unfold sEnds; rw [if_pos hok]
        · unfold sWay; rw [if_pos hok]; rfl
      clear h1 h2
      go_enter Tryd.func25, Tryd.ntmps25
      go_wp2_with fail
      refine (HIN.out _).mono ?_
      rintro e w1 ⟨rfl, rfl⟩
      go_wp2_with fail
      refine (few_calls _ _).mono ?_
      rintro e w1 ⟨rfl, rfl⟩
      rw [d2]
      go_wp2_with fail
      have HQ := hide (fun wx => specQuads_calls t (by omega) wx)
      have HQE : Hid (quads t = ints (quadsN t)) := rfl
      have HQL := hide (fun x hx => quadsN_lt t x hx)
      have hq11 := quadsN_length t
      have hbS : Below w.heap.size w ((w.alloc (.cells #[.int .i64 0, .slice none 0 0, .slice none 0 0] 29)).alloc (.cells #[.int .i64 (n : Int), .slice none 0 0, .slice none 0 0] 29)) := ((Below.refl _ _).alloc (Nat.le_refl _) _).alloc (by simp) _
      have hS1 : Blk ((w.alloc (.cells #[.int .i64 0, .slice none 0 0, .slice none 0 0] 29)).alloc (.cells #[.int .i64 (n : Int), .slice none 0 0, .slice none 0 0] 29)) (w.heap.size + 1) [.int .i64 (n : Int), .slice none 0 0, .slice none 0 0] 29 := by
        have := Blk.new (w.alloc (.cells #[.int .i64 0, .slice none 0 0, .slice none 0 0] 29)) #[.int .i64 (n : Int), .slice none 0 0, .slice none 0 0] 29
        simpa using this
      have hR1 : Blk ((w.alloc (.cells #[.int .i64 0, .slice none 0 0, .slice none 0 0] 29)).alloc (.cells #[.int .i64 (n : Int), .slice none 0 0, .slice none 0 0] 29)) w.heap.size [.int .i64 0, .slice none 0 0, .slice none 0 0] 29 :=
        (Blk.new w #[.int .i64 0, .slice none 0 0, .slice none 0 0] 29).below (B := w.heap.size + 1) ((Below.refl _ _).alloc (by simp) _) (by omega)
      have hz1 : ((w.alloc (.cells #[.int .i64 0, .slice none 0 0, .slice none 0 0] 29)).alloc (.cells #[.int .i64 (n : Int), .slice none 0 0, .slice none 0 0] 29)).heap.size = w.heap.size + 2 := by simp
      have HBS := hide hbS
      have HS1 := hide hS1
      have HR1 := hide hR1
      clear hbS hS1 hR1
      generalize (w.alloc (.cells #[.int .i64 0, .slice none 0 0, .slice none 0 0] 29)).alloc (.cells #[.int .i64 (n : Int), .slice none 0 0, .slice none 0 0] 29) = w1 at *
      refine (HQ.out _).mono ?_
      rintro e w2 ⟨vq, rfl, hoq, hb2⟩
      obtain ⟨gq, cq, hvq, hgq1, hgq2, hcq, hqc, -⟩ := own_at hoq (by omega)
      subst hvq
      have hqq : ∀ j, j < 11 → w2.cell? ⟨gq, j, none⟩ = some (.int .i64 ((quadsN t).getD j 0 : Nat)) := by
        intro j hj
        rw [hqc j (by omega), HQE.out]
        simp [cellsI, ints, List.getD_eq_getElem?_getD, show j < (quadsN t).length by omega]
      have HQC := hide hqq
      have HB2 := hide (HBS.out.trans (hb2.mono HBS.out.size))
      have HS2 := hide (HS1.out.below hb2 (by omega))
      have HR2 := hide (HR1.out.below hb2 (by omega))
      clear hb2 hoq hqc hqq HBS HS1 HR1 HQ HQE
      obtain ⟨bR, hbR⟩ : ∃ bR, bR = w.heap.size := ⟨_, rfl⟩
      obtain ⟨bS, hbSe⟩ : ∃ bS, bS = w.heap.size + 1 := ⟨_, rfl⟩
      have hRS : bR ≠ bS := by omega
      have hRw : w.heap.size ≤ bR := by omega
      have hSw : w.heap.size ≤ bS := by omega
      have hRq : bR < w2.heap.size := by omega
      have hSq : bS < w2.heap.size := by omega
      have hgS : gq ≠ bS := by omega
      rw [← hbR] at HR2
      rw [← hbSe] at HS2
      go_wp2_with fail
      rw [← hbSe, ← hbR]
      clear hbR hbSe hz1 hgq1 d2 HIN
      obtain ⟨i0, hi, hz0, hz1, hz2⟩ := info_parts info_str
      go_loopw [10] (fun i wr => ∃ (k : Nat) (vE : Value), k ≤ 11 ∧ i = .int .i64 k ∧ Blk wr bR [.int .i64 0, .slice none 0 0, .slice none 0 0] 29 ∧ Blk wr bS [.int .i64 (n : Int), vE, .slice none 0 0] 29 ∧ wr.ownsRow w2.heap.size 9 1 vE (endN seed n t k).length (cellsS (endN seed n t k)) ∧ (∀ j, j < 11 → wr.cell? ⟨gq, j, none⟩ = some (.int .i64 ((quadsN t).getD j 0 : Nat))) ∧ Below w.heap.size w wr ∧ w2.heap.size ≤ wr.heap.size) (fun i _ => 11 - (intOf i).toNat)
      case atStart => exact ⟨0, _, by omega, rfl, HR2.out, HS2.out, World.ownsRow_nil _ _ _ _, HQC.out, HB2.out, Nat.le_refl _⟩
      case round =>
        clear HR2 HS2 HQC HB2
        obtain ⟨k, vE, hk, rfl, hR, hS, hown, hqc, hb, hz⟩ := hrel
        have HR := hide hR
        have HS := hide hS
        have HO := hide hown
        have HQC := hide hqc
        have HB := hide hb
        clear hR hS hown hqc hb
        by_cases hlt : k < 11
        · have hd : decide ((k : Int) < 11) = true := by simp; omega
          have HN := hide (endN_succ seed n t k)
          have hqk := HQL.out ((quadsN t).getD k 0) (by rw [List.getD_eq_getElem?_getD, List.getElem?_eq_getElem (by omega)]; exact List.getElem_mem _)
          have n1 : ∀ p : Near wr.heap.size wr, p.w.cell? ⟨bS, 1, none⟩ = some vE := fun p => by rw [(HS.out.below p.h HS.out.lt).cell 1]; rfl
          have n2 : ∀ p : Near wr.heap.size wr, p.w.cell? ⟨gq, k, none⟩ = some (.int .i64 ((quadsN t).getD k 0 : Nat)) := fun p => (p.h.cell (p := ⟨gq, k, none⟩) (Nat.lt_of_lt_of_le hgq2 hz)).trans (HQC.out k hlt)
          have HC1 := hide (fun (p : Near wr.heap.size wr) => specSecret_calls seed n k p.w)
          have hsl := secret_length seed n k
          generalize (quadsN t).getD k 0 = q at *
          generalize secret seed n k = sc at *
          have HC2 := hide (fun (p : Near wr.heap.size wr) => specChain_calls sc (by omega) (q : Int) p.w)
          have hcv : chainV sc (q : Int) = chain q sc := by
            unfold chainV
            congr 1
            omega
          simp only [hcv] at HC2
          generalize chain q sc = c at *
          have hnn := Near.some wr.heap.size wr
          have HLE := hide (endN_length seed n t k)
          clear hcv
          go_wp2_with fail
          refine wp_region_open (fun wd => ∃ p : Near wr.heap.size wr, wd = p.w) ⟨⟨_, (Below.refl _ _).drew⟩, rfl⟩ (by kernel_rfl) ?_
          rintro wd ⟨pd, rfl⟩
          refine wpAny_seg_lit 0 1 14 rfl (by decide) (by kernel_rfl) (by kernel_rfl) (fun _ _ _ _ _ h => h) ?_
          simp only [List.take_succ_cons, List.take_zero, List.drop_zero]
          repeat (go_big_quiet_step (fail))
          refine wpQuiet_nil ?_
          refine wpAny_of_K (c := 12) (D := fun w' => ∃ p : Near wr.heap.size wr, w' = p.w) _ _ _ _ ?_
          refine wpAnyK_load 1 (by kernel_rfl) (by kernel_rfl) (by kernel_rfl) (by kernel_rfl) (by kernel_rfl) (by kernel_rfl) (by decide) (fun _ _ _ _ _ h => h) ⟨pd, rfl⟩ ?_
          simp only [List.take_succ_cons, List.take_zero, List.drop_succ_cons, List.drop_zero]
          go_big_quiet_step (fail)
          refine wpQuiet_nil ?_
          refine wpAnyK_cut 2 11 8 (fun w' => ∃ p : Near wr.heap.size wr, w' = p.w) ⟨pd, rfl⟩ 12 _ (fun _ h => h) (by decide) rfl rfl (by kernel_rfl) (by kernel_rfl) (by kernel_rfl) ?_
          simp only [List.take_succ_cons, List.take_zero, List.drop_succ_cons, List.drop_zero]
          repeat (go_big_quiet_step (fail))
          go_big_quiet_step (exact calls_near (Nat.le_refl _) (HC1.out _))
          repeat (go_big_quiet_step (fail))
          go_big_quiet_step (exact calls_near (Nat.le_refl _) (HC2.out _))
          repeat (go_big_quiet_step (fail))
          refine wpQuiet_nil ?_
          rintro wd ⟨pq, rfl⟩
          have hqb := pq.h
          obtain ⟨w3, hq⟩ := pq
          simp only at hqb ⊢
          have HBT := hide hqb
          clear hq hqb n1 n2 hnn HC1 HC2
          refine wpAnyK_value (i := 11) (v := .slice (some ⟨w3.heap.size, 0, none⟩) 1 1) (w' := w3.alloc (.cells #[.string ⟨c.toArray⟩] 9)) (by kernel_rfl) rfl rfl (by simp [execOp, go_sem]) ⟨⟨_, HBT.out.alloc HBT.out.size _⟩, rfl⟩ ?_
          refine wpAnyK_last (by kernel_rfl) (by decide) ?_
          refine wpAny_rest 12 rfl (by kernel_rfl) ?_
          simp only [List.drop_succ_cons, List.drop_zero]
          have HO3 := hide (own_below HO.out HBT.out)
          have hb3 : Below w2.heap.size wr w3 := HBT.out.mono hz
          go_wp2_with (at_builtin; refine wpList_append_one (cs := #[.string ⟨c.toArray⟩]) hb3 hz rfl (.tmp 32) (.tmp 42) 27 rfl 9 i0 (.string ⟨#[]⟩) 1 16 Tryd.underlying27 hi hz0 hz1 hz2 rfl (by decide) rfl (by simp [Value.oneCell']) _ _ _ rfl HO3.out 1 rfl (by have := HLE.out; omega) (by have := HLE.out; omega) ?_)
          intro v' w6 hown6 hb6
          have hown7 := own_snocS hown6
          rw [← HN.out] at hown7
          have hvb : v'.ownBlock ≠ some bS := fun e => by have := (hown7.lt bS e).1; omega
          obtain ⟨g7, c7, hv7, -⟩ := own_at hown7 (by rw [endN_length]; omega)
          generalize (endN seed n t (k + 1)).length = l7 at hv7
          have hS6 := HS.out.below hb6 hSq
          have hc1 : w6.cell? ⟨bS, 1, none⟩ = some vE := by rw [hS6.cell 1]; rfl
          have hf1 := hS6.free 1
          have HS7 := hide (hS6.set 1 v')
          have HR7 := hide ((HR.out.below hb6 hRq).other (p := ⟨bS, 1, none⟩) hRS v')
          have HO7 := hide (ownsRow_setCell_other hown7 (a := ⟨bS, 1, none⟩) hvb v')
          have HQ7 : Hid (∀ j, j < 11 → (w6.setCell ⟨bS, 1, none⟩ v').cell? ⟨gq, j, none⟩ = some (.int .i64 ((quadsN t).getD j 0 : Nat))) := fun j hj => by
            rw [World.cell?_of_block (w := w6) (Below.heap_setCell _ _ _ _ hgS), hb6.cell (p := ⟨gq, j, none⟩) hgq2]
            exact HQC.out j hj
          have HB7 := hide ((HB.out.trans (hb6.mono (Nat.le_trans hSw (Nat.le_of_lt hSq)))).setCell (p := ⟨bS, 1, none⟩) hSw v')
          have hz7 : w2.heap.size ≤ (w6.setCell ⟨bS, 1, none⟩ v').heap.size := Nat.le_trans (Nat.le_trans hz hb6.size) (by simp [World.setCell])
          clear hown6 hown7 hb6 hvb hS6 HR HS HO HB HQC HBT HO3 hb3
          subst hv7
          go_wp2_with fail
          go_roundw
          case rel => exact ⟨k + 1, _, by omega, by go_num, HR7.out, HS7.out, HO7.out, HQ7.out, HB7.out, hz7⟩
          case measure => simp [intOf]; omega
        · have hd : decide ((k : Int) < 11) = false := by simp; omega
          obtain rfl : k = 11 := by omega
          have HLE := hide (endN_length seed n t 11)
          rw [HLE.out] at HO
          obtain ⟨gE, cE, hvE, hgE1, hgE2, hcE, -, -⟩ := own_at HO.out (by omega)
          subst hvE
          clear hd hlt HQC HQL
          go_wp2_with fail
          refine (rows_calls seed _).mono ?_
          rintro e w3 ⟨vr, rfl, ⟨v0, v1, v2, g, cap, rfl, c0, c1, c2, t0, t1, t2⟩, hb3⟩
          have hR3 := HR.out.below hb3 HR.out.lt
          have hS3 := HS.out.below hb3 HS.out.lt
          have hO3 := own_below HO.out hb3
          have hB3 := HB.out.trans (hb3.mono HB.out.size)
          obtain ⟨a0, p0, e0, t0'⟩ := t0
          obtain ⟨a1, p1, e1, t1'⟩ := t1
          have hT0 : TextsAt w3 v0 (lev seed 0) := ⟨a0, p0, e0, t0'⟩
          have hT1 : TextsAt w3 v1 (lev seed 1) := ⟨a1, p1, e1, t1'⟩
          have hgS3 : g ≠ bS := fun e => by
            rw [e, hS3.cell 0, e0] at c0
            simp at c0
          have hg3 : g < w3.heap.size := P1.cell_lt' c0
          have HR3 := hide hR3
          have HS3 := hide hS3
          have HO3 := hide hO3
          have HB3 := hide hB3
          have HT0 := hide hT0
          have HT1 := hide hT1
          have HC0 := hide c0
          have HC1 := hide c1
          have hz3 : w2.heap.size ≤ w3.heap.size := Nat.le_trans hz hb3.size
          have hS3l : bS < w3.heap.size := by omega
          have hR3l : bR < w3.heap.size := by omega
          have hEl : gE < w3.heap.size := Nat.lt_of_lt_of_le hgE2 hb3.size
          clear hR3 hS3 hO3 hB3 hT0 hT1 c0 c1 c2 t2 e0 e1 t0' t1' hb3 HR HS HO HB
          go_wp2_with fail
          go_loopw [12, 13] (fun at_ i wz => ∃ (k : Nat) (vW : Value), k ≤ 2 ∧ i = .int .i64 k ∧ at_ = .int .i64 ((n / 2 ^ k : Nat) : Int) ∧ (∃ aW mW pW, vW = .slice aW mW pW) ∧ Blk wz bR [.int .i64 0, .slice none 0 0, .slice none 0 0] 29 ∧ Blk wz bS [.int .i64 (n : Int), .slice (some ⟨gE, 0, none⟩) 11 cE, vW] 29 ∧ wz.ownsRow w3.heap.size 9 1 vW (wayN seed n k).length (cellsS (wayN seed n k)) ∧ w3.grownBy wz (some bS) ∧ Below w.heap.size w wz) (fun _ i _ => 2 - (intOf i).toNat)
          case atStart => exact ⟨0, _, by omega, rfl, by simp, ⟨_, _, _, rfl⟩, HR3.out, HS3.out, World.ownsRow_nil _ _ _ _, World.grownBy.refl _ _, HB3.out⟩
          case round =>
            clear HB3
            obtain ⟨k, vW, hk, rfl, rfl, ⟨aW, mW, pW, rfl⟩, hR, hS, hown, hgr, hb⟩ := hrel
            have hzz : w3.heap.size ≤ wr.heap.size := hgr.size
            have HNS := hide (sig_nostring HS3.out)
            have HS := hide hS
            have HR := hide hR
            have HO := hide hown
            have HGR := hide hgr
            have HB := hide hb
            by_cases hlt : k < 2
            · have hd : decide ((k : Int) + 1 < 3) = true := by simp; omega
              obtain ⟨vk, hck, hTk⟩ : ∃ vk, wr.cell? ⟨g, k, none⟩ = some vk ∧ TextsAt wr vk (lev seed k) := by
                have hk' : k = 0 ∨ k = 1 := by omega
                rcases hk' with rfl | rfl
                · exact ⟨v0, hgr.cell HC0.out (fun e => hgS3 (by simpa using e)), TextsAt.grownB HT0.out hgr HNS.out⟩
                · exact ⟨v1, hgr.cell HC1.out (fun e => hgS3 (by simpa using e)), TextsAt.grownB HT1.out hgr HNS.out⟩
              have hle := lev_length seed k (by omega)
              have hxl := xor_lt n k hn3 hlt
              have hm3 : n / 2 ^ k ≤ 3 := Nat.le_trans (Nat.div_le_self _ _) hn3
              have hxo := xor1 (n / 2 ^ k) hm3
              have HN := hide (wayN_succ seed n k)
              have HLE2 := hide (wayN_length seed n k)
              have HDV : Hid (n / 2 ^ (k + 1) = n / 2 ^ k / 2) := by show _ = _; rw [Nat.pow_succ, Nat.div_div_eq_div_mul]
              obtain ⟨idx, hidx⟩ : ∃ idx, idx = (n / 2 ^ k) ^^^ 1 := ⟨_, rfl⟩
              rw [← hidx] at hxl hxo HN
              have hgd : (lev seed k).getD idx [] = (lev seed k)[idx]'(by omega) := by simp [List.getD_eq_getElem?_getD, show idx < (lev seed k).length by omega]
              rw [hgd] at HN
              obtain ⟨ak, pk, hvk, htk⟩ := hTk
              obtain ⟨gk, ok, hak, hgkl, hkc⟩ := htk idx (by omega)
              subst hak hvk
              rw [hle] at hck
              generalize (lev seed k)[idx] = c at *
              generalize n / 2 ^ k = m at *
              have hgl : g < wr.heap.size := Nat.lt_of_lt_of_le hg3 hzz
              have n1 : ∀ p : Near wr.heap.size wr, p.w.cell? ⟨bS, 2, none⟩ = some (.slice aW mW pW) := fun p => by rw [(HS.out.below p.h HS.out.lt).cell 2]; rfl
              have n2 : ∀ p : Near wr.heap.size wr, p.w.cell? ⟨g, k, none⟩ = some (.slice (some ⟨gk, ok, none⟩) (levLen k) pk) := fun p => (p.h.cell (p := ⟨g, k, none⟩) hgl).trans hck
              have n3 : ∀ p : Near wr.heap.size wr, p.w.cell? ⟨gk, ok + idx, none⟩ = some (.string ⟨c.toArray⟩) := fun p => (p.h.cell (p := ⟨gk, ok + idx, none⟩) hgkl).trans hkc
              have hnn := Near.some wr.heap.size wr
              have hll : levLen k ≤ 4 := by
                have hk' : k = 0 ∨ k = 1 := by omega
                rcases hk' with rfl | rfl <;> decide
              clear hgd hidx htk hkc hck hgr hR hS hown hb HNS hle
              go_wp2_with fail
              refine wp_region_open (fun wd => ∃ p : Near wr.heap.size wr, wd = p.w) ⟨⟨_, (Below.refl _ _).drew⟩, rfl⟩ (by kernel_rfl) ?_
              rintro wd ⟨pd, rfl⟩
              refine wpAny_seg_lit 0 1 13 rfl (by decide) (by kernel_rfl) (by kernel_rfl) (fun _ _ _ _ _ h => h) ?_
              simp only [List.take_succ_cons, List.take_zero, List.drop_zero]
              repeat (go_big_quiet_step (fail))
              refine wpQuiet_nil ?_
              refine wpAny_of_K (c := 11) (D := fun w' => ∃ p : Near wr.heap.size wr, w' = p.w) _ _ _ _ ?_
              refine wpAnyK_load 1 (by kernel_rfl) (by kernel_rfl) (by kernel_rfl) (by kernel_rfl) (by kernel_rfl) (by kernel_rfl) (by decide) (fun _ _ _ _ _ h => h) ⟨pd, rfl⟩ ?_
              simp only [List.take_succ_cons, List.take_zero, List.drop_succ_cons, List.drop_zero]
              go_big_quiet_step (fail)
              refine wpQuiet_nil ?_
              refine wpAnyK_cut 2 10 8 (fun w' => ∃ p : Near wr.heap.size wr, w' = p.w) ⟨pd, rfl⟩ 11 _ (fun _ h => h) (by decide) rfl rfl (by kernel_rfl) (by kernel_rfl) (by kernel_rfl) ?_
              simp only [List.take_succ_cons, List.take_zero, List.drop_succ_cons, List.drop_zero]
              repeat (go_big_quiet_step (fail))
              refine wpQuiet_nil ?_
              rintro wd ⟨pq, rfl⟩
              have hqb := pq.h
              obtain ⟨w5, hq⟩ := pq
              simp only at hqb ⊢
              have HBT := hide hqb
              clear hq hqb n1 n2 n3 hnn
              refine wpAnyK_value (i := 10) (v := .slice (some ⟨w5.heap.size, 0, none⟩) 1 1) (w' := w5.alloc (.cells #[.string ⟨c.toArray⟩] 9)) (by kernel_rfl) rfl rfl (by simp [execOp, go_sem]) ⟨⟨_, HBT.out.alloc HBT.out.size _⟩, rfl⟩ ?_
              refine wpAnyK_last (by kernel_rfl) (by decide) ?_
              refine wpAny_rest 11 rfl (by kernel_rfl) ?_
              simp only [List.drop_succ_cons, List.drop_zero]
              have HO5 := hide (own_below HO.out HBT.out)
              have hb5 : Below w3.heap.size wr w5 := HBT.out.mono hzz
              go_wp2_with (at_builtin; refine wpList_append_one (cs := #[.string ⟨c.toArray⟩]) hb5 hzz rfl (.tmp 56) (.tmp 65) 27 rfl 9 i0 (.string ⟨#[]⟩) 1 16 Tryd.underlying27 hi hz0 hz1 hz2 rfl (by decide) rfl (by simp [Value.oneCell']) _ _ _ rfl HO5.out 1 rfl (by have := HLE2.out; omega) (by have := HLE2.out; omega) ?_)
              intro v' w6 hown6 hb6
              have hown7 := own_snocS hown6
              rw [← HN.out] at hown7
              have hvb : v'.ownBlock ≠ some bS := fun e => by have := (hown7.lt bS e).1; omega
              obtain ⟨g7, c7, hv7, -⟩ := own_at hown7 (by rw [wayN_length]; omega)
              generalize (wayN seed n (k + 1)).length = l7 at hv7
              have hS6 := HS.out.below hb6 hS3l
              have hc1 : w6.cell? ⟨bS, 2, none⟩ = some (.slice aW mW pW) := by rw [hS6.cell 2]; rfl
              have hf1 := hS6.free 2
              have HS7 := hide (hS6.set 2 v')
              have HR7 := hide ((HR.out.below hb6 hR3l).other (p := ⟨bS, 2, none⟩) hRS v')
              have HO7 := hide (ownsRow_setCell_other hown7 (a := ⟨bS, 2, none⟩) hvb v')
              have HB7 := hide ((HB.out.trans (hb6.mono (Nat.le_trans hSw (Nat.le_of_lt hS3l)))).setCell (p := ⟨bS, 2, none⟩) hSw v')
              have hgr6 : w3.grownBy (w6.setCell ⟨bS, 2, none⟩ v') (some bS) := by
                refine ⟨hb6.os.trans HGR.out.os, hb6.tape.trans HGR.out.tape, hb6.output.trans HGR.out.output, ?_, fun i hi hne => ?_⟩
                · exact Nat.le_trans (Nat.le_trans hzz hb6.size) (by simp [World.setCell])
                · rw [Below.heap_setCell _ _ _ _ (fun e => hne (by rw [e])), hb6.block i hi]
                  exact HGR.out.block i hi hne
              have HG7 := hide hgr6
              clear hown6 hown7 hb6 hvb hS6 HR HS HO HB HBT HO5 hb5 HGR hgr6
              subst hv7
              go_wp2_with fail
              go_roundw
              case rel => exact ⟨k + 1, _, by omega, by go_num, by rw [HDV.out]; go_num, ⟨_, _, _, rfl⟩, HR7.out, HS7.out, HO7.out, HG7.out, HB7.out⟩
              case measure => simp [intOf]; omega
            · have hd : decide ((k : Int) + 1 < 3) = false := by simp; omega
              obtain rfl : k = 2 := by omega
              have s0 : wr.cell? ⟨bS, 0, none⟩ = some (.int .i64 (n : Int)) := by rw [hS.cell 0]; rfl
              have s1 : wr.cell? ⟨bS, 1, none⟩ = some (.slice (some ⟨gE, 0, none⟩) 11 cE) := by rw [hS.cell 1]; rfl
              have s2 : wr.cell? ⟨bS, 2, none⟩ = some (.slice aW mW pW) := by rw [hS.cell 2]; rfl
              have r0 : wr.cell? ⟨bR, 0, none⟩ = some (.int .i64 0) := by rw [hR.cell 0]; rfl
              have r1 : wr.cell? ⟨bR, 1, none⟩ = some (.slice none 0 0) := by rw [hR.cell 1]; rfl
              have r2 : wr.cell? ⟨bR, 2, none⟩ = some (.slice none 0 0) := by rw [hR.cell 2]; rfl
              have f0 := hR.free 0
              have f1 := hR.free 1
              have f2 := hR.free 2
              have HOE := hide (HO3.out.kept hgr (.inr (fun e => by have h := (HO3.out.lt bS e).1; omega)))
              clear hR hS hown hgr hb HNS
              go_wp2_with fail
              have hRF := ((HR.out.set 0 (.int .i64 (n : Int))).set 1 (.slice (some ⟨gE, 0, none⟩) 11 cE)).set 2 (.slice aW mW pW)
              have hOE := ownsRow_setCell_other (ownsRow_setCell_other (ownsRow_setCell_other HOE.out (a := ⟨bR, 0, none⟩) (fun e => by have := (HOE.out.lt bR e).1; omega) (.int .i64 (n : Int))) (a := ⟨bR, 1, none⟩) (fun e => by have := (HOE.out.lt bR e).1; omega) (.slice (some ⟨gE, 0, none⟩) 11 cE)) (a := ⟨bR, 2, none⟩) (fun e => by have := (HOE.out.lt bR e).1; omega) (.slice aW mW pW)
              have hOW := ownsRow_setCell_other (ownsRow_setCell_other (ownsRow_setCell_other HO.out (a := ⟨bR, 0, none⟩) (fun e => by have := (HO.out.lt bR e).1; omega) (.int .i64 (n : Int))) (a := ⟨bR, 1, none⟩) (fun e => by have := (HO.out.lt bR e).1; omega) (.slice (some ⟨gE, 0, none⟩) 11 cE)) (a := ⟨bR, 2, none⟩) (fun e => by have := (HO.out.lt bR e).1; omega) (.slice aW mW pW)
              have hBF := ((HB.out.setCell (p := ⟨bR, 0, none⟩) hRw (.int .i64 (n : Int))).setCell (p := ⟨bR, 1, none⟩) hRw (.slice (some ⟨gE, 0, none⟩) 11 cE)).setCell (p := ⟨bR, 2, none⟩) hRw (.slice aW mW pW)
              have hap : (Value.slice (some ⟨gE, 0, none⟩) 11 cE).ownBlock ≠ (Value.slice aW mW pW).ownBlock := fun e => by
                have := (HO.out.lt gE (e.symm.trans rfl)).1
                omega
              clear s0 s1 s2 r0 r1 r2 f0 f1 f2 HOE HO HB HR HS HGR
              generalize ((wr.setCell ⟨bR, 0, none⟩ (.int .i64 (n : Int))).setCell ⟨bR, 1, none⟩ (.slice (some ⟨gE, 0, none⟩) 11 cE)).setCell ⟨bR, 2, none⟩ (.slice aW mW pW) = wF at *
              have x0 : wF.cell? ⟨bR, 0, none⟩ = some (.int .i64 (n : Int)) := by rw [hRF.cell 0]; rfl
              have x1 : wF.cell? ⟨bR, 1, none⟩ = some (.slice (some ⟨gE, 0, none⟩) 11 cE) := by rw [hRF.cell 1]; rfl
              have x2 : wF.cell? ⟨bR, 2, none⟩ = some (.slice aW mW pW) := by rw [hRF.cell 2]; rfl
              refine bodyPost_ret (v := .tuple #[.agg #[.int .i64 (n : Int), .slice (some ⟨gE, 0, none⟩) 11 cE, .slice aW mW pW], .bool true]) (by simp [results, Tryd.results25, go_sem, x0, x1, x2]) rfl ?_
              obtain ⟨k1, k2, k3, k4⟩ := HOK.out
              rw [k1, k2, k3, k4]
              exact ⟨_, rfl, ⟨_, _, rfl, by rw [endN_length]; exact own_mono hOE (by omega), by rw [wayN_length] at hOW ⊢; exact own_mono hOW (by omega), .inr hap⟩, hBF⟩
    · have d2 := decide_eq_false h2
      have HOK : Hid (decide (sOk seed leaf) = false ∧ sLeaf seed leaf = 0 ∧ sEnds seed leaf t = [] ∧ sWay seed leaf = []) := by
        have hok : ¬ sOk seed leaf := fun h => h2 h.2
        refine ⟨decide_eq_false hok, ?_, ?_, ?_⟩
        · unfold sLeaf; rw [if_neg hok]
        · unfold sEnds; rw [if_neg hok]
        · unfold sWay; rw [if_neg hok]
      clear h1 h2
      go_enter Tryd.func25, Tryd.ntmps25
      go_wp2_with fail
      refine (HIN.out _).mono ?_
      rintro e w1 ⟨rfl, rfl⟩
      go_wp2_with fail
      refine (few_calls _ _).mono ?_
      rintro e w1 ⟨rfl, rfl⟩
      rw [d2]
      go_wp2_with fail
      have hRF := Blk.new w #[.int .i64 0, .slice none 0 0, .slice none 0 0] 29
      have hBF : Below w.heap.size w (w.alloc (.cells #[.int .i64 0, .slice none 0 0, .slice none 0 0] 29)) := (Below.refl _ _).alloc (Nat.le_refl _) _
      generalize w.alloc (.cells #[.int .i64 0, .slice none 0 0, .slice none 0 0] 29) = wF at *
      have x0 : wF.cell? ⟨w.heap.size, 0, none⟩ = some (.int .i64 0) := by rw [hRF.cell 0]; rfl
      have x1 : wF.cell? ⟨w.heap.size, 1, none⟩ = some (.slice none 0 0) := by rw [hRF.cell 1]; rfl
      have x2 : wF.cell? ⟨w.heap.size, 2, none⟩ = some (.slice none 0 0) := by rw [hRF.cell 2]; rfl
      refine bodyPost_ret (v := .tuple #[.agg #[.int .i64 0, .slice none 0 0, .slice none 0 0], .bool false]) (by simp [results, Tryd.results25, go_sem, x0, x1, x2]) rfl ?_
      obtain ⟨k1, k2, k3, k4⟩ := HOK.out
      rw [k1, k2, k3, k4]
      exact ⟨_, rfl, ⟨_, _, rfl, World.ownsRow_nil _ _ _ _, World.ownsRow_nil _ _ _ _, .inl rfl⟩, hBF⟩
  · have HIN := hide (fun (wx : World) => inD_calls leaf 0 3 wx)
    simp only [decide_eq_false h1] at HIN
    have HOK : Hid (decide (sOk seed leaf) = false ∧ sLeaf seed leaf = 0 ∧ sEnds seed leaf t = [] ∧ sWay seed leaf = []) := by
      have hok : ¬ sOk seed leaf := fun h => h1 h.1
      refine ⟨decide_eq_false hok, ?_, ?_, ?_⟩
      · unfold sLeaf; rw [if_neg hok]
      · unfold sEnds; rw [if_neg hok]
      · unfold sWay; rw [if_neg hok]
    clear h1
    go_enter Tryd.func25, Tryd.ntmps25
    go_wp2_with fail
    refine (HIN.out _).mono ?_
    rintro e w1 ⟨rfl, rfl⟩
    go_wp2_with fail
    have hRF := Blk.new w #[.int .i64 0, .slice none 0 0, .slice none 0 0] 29
    have hBF : Below w.heap.size w (w.alloc (.cells #[.int .i64 0, .slice none 0 0, .slice none 0 0] 29)) := (Below.refl _ _).alloc (Nat.le_refl _) _
    generalize w.alloc (.cells #[.int .i64 0, .slice none 0 0, .slice none 0 0] 29) = wF at *
    have x0 : wF.cell? ⟨w.heap.size, 0, none⟩ = some (.int .i64 0) := by rw [hRF.cell 0]; rfl
    have x1 : wF.cell? ⟨w.heap.size, 1, none⟩ = some (.slice none 0 0) := by rw [hRF.cell 1]; rfl
    have x2 : wF.cell? ⟨w.heap.size, 2, none⟩ = some (.slice none 0 0) := by rw [hRF.cell 2]; rfl
    refine bodyPost_ret (v := .tuple #[.agg #[.int .i64 0, .slice none 0 0, .slice none 0 0], .bool false]) (by simp [results, Tryd.results25, go_sem, x0, x1, x2]) rfl ?_
    obtain ⟨k1, k2, k3, k4⟩ := HOK.out
    rw [k1, k2, k3, k4]
    exact ⟨_, rfl, ⟨_, _, rfl, World.ownsRow_nil _ _ _ _, World.ownsRow_nil _ _ _ _, .inl rfl⟩, hBF⟩
end Go.Proofs.YtmjpdccfdaajmaaDoor.P4
