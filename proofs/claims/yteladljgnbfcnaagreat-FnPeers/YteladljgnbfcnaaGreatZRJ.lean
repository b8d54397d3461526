/- Two lists of items merged, as plain mathematics; no condition.
The specification's l12One; condition: at most 2^20 items.
The specification's Merged; condition: at most 2^20 items each.
The specification's ShelfOf; condition: lists of at most 2^20.
The specification's HoldersOf; condition: at most 2^20 peers, each with at most 2^20 behind it. -/
import Derived.Test.YteladljgnbfcnaaGreatZRB
import Derived.Test.YteladljgnbfcnaaGreatZRG
import Derived.Test.YteladljgnbfcnaaGreatZRI
import Derived.Test.YteladljgnbfcnaaGreatZRD
import Derived.Test.YteladljgnbfcnaaGreatZRC
import Derived.Deep.CutRange
import Derived.Laws.Cover1
namespace Go.Proofs.YteladljgnbfcnaaGreat.P9
open Go.RowKit P1 Da

/-- One more item of the list that x is put into; whether x is in already. -/
def oneStep (x : It) (s : List It × Bool) (y : It) : List It × Bool :=
  if y.t = x.t then (s.1 ++ [⟨y.t, y.gone || x.gone⟩], true)
  else if s.2 = false ∧ Op.bytesLess x.t y.t = true then (s.1 ++ [x] ++ [y], true)
  else (s.1 ++ [y], s.2)

def oneAll (x : It) (l : List It) : List It × Bool := l.foldl (oneStep x) ([], false)

def one (l : List It) (x : It) : List It := if (oneAll x l).2 then (oneAll x l).1 else (oneAll x l).1 ++ [x]

theorem oneAll_snoc (x : It) (l : List It) (y : It) : oneAll x (l ++ [y]) = oneStep x (oneAll x l) y := by simp [oneAll]

theorem oneStep_length (x : It) (s : List It × Bool) (y : It) (n : Nat) (h : s.1.length ≤ n + (if s.2 then 1 else 0)) : (oneStep x s y).1.length ≤ n + 1 + (if (oneStep x s y).2 then 1 else 0) := by
  unfold oneStep
  split
  · simp only [List.length_append, List.length_singleton, if_true]
    split at h <;> omega
  · split
    · rename_i h2
      rw [h2.1] at h
      simp only [List.length_append, List.length_singleton, if_true]
      simp at h
      omega
    · simp only [List.length_append, List.length_singleton]
      split at h <;> simp_all <;> omega

theorem oneAll_length (x : It) (l : List It) : (oneAll x l).1.length ≤ l.length + (if (oneAll x l).2 then 1 else 0) := by
  have : ∀ n (l : List It), l.length = n → (oneAll x l).1.length ≤ l.length + (if (oneAll x l).2 then 1 else 0) := by
    intro n
    induction n with
    | zero =>
      intro l hl
      have : l = [] := List.eq_nil_of_length_eq_zero hl
      subst this
      simp [oneAll]
    | succ n ih =>
      intro l hl
      have hne : l ≠ [] := by intro e; rw [e] at hl; simp at hl
      rw [← List.dropLast_concat_getLast hne] at hl ⊢
      have h1 := ih l.dropLast (by simpa using hl)
      rw [oneAll_snoc]
      have h2 := oneStep_length x (oneAll x l.dropLast) (l.getLast hne) _ h1
      rw [List.length_append, List.length_singleton]
      exact h2
  exact this _ l rfl

theorem one_length (l : List It) (x : It) : (one l x).length ≤ l.length + 1 := by
  unfold one
  have := oneAll_length x l
  split
  · rename_i h
    rw [h] at this
    simpa using this
  · rename_i h
    have h' : (oneAll x l).2 = false := by simpa using h
    rw [h'] at this
    simp at this
    simp only [List.length_append, List.length_singleton]
    omega

def merged (a b : List It) : List It := b.foldl one (a.foldl one [])

theorem fold_one_length (l : List It) : ∀ acc : List It, (l.foldl one acc).length ≤ acc.length + l.length := by
  induction l with
  | nil => intro acc; simp
  | cons x l ih =>
    intro acc
    have h1 := ih (one acc x)
    have h2 := one_length acc x
    simp only [List.foldl_cons, List.length_cons]
    omega

theorem merged_length (a b : List It) : (merged a b).length ≤ a.length + b.length := by
  unfold merged
  have h1 := fold_one_length a []
  have h2 := fold_one_length b (a.foldl one [])
  simp at h1
  omega
end Go.Proofs.YteladljgnbfcnaaGreat.P9
namespace Go.Proofs.YteladljgnbfcnaaGreat.P9
set_option maxRecDepth 8000
open Go.RowKit P1 P8 Da Ap Rc Rr

abbrev itV2 (x : It) : Value := .agg #[.string ⟨x.t.toArray⟩, .bool x.gone]

theorem oneAll_take {x : It} {l : List It} {k : Nat} (hk : k < l.length) : oneAll x (l.take (k + 1)) = oneStep x (oneAll x (l.take k)) l[k] := by
  rw [List.take_succ_eq_append_getElem hk, oneAll_snoc]

theorem step_same_t {x : It} {M : List It} {b : Bool} {y : It} (h : y.t = x.t) : oneStep x (M, b) y = (M ++ [⟨y.t, y.gone || x.gone⟩], true) := by
  unfold oneStep
  rw [if_pos h]

theorem step_less {x : It} {M : List It} {y : It} (h : y.t ≠ x.t) (hl : Op.bytesLess x.t y.t = true) : oneStep x (M, false) y = (M ++ [x] ++ [y], true) := by
  unfold oneStep
  rw [if_neg h, if_pos ⟨rfl, hl⟩]

theorem step_else {x : It} {M : List It} {b : Bool} {y : It} (h : y.t ≠ x.t) (hl : b = true ∨ Op.bytesLess x.t y.t = false) : oneStep x (M, b) y = (M ++ [y], b) := by
  unfold oneStep
  rw [if_neg h, if_neg (by
    rintro ⟨h1, h2⟩
    simp only at h1
    rcases hl with hl | hl
    · rw [h1] at hl; cases hl
    · rw [h2] at hl; cases hl)]

theorem own_itm {w : World} {B : Nat} {v : Value} {M : List It} {y : It} (h : w.ownsRow B 86 2 v (M.length + 1) (cellsT M ++ [.string ⟨y.t.toArray⟩, .bool y.gone])) : w.ownsRow B 86 2 v (M ++ [y]).length (cellsT (M ++ [y])) := by
  have e1 : cellsT (M ++ [y]) = cellsT M ++ [.string ⟨y.t.toArray⟩, .bool y.gone] := by rw [← cellsT_append]; rfl
  rw [e1, List.length_append, List.length_singleton]
  exact h

set_option maxHeartbeats 4000000 in
theorem one_calls (w : World) (v : Value) (l : List It) (x : It) (hv : ItemsAt w v l) (hl : l.length ≤ 2097152) :
    Calls Tryz.prog 110 #[v, itV2 x] w fun e w' => ∃ v', e = .returned v' ∧ w'.ownsRow w.heap.size 86 2 v' (one l x).length (cellsT (one l x)) ∧ Below w.heap.size w w' := by
  obtain ⟨it, ht0, ht1, ht2, ht3⟩ := info_parts info_item
  have HONE : Hid (one l x = if (oneAll x l).2 then (oneAll x l).1 else (oneAll x l).1 ++ [x]) := rfl
  generalize one l x = R at *
  have hb1 := (Below.refl w.heap.size w).alloc (Nat.le_refl _) (.cells #[.string ⟨x.t.toArray⟩, .bool x.gone] 86)
  have HV := hide hv
  obtain ⟨a, cap, rfl, -⟩ := hv.open_
  have G := Blk.new w #[.string ⟨x.t.toArray⟩, .bool x.gone] 86
  have HB := hide hb1
  clear hv hb1
  go_enter Tryz.func110, Tryz.ntmps110
  go_upto_region 1 with fail
  obtain ⟨b0, e0⟩ : ∃ b, b = w.heap.size := ⟨_, rfl⟩
  rw [← e0] at G ⊢
  have HW0 := hide e0
  clear e0
  generalize w.alloc (.cells #[.string ⟨x.t.toArray⟩, .bool x.gone] 86) = w1 at *
  have HS0 := hide (items_lit0 w1)
  have HB0 := hide ((Below.refl w1.heap.size w1).alloc (Nat.le_refl _) (.cells #[] 86))
  have HG := hide G
  clear G
  go_upto_region 3 with fail
  obtain ⟨B, eB⟩ : ∃ B, B = w1.heap.size := ⟨_, rfl⟩
  rw [← eB] at HS0 HB0 ⊢
  have HBw := hide eB
  clear eB
  generalize w1.alloc (.cells #[] 86) = w2 at *
  have hO := fun k (hk : k ≤ l.length) => oneAll_length x (l.take k)
  obtain ⟨O, HO0, HOs, HOl, HOe⟩ : ∃ O : Nat → List It × Bool, Hid (O 0 = ([], false)) ∧ Hid (∀ k (hk : k < l.length), O (k + 1) = oneStep x (O k) l[k]) ∧ Hid (∀ k, k ≤ l.length → (O k).1.length ≤ 2097153) ∧ Hid (O l.length = oneAll x l) := by
    refine ⟨fun k => oneAll x (l.take k), rfl, fun k hk => oneAll_take hk, fun k hk => ?_, ?_⟩
    · have h1 := hO k hk
      rw [List.length_take] at h1
      show (oneAll x (l.take k)).1.length ≤ _
      split at h1 <;> omega
    · show oneAll x (l.take l.length) = _
      rw [List.take_length]
  clear hO
  go_wp2_with fail
  go_loopw [5, 6, 7] (fun ov pv i wr => ∃ k : Nat, k ≤ l.length ∧ i = .int .i64 k ∧ pv = .bool (O k).2 ∧ Hid (wr.ownsRow B 86 2 ov (O k).1.length (cellsT (O k).1)) ∧ Hid (Below B w1 wr)) (fun _ _ i _ => l.length - (intOf i).toNat)
  case atStart => exact ⟨0, Nat.zero_le _, rfl, by rw [HO0.out], by show World.ownsRow _ _ _ _ _ _ _; rw [HO0.out]; exact HS0.out, HB0.out⟩
  case round =>
    clear HS0 HB0
    obtain ⟨k, hk, rfl, rfl, HO, HBr⟩ := hrel
    have hBr : B ≤ wr.heap.size := by have := HBr.out.size; have := HBw.out; omega
    by_cases hlt : k < l.length
    · have HVr := HV.out.below (HB.out.trans (HBr.out.mono (by have := HBw.out; have := HB.out.size; omega))) (Nat.le_refl _)
      obtain ⟨a2, c2, hsh, HA⟩ := HVr.open_
      cases hsh
      obtain ⟨g, off, rfl, hg, f0, f1⟩ := HA k hlt
      have hs := HOs.out k hlt
      have hlen := HOl.out k hk
      obtain ⟨ao, co, hsh⟩ := own_sh HO.out
      subst hsh
      clear HA HVr
      generalize l[k] = y at *
      obtain ⟨M, put, eO⟩ : ∃ M put, O k = (M, put) := ⟨_, _, rfl⟩
      rw [eO] at HO hs hlen ⊢
      dsimp only at HO hs hlen ⊢
      clear eO
      obtain ⟨yt, yg⟩ := y
      dsimp only at f0 f1
      have HGr := HG.out.below HBr.out (by have := HBw.out; have := HG.out.lt; omega)
      have HGx := hide HGr
      have x0 := blk_free_cell HGr 0 rfl
      have x1 := blk_free_cell HGr 1 rfl
      have xl := HGr.lt
      have hba := (Below.refl wr.heap.size wr).alloc (Nat.le_refl _) (.cells #[.string ⟨yt.toArray⟩, .bool yg] 86)
      have S := Blk.new wr #[.string ⟨yt.toArray⟩, .bool yg] 86
      have HOa := hide (own_below HO.out hba)
      have HBa := hide (HBr.out.trans (hba.mono hBr))
      have HGa := hide (HGr.below hba HGr.lt)
      clear HGr
      go_upto_region 7 with fail
      obtain ⟨bs, ebs⟩ : ∃ b, b = wr.heap.size := ⟨_, rfl⟩
      rw [← ebs] at S ⊢
      have hbs : B ≤ bs := by omega
      have hob : ∀ q, (Value.slice ao M.length co).ownBlock = some q → q < bs := fun q hq => by have := (HO.out.lt q hq).2; omega
      clear ebs hba f0 f1 hg x0 x1 xl HGx HO HBr
      generalize wr.alloc (.cells #[.string ⟨yt.toArray⟩, .bool yg] 86) = wa at *
      have s0 := blk_free_cell S 0 rfl
      have s1 := blk_free_cell S 1 rfl
      have sf := S.free 1
      have sl := S.lt
      have x0 := blk_free_cell HGa.out 0 rfl
      have x1 := blk_free_cell HGa.out 1 rfl
      have xl := HGa.out.lt
      have hbB : b0 ≠ bs := by have := HBw.out; have := HG.out.lt; omega
      by_cases hyx : yt = x.t
      · have hbe : (yt == x.t) = true := by simpa using hyx
        have HN : Hid (O (k + 1) = (M ++ [⟨yt, yg || x.gone⟩], true)) := by show _ = _; rw [hs]; exact step_same_t hyx
        clear hs hyx
        cases hyg : yg with
        | true =>
          rw [hyg] at s1 S HN
          rw [Bool.true_or] at HN
          clear hyg
          have S2 := S.set 1 (.bool true)
          simp only [List.set_cons_succ, List.set_cons_zero] at S2
          have q0 := blk_free_cell S2 0 rfl
          have q1 := blk_free_cell S2 1 rfl
          have ql := S2.lt
          have HOq := hide (ownsRow_setCell_other HOa.out (a := ⟨bs, 1, none⟩) (fun e => by have := hob bs e; omega) (.bool true))
          have HBq := hide (HBa.out.setCell (p := ⟨bs, 1, none⟩) hbs (.bool true))
          go_upto_region 13 with fail
          clear s0 s1 sf sl x0 x1 xl S S2 HOa HBa HGa hbe
          generalize wa.setCell ⟨bs, 1, none⟩ (.bool true) = wq at *
          have hBq : B ≤ wq.heap.size := by have := HBq.out.size; have := HBw.out; omega
          go_wp2_with (at_builtin; refine wpList_append_one (cs := #[.string ⟨yt.toArray⟩, .bool true]) (Below.refl B wq) hBq rfl (.tmp 45) (.tmp 47) 70 rfl 86 it (.agg #[.string ByteArray.empty, .bool false]) 2 24 Tryz.underlying70 ht0 ht1 ht2 ht3 rfl (by decide) rfl (by simp [Value.oneCell']) _ _ _ rfl HOq.out 1 rfl (by omega) (by omega) ?_)
          intro v6 w6 hown hb
          have HX6 := hide (own_itm (y := ⟨yt, true⟩) hown)
          have HB6 := hide (HBq.out.trans hb)
          clear hown hb
          go_wp2
          go_roundw
          case rel => exact ⟨k + 1, by omega, by go_num, by rw [HN.out], by show World.ownsRow _ _ _ _ _ _ _; rw [HN.out]; exact HX6.out, HB6.out⟩
          case measure => simp [intOf]; omega
        | false =>
          rw [hyg] at s1 S HN
          rw [Bool.false_or] at HN
          clear hyg
          generalize x.gone = xg at *
          have S2 := S.set 1 (.bool xg)
          simp only [List.set_cons_succ, List.set_cons_zero] at S2
          have q0 := blk_free_cell S2 0 rfl
          have q1 := blk_free_cell S2 1 rfl
          have ql := S2.lt
          have HOq := hide (ownsRow_setCell_other HOa.out (a := ⟨bs, 1, none⟩) (fun e => by have := hob bs e; omega) (.bool xg))
          have HBq := hide (HBa.out.setCell (p := ⟨bs, 1, none⟩) hbs (.bool xg))
          go_upto_region 13 with fail
          clear s0 s1 sf sl x0 x1 xl S S2 HOa HBa HGa hbe
          generalize wa.setCell ⟨bs, 1, none⟩ (.bool xg) = wq at *
          have hBq : B ≤ wq.heap.size := by have := HBq.out.size; have := HBw.out; omega
          go_wp2_with (at_builtin; refine wpList_append_one (cs := #[.string ⟨yt.toArray⟩, .bool xg]) (Below.refl B wq) hBq rfl (.tmp 45) (.tmp 47) 70 rfl 86 it (.agg #[.string ByteArray.empty, .bool false]) 2 24 Tryz.underlying70 ht0 ht1 ht2 ht3 rfl (by decide) rfl (by simp [Value.oneCell']) _ _ _ rfl HOq.out 1 rfl (by omega) (by omega) ?_)
          intro v6 w6 hown hb
          have HX6 := hide (own_itm (y := ⟨yt, xg⟩) hown)
          have HB6 := hide (HBq.out.trans hb)
          clear hown hb
          go_wp2
          go_roundw
          case rel => exact ⟨k + 1, by omega, by go_num, by rw [HN.out], by show World.ownsRow _ _ _ _ _ _ _; rw [HN.out]; exact HX6.out, HB6.out⟩
          case measure => simp [intOf]; omega
      · have hbe : (yt == x.t) = false := by simpa using hyx
        cases put with
        | true =>
          have HN : Hid (O (k + 1) = (M ++ [⟨yt, yg⟩], true)) := by show _ = _; rw [hs]; exact step_else hyx (.inl rfl)
          clear hs hyx
          go_upto_region 13 with fail
          clear sf x0 x1 xl S HGa hbe
          have hBq : B ≤ wa.heap.size := by have := HBa.out.size; have := HBw.out; omega
          go_wp2_with (at_builtin; refine wpList_append_one (cs := #[.string ⟨yt.toArray⟩, .bool yg]) (Below.refl B wa) hBq rfl (.tmp 45) (.tmp 47) 70 rfl 86 it (.agg #[.string ByteArray.empty, .bool false]) 2 24 Tryz.underlying70 ht0 ht1 ht2 ht3 rfl (by decide) rfl (by simp [Value.oneCell']) _ _ _ rfl HOa.out 1 rfl (by omega) (by omega) ?_)
          intro v6 w6 hown hb
          have HX6 := hide (own_itm (y := ⟨yt, yg⟩) hown)
          have HB6 := hide (HBa.out.trans hb)
          clear hown hb
          go_wp2
          go_roundw
          case rel => exact ⟨k + 1, by omega, by go_num, by rw [HN.out], by show World.ownsRow _ _ _ _ _ _ _; rw [HN.out]; exact HX6.out, HB6.out⟩
          case measure => simp [intOf]; omega
        | false =>
          cases hbl : Op.bytesLess x.t yt with
          | false =>
            have HN : Hid (O (k + 1) = (M ++ [⟨yt, yg⟩], false)) := by show _ = _; rw [hs]; exact step_else hyx (.inr hbl)
            have hb2 : Op.bytesLess yt x.t = true := bl_tri hbl (fun e => hyx e.symm)
            clear hs hyx hbl
            go_upto_region 13 with fail
            clear sf x0 x1 xl S HGa hbe hb2
            have hBq : B ≤ wa.heap.size := by have := HBa.out.size; have := HBw.out; omega
            go_wp2_with (at_builtin; refine wpList_append_one (cs := #[.string ⟨yt.toArray⟩, .bool yg]) (Below.refl B wa) hBq rfl (.tmp 45) (.tmp 47) 70 rfl 86 it (.agg #[.string ByteArray.empty, .bool false]) 2 24 Tryz.underlying70 ht0 ht1 ht2 ht3 rfl (by decide) rfl (by simp [Value.oneCell']) _ _ _ rfl HOa.out 1 rfl (by omega) (by omega) ?_)
            intro v6 w6 hown hb
            have HX6 := hide (own_itm (y := ⟨yt, yg⟩) hown)
            have HB6 := hide (HBa.out.trans hb)
            clear hown hb
            go_wp2
            go_roundw
            case rel => exact ⟨k + 1, by omega, by go_num, by rw [HN.out], by show World.ownsRow _ _ _ _ _ _ _; rw [HN.out]; exact HX6.out, HB6.out⟩
            case measure => simp [intOf]; omega
          | true =>
            have HN : Hid (O (k + 1) = (M ++ [x] ++ [⟨yt, yg⟩], true)) := by show _ = _; rw [hs]; exact step_less hyx hbl
            have hb2 : Op.bytesLess yt x.t = false := bl_asymm hbl
            clear hs hyx hbl
            have hBa : B ≤ wa.heap.size := by have := HBa.out.size; have := HBw.out; omega
            go_wp2_with (at_builtin; refine wpList_append_oneG (cs := #[.string ⟨x.t.toArray⟩, .bool x.gone]) hBa rfl (.tmp 41) (.tmp 43) 70 rfl 86 it (.agg #[.string ByteArray.empty, .bool false]) 2 24 Tryz.underlying70 ht0 ht1 ht2 ht3 rfl (by decide) rfl (by simp [Value.oneCell']) _ _ _ rfl HOa.out 1 rfl (by omega) (by omega) ?_)
            intro v5 wq hown hg5
            have HOq := hide (own_itm (y := x) hown)
            have Sq := blk_grownR S hg5 (fun e => by have := hob bs e; omega)
            have HBq := hide (HBa.out.grown hg5 hBa (fun q hq => (HOa.out.lt q hq).1))
            have hML : (M ++ [x]).length ≤ 2097154 := by rw [List.length_append, List.length_singleton]; omega
            obtain ⟨a5, c5, hsh⟩ := own_sh HOq.out
            subst hsh
            have q0 := blk_free_cell Sq 0 rfl
            have q1 := blk_free_cell Sq 1 rfl
            have ql := Sq.lt
            clear hown hg5 s0 s1 sf sl x0 x1 xl S Sq HGa hbe hb2 HOa HBa
            generalize M ++ [x] = M2 at *
            go_upto_region 13 with fail
            have hBq : B ≤ wq.heap.size := by have := HBq.out.size; have := HBw.out; omega
            go_wp2_with (at_builtin; refine wpList_append_one (cs := #[.string ⟨yt.toArray⟩, .bool yg]) (Below.refl B wq) hBq rfl (.tmp 45) (.tmp 47) 70 rfl 86 it (.agg #[.string ByteArray.empty, .bool false]) 2 24 Tryz.underlying70 ht0 ht1 ht2 ht3 rfl (by decide) rfl (by simp [Value.oneCell']) _ _ _ rfl HOq.out 1 rfl (by omega) (by omega) ?_)
            intro v6 w6 hown hb
            have HX6 := hide (own_itm (y := ⟨yt, yg⟩) hown)
            have HB6 := hide (HBq.out.trans hb)
            clear hown hb
            go_wp2
            go_roundw
            case rel => exact ⟨k + 1, by omega, by go_num, by rw [HN.out], by show World.ownsRow _ _ _ _ _ _ _; rw [HN.out]; exact HX6.out, HB6.out⟩
            case measure => simp [intOf]; omega
    · obtain rfl : k = l.length := by omega
      have hO := HO.out
      rw [HOe.out] at hO ⊢
      have hln := oneAll_length x l
      have HGr := HG.out.below HBr.out (by have := HBw.out; have := HG.out.lt; omega)
      have x0 := blk_free_cell HGr 0 rfl
      have x1 := blk_free_cell HGr 1 rfl
      have xl := HGr.lt
      have hwB : w.heap.size ≤ B := by have := HBw.out; have := HB.out.size; omega
      have HBz := hide (HB.out.trans (HBr.out.mono hwB))
      obtain ⟨M, put, eO⟩ : ∃ M put, oneAll x l = (M, put) := ⟨_, _, rfl⟩
      rw [eO] at hO hln HONE ⊢
      dsimp only at hO hln HONE ⊢
      have HOz := hide hO
      obtain ⟨ao, co, hsh⟩ := own_sh hO
      subst hsh
      clear hO HO0 HOs HOl HOe HO eO HGr
      cases put with
      | true =>
        have HR : Hid (R = M) := by show _ = _; rw [HONE.out]; rfl
        have HOf := hide (own_mono HOz.out hwB)
        clear HONE HOz
        go_wp2_with fail
        go_ret
        exact ⟨_, rfl, by rw [HR.out]; exact HOf.out, HBz.out⟩
      | false =>
        have HR : Hid (R = M ++ [x]) := by show _ = _; rw [HONE.out]; rfl
        simp only [Bool.false_eq_true, if_false] at hln
        clear HONE
        go_wp2_with (at_builtin; refine wpList_append_one (cs := #[.string ⟨x.t.toArray⟩, .bool x.gone]) (Below.refl B wr) hBr rfl (.tmp 51) (.tmp 53) 70 rfl 86 it (.agg #[.string ByteArray.empty, .bool false]) 2 24 Tryz.underlying70 ht0 ht1 ht2 ht3 rfl (by decide) rfl (by simp [Value.oneCell']) _ _ _ rfl HOz.out 1 rfl (by omega) (by omega) ?_)
        intro v6 w6 hown hb
        have HX6 := hide (own_mono (own_itm (y := x) hown) hwB)
        have HB6 := hide (HBz.out.trans (hb.mono hwB))
        clear hown hb HOz
        go_wp2
        go_ret
        exact ⟨_, rfl, by rw [HR.out]; exact HX6.out, HB6.out⟩
end Go.Proofs.YteladljgnbfcnaaGreat.P9
namespace Go.Proofs.YteladljgnbfcnaaGreat.P9
set_option maxRecDepth 8000
open Go.RowKit P1 P8 Da Ap Rc Rr

theorem items_at_own {w : World} {B : Nat} {v : Value} {l : List It} (h : w.ownsRow B 86 2 v l.length (cellsT l)) : ItemsAt w v l := by
  obtain ⟨fp, h1, _⟩ := items_owned h
  exact ⟨T0, h1.reads⟩

theorem fold_take {α β : Type} (f : β → α → β) (z : β) {l : List α} {k : Nat} (hk : k < l.length) : (l.take (k + 1)).foldl f z = f ((l.take k).foldl f z) l[k] := by
  rw [List.take_succ_eq_append_getElem hk, List.foldl_append]
  rfl

set_option maxHeartbeats 2000000 in
theorem specMerged_calls (w : World) (va vb : Value) (a b : List It) (ha : ItemsAt w va a) (hb : ItemsAt w vb b) (hla : a.length ≤ 1048576) (hlb : b.length ≤ 1048576) :
    Calls Tryz.prog 108 #[va, vb] w fun e w' => ∃ v', e = .returned v' ∧ w'.ownsRow w.heap.size 86 2 v' (merged a b).length (cellsT (merged a b)) ∧ Below w.heap.size w w' := by
  have HA := hide ha
  have HBb := hide hb
  obtain ⟨aa, ca, rfl, -⟩ := ha.open_
  obtain ⟨ab, cb, rfl, -⟩ := hb.open_
  clear ha hb
  obtain ⟨F, HF0, HFs, HFl, HFe⟩ : ∃ F : Nat → List It, Hid (F 0 = []) ∧ Hid (∀ k (hk : k < a.length), F (k + 1) = one (F k) a[k]) ∧ Hid (∀ k, k ≤ a.length → (F k).length ≤ 1048576) ∧ Hid (F a.length = a.foldl one []) := by
    refine ⟨fun k => (a.take k).foldl one [], rfl, fun k hk => fold_take one [] hk, fun k hk => ?_, ?_⟩
    · have h1 := fold_one_length (a.take k) []
      rw [List.length_take] at h1
      simp at h1
      show ((a.take k).foldl one []).length ≤ _
      omega
    · show (a.take a.length).foldl one [] = _
      rw [List.take_length]
  obtain ⟨G, HG0, HGs, HGl, HGe⟩ : ∃ G : Nat → List It, Hid (G 0 = a.foldl one []) ∧ Hid (∀ k (hk : k < b.length), G (k + 1) = one (G k) b[k]) ∧ Hid (∀ k, k ≤ b.length → (G k).length ≤ 2097152) ∧ Hid (G b.length = merged a b) := by
    refine ⟨fun k => (b.take k).foldl one (a.foldl one []), rfl, fun k hk => fold_take one _ hk, fun k hk => ?_, ?_⟩
    · have h1 := fold_one_length (b.take k) (a.foldl one [])
      have h2 := fold_one_length a []
      rw [List.length_take] at h1
      simp at h2
      show ((b.take k).foldl one (a.foldl one [])).length ≤ _
      omega
    · show (b.take b.length).foldl one (a.foldl one []) = _
      rw [List.take_length]
      rfl
  generalize merged a b = R at *
  have HS0 := hide (items_lit0 w)
  have HB0 := hide ((Below.refl w.heap.size w).alloc (Nat.le_refl _) (.cells #[] 86))
  go_enter Tryz.func108, Tryz.ntmps108
  go_upto_region 2 with fail
  obtain ⟨B, eB⟩ : ∃ B, B = w.heap.size := ⟨_, rfl⟩
  rw [← eB] at HS0 HB0 ⊢
  have HEB := hide eB
  clear eB
  generalize w.alloc (.cells #[] 86) = w2 at *
  go_wp2_with fail
  go_loopw [5, 6] (fun ov i wr => ∃ k : Nat, k ≤ a.length ∧ i = .int .i64 k ∧ Hid (wr.ownsRow B 86 2 ov (F k).length (cellsT (F k))) ∧ Hid (Below B w wr)) (fun _ i _ => a.length - (intOf i).toNat)
  case atStart => exact ⟨0, Nat.zero_le _, rfl, by show World.ownsRow _ _ _ _ _ _ _; rw [HF0.out]; exact HS0.out, HB0.out⟩
  case round =>
    clear HS0 HB0
    obtain ⟨k, hk, rfl, HO, HBr⟩ := hrel
    by_cases hlt : k < a.length
    · obtain ⟨a2, c2, hsh, HAc⟩ := (HA.out.below HBr.out (by have := HEB.out; omega)).open_
      cases hsh
      obtain ⟨g, off, rfl, hg, f0, f1⟩ := HAc k hlt
      have hs := HFs.out k hlt
      have hln := HFl.out k hk
      clear HAc
      generalize a[k] = x at *
      have HC := hide (one_calls wr _ (F k) x (items_at_own HO.out) (by omega))
      rw [← hs] at HC
      obtain ⟨ao, co, hsh⟩ := own_sh HO.out
      subst hsh
      clear hs hln HO
      generalize (F k).length = n at *
      go_wp2_with fail
      refine HC.out.mono ?_
      rintro e w6 ⟨v6, rfl, ho6, hb6⟩
      have hBr : B ≤ wr.heap.size := by have := HBr.out.size; have := HEB.out; omega
      have HX6 := hide (own_mono ho6 hBr)
      have HB6 := hide (HBr.out.trans (hb6.mono hBr))
      clear HC ho6 hb6 HBr f0 f1 hg hBr
      go_wp2
      go_roundw
      case rel => exact ⟨k + 1, by omega, by go_num, HX6.out, HB6.out⟩
      case measure => simp [intOf]; omega
    · obtain rfl : k = a.length := by omega
      have HO2 : Hid (wr.ownsRow B 86 2 u5 (G 0).length (cellsT (G 0))) := by show World.ownsRow _ _ _ _ _ _ _; rw [HG0.out, ← HFe.out]; exact HO.out
      have HB2 := hide HBr.out
      clear HO HBr HF0 HFs HFl HFe HG0
      go_wp2_with fail
      obtain ⟨w7, e7⟩ : ∃ x, x = wr := ⟨_, rfl⟩
      subst e7
      go_loopw [5, 7] (fun ov i wr => ∃ k : Nat, k ≤ b.length ∧ i = .int .i64 k ∧ Hid (wr.ownsRow B 86 2 ov (G k).length (cellsT (G k))) ∧ Hid (Below B w wr)) (fun _ i _ => b.length - (intOf i).toNat)
      case atStart => exact ⟨0, Nat.zero_le _, rfl, HO2.out, HB2.out⟩
      case round =>
        clear HO2 HB2
        obtain ⟨k, hk, rfl, HO, HBr⟩ := hrel
        by_cases hlt : k < b.length
        · obtain ⟨a2, c2, hsh, HAc⟩ := (HBb.out.below HBr.out (by have := HEB.out; omega)).open_
          cases hsh
          obtain ⟨g, off, rfl, hg, f0, f1⟩ := HAc k hlt
          have hs := HGs.out k hlt
          have hln := HGl.out k hk
          clear HAc
          generalize b[k] = x at *
          have HC := hide (one_calls wr _ (G k) x (items_at_own HO.out) hln)
          rw [← hs] at HC
          obtain ⟨ao, co, hsh⟩ := own_sh HO.out
          subst hsh
          clear hs hln HO
          generalize (G k).length = n at *
          go_wp2_with fail
          refine HC.out.mono ?_
          rintro e w6 ⟨v6, rfl, ho6, hb6⟩
          have hBr : B ≤ wr.heap.size := by have := HBr.out.size; have := HEB.out; omega
          have HX6 := hide (own_mono ho6 hBr)
          have HB6 := hide (HBr.out.trans (hb6.mono hBr))
          clear HC ho6 hb6 HBr f0 f1 hg hBr
          go_wp2
          go_roundw
          case rel => exact ⟨k + 1, by omega, by go_num, HX6.out, HB6.out⟩
          case measure => simp [intOf]; omega
        · obtain rfl : k = b.length := by omega
          have HO3 : Hid (wr.ownsRow w.heap.size 86 2 u5 R.length (cellsT R)) := by show World.ownsRow _ _ _ _ _ _ _; rw [← HGe.out, ← HEB.out]; exact HO.out
          have HB3 : Hid (Below w.heap.size w wr) := by rw [← HEB.out]; exact HBr.out
          clear HO HBr
          go_wp2_with fail
          go_ret
          exact ⟨_, rfl, HO3.out, HB3.out⟩
end Go.Proofs.YteladljgnbfcnaaGreat.P9
namespace Go.Proofs.YteladljgnbfcnaaGreat.P9
set_option maxRecDepth 8000
open Go.RowKit P1 P8 Da Ap Rc Rr

def shelfOf (l : List Shf) (key : Int) : List It := ((l.find? fun s => s.key == key).map (·.items)).getD []

theorem shelfOf_hit {l : List Shf} {key : Int} {k : Nat} (hk : k < l.length) (h : l[k].key = key) (hb : ∀ j (hj : j < l.length), j < k → l[j].key ≠ key) : shelfOf l key = l[k].items := by
  unfold shelfOf
  have : l.find? (fun s => s.key == key) = some l[k] := by
    rw [List.find?_eq_some_iff_getElem]
    exact ⟨by simpa using h, k, hk, rfl, fun j hj => by simpa using hb j (by omega) hj⟩
  rw [this]
  rfl

theorem shelfOf_none {l : List Shf} {key : Int} (hb : ∀ j (hj : j < l.length), l[j].key ≠ key) : shelfOf l key = [] := by
  unfold shelfOf
  have : l.find? (fun s => s.key == key) = none := by
    rw [List.find?_eq_none]
    intro s hs
    obtain ⟨j, hj, rfl⟩ := List.getElem_of_mem hs
    simpa using hb j hj
  rw [this]
  rfl

set_option maxHeartbeats 2000000 in
theorem specShelf_calls (w : World) (p : Pr) (u3 u4 u5 : Value) (key : Int) (h5 : ShelvesAt w u5 p.shelves) (hp : Small p) :
    Calls Tryz.prog 109 #[prV p u3 u4 u5, .int .i64 key] w fun e w' => ∃ v', e = .returned v' ∧ w'.ownsRow w.heap.size 86 2 v' (shelfOf p.shelves key).length (cellsT (shelfOf p.shelves key)) ∧ Below w.heap.size w w' := by
  obtain ⟨it, ht0, ht1, ht2, ht3⟩ := info_parts info_item
  have hs5 := hp.s
  have HI := hide hp.i
  obtain ⟨id, here, ahead, be, fi, sh⟩ := p
  dsimp only at h5 hs5 HI
  unfold prV
  dsimp only
  have H5 := hide h5
  obtain ⟨a5, c5, e5, -⟩ := h5.open_
  subst e5
  have HH := hide (fun k hk h hb => shelfOf_hit (l := sh) (key := key) (k := k) hk h hb)
  have HZ := hide (fun hb => shelfOf_none (l := sh) (key := key) hb)
  generalize shelfOf sh key = R at *
  have hb1 := (Below.refl w.heap.size w).alloc (Nat.le_refl _) (.cells #[.int .i64 id, .bool here, .int .i64 ahead, u3, u4, .slice a5 sh.length c5] 37)
  have G := Blk.new w #[.int .i64 id, .bool here, .int .i64 ahead, u3, u4, .slice a5 sh.length c5] 37
  have HB := hide hb1
  clear hb1 h5 hp
  go_enter Tryz.func109, Tryz.ntmps109
  go_upto_region 1 with fail
  obtain ⟨b0, e0⟩ : ∃ b, b = w.heap.size := ⟨_, rfl⟩
  rw [← e0] at G ⊢
  have HE0 := hide e0
  clear e0
  generalize w.alloc (.cells #[.int .i64 id, .bool here, .int .i64 ahead, u3, u4, .slice a5 sh.length c5] 37) = w1 at *
  have c0 : w1.cell? ⟨b0, 5, none⟩ = some (.slice a5 sh.length c5) := by rw [G.cell 5]; rfl
  have l0 := G.lt
  have H5w := hide (H5.out.below HB.out (Nat.le_refl _))
  go_wp2_with fail
  go_loopw [5] (fun i wr => ∃ k : Nat, k ≤ sh.length ∧ i = .int .i64 k ∧ Hid (∀ j (hj : j < sh.length), j < k → sh[j].key ≠ key) ∧ wr = w1) (fun i _ => sh.length - (intOf i).toNat)
  case atStart => exact ⟨0, Nat.zero_le _, rfl, fun j hj h => by omega, rfl⟩
  case round =>
    obtain ⟨k, hk, rfl, HN, hwr⟩ := hrel
    subst hwr
    by_cases hlt : k < sh.length
    · obtain ⟨ax, cx, hax, HA⟩ := H5w.out.open_
      cases hax
      obtain ⟨g, off, u, rfl, hg, f0, f1, hit⟩ := HA k hlt
      have hhit := HH.out k hlt
      have hsm := (HI.out sh[k] (List.getElem_mem hlt)).1
      have HNx : Hid (sh[k].key ≠ key → ∀ j (hj : j < sh.length), j < k + 1 → sh[j].key ≠ key) := fun h j hj h1 => by
        rcases Nat.lt_or_ge j k with h2 | h2
        · exact HN.out j hj h2
        · obtain rfl : j = k := by omega
          exact h
      have HNo := hide HN.out
      clear HA
      by_cases hkey : sh[k].key = key
      · have HR : Hid (R = sh[k].items) := hhit hkey HNo.out
        have hkd : (sh[k].key == key) = true := by simpa using hkey
        obtain ⟨ai, ci, hsi, -⟩ := hit.open_
        subst hsi
        have HIT := hide hit
        clear hhit HN HNo HNx hkey hit
        generalize sh[k].key = y at *
        generalize sh[k].items = its at *
        have HS0 := hide (items_lit0 wr)
        have HBl := hide ((Below.refl wr.heap.size wr).alloc (Nat.le_refl _) (.cells #[] 86))
        have HITl := hide (HIT.out.below HBl.out (Nat.le_refl _))
        have hsz : wr.heap.size ≤ (wr.alloc (.cells #[] 86)).heap.size := HBl.out.size
        have m0 := (HBl.out.cell (p := ⟨b0, 5, none⟩) l0).trans c0
        have ml : b0 < (wr.alloc (.cells #[] 86)).heap.size := Nat.lt_of_lt_of_le l0 hsz
        have k0 := (HBl.out.cell (p := ⟨g, off + k * 2, none⟩) hg).trans f0
        have k1 := (HBl.out.cell (p := ⟨g, off + k * 2 + 1, none⟩) hg).trans f1
        have kg : g < (wr.alloc (.cells #[] 86)).heap.size := Nat.lt_of_lt_of_le hg hsz
        go_wp2_with (at_builtin; refine wpList_append_any rfl (.tmp 21) (.tmp 27) 70 rfl wr.heap.size 86 it (.agg #[.string ByteArray.empty, .bool false]) 2 24 Tryz.underlying70 ht0 ht1 ht2 ht3 rfl (by decide) _ _ _ rfl HS0.out ai its.length ci rfl (cellsT its) (cellsT_len its) (items_news HITl.out) (cellsT_one its) (by unfold maxLen; simp; omega) (by simp; omega) hsz ?_)
        intro v8 wq hown8 hgr8
        have hb8 : Below wr.heap.size wr wq := HBl.out.grown hgr8 (by simp) (fun k hk => by cases hk; exact Nat.le_refl _)
        have hown8' : wq.ownsRow wr.heap.size 86 2 v8 its.length (cellsT its) := by simpa [cellsT] using hown8
        have HO8 := hide (own_mono hown8' HB.out.size)
        have HB8 := hide (HB.out.trans (hb8.mono HB.out.size))
        clear hown8 hgr8 hown8' hb8 HS0 HBl HITl hsz m0 ml k0 k1 kg
        go_wp2
        go_ret
        exact ⟨_, rfl, by rw [HR.out]; exact HO8.out, HB8.out⟩
      · have hkd : (sh[k].key == key) = false := by simpa using hkey
        have HR := hide (HNx.out hkey)
        clear hhit HN HNo HNx hkey hit
        generalize sh[k].key = y at *
        go_wp2_with fail
        go_roundw
        case rel => exact ⟨k + 1, by omega, by go_num, HR.out, trivial⟩
        case measure => simp [intOf]; omega
    · obtain rfl : k = sh.length := by omega
      have HR := hide (HZ.out (fun j hj => HN.out j hj hj))
      have HS0 := hide (items_lit0 wr)
      have HBl := hide (HB.out.trans (((Below.refl wr.heap.size wr).alloc (Nat.le_refl _) (.cells #[] 86)).mono HB.out.size))
      have HO8 := hide (own_mono HS0.out HB.out.size)
      clear HN HZ HH HS0
      go_wp2_with fail
      go_ret
      exact ⟨_, rfl, by rw [HR.out]; exact HO8.out, HBl.out⟩
end Go.Proofs.YteladljgnbfcnaaGreat.P9
namespace Go.Proofs.YteladljgnbfcnaaGreat.P9
set_option maxRecDepth 8000
open Go.RowKit P1 P8 Da Rc

def holdStep (l : List Pr) (out : List Int) (x : Int) : List Int := if out.length < 3 ∧ 0 ≤ peerAt l x ∧ x ∉ out then out ++ [x] else out

def holdersFrom (l : List Pr) (id : Int) (b : List Int) : List Int := b.foldl (holdStep l) [id]

def holdersOf (l : List Pr) (id : Int) : List Int :=
  if peerAt l id < 0 then [] else holdersFrom l id (match l[(peerAt l id).toNat]? with | none => [] | some p => p.behind)

theorem holdersOf_no {l : List Pr} {id : Int} (h : peerAt l id < 0) : holdersOf l id = [] := by
  unfold holdersOf
  rw [if_pos h]

theorem holdersOf_hit {l : List Pr} {id : Int} {i : Nat} (hi : i < l.length) (h : peerAt l id = i) : holdersOf l id = holdersFrom l id l[i].behind := by
  unfold holdersOf
  rw [h, if_neg (by omega)]
  simp only [Int.toNat_natCast, List.getElem?_eq_getElem hi]

theorem holdStep_full {l : List Pr} {out : List Int} (h : 3 ≤ out.length) (x : Int) : holdStep l out x = out := by
  unfold holdStep
  rw [if_neg (fun h1 => by omega)]

theorem fold_full {l : List Pr} (b : List Int) : ∀ {out : List Int}, 3 ≤ out.length → b.foldl (holdStep l) out = out := by
  induction b with
  | nil => intro out _; rfl
  | cons x b ih =>
    intro out h
    rw [List.foldl_cons, holdStep_full h, ih h]

theorem holders_full {l : List Pr} {id : Int} {b : List Int} {k : Nat} (h : 3 ≤ (holdersFrom l id (b.take k)).length) : holdersFrom l id b = holdersFrom l id (b.take k) := by
  conv => lhs; rw [← List.take_append_drop k b]
  unfold holdersFrom at *
  rw [List.foldl_append, fold_full _ h]

theorem holders_succ {l : List Pr} {id : Int} {b : List Int} {k : Nat} (hk : k < b.length) : holdersFrom l id (b.take (k + 1)) = holdStep l (holdersFrom l id (b.take k)) b[k] := by
  unfold holdersFrom
  rw [List.take_succ_eq_append_getElem hk, List.foldl_append]
  rfl

theorem holdStep_len {l : List Pr} {out : List Int} (x : Int) (h : out.length ≤ 3) : (holdStep l out x).length ≤ 3 := by
  unfold holdStep
  split
  · simp; omega
  · exact h

theorem holders_len (l : List Pr) (id : Int) (b : List Int) : (holdersFrom l id b).length ≤ 3 := by
  have : ∀ (b out : List Int), out.length ≤ 3 → (b.foldl (holdStep l) out).length ≤ 3 := by
    intro b
    induction b with
    | nil => intro out h; exact h
    | cons x b ih => intro out h; exact ih _ (holdStep_len x h)
  exact this b [id] (by simp)

set_option maxHeartbeats 4000000 in
theorem specHolders_calls (w : World) (v : Value) (l : List Pr) (id : Int) (hv : PeersAt w v l) (hl : l.length ≤ 1048576) (hbl : ∀ p ∈ l, p.behind.length ≤ 1048576) :
    Calls Tryz.prog 105 #[.agg #[v], .int .i64 id] w fun e w' => ∃ v', e = .returned v' ∧ w'.ownsRow w.heap.size 3 1 v' (holdersOf l id).length (cellsI (holdersOf l id)) ∧ Below w.heap.size w w' := by
  obtain ⟨i0, hi0, hz0, hz1, hz2⟩ := info_parts info_i64
  have hb1 := (Below.refl w.heap.size w).alloc (Nat.le_refl _) (.cells #[v] 28)
  have HV := hide (hv.below hb1 (Nat.le_refl _))
  obtain ⟨a, cap, rfl, -⟩ := hv.open_
  have G := Blk.new w #[.slice a l.length cap] 28
  have HB := hide hb1
  have HBL := hide hbl
  have HR1 := hide (fun h => holdersOf_no (l := l) (id := id) h)
  have HR2 := hide (fun i hi h => holdersOf_hit (l := l) (id := id) (i := i) hi h)
  generalize holdersOf l id = R at *
  clear hv hb1 hbl
  go_enter Tryz.func105, Tryz.ntmps105
  go_upto_region 1 with fail
  obtain ⟨b0, e0⟩ : ∃ b, b = w.heap.size := ⟨_, rfl⟩
  rw [← e0] at G ⊢
  clear e0
  generalize w.alloc (.cells #[.slice a l.length cap] 28) = w1 at *
  have HG := hide G
  have c0 : w1.cell? ⟨b0, 0, none⟩ = some (.slice a l.length cap) := by rw [G.cell 0]; rfl
  have l0 := G.lt
  clear G
  go_wp2_with fail
  refine (specPeerAt_calls w1 _ l id HV.out hl).mono ?_
  rintro e w2 ⟨rfl, hb2⟩
  have HV2 := hide (HV.out.below hb2 (Nat.le_refl _))
  have HB2 := hide (HB.out.trans (hb2.mono HB.out.size))
  have HG2 := hide (HG.out.below hb2 HG.out.lt)
  clear c0 l0 hb2 HV HB HG
  rcases peerAt_lt l id with hpa | ⟨i, hi, hpa⟩
  · have HR := hide (HR1.out (by omega))
    rw [hpa]
    have HS0 := hide (own_mono (own_lit0 w2) HB2.out.size)
    have HBl := hide (HB2.out.trans (((Below.refl w2.heap.size w2).alloc (Nat.le_refl _) (.cells #[] 3)).mono HB2.out.size))
    clear HR1 HR2
    go_wp2_with fail
    go_ret
    exact ⟨_, rfl, by rw [HR.out]; exact HS0.out, HBl.out⟩
  · have HR := hide (HR2.out i hi hpa)
    have hbb := HBL.out l[i] (List.getElem_mem hi)
    rw [hpa]
    have hd1 : decide ((i : Int) < 0) = false := decide_eq_false (by omega)
    clear HR1 HR2 hpa
    -- itself, first
    have hoL : (w2.alloc (.cells #[.int .i64 id] 3)).ownsRow w2.heap.size 3 1 (.slice (some ⟨w2.heap.size, 0, none⟩) 1 1) 1 (cellsI [id]) := World.ownsRow_lit (base := w2.heap.size) (e := 3) (size := 1) w2 #[.int .i64 id] 1 (Nat.le_refl _) (by decide) rfl
    have hbL := (Below.refl w2.heap.size w2).alloc (Nat.le_refl _) (.cells #[.int .i64 id] 3)
    go_upto_region 5 with fail
    obtain ⟨B, eB⟩ : ∃ B, B = w2.heap.size := ⟨_, rfl⟩
    rw [← eB] at hoL hbL ⊢
    have HEB := hide eB
    clear eB
    have HOL := hide hoL
    have HBL2 := hide hbL
    clear hoL hbL
    generalize w2.alloc (.cells #[.int .i64 id] 3) = w3 at *
    obtain ⟨xb, exb⟩ : ∃ x, x = l[i].behind := ⟨_, rfl⟩
    have HXB := hide exb
    rw [← exb] at hbb HR
    clear exb
    go_wp2_with fail
    go_loopw [6, 7] (fun ov kv wr => ∃ k : Nat, k ≤ xb.length ∧ kv = .int .i64 k ∧ Hid (wr.ownsRow B 3 1 ov (holdersFrom l id (xb.take k)).length (cellsI (holdersFrom l id (xb.take k)))) ∧ Hid (Below B w2 wr)) (fun _ kv _ => xb.length - (intOf kv).toNat)
    case atStart => exact ⟨0, Nat.zero_le _, rfl, HOL.out, HBL2.out⟩
    case round =>
      clear HOL HBL2
      obtain ⟨k, hk, rfl, HO, HBr⟩ := hrel
      have hb2r : Below w2.heap.size w2 wr := by have := HBr.out; rwa [HEB.out] at this
      have HVr := hide (HV2.out.below hb2r (Nat.le_refl _))
      have Gr := HG2.out.below hb2r HG2.out.lt
      have c0 := blk_free_cell Gr 0 rfl
      have l0 := Gr.lt
      obtain ⟨ax, cx, hax, HA⟩ := HVr.out.open_
      cases hax
      obtain ⟨g, off, u3, u4, u5, rfl, hg, hc⟩ := HA i hi
      have f3 := hc.c3
      have hib := hc.behind
      rw [← HXB.out] at hib
      have HIB := hide hib
      obtain ⟨a3, c3, e3, -⟩ := hib
      subst e3
      have HBw := hide (HB2.out.trans (hb2r.mono HB2.out.size))
      have hl3 := holders_len l id (xb.take k)
      have hBr : B ≤ wr.heap.size := by have := hb2r.size; have := HEB.out; omega
      have HSC : Hid (∀ (hk : k < xb.length), holdersFrom l id (xb.take (k + 1)) = holdStep l (holdersFrom l id (xb.take k)) xb[k]) := fun hk => holders_succ hk
      have HFU : Hid (3 ≤ (holdersFrom l id (xb.take k)).length → R = holdersFrom l id (xb.take k)) := fun h => by rw [HR.out]; exact holders_full h
      have HEN : Hid (k = xb.length → R = holdersFrom l id (xb.take k)) := fun h => by rw [HR.out, h, List.take_length]
      obtain ⟨ao, co, hsh⟩ := own_sh HO.out
      subst hsh
      clear HA hc hb2r Gr
      by_cases hlt : k < xb.length
      · have hsc := HSC.out hlt
        generalize holdersFrom l id (xb.take k) = M at *
        by_cases h3 : M.length < 3
        · have hd3 : decide ((M.length : Int) < 3) = true := decide_eq_true (by omega)
          obtain ⟨a4, c4, hs4, HAb⟩ := HIB.out
          cases hs4
          obtain ⟨g3, o3, rfl, hg3, hc3⟩ := HAb k hlt
          have HP := hide (specPeerAt_calls wr _ l xb[k] HVr.out hl)
          have HHs := hide (fun wx (hb : Below wr.heap.size wr wx) => specHas_calls wx _ M xb[k] (IntsAt.of_own (own_below HO.out hb)) (by omega))
          clear HAb HSC HFU HEN
          generalize xb[k] = x at *
          by_cases hp : 0 ≤ peerAt l x
          · have hpd : decide (peerAt l x ≥ 0) = true := decide_eq_true hp
            by_cases hm : x ∈ M
            · have HN : Hid (holdersFrom l id (xb.take (k + 1)) = M) := by show _ = _; rw [hsc]; unfold holdStep; rw [if_neg (fun h => h.2.2 hm)]
              rw [decide_eq_true hm] at HHs
              clear hsc hp hm
              generalize peerAt l x = px at *
              go_wp2_with fail
              refine HP.out.mono ?_
              rintro e wy ⟨rfl, hby⟩
              have HBy := hide (HBr.out.trans (hby.mono hBr))
              have HOy := hide (own_below HO.out hby)
              have HHy := hide (HHs.out wy hby)
              clear hby HP HHs HBr HO c0 l0 f3 hc3 hg3 HVr HBw
              go_wp2_with fail
              refine HHy.out.mono ?_
              rintro e wz ⟨rfl, hw⟩
              replace hw := hw.symm
              subst hw
              go_wp2_with fail
              go_roundw
              case rel => exact ⟨k + 1, by omega, by go_num, by show World.ownsRow _ _ _ _ _ _ _; rw [HN.out]; exact HOy.out, HBy.out⟩
              case measure => simp [intOf]; omega
            · have HN : Hid (holdersFrom l id (xb.take (k + 1)) = M ++ [x]) := by show _ = _; rw [hsc]; unfold holdStep; rw [if_pos ⟨h3, hp, hm⟩]
              rw [decide_eq_false hm] at HHs
              clear hsc hp hm
              generalize peerAt l x = px at *
              go_wp2_with fail
              refine HP.out.mono ?_
              rintro e wy ⟨rfl, hby⟩
              have HBy := hide (HBr.out.trans (hby.mono hBr))
              have HOy := hide (own_below HO.out hby)
              have HHy := hide (HHs.out wy hby)
              have hBy : B ≤ wy.heap.size := by have := hby.size; omega
              clear hby HP HHs HBr HO c0 l0 f3 hc3 hg3 HVr HBw
              go_wp2_with fail
              refine HHy.out.mono ?_
              rintro e wz ⟨rfl, hw⟩
              replace hw := hw.symm
              subst hw
              clear HHy
              go_wp2_with (at_builtin; refine wpList_append_one (cs := #[.int .i64 x]) (Below.refl B wy) hBy rfl (.tmp 52) (.tmp 54) 24 rfl 3 i0 (.int .i64 0) 1 8 Tryz.underlying24 hi0 hz0 hz1 hz2 rfl (by decide) rfl (by simp [Value.oneCell']) _ _ _ rfl HOy.out 1 rfl (by omega) (by omega) ?_)
              intro v6 w6 hown hb
              have HX6 := hide (own_snocI hown)
              have HB6 := hide (HBy.out.trans hb)
              clear hown hb HOy HBy
              go_wp2
              go_roundw
              case rel => exact ⟨k + 1, by omega, by go_num, by show World.ownsRow _ _ _ _ _ _ _; rw [HN.out]; exact HX6.out, HB6.out⟩
              case measure => simp [intOf]; omega
          · have hpd : decide (peerAt l x ≥ 0) = false := decide_eq_false hp
            have HN : Hid (holdersFrom l id (xb.take (k + 1)) = M) := by show _ = _; rw [hsc]; unfold holdStep; rw [if_neg (fun h => hp h.2.1)]
            clear hsc hp
            generalize peerAt l x = px at *
            go_wp2_with fail
            refine HP.out.mono ?_
            rintro e wy ⟨rfl, hby⟩
            have HBy := hide (HBr.out.trans (hby.mono hBr))
            have HOy := hide (own_below HO.out hby)
            clear hby HP HHs HBr HO c0 l0 f3 hc3 hg3 HVr HBw
            go_wp2_with fail
            go_roundw
            case rel => exact ⟨k + 1, by omega, by go_num, by show World.ownsRow _ _ _ _ _ _ _; rw [HN.out]; exact HOy.out, HBy.out⟩
            case measure => simp [intOf]; omega
        · have hd3 : decide ((M.length : Int) < 3) = false := decide_eq_false (by omega)
          have HRM := hide (HFU.out (by omega))
          have HOf := hide (own_mono HO.out (by have := HEB.out; have := HB2.out.size; omega : w.heap.size ≤ B))
          clear HSC HFU HEN hsc
          go_wp2_with fail
          go_ret
          exact ⟨_, rfl, by rw [HRM.out]; exact HOf.out, HBw.out⟩
      · have HRM := hide (HEN.out (by omega))
        have HOf := hide (own_mono HO.out (by have := HEB.out; have := HB2.out.size; omega : w.heap.size ≤ B))
        generalize holdersFrom l id (xb.take k) = M at *
        clear HSC HFU HEN
        go_wp2_with fail
        go_ret
        exact ⟨_, rfl, by rw [HRM.out]; exact HOf.out, HBw.out⟩
end Go.Proofs.YteladljgnbfcnaaGreat.P9
