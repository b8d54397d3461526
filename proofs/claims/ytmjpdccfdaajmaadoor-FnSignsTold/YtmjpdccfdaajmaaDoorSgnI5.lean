/- The contracts of the program's leafKey, LeafKey; conditions: the listed tables hold what their text lays. -/
import Derived.Test.YtmjpdccfdaajmaaDoorSgnI4
import Derived.Test.YtmjpdccfdaajmaaDoorJoin
namespace Go.Proofs.YtmjpdccfdaajmaaDoor.P4
set_option maxRecDepth 8000
open Go.RowKit P1 P3 Sr

theorem join_flat (xs : List (List UInt8)) : Lib.join xs [] = xs.flatten := by
  cases xs with
  | nil => rfl
  | cons x r =>
    rw [Lib.join_cons, List.flatten_cons]
    congr 1
    simp [Lib.joinTail]

theorem flatten_le (l : List (List UInt8)) (h : ∀ x ∈ l, x.length ≤ 1000) : l.flatten.length ≤ 1000 * l.length := by
  induction l with
  | nil => simp
  | cons x r ih =>
    have h1 := h x (by simp)
    have h2 := ih (fun y hy => h y (by simp [hy]))
    rw [List.flatten_cons, List.length_append, List.length_cons]
    omega

theorem joined_calls (l : List (List UInt8)) (hl : l.length = 11) (hx : ∀ x ∈ l, x.length ≤ 1000) (B : Nat) (v : Value) (w : World) (hv : w.ownsRow B 9 1 v 11 (cellsS l)) :
    Calls Tryd.prog 87 #[v, .string ⟨#[]⟩] w fun e w' => e = .returned (.string ⟨l.flatten.toArray⟩) ∧ Below w.heap.size w w' := by
  obtain ⟨g, c, rfl, h1, h2, h3, h4, -⟩ := own_at hv (by omega)
  have hd : (l.map fun b => (⟨b.toArray⟩ : ByteArray)).map (·.data.toList) = l := by
    rw [List.map_map]
    exact List.map_id'' (fun x => rfl) l
  have hlen := flatten_le l hx
  have h := Tryd.strings_Join g 0 c (l.map fun b => ⟨b.toArray⟩) ⟨#[]⟩ w (fun j x hj => ?_) h2 (by simp [hl]) (by simp [hl]; omega) (by rw [hd]; show (Lib.join l []).length ≤ _; rw [join_flat]; omega)
  · rw [hd] at h
    simp only [List.length_map, hl] at h
    rw [join_flat] at h
    exact h
  · have hj2 : j < 11 := by
      have := (List.getElem?_eq_some_iff.1 hj).1
      simpa [hl] using this
    rw [Nat.zero_add, h4 j (by omega)]
    simp only [cellsS, List.getElem?_map] at hj ⊢
    cases hlj : l[j]? with
    | none => rw [hlj] at hj; cases hj
    | some y => rw [hlj] at hj; simp at hj; simp [hj]

set_option maxHeartbeats 400000 in
theorem leafKeyOf_calls (f : Nat → List UInt8) (told : Value) (w : World) (ht : FnAt w told (fun i => .string ⟨(f i).toArray⟩)) (hG : Glo w) (hf : ∀ i, i < 11 → (f i).length ≤ 1000) :
    Calls Tryd.prog 61 #[told] w fun e w' => e = .returned (.string ⟨(cut8 (108 :: (lst f).flatten)).toArray⟩) ∧ Below w.heap.size w w' := by
  have H1 := hide (list_calls f told w ht)
  obtain ⟨f1, c1, rfl, -⟩ := ht
  have hll := lst_length f
  have hx : ∀ x ∈ lst f, x.length ≤ 1000 := by
    intro x hx
    simp only [lst, List.mem_map, List.mem_range] at hx
    obtain ⟨i, hi, rfl⟩ := hx
    exact hf i hi
  have hfl := flatten_le (lst f) hx
  generalize lst f = l at *
  have H2 := hide (fun B v wx hv => joined_calls l hll hx B v wx hv)
  have H3 := hide (fun wx hg => icut_calls (108 :: l.flatten) (by simp only [List.length_cons]; omega) wx hg)
  have e1 : (⟨#[108]⟩ : ByteArray) ++ ⟨l.flatten.toArray⟩ = ⟨(108 :: l.flatten).toArray⟩ := ByteArray.mk_append_mk [108] _
  have s1 : (108 :: l.flatten).length = l.flatten.length + 1 := rfl
  generalize cut8 (108 :: l.flatten) = c at *
  generalize 108 :: l.flatten = t1 at *
  generalize l.flatten = t0 at *
  have HG := hide hG
  clear hG hf hx
  go_enter Tryd.func61, Tryd.ntmps61
  go_wp2_with fail
  refine H1.out.mono ?_
  rintro e w1 ⟨v, rfl, hov, hb1⟩
  have HJ := hide (H2.out _ _ _ hov)
  obtain ⟨g, cp, hv, -⟩ := own_at hov (by omega)
  subst hv
  have HB1 := hide hb1
  clear hov hb1
  go_wp2_with fail
  refine HJ.out.mono ?_
  rintro e w2 ⟨rfl, hb2⟩
  have HB2 := hide (HB1.out.trans (hb2.mono HB1.out.size))
  clear hb2
  go_wp2_with fail
  refine (H3.out _ (HG.out.below HB2.out)).mono ?_
  rintro e w3 ⟨rfl, hb3⟩
  go_wp2_with fail
  go_ret
  exact ⟨rfl, HB2.out.trans (hb3.mono HB2.out.size)⟩

theorem whole_calls (i : Int) (w : World) : Calls Tryd.prog 65 #[.int .i64 i] w fun e w' => e = .returned (.int .i64 3) ∧ Below w.heap.size w w' := by
  go_enter Tryd.func65, Tryd.ntmps65
  go_wp2
  go_ret
  exact ⟨rfl, Below.refl _ _⟩

theorem leafText_flat (seed leaf : Int) (k : Nat) : leafText seed leaf k = 108 :: ((List.range k).map fun (i : Nat) => chain 3 (secret seed leaf i)).flatten := by
  induction k with
  | zero => rfl
  | succ k ih => rw [leafText, ih, List.range_succ]; simp

theorem chainV_nat (t : List UInt8) (n : Nat) (h : n ≤ 3) : chainV t (n : Int) = chain n t := by
  unfold chainV
  congr 1
  omega

set_option maxHeartbeats 400000 in
theorem implLeafKey_calls (seed leaf : Int) (w : World) (hG : Glo w) :
    Calls Tryd.prog 22 #[.int .i64 seed, .int .i64 leaf] w fun e w' => e = .returned (.string ⟨(leafKey seed leaf).toArray⟩) ∧ Below w.heap.size w w' := by
  have hc3 : (fun i : Nat => chainV (secret seed leaf i) 3) = fun i : Nat => chain 3 (secret seed leaf i) := by
    funext i
    exact chainV_nat _ 3 (by omega)
  have HL : Hid (leafKey seed leaf = cut8 (108 :: (lst (fun i : Nat => chainV (secret seed leaf i) 3)).flatten)) := by
    show leafKey seed leaf = _
    rw [hc3, leafKey, leafText_flat]
    rfl
  have H1 := hide (secrets_calls seed leaf w hG)
  have H2 := hide (fun told wx (ht : FnAt wx told (fun i => .string ⟨(secret seed leaf i).toArray⟩)) (hs : FnAt wx (.func (.func 65) #[] #[]) (fun _ => .int .i64 3)) (hg : Glo wx) => further_calls (fun i => secret seed leaf i) (fun _ => 3) told _ wx ht hs hg (fun i _ => Nat.le_trans (secret_length seed leaf i) (by omega)))
  have H3 := hide (fun told wx (ht : FnAt wx told (fun i : Nat => .string ⟨(chainV (secret seed leaf i) 3).toArray⟩)) (hg : Glo wx) => leafKeyOf_calls (fun i : Nat => chainV (secret seed leaf i) 3) told wx ht hg (fun i _ => by rw [show chainV (secret seed leaf i) 3 = chain 3 (secret seed leaf i) from chainV_nat _ 3 (by omega), chain_length _ _ (by omega)]; omega))
  rw [← HL.out] at H3
  generalize leafKey seed leaf = c at *
  have HS := hide (fun (wx : World) => (⟨65, #[], rfl, run_enter Tryd.func65 (by kernel_rfl) (by kernel_rfl), fun w1 _ i _ => whole_calls i w1⟩ : FnAt wx (.func (.func 65) #[] #[]) (fun _ => .int .i64 3)))
  have HG := hide hG
  clear hG HL hc3
  go_enter Tryd.func22, Tryd.ntmps22
  go_wp2_with fail
  refine H1.out.mono ?_
  rintro e w1 ⟨v, rfl, hv, hb1⟩
  have HV := hide hv
  have HB1 := hide hb1
  obtain ⟨f1, c1, e1, -⟩ := hv
  subst e1
  clear hb1
  go_wp2_with fail
  refine (H2.out _ _ HV.out (HS.out _) (HG.out.below HB1.out)).mono ?_
  rintro e w2 ⟨v2, rfl, hv2, hb2⟩
  have HV2 := hide hv2
  have HB2 := hide (HB1.out.trans (hb2.mono HB1.out.size))
  obtain ⟨f2, c2, e2, -⟩ := hv2
  subst e2
  clear hb2
  go_wp2_with fail
  refine (H3.out _ _ HV2.out (HG.out.below HB2.out)).mono ?_
  rintro e w3 ⟨rfl, hb3⟩
  go_wp2_with fail
  go_ret
  exact ⟨rfl, HB2.out.trans (hb3.mono HB2.out.size)⟩
end Go.Proofs.YtmjpdccfdaajmaaDoor.P4
