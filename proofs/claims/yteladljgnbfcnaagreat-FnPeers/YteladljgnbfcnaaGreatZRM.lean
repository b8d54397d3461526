/- The library's contracts of maps.Keys, slices.Sorted, slices.Sort at this program, for keys that are ints; no condition.
A map that a call made, as the library's walks want it: its keys; no condition but that they are ints.
The program's HereOf: a map's keys, sorted; condition: at most 2^20 peers, their Ids on the ring. -/
import Derived.Test.YteladljgnbfcnaaGreatProg
import Derived.Test.YteladljgnbfcnaaGreatZRE
import Derived.Test.YteladljgnbfcnaaGreatZRB
import Derived.Test.YteladljgnbfcnaaGreatZRH
import Derived.Test.YteladljgnbfcnaaGreatZRG
import Derived.Shelf.SlIterI.Nil
import Derived.Shelf.SortM.Plain
import Derived.Shelf.SortM.SortNone
namespace Go.Proofs
open Go.Shelf
def Tryz.keysA_ren : Go.Shelf.Ren := ⟨fun | 7 => 29 | 10 => 56 | n => n, fun | 23 => 53 | 26 => 3 | 3 => 54 | 28 => 50 | 0 => 0 | 27 => 49 | 33 => 67 | 4 => 4 | n => n, fun | n => n⟩
theorem Tryz.keysA : Go.Proofs.SlLaysZI.n7 Tryz.prog Tryz.keysA_ren := {
  mixed := by kernel_rfl
  f7 := ⟨Tryz.f29.name, by decide, Tryz.func29.trans (congrArg some (by kernel_rfl))⟩
  f10 := ⟨Tryz.f56.name, by decide, Tryz.func56.trans (congrArg some (by kernel_rfl))⟩
  t0 := Tryz.underlying0
  a0 := Tryz.isAgg0
  z0 := Tryz.sizeOf0
  v0 := Tryz.zeroValue0
  t4 := Tryz.underlying4
  a4 := Tryz.isAgg4
  z4 := Tryz.sizeOf4
  v4 := Tryz.zeroValue4
  t23 := Tryz.underlying53
  a23 := Tryz.isAgg53
  z23 := Tryz.sizeOf53
  v23 := Tryz.zeroValue53
  t26 := Tryz.underlying3
  a26 := Tryz.isAgg3
  z26 := Tryz.sizeOf3
  v26 := Tryz.zeroValue3
  t27 := Tryz.underlying49
  a27 := Tryz.isAgg49
  z27 := Tryz.sizeOf49
  v27 := Tryz.zeroValue49
  t28 := Tryz.underlying50
  a28 := Tryz.isAgg50
  z28 := Tryz.sizeOf50
  v28 := Tryz.zeroValue50
  t33 := Tryz.underlying67
  a33 := Tryz.isAgg67
  z33 := Tryz.sizeOf67
  v33 := Tryz.zeroValue67 }
def Tryz.sortedA_ren : Go.Shelf.Ren := ⟨fun | 6 => 28 | 8 => 54 | 9 => 55 | 11 => 67 | 13 => 69 | 12 => 68 | 23 => 90 | 24 => 91 | 14 => 81 | 15 => 82 | 16 => 83 | 17 => 84 | 18 => 85 | 19 => 86 | 20 => 87 | 21 => 88 | 22 => 89 | 25 => 97 | 26 => 98 | 27 => 99 | 28 => 100 | 29 => 101 | 30 => 102 | 31 => 107 | n => n, fun | 26 => 3 | 28 => 50 | 24 => 24 | 0 => 0 | 3 => 3 | 37 => 66 | 48 => 115 | 50 => 117 | 4 => 4 | 40 => 109 | 39 => 108 | 45 => 57 | 5 => 5 | 9 => 9 | 51 => 126 | 55 => 130 | 57 => 136 | 58 => 137 | 33 => 67 | n => n, fun | n => n⟩
theorem Tryz.sortedA : Go.Proofs.SlLaysZI.n6 Tryz.prog Tryz.sortedA_ren := {
  mixed := by kernel_rfl
  f6 := ⟨Tryz.f28.name, by decide, Tryz.func28.trans (congrArg some (by kernel_rfl))⟩
  f8 := ⟨Tryz.f54.name, by decide, Tryz.func54.trans (congrArg some (by kernel_rfl))⟩
  f11 := ⟨Tryz.f67.name, by decide, Tryz.func67.trans (congrArg some (by kernel_rfl))⟩
  t0 := Tryz.underlying0
  a0 := Tryz.isAgg0
  z0 := Tryz.sizeOf0
  v0 := Tryz.zeroValue0
  t24 := Tryz.underlying24
  a24 := Tryz.isAgg24
  z24 := Tryz.sizeOf24
  v24 := Tryz.zeroValue24
  t26 := Tryz.underlying3
  a26 := Tryz.isAgg3
  z26 := Tryz.sizeOf3
  v26 := Tryz.zeroValue3
  t28 := Tryz.underlying50
  a28 := Tryz.isAgg50
  z28 := Tryz.sizeOf50
  v28 := Tryz.zeroValue50
  i26 := by kernel_rfl }
def Tryz.sortA_ren : Go.Shelf.Ren := ⟨fun | 5 => 55 | 8 => 69 | 7 => 68 | 19 => 90 | 20 => 91 | 10 => 81 | 11 => 82 | 12 => 83 | 13 => 84 | 14 => 85 | 15 => 86 | 16 => 87 | 17 => 88 | 18 => 89 | 30 => 97 | 31 => 98 | 32 => 99 | 33 => 100 | 34 => 101 | 35 => 102 | 40 => 107 | n => n, fun | 23 => 24 | 25 => 3 | 3 => 3 | 32 => 66 | 22 => 24 | 0 => 0 | 44 => 115 | 46 => 117 | 4 => 4 | 36 => 109 | 35 => 108 | 41 => 57 | 5 => 5 | 9 => 9 | 53 => 126 | 57 => 130 | 63 => 136 | 64 => 137 | n => n, fun | n => n⟩
theorem Tryz.sortA : Go.Proofs.SlLaysM.n5 Tryz.prog Tryz.sortA_ren := {
  mixed := by kernel_rfl
  f5 := ⟨Tryz.f55.name, by decide, Tryz.func55.trans (congrArg some (by kernel_rfl))⟩
  f7 := ⟨Tryz.f68.name, by decide, Tryz.func68.trans (congrArg some (by kernel_rfl))⟩
  f8 := Tryz.func69.trans (congrArg some (by kernel_rfl))
  f10 := ⟨Tryz.f81.name, by decide, Tryz.func81.trans (congrArg some (by kernel_rfl))⟩
  f11 := ⟨Tryz.f82.name, by decide, Tryz.func82.trans (congrArg some (by kernel_rfl))⟩
  f12 := ⟨Tryz.f83.name, by decide, Tryz.func83.trans (congrArg some (by kernel_rfl))⟩
  f13 := ⟨Tryz.f84.name, by decide, Tryz.func84.trans (congrArg some (by kernel_rfl))⟩
  f14 := ⟨Tryz.f85.name, by decide, Tryz.func85.trans (congrArg some (by kernel_rfl))⟩
  f15 := ⟨Tryz.f86.name, by decide, Tryz.func86.trans (congrArg some (by kernel_rfl))⟩
  f16 := ⟨Tryz.f87.name, by decide, Tryz.func87.trans (congrArg some (by kernel_rfl))⟩
  f17 := ⟨Tryz.f88.name, by decide, Tryz.func88.trans (congrArg some (by kernel_rfl))⟩
  f18 := ⟨Tryz.f89.name, by decide, Tryz.func89.trans (congrArg some (by kernel_rfl))⟩
  f19 := Tryz.func90.trans (congrArg some (by kernel_rfl))
  f20 := Tryz.func91.trans (congrArg some (by kernel_rfl))
  f30 := ⟨Tryz.f97.name, by decide, Tryz.func97.trans (congrArg some (by kernel_rfl))⟩
  f31 := Tryz.func98.trans (congrArg some (by kernel_rfl))
  f32 := Tryz.func99.trans (congrArg some (by kernel_rfl))
  f33 := ⟨Tryz.f100.name, by decide, Tryz.func100.trans (congrArg some (by kernel_rfl))⟩
  f34 := ⟨Tryz.f101.name, by decide, Tryz.func101.trans (congrArg some (by kernel_rfl))⟩
  f35 := ⟨Tryz.f102.name, by decide, Tryz.func102.trans (congrArg some (by kernel_rfl))⟩
  f40 := ⟨Tryz.f107.name, by decide, Tryz.func107.trans (congrArg some (by kernel_rfl))⟩
  t0 := Tryz.underlying0
  a0 := Tryz.isAgg0
  z0 := Tryz.sizeOf0
  v0 := Tryz.zeroValue0
  t3 := Tryz.underlying3
  a3 := Tryz.isAgg3
  z3 := Tryz.sizeOf3
  v3 := Tryz.zeroValue3
  t4 := Tryz.underlying4
  a4 := Tryz.isAgg4
  z4 := Tryz.sizeOf4
  v4 := Tryz.zeroValue4
  t5 := Tryz.underlying5
  a5 := Tryz.isAgg5
  z5 := Tryz.sizeOf5
  v5 := Tryz.zeroValue5
  t9 := Tryz.underlying9
  a9 := Tryz.isAgg9
  z9 := Tryz.sizeOf9
  v9 := Tryz.zeroValue9
  t22 := Tryz.underlying24
  a22 := Tryz.isAgg24
  z22 := Tryz.sizeOf24
  v22 := Tryz.zeroValue24
  t23 := Tryz.underlying24
  a23 := Tryz.isAgg24
  z23 := Tryz.sizeOf24
  v23 := Tryz.zeroValue24
  t25 := Tryz.underlying3
  a25 := Tryz.isAgg3
  z25 := Tryz.sizeOf3
  v25 := Tryz.zeroValue3
  t32 := Tryz.underlying66
  a32 := Tryz.isAgg66
  z32 := Tryz.sizeOf66
  v32 := Tryz.zeroValue66
  t35 := Tryz.underlying108
  a35 := Tryz.isAgg108
  z35 := Tryz.sizeOf108
  v35 := Tryz.zeroValue108
  t36 := Tryz.underlying109
  a36 := Tryz.isAgg109
  z36 := Tryz.sizeOf109
  v36 := Tryz.zeroValue109
  t41 := Tryz.underlying57
  a41 := Tryz.isAgg57
  z41 := Tryz.sizeOf57
  v41 := Tryz.zeroValue57
  t44 := Tryz.underlying115
  a44 := Tryz.isAgg115
  z44 := Tryz.sizeOf115
  v44 := Tryz.zeroValue115
  t46 := Tryz.underlying117
  a46 := Tryz.isAgg117
  z46 := Tryz.sizeOf117
  v46 := Tryz.zeroValue117
  t53 := Tryz.underlying126
  a53 := Tryz.isAgg126
  z53 := Tryz.sizeOf126
  v53 := Tryz.zeroValue126
  t57 := Tryz.underlying130
  a57 := Tryz.isAgg130
  z57 := Tryz.sizeOf130
  v57 := Tryz.zeroValue130
  t63 := Tryz.underlying136
  a63 := Tryz.isAgg136
  z63 := Tryz.sizeOf136
  v63 := Tryz.zeroValue136
  t64 := Tryz.underlying137
  a64 := Tryz.isAgg137
  z64 := Tryz.sizeOf137
  v64 := Tryz.zeroValue137 }
end Go.Proofs
namespace Go.Proofs.YteladljgnbfcnaaGreat.P9
open Go.RowKit P1 P8 Da Mp Go.MapKept Go.Maps
open Go.WideElems (Fit rd rg pl)

def anyR (_ : Value) : Option (DataW Unit × List MemPlace) := some (.nil, [])

theorem wf_int {x : Int} (h : -9223372036854775808 ≤ x ∧ x ≤ 9223372036854775807) : (Lit.int .i64 x).wf = true := by
  simp [Lit.wf, IntKind.min, IntKind.max, IntKind.signed, IntKind.bits]
  omega

theorem ens_rd {es : Array MapEntry} {clock : Nat} {f : Int → Option Value} (h : Ens (P := Tryz.prog) (k := 3) keyI es clock f) (hw : ∀ x, (f x).isSome = true → (Lit.int .i64 x).wf = true) {e : MapEntry} (he : e ∈ es.toList) :
    ∃ y : Int, e.key = .int .i64 y ∧ (f y).isSome = true ∧ rd Tryz.prog 3 anyR e = some (.int .i64 y, .nil) := by
  obtain ⟨y, hy⟩ := h.keys e he
  have hf := (h.val y e.val).2 ⟨e, he, hy, rfl⟩
  have hs : (f y).isSome = true := by rw [hf]; rfl
  refine ⟨y, hy, hs, ?_⟩
  obtain ⟨key, val, born⟩ := e
  have hk : key = .int .i64 y := hy
  subst hk
  exact Go.WideElems.rd_mk (R := anyR) (yv := (.nil, [])) (keyOf_int_mk Tryz.underlying3 (hw y hs)) rfl

theorem own_keys {w : World} {b n : Nat} {f : Int → Option Value} (h : MapR keyI w b n f) (hn : n ≤ maxLen) (hw : ∀ x, (f x).isSome = true → (Lit.int .i64 x).wf = true) :
    ∃ D : DataW Unit, w.ownsMap Tryz.prog 3 anyR b n D ∧ (∀ x, has D (.int .i64 x) = true ↔ (f x).isSome = true) ∧ ∀ S : List Int, S.Nodup → (∀ x, x ∈ S ↔ (f x).isSome = true) → S.Perm (intKeys D) ∧ Maps.size D = S.length := by
  obtain ⟨es, clock, h1, h2, h3⟩ := h
  have hown : w.ownsMap Tryz.prog 3 anyR b n (.map ((es.toList.map (rg Tryz.prog 3 anyR)).foldr DataW.insert [])) :=
    ⟨es, clock, h1, ⟨Nat.le_trans h3 hn, h2.stamped, fun e he => by
      obtain ⟨y, _, _, hy⟩ := ens_rd h2 hw he
      exact ⟨_, hy⟩⟩, h3, rfl⟩
  have hhas : ∀ x, has (.map ((es.toList.map (rg Tryz.prog 3 anyR)).foldr DataW.insert [])) (.int .i64 x) = true ↔ (f x).isSome = true := fun x => by
    rw [has_eq, List.any_eq_true]
    constructor
    · rintro ⟨p, hp, hs⟩
      obtain ⟨e, he, rfl⟩ := List.mem_map.1 (mem_sorted.1 hp)
      obtain ⟨y, _, hf, hr⟩ := ens_rd h2 hw he
      rw [Go.WideElems.rg_of hr] at hs
      have e : y = x := by simpa [Lit.sameKey] using hs
      rw [← e]
      exact hf
    · intro hf
      obtain ⟨v, hv⟩ := Option.isSome_iff_exists.1 hf
      obtain ⟨e, he, hk, _⟩ := (h2.val x v).1 hv
      obtain ⟨y, hy, _, hr⟩ := ens_rd h2 hw he
      have exy : y = x := by
        have h5 : (Value.int .i64 y) = Value.int .i64 x := hy.symm.trans hk
        simpa using h5
      refine ⟨rg Tryz.prog 3 anyR e, mem_sorted.2 (List.mem_map_of_mem he), ?_⟩
      rw [Go.WideElems.rg_of hr, exy]
      simp [Lit.sameKey]
  refine ⟨_, hown, hhas, fun S hn2 hS => ?_⟩
  obtain ⟨es2, hD, hpw, hik⟩ := hown.entries (int_keyed Tryz.underlying3)
  have hk2 : ∀ p ∈ es2, ∃ x, p.1 = .int .i64 x := fun p hp => by
    have hD2 : ((es.toList.map (rg Tryz.prog 3 anyR)).foldr DataW.insert []) = es2 := by
      have := hD
      simpa using this
    rw [← hD2] at hp
    obtain ⟨e, he, rfl⟩ := List.mem_map.1 (mem_sorted.1 hp)
    obtain ⟨y, _, _, hr⟩ := ens_rd h2 hw he
    exact ⟨y, by rw [Go.WideElems.rg_of hr]⟩
  have hp := perm_intKeys hpw hk2 hn2 (fun x => by rw [hS, ← hhas, hD])
  rw [hD]
  refine ⟨hp, ?_⟩
  rw [hp.length_eq]
  simp [intKeys, size_eq]

/-- Of those that are there the Ids, each once. -/
def hereSet (l : List Pr) : List Int := nub ((l.filter (·.here)).map (·.id))
end Go.Proofs.YteladljgnbfcnaaGreat.P9
namespace Go.Proofs.YteladljgnbfcnaaGreat.P9
set_option maxRecDepth 8000
open Go.RowKit P1 P8 Da Mp Go.MapKept Go.Maps Go.Sort Go.Shelf

theorem mem_here (v : Value) (l : List Pr) (x : Int) : x ∈ hereSet l ↔ (hereV v l x).isSome = true := by
  unfold hereSet
  rw [mem_nub]
  unfold hereV hereIdx
  rw [Option.isSome_map, List.findIdx?_isSome, List.any_eq_true, List.mem_map]
  constructor
  · rintro ⟨p, hp, e⟩
    obtain ⟨h1, h2⟩ := List.mem_filter.1 hp
    exact ⟨p, h1, by simp [h2, e]⟩
  · rintro ⟨p, hp, e⟩
    simp only [Bool.and_eq_true, beq_iff_eq] at e
    exact ⟨p, List.mem_filter.2 ⟨hp, e.1⟩, e.2⟩

theorem hereSet_nodup (l : List Pr) : (hereSet l).Nodup := Go.Proofs.YteladljgnbfcnaaGreat.P8.nub_nodup _

theorem hereSet_len (l : List Pr) : (hereSet l).length ≤ l.length := by
  unfold hereSet
  refine Nat.le_trans (nub_length _) ?_
  rw [List.length_map]
  exact List.length_filter_le _ _

/-- They, ascending. -/
def hereUp (l : List Pr) : List Int := (hereSet l).mergeSort leI

theorem inI_perm (x : Int) : ∀ l : List Int, (inI x l).Perm (x :: l)
  | [] => List.Perm.refl _
  | y :: l => by
    unfold inI
    split
    · exact List.Perm.refl _
    · exact ((inI_perm x l).cons y).trans (List.Perm.swap x y l)

theorem inI_up (x : Int) : ∀ {l : List Int}, l.Pairwise (· ≤ ·) → (inI x l).Pairwise (· ≤ ·)
  | [], _ => by simp [inI]
  | y :: l, h => by
    rw [List.pairwise_cons] at h
    unfold inI
    split
    · rename_i hlt
      refine List.pairwise_cons.2 ⟨fun z hz => ?_, List.pairwise_cons.2 h⟩
      rcases List.mem_cons.1 hz with rfl | hz
      · omega
      · have := h.1 z hz
        omega
    · rename_i hge
      refine List.pairwise_cons.2 ⟨fun z hz => ?_, inI_up x h.2⟩
      rcases List.mem_cons.1 ((inI_perm x l).mem_iff.1 hz) with rfl | hz
      · omega
      · exact h.1 z hz

theorem snocA {α : Type} {P : List α → Prop} (h0 : P []) (h1 : ∀ l x, P l → P (l ++ [x])) : ∀ l, P l := fun l => by
  have h : ∀ r : List α, P r.reverse := by
    intro r
    induction r with
    | nil => exact h0
    | cons x r ih => rw [List.reverse_cons]; exact h1 _ _ ih
  simpa using h l.reverse

theorem hereOf_perm (l : List Pr) : (hereOf l).Perm ((l.filter (·.here)).map (·.id)) := by
  refine snocA (P := fun l => (hereOf l).Perm ((l.filter (·.here)).map (·.id))) ?_ ?_ l
  · exact List.Perm.refl _
  · intro l p ih
    rw [hereOf_snoc, List.filter_append, List.map_append]
    unfold hereStep
    by_cases hp : p.here = true
    · rw [if_pos hp]
      have e : List.filter (·.here) [p] = [p] := by simp [hp]
      rw [e]
      exact (inI_perm p.id _).trans ((ih.cons p.id).trans (List.perm_append_comm (l₁ := [p.id])))
    · rw [if_neg hp]
      have e : List.filter (·.here) [p] = [] := by simp [hp]
      rw [e]
      simpa using ih

theorem hereOf_up (l : List Pr) : (hereOf l).Pairwise (· ≤ ·) := by
  refine snocA (P := fun l => (hereOf l).Pairwise (· ≤ ·)) ?_ ?_ l
  · exact List.Pairwise.nil
  · intro l p ih
    rw [hereOf_snoc]
    unfold hereStep
    split
    · exact inI_up _ ih
    · exact ih

theorem up_sorted {l : List Int} (h : l.Pairwise (· ≤ ·)) : l.mergeSort leI = l := by
  have tr : ∀ a b c : Int, leI a b = true → leI b c = true → leI a c = true := fun a b c h1 h2 => by simp only [leI, decide_eq_true_eq] at *; exact Int.le_trans h1 h2
  have tot : ∀ a b : Int, (leI a b || leI b a) = true := fun a b => by simp only [leI, Bool.or_eq_true, decide_eq_true_eq]; exact Int.le_total a b
  refine List.Perm.eq_of_pairwise (le := fun a b => leI a b = true) (fun a b _ _ h1 h2 => ?_) (List.pairwise_mergeSort tr tot l) (h.imp (fun h => decide_eq_true h)) (List.mergeSort_perm l leI)
  simp only [leI, decide_eq_true_eq] at h1 h2
  exact Int.le_antisymm h1 h2

/-- Where no two that are there have one Id, both sides say the same. -/
theorem hereUp_eq {l : List Pr} (h : (l.map (·.id)).Nodup) : hereUp l = hereOf l := by
  have hn : ((l.filter (·.here)).map (·.id)).Nodup := h.sublist (List.filter_sublist.map _)
  have hp : (hereSet l).Perm (hereOf l) := by
    refine ((List.perm_ext_iff_of_nodup (hereSet_nodup l) hn).2 fun x => ?_).trans (hereOf_perm l).symm
    unfold hereSet
    exact mem_nub _ x
  unfold hereUp
  rw [mergeSort_of_perm_i hp, up_sorted (hereOf_up l)]

theorem sortsA (m : Nat) : AnyZI.SortsIn Tryz.prog Tryz.sortedA_ren Fence.wide m :=
  ⟨fun blk off cap ss W hH hblk hsz => callsIn_wide.2 (AnyM.slices_Sort_int Tryz.sortA blk off cap ss W hH hblk hsz),
   fun p cap W => callsIn_wide.2 (AnyM.slices_Sort_int_none Tryz.sortA p cap W)⟩

theorem ids_wf {l : List Pr} (hon : OnRing l) {v : Value} {x : Int} (h : (hereV v l x).isSome = true) : (Lit.int .i64 x).wf = true := by
  unfold hereV at h
  rw [Option.isSome_map] at h
  obtain ⟨j, hj⟩ := Option.isSome_iff_exists.1 h
  obtain ⟨hlt, h1, h2⟩ := hereIdx_some hj
  have h3 := hon l[j] (List.getElem_mem hlt) h1
  rw [h2] at h3
  unfold onR at h3
  simp only [Bool.and_eq_true, decide_eq_true_eq] at h3
  exact wf_int (by omega)

/-- The keys of such a map, sorted. -/
theorem sorted_calls (W : World) (km n : Nat) (f : Int → Option Value) (S : List Int) (hm : MapR keyI W km n f) (hn : n ≤ 1048576) (hw : ∀ x, (f x).isSome = true → (Lit.int .i64 x).wf = true) (hS : S.Nodup) (hSf : ∀ x, x ∈ S ↔ (f x).isSome = true) (hSl : S.length ≤ 1048576) :
    Calls Tryz.prog 28 #[.func (.func 56) #[] #[.pointer (some ⟨W.heap.size, 0, none⟩)]] (W.alloc (.cells #[.map (some km)] 53)) fun e w' => ∃ v, e = .returned v ∧ w'.ownsRow W.heap.size 3 1 v (S.mergeSort leI).length (cellsI (S.mergeSort leI)) ∧ Below W.heap.size W w' := by
  obtain ⟨D, hown, hhas, hperm⟩ := own_keys hm (by unfold maxLen; omega) hw
  obtain ⟨hSp, hsz⟩ := hperm S hS hSf
  have hbl := hown.lt
  have hseq : SeqGives Fence.wide 2 Tryz.prog 56 #[.pointer (some ⟨W.heap.size, 0, none⟩)] encZ (fun ss => ss.Perm (intKeys D)) (Maps.size D) (W.alloc (.cells #[.map (some km)] 53)) :=
    AnyZI.keys_gives (ρ := Tryz.keysA_ren) { Tryz.keysA with } Fence.wide _ trivial rfl (by omega) W.heap.size km n D _ (by simp) (by simp) (by
      obtain ⟨es, clock, hb, Ft, hs, hD⟩ := hown
      exact ⟨es, clock, (Below.heap_alloc _ _ km hbl).trans hb, Ft, hs, hD⟩)
  have cS := AnyZI.sorted_in Tryz.sortedA Fence.wide 5 trivial trivial trivial trivial rfl (by omega) (sortsA _) (enters_of Tryz.func55 (by kernel_rfl) rfl) 56 #[.pointer (some ⟨W.heap.size, 0, none⟩)] trivial (enters_of Tryz.func56 (by kernel_rfl) rfl) _ _ (by unfold maxLen; omega) (by omega) _ hseq
  change CallsIn _ _ Tryz.prog 28 _ _ _ at cS
  refine ((callsIn_wide (n := 5)).1 cS).mono ?_
  rintro e w' ⟨v, ss, rfl, hss, hrow, -, hb⟩
  have e1 : ss.mergeSort leI = S.mergeSort leI := mergeSort_of_perm_i (hss.trans hSp.symm)
  have e2 : ss.length = (S.mergeSort leI).length := by rw [← e1, List.length_mergeSort]
  refine ⟨v, rfl, ?_, ((Below.refl _ W).alloc (Nat.le_refl _) _).trans (hb.mono (by simp))⟩
  have hr := own_mono (B' := W.heap.size) hrow (by simp)
  rw [e2] at hr
  have e3 : (ss.mergeSort (fun x y => decide (x ≤ y))) = S.mergeSort leI := e1
  rw [e3] at hr
  exact hr

set_option maxHeartbeats 1000000 in
theorem implHere_calls (w : World) (v : Value) (l : List Pr) (hv : PeersAt w v l) (hl : l.length ≤ 1048576) (hon : OnRing l) :
    Calls Tryz.prog 7 #[.agg #[v]] w fun e w' => ∃ v', e = .returned v' ∧ w'.ownsRow w.heap.size 3 1 v' (hereUp l).length (cellsI (hereUp l)) ∧ Below w.heap.size w w' := by
  have hb1 := (Below.refl w.heap.size w).alloc (Nat.le_refl _) (.cells #[v] 28)
  have HV := hide (hv.below hb1 (Nat.le_refl _))
  obtain ⟨a, cap, hsh, -⟩ := hv.open_
  have HB := hide hb1
  have HON := hide hon
  clear hv hb1 hon
  subst hsh
  go_enter Tryz.func7, Tryz.ntmps7
  go_wp2_with fail
  generalize w.alloc (.cells #[.slice a l.length cap] 28) = w1 at *
  refine (present_calls w1 _ l HV.out hl).mono ?_
  rintro e w2 ⟨km, rfl, hkm, hm, hb2⟩
  have HB2 := hide (HB.out.trans (hb2.mono HB.out.size))
  have HS := hide (sorted_calls w2 km l.length _ (hereSet l) hm hl (fun x hx => ids_wf HON.out hx) (hereSet_nodup l) (fun x => mem_here _ l x) (Nat.le_trans (hereSet_len l) hl))
  have HK := hide ((callsIn_wide (n := 5)).1 (AnyZI.keys_in Tryz.keysA Fence.wide 5 trivial rfl (some km) w2))
  change Hid (Calls Tryz.prog 29 #[.map (some km)] w2 fun e w' => e = .returned (.func (.func 56) #[] #[.pointer (some ⟨w2.heap.size, 0, none⟩)]) ∧ w' = w2.alloc (.cells #[.map (some km)] 53)) at HK
  have hwz := HB2.out.size
  clear hb2 hm HB HV
  go_wp2_with fail
  refine HK.out.mono ?_
  rintro e w3 ⟨rfl, rfl⟩
  go_wp2_with fail
  refine HS.out.mono ?_
  rintro e w4 ⟨v', rfl, hown, hb4⟩
  have HO := hide (own_mono hown hwz)
  have HB4 := hide (HB2.out.trans (hb4.mono hwz))
  clear HS HK hown hb4
  go_wp2_with fail
  go_ret
  exact ⟨_, rfl, HO.out, HB4.out⟩
end Go.Proofs.YteladljgnbfcnaaGreat.P9
