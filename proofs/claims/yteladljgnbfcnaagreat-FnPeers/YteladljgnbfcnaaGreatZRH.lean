/- What is read, appended to a row of the call's own, empty or not; no condition but sizes.
The next step to a key as plain mathematics; no condition.
The specification's StepTo; condition: at most 2^20 peers, their lists of at most 2^20.
A key's owner, step by step, as plain mathematics: on the ring each step that goes on leads to another one; no condition.
The specification's Find, where everybody that is there is on the ring; condition besides: at most 2^20 peers, their lists of at most 2^20. -/
import Derived.Test.YteladljgnbfcnaaGreatZRB
import Derived.Test.YteladljgnbfcnaaGreatZRA
import Derived.Test.YteladljgnbfcnaaGreatZA
import Derived.Test.YteladljgnbfcnaaGreatZRD
import Derived.Test.YteladljgnbfcnaaGreatZRC
import Derived.Laws.OwnMore
import Derived.Deep.CutRange
namespace Go.Proofs.YteladljgnbfcnaaGreat.Ap
open Go.RowKit P1 P9 Rc Rr Da

theorem run_append_none {P : Program} {w : World} (base : Nat) (t ty e : TypeId) (i : TypeInfo) (size : Nat) (ht : P.underlying t = some (.slice e)) (hi : P.info? e = some i)
    (v : Value) (n : Nat) (xs : List Value) (hown : w.ownsRow base e size v n xs) (c : Nat) :
    (Builtin.append_ #[t, t] ty #[v, .slice none 0 c]).run P w = .ok v w := by
  rcases hown.2 with ⟨rfl, rfl⟩ | ⟨g, cap, cur, rfl, _, _, hnc, _⟩
  · simp [Builtin.append_, run_underlying ht, sizeOf, typeInfo, hi, Builtin.lenOf, Builtin.firstCells]
  · simp [Builtin.append_, run_underlying ht, sizeOf, typeInfo, hi, Builtin.lenOf, Builtin.firstCells, hnc, storeCells]

theorem grown_self (w : World) (r : Option Nat) : w.grownBy w r := ⟨rfl, rfl, rfl, Nat.le_refl _, fun _ _ _ => rfl⟩

theorem run_append_any {P : Program} (w : World) (base : Nat) (t ty e : TypeId) (i : TypeInfo) (z : Value) (size bytes : Nat) (ht : P.underlying t = some (.slice e)) (hi : P.info? e = some i) (hz : i.zero = some z)
    (hsize : i.size = size) (hby : i.bytes = bytes) (hzs : z.cells.size = size) (hsz : 0 < size)
    (v : Value) (n : Nat) (xs : List Value) (hown : w.ownsRow base e size v n xs)
    (a : Option Addr) (m c : Nat) (news : List Value) (hl : news.length = m * size) (hnews : ∀ j u, news[j]? = some u → ∃ g off, a = some ⟨g, off, none⟩ ∧ w.cell? ⟨g, off + j, none⟩ = some u) (h1 : ∀ u ∈ news, u.oneCell' = true)
    (h63 : n + m ≤ maxLen) (hbytes : (n + m) * bytes ≤ 140737488355328) (hbase : base ≤ w.heap.size) :
    ∃ v' w', (Builtin.append_ #[t, t] ty #[v, .slice a m c]).run P w = .ok v' w' ∧ w'.ownsRow base e size v' (n + m) (xs ++ news) ∧ w.grownBy w' v.ownBlock := by
  rcases Nat.eq_zero_or_pos m with hm | hm
  · subst hm
    have hn : news = [] := List.eq_nil_of_length_eq_zero (by simpa using hl)
    subst hn
    cases a with
    | none => exact ⟨v, w, run_append_none base t ty e i size ht hi v n xs hown c, by simpa using hown, grown_self w _⟩
    | some ad =>
      obtain ⟨v', w', hr, h2, h3, -⟩ := run_append_own (P := P) w base t ty e i z size bytes ht hi hz hsize hby hzs hsz v n xs hown ad 0 c [] (by simp) (by simp) (by simp) h63 hbytes hbase
      exact ⟨v', w', hr, h2, h3⟩
  · have h0 : 0 < news.length := by rw [hl]; exact Nat.mul_pos hm hsz
    obtain ⟨g, off, rfl, -⟩ := hnews 0 news[0] (by simp [h0])
    obtain ⟨v', w', hr, h2, h3, -⟩ := run_append_own (P := P) w base t ty e i z size bytes ht hi hz hsize hby hzs hsz v n xs hown ⟨g, off, none⟩ m c news hl (fun j u hj => by
      obtain ⟨g', off', e', h⟩ := hnews j u hj
      cases e'
      simp only [Go.WideShapes.add_plain]
      exact h) h1 h63 hbytes hbase
    exact ⟨v', w', hr, h2, h3⟩

theorem wpList_append_any {P : Program} {w : World} {ops : Array Oper} {rest : List Oper} {o : Oper} {a : Act} {Q : Exit → Act → World → Prop} (hgd : o.guard = none) (s x : Operand) (t : TypeId)
    (ho : o.op = .call { callee := .builtin .append, args := #[s, x], argTypes := #[t, t] })
    (base : Nat) (e : TypeId) (i : TypeInfo) (z : Value) (size bytes : Nat) (ht : P.underlying t = some (.slice e)) (hi : P.info? e = some i) (hz : i.zero = some z)
    (hsize : i.size = size) (hby : i.bytes = bytes) (hzs : z.cells.size = size) (hsz : 0 < size)
    (v : Value) (n : Nat) (xs : List Value) (hs : a.eval s = v) (hown : w.ownsRow base e size v n xs)
    (ad : Option Addr) (m c : Nat) (hx : a.eval x = .slice ad m c) (news : List Value) (hl : news.length = m * size) (hnews : ∀ j u, news[j]? = some u → ∃ g off, ad = some ⟨g, off, none⟩ ∧ w.cell? ⟨g, off + j, none⟩ = some u) (h1 : ∀ u ∈ news, u.oneCell' = true)
    (h63 : n + m ≤ maxLen) (hbytes : (n + m) * bytes ≤ 140737488355328) (hbase : base ≤ w.heap.size)
    (h : ∀ v' w', w'.ownsRow base e size v' (n + m) (xs ++ news) → w.grownBy w' v.ownBlock → wpList P ops Q rest (a.put o.dst v') w') : wpList P ops Q (o :: rest) a w := by
  refine wpList_plain hgd fun K hK => ?_
  obtain ⟨v', w', hr, h2, h3⟩ := run_append_any (P := P) w base t o.type e i z size bytes ht hi hz hsize hby hzs hsz v n xs hown ad m c news hl hnews h1 h63 hbytes hbase
  unfold Oper.wp execOp
  simp only [ho, resolve, invoke, builtin, Sem.run_bind, Sem.run_pure, Result.andThen_ok, List.map_toArray, List.map_cons, List.map_nil, hs, hx, hr]
  exact hK _ _ (h v' w' h2 h3)

/-- Ints that are read, as what is appended. -/
theorem ints_news {w : World} {a : Option Addr} {c : Nat} {l : List Int} (h : IntsAt w (.slice a l.length c) l) : ∀ j u, (cellsI l)[j]? = some u → ∃ g off, a = some ⟨g, off, none⟩ ∧ w.cell? ⟨g, off + j, none⟩ = some u := by
  intro j u hj
  obtain ⟨a', c', e, HA⟩ := h
  cases e
  have hlt : j < l.length := by
    have := (List.getElem?_eq_some_iff.1 hj).1
    simpa [cellsI] using this
  obtain ⟨g, off, rfl, -, hc⟩ := HA j hlt
  refine ⟨g, off, rfl, ?_⟩
  rw [hc, ← hj]
  simp [cellsI, hlt]

theorem cellsI_one (l : List Int) : ∀ u ∈ cellsI l, u.oneCell' = true := by
  intro u hu
  obtain ⟨x, _, rfl⟩ := List.mem_map.1 hu
  rfl

theorem cellsI_len (l : List Int) : (cellsI l).length = l.length * 1 := by simp [cellsI]

theorem cellsI_append (l m : List Int) : cellsI l ++ cellsI m = cellsI (l ++ m) := by simp [cellsI]

/-- The cells of items. -/
def cellsT (l : List It) : List Value := l.flatMap fun x => [.string ⟨x.t.toArray⟩, .bool x.gone]

theorem cellsT_len (l : List It) : (cellsT l).length = l.length * 2 := by
  induction l with
  | nil => rfl
  | cons x l ih =>
    simp only [cellsT, List.flatMap_cons, List.length_append, List.length_cons, List.length_nil] at ih ⊢
    omega

theorem cellsT_append (l m : List It) : cellsT l ++ cellsT m = cellsT (l ++ m) := by simp [cellsT]

theorem cellsT_one (l : List It) : ∀ u ∈ cellsT l, u.oneCell' = true := by
  intro u hu
  obtain ⟨x, _, hx⟩ := List.mem_flatMap.1 hu
  simp at hx
  rcases hx with rfl | rfl <;> rfl

theorem cellsT_get : ∀ (l : List It) (j : Nat) (hj : j < l.length), (cellsT l)[j * 2]? = some (.string ⟨l[j].t.toArray⟩) ∧ (cellsT l)[j * 2 + 1]? = some (.bool l[j].gone)
  | x :: l, 0, _ => by simp [cellsT]
  | x :: l, j + 1, hj => by
    have := cellsT_get l j (by simpa using hj)
    have e : cellsT (x :: l) = [.string ⟨x.t.toArray⟩, .bool x.gone] ++ cellsT l := by simp [cellsT]
    rw [e]
    refine ⟨?_, ?_⟩
    · rw [List.getElem?_append_right (by simp; omega)]
      simp only [List.length_cons, List.length_nil]
      rw [show (j + 1) * 2 - (0 + 1 + 1) = j * 2 by omega]
      exact this.1
    · rw [List.getElem?_append_right (by simp; omega)]
      simp only [List.length_cons, List.length_nil]
      rw [show (j + 1) * 2 + 1 - (0 + 1 + 1) = j * 2 + 1 by omega]
      exact this.2

theorem items_news {w : World} {a : Option Addr} {c : Nat} {l : List It} (h : ItemsAt w (.slice a l.length c) l) : ∀ j u, (cellsT l)[j]? = some u → ∃ g off, a = some ⟨g, off, none⟩ ∧ w.cell? ⟨g, off + j, none⟩ = some u := by
  intro j u hj
  obtain ⟨a', c', e, HA⟩ := h.open_
  cases e
  have hlt : j < l.length * 2 := by
    have := (List.getElem?_eq_some_iff.1 hj).1
    rw [cellsT_len] at this
    exact this
  obtain ⟨g, off, rfl, -, h0, h1⟩ := HA (j / 2) (by omega)
  have hg := cellsT_get l (j / 2) (by omega)
  refine ⟨g, off, rfl, ?_⟩
  rcases Nat.mod_two_eq_zero_or_one j with hm | hm
  · have e : j = j / 2 * 2 := by omega
    have h2 := hg.1
    rw [← e] at h0 h2
    rw [h0, ← hj]
    exact h2.symm
  · have e : j = j / 2 * 2 + 1 := by omega
    have h2 := hg.2
    rw [← e] at h2
    rw [Nat.add_assoc, ← e] at h1
    rw [h1, ← hj]
    exact h2.symm
end Go.Proofs.YteladljgnbfcnaaGreat.Ap
namespace Go.Proofs.YteladljgnbfcnaaGreat.P9
open Go.RowKit P1 P8 Da

/-- Whether x is further on the way from id to the key than best. -/
def further (l : List Pr) (id key best x : Int) : Bool := decide (x ≠ key) && (decide (0 ≤ peerAt l x) && (btw id x key && decide (ahd id best < ahd id x)))

def farStep (l : List Pr) (id key best x : Int) : Int := if further l id key best x then x else best

def farthest (l : List Pr) (id key next : Int) (xs : List Int) : Int := xs.foldl (farStep l id key) next

theorem farthest_snoc (l : List Pr) (id key next : Int) (xs : List Int) (x : Int) : farthest l id key next (xs ++ [x]) = farStep l id key (farthest l id key next xs) x := by simp [farthest]

/-- What the one with this id knows of those further on. -/
def knownOf (l : List Pr) (id : Int) : List Int := match l[(peerAt l id).toNat]? with | none => [] | some p => p.behind ++ p.fingers

def stepTo (l : List Pr) (id key0 : Int) : Int × Bool :=
  let key := key0 % 256
  if peerAt l id < 0 ∨ nextOf l id < 0 then (-1, false)
  else if key = id then (id, true)
  else if btw id key (nextOf l id) then (nextOf l id, true)
  else (farthest l id key (nextOf l id) (knownOf l id), false)

theorem stepTo_none {l : List Pr} {id key : Int} (h : peerAt l id < 0 ∨ nextOf l id < 0) : stepTo l id key = (-1, false) := by
  unfold stepTo
  rw [if_pos h]

theorem stepTo_self {l : List Pr} {id key : Int} (h1 : 0 ≤ peerAt l id) (h2 : 0 ≤ nextOf l id) (h : key % 256 = id) : stepTo l id key = (id, true) := by
  unfold stepTo
  rw [if_neg (by omega), if_pos h]

theorem stepTo_next {l : List Pr} {id key : Int} (h1 : 0 ≤ peerAt l id) (h2 : 0 ≤ nextOf l id) (h : ¬ key % 256 = id) (h3 : btw id (key % 256) (nextOf l id) = true) : stepTo l id key = (nextOf l id, true) := by
  unfold stepTo
  rw [if_neg (by omega), if_neg h, if_pos h3]

theorem stepTo_far {l : List Pr} {id key : Int} (h1 : 0 ≤ peerAt l id) (h2 : 0 ≤ nextOf l id) (h : ¬ key % 256 = id) (h3 : btw id (key % 256) (nextOf l id) = false) : stepTo l id key = (farthest l id (key % 256) (nextOf l id) (knownOf l id), false) := by
  unfold stepTo
  rw [if_neg (by omega), if_neg h, if_neg (by rw [h3]; simp)]

theorem knownOf_hit {l : List Pr} {id : Int} {i : Nat} (hi : i < l.length) (h : peerAt l id = i) : knownOf l id = l[i].behind ++ l[i].fingers := by
  unfold knownOf
  rw [h]
  simp [hi]
end Go.Proofs.YteladljgnbfcnaaGreat.P9
namespace Go.Proofs.YteladljgnbfcnaaGreat.P9
set_option maxRecDepth 8000
open Go.RowKit P1 P8 Da Ap

theorem far_take {l : List Pr} {id key next : Int} {xs : List Int} {k : Nat} (hk : k < xs.length) : farthest l id key next (xs.take (k + 1)) = farStep l id key (farthest l id key next (xs.take k)) xs[k] := by
  rw [List.take_succ_eq_append_getElem hk, farthest_snoc]

set_option maxRecDepth 100000 in
set_option maxHeartbeats 4000000 in
theorem specStepTo_calls (w : World) (v : Value) (l : List Pr) (id key : Int) (hv : PeersAt w v l) (hl : l.length ≤ 1048576) (hsm : ∀ p ∈ l, Small p) :
    Calls Tryz.prog 103 #[.agg #[v], .int .i64 id, .int .i64 key] w fun e w' => e = .returned (.tuple #[.int .i64 (stepTo l id key).1, .bool (stepTo l id key).2]) ∧ Below w.heap.size w w' := by
  obtain ⟨R, eR⟩ : ∃ R, R = stepTo l id key := ⟨_, rfl⟩
  rw [← eR]
  have hb1 := (Below.refl w.heap.size w).alloc (Nat.le_refl _) (.cells #[v] 28)
  have HV := hide (hv.below hb1 (Nat.le_refl _))
  obtain ⟨a, cap, rfl, -⟩ := hv.open_
  have G := Blk.new w #[.slice a l.length cap] 28
  have HB := hide hb1
  have HSM := hide hsm
  have HBL : Hid (∀ p ∈ l, p.behind.length ≤ 1048576) := fun p hp => (hsm p hp).b
  have HR1 : Hid (peerAt l id < 0 ∨ nextOf l id < 0 → R = (-1, false)) := fun h => eR.trans (stepTo_none h)
  have HR2 := hide (fun h1 h2 h3 => eR.trans (stepTo_self (l := l) (id := id) (key := key) h1 h2 h3))
  have HR3 := hide (fun h1 h2 h3 h4 => eR.trans (stepTo_next (l := l) (id := id) (key := key) h1 h2 h3 h4))
  have HR4 := hide (fun h1 h2 h3 h4 => eR.trans (stepTo_far (l := l) (id := id) (key := key) h1 h2 h3 h4))
  have CM := hide (fun wx => mod_calls key wx)
  obtain ⟨K, eK⟩ : ∃ K, K = key % 256 := ⟨_, rfl⟩
  rw [← eK] at HR2 HR3 HR4 CM
  have HK : Hid (0 ≤ K ∧ K < 256) := by show _ ∧ _; omega
  obtain ⟨i0, hi0, hz0, hz1, hz2⟩ := info_parts info_i64
  clear hv hb1 hsm eR eK
  go_enter Tryz.func103, Tryz.ntmps103
  go_upto_region 1 with fail
  obtain ⟨b0, e0⟩ : ∃ b, b = w.heap.size := ⟨_, rfl⟩
  rw [← e0] at G ⊢
  clear e0
  generalize w.alloc (.cells #[.slice a l.length cap] 28) = w1 at *
  have HG := hide G
  have c0 : w1.cell? ⟨b0, 0, none⟩ = some (.slice a l.length cap) := by rw [G.cell 0]; rfl
  have l0 := G.lt
  clear G
  go_wp2_with fail
  refine (specPeerAt_calls w1 _ l id HV.out hl).mono ?_
  rintro e w2 ⟨rfl, hb2⟩
  have HV2 := hide (HV.out.below hb2 (Nat.le_refl _))
  have HB2 := hide (HB.out.trans (hb2.mono HB.out.size))
  have HG2 := hide (HG.out.below hb2 HG.out.lt)
  have c2 : w2.cell? ⟨b0, 0, none⟩ = some (.slice a l.length cap) := by rw [HG2.out.cell 0]; rfl
  have l2 := HG2.out.lt
  clear c0 l0 hb2 HV HB HG
  go_wp2_with fail
  refine (specNext_calls w2 _ l id HV2.out hl HBL.out).mono ?_
  rintro e w3 ⟨rfl, hb3⟩
  have HV3 := hide (HV2.out.below hb3 (Nat.le_refl _))
  have HB3 := hide (HB2.out.trans (hb3.mono HB2.out.size))
  have HG3 := hide (HG2.out.below hb3 HG2.out.lt)
  clear c2 l2 hb3 HV2 HB2 HG2
  go_wp2_with fail
  refine (CM.out _).mono ?_
  rintro e w4 ⟨rfl, hw⟩
  subst hw
  clear CM
  rcases peerAt_lt l id with hpa | ⟨i, hi, hpa⟩
  · have HR := hide (HR1.out (.inl (by omega)))
    rw [hpa]
    clear HR1 HR2 HR3 HR4
    generalize nextOf l id = nx at *
    go_wp2_with fail
    go_ret2
    exact ⟨by rw [HR.out]; rfl, HB3.out⟩
  · have hp0 : 0 ≤ peerAt l id := by omega
    by_cases hn : nextOf l id < 0
    · have HR := hide (HR1.out (.inr hn))
      rw [hpa]
      have hd : decide (nextOf l id < 0) = true := decide_eq_true hn
      have hd1 : decide ((i : Int) < 0) = false := decide_eq_false (by omega)
      clear HR1 HR2 HR3 HR4 hn hp0 hpa
      generalize nextOf l id = nx at *
      go_wp2_with fail
      go_ret2
      exact ⟨by rw [HR.out]; rfl, HB3.out⟩
    · have hn0 : 0 ≤ nextOf l id := by omega
      have HQ2 := hide (HR2.out hp0 hn0)
      have HQ3 := hide (HR3.out hp0 hn0)
      have HQ4 := hide (HR4.out hp0 hn0)
      have HKN := hide (knownOf_hit hi hpa)
      have hd : decide (nextOf l id < 0) = false := decide_eq_false hn
      have hd1 : decide ((i : Int) < 0) = false := decide_eq_false (by omega)
      rw [hpa]
      clear HR1 HR2 HR3 HR4 hn hn0 hp0 hpa
      generalize nextOf l id = nx at *
      by_cases hk : K = id
      · have HR := hide (HQ2.out hk)
        have hkd : (K == id) = true := by simpa using hk
        clear HQ2 HQ3 HQ4 hk
        go_wp2_with fail
        go_ret2
        exact ⟨by rw [HR.out]; rfl, HB3.out⟩
      · have HQ3' := hide (HQ3.out hk)
        have HQ4' := hide (HQ4.out hk)
        have hkd : (K == id) = false := by simpa using hk
        have CB := hide (fun wx => specBetween_calls id K nx wx)
        clear HQ2 HQ3 HQ4 hk
        cases hbt : btw id K nx with
        | true =>
          have HR := hide (HQ3'.out hbt)
          rw [hbt] at CB
          clear HQ3' HQ4' hbt
          go_wp2_with fail
          refine (CB.out _).mono ?_
          rintro e w4 ⟨rfl, hw⟩
          subst hw
          go_wp2_with fail
          go_ret2
          exact ⟨by rw [HR.out]; rfl, HB3.out⟩
        | false =>
          have HR := hide (HQ4'.out hbt)
          rw [hbt] at CB
          clear HQ3' HQ4' hbt
          go_wp2_with fail
          refine (CB.out _).mono ?_
          rintro e w4 ⟨rfl, hw⟩
          subst hw
          clear CB
          go_upto_region 11 with fail
          obtain ⟨a2, cc2, hsh, HA⟩ := HV3.out.open_
          cases hsh
          obtain ⟨g, off, u3, u4, u5, rfl, hg, hc⟩ := HA i hi
          have hsmi := HSM.out l[i] (List.getElem_mem hi)
          have hb3 := hsmi.b
          have hb4 := hsmi.f
          have f3 := hc.c3
          have f4 := hc.c4
          have H3 := hide hc.behind
          have H4 := hide hc.fingers
          obtain ⟨a3, c3, e3, -⟩ := hc.behind
          obtain ⟨a4, c4, e4, -⟩ := hc.fingers
          subst e3 e4
          clear HA hc hsmi
          obtain ⟨xb, exb⟩ : ∃ x, x = l[i].behind := ⟨_, rfl⟩
          obtain ⟨xf, exf⟩ : ∃ x, x = l[i].fingers := ⟨_, rfl⟩
          rw [← exb] at HKN hb3 f3 H3
          rw [← exf] at HKN hb4 f4 H4
          rw [HKN.out] at HR
          clear exb exf HKN
          have l3 := HG3.out.lt
          have n0 : ∀ p : Near w4.heap.size w4, p.w.cell? ⟨b0, 0, none⟩ = some (.slice (some ⟨g, off, none⟩) l.length cap) := fun p => by rw [(HG3.out.below p.h l3).cell 0]; rfl
          have n3 : ∀ p : Near w4.heap.size w4, p.w.cell? ⟨g, off + i * 6 + 3, none⟩ = some (.slice a3 xb.length c3) := fun p => (p.h.cell (p := ⟨g, off + i * 6 + 3, none⟩) hg).trans f3
          have n4 : ∀ p : Near w4.heap.size w4, p.w.cell? ⟨g, off + i * 6 + 4, none⟩ = some (.slice a4 xf.length c4) := fun p => (p.h.cell (p := ⟨g, off + i * 6 + 4, none⟩) hg).trans f4
          have hnn := Near.some w4.heap.size w4
          clear f3 f4
          refine wp_region_open (fun wd => ∃ p : Near w4.heap.size w4, wd = p.w) ⟨⟨_, (Below.refl _ _).drew⟩, rfl⟩ (by kernel_rfl) ?_
          rintro wd ⟨pd, rfl⟩
          refine wpAny_of_K (c := 14) (D := fun w' => ∃ p : Near w4.heap.size w4, w' = p.w) _ _ _ _ ?_
          refine wpAnyK_seg_lit4 1 6 6 10 rfl (by decide) (by decide) (by kernel_rfl) (by kernel_rfl) (by kernel_rfl) (by kernel_rfl) (fun _ _ _ _ _ h => h) ⟨pd, rfl⟩ ?_
          simp only [List.take_succ_cons, List.take_zero, List.drop_succ_cons, List.drop_zero]
          repeat (go_big_quiet_step (fail))
          refine wpQuiet_nil ?_
          refine wpAnyK_seg_lit4 8 6 6 4 rfl (by decide) (by decide) (by kernel_rfl) (by kernel_rfl) (by kernel_rfl) (by kernel_rfl) (fun _ _ _ _ _ h => h) ⟨pd, rfl⟩ ?_
          simp only [List.take_succ_cons, List.take_zero, List.drop_succ_cons, List.drop_zero]
          repeat (go_big_quiet_step (fail))
          refine wpQuiet_nil ?_
          clear n0 n3 n4 hnn
          have hpb := pd.h
          have hps := pd.h.size
          refine wpAnyK_value (i := 0) (v := .slice (some ⟨pd.w.heap.size, 0, none⟩) 0 0) (w' := pd.w.alloc (.cells #[] 3)) (by kernel_rfl) rfl rfl (by simp [execOp, go_sem]) ⟨⟨_, pd.h.alloc hps _⟩, rfl⟩ ?_
          have HS := hide (own_lit0 pd.w)
          have HBl := hide ((Below.refl pd.w.heap.size pd.w).alloc (Nat.le_refl _) (.cells #[] 3))
          have H3l := hide ((H3.out.below hpb (Nat.le_refl _)).below HBl.out (Nat.le_refl _))
          have H4l := hide ((H4.out.below hpb (Nat.le_refl _)).below HBl.out (Nat.le_refl _))
          have hsz : pd.w.heap.size ≤ (pd.w.alloc (.cells #[] 3)).heap.size := HBl.out.size
          refine wpAnyK_one 7 (by kernel_rfl) rfl ?_
          refine wpList_append_any rfl (.tmp 38) (.tmp 44) 24 rfl pd.w.heap.size 3 i0 (.int .i64 0) 1 8 Tryz.underlying24 hi0 hz0 hz1 hz2 rfl (by decide) _ _ _ rfl HS.out a3 xb.length c3 rfl (cellsI xb) (cellsI_len xb) (ints_news H3l.out) (cellsI_one xb) (by unfold maxLen; simp; omega) (by simp; omega) hsz ?_
          intro v1 w5 hown1 hgr1
          have hb5 : Below pd.w.heap.size pd.w w5 := HBl.out.grown hgr1 (by simp) (fun k hk => by cases hk; exact Nat.le_refl _)
          have hown1' : w5.ownsRow pd.w.heap.size 3 1 v1 xb.length (cellsI xb) := by simpa [cellsI] using hown1
          have H4m := hide (H4.out.below (hpb.trans (hb5.mono hps)) (Nat.le_refl _))
          have hsz5 := hb5.size
          clear hown1 hgr1 HS HBl H3l H4l hsz
          refine ⟨⟨⟨_, hpb.trans (hb5.mono hps)⟩, rfl⟩, ?_⟩
          refine wpAnyK_last (by kernel_rfl) (by decide) ?_
          refine wpAny_rest 14 rfl (by kernel_rfl) ?_
          simp only [List.drop_succ_cons, List.drop_zero, Act.put, List.setIfInBounds_toArray, List.set_cons_succ, List.set_cons_zero]
          go_wp2_with (at_builtin; refine wpList_append_any rfl (.tmp 45) (.tmp 51) 24 rfl pd.w.heap.size 3 i0 (.int .i64 0) 1 8 Tryz.underlying24 hi0 hz0 hz1 hz2 rfl (by decide) _ _ _ rfl hown1' a4 xf.length c4 rfl (cellsI xf) (cellsI_len xf) (ints_news H4m.out) (cellsI_one xf) (by unfold maxLen; omega) (by omega) hsz5 ?_)
          intro v2 w6 hown2 hgr2
          have hb6 : Below pd.w.heap.size pd.w w6 := hb5.grown hgr2 hb5.size (fun k hk => (hown1'.lt k hk).1)
          have hX : w6.ownsRow pd.w.heap.size 3 1 v2 (xb ++ xf).length (cellsI (xb ++ xf)) := by rw [List.length_append, ← cellsI_append]; exact hown2
          obtain ⟨a6, c6, hsh⟩ := own_sh hX
          subst hsh
          have HX := hide (IntsAt.of_own hX)
          have hb46 := hpb.trans (hb6.mono hps)
          have HV6 := hide (HV3.out.below hb46 (Nat.le_refl _))
          have HB6 := hide (HB3.out.trans (hb46.mono HB3.out.size))
          have HG6 := hide (HG3.out.below hb46 l3)
          have hxl : (xb ++ xf).length ≤ 2097152 := by rw [List.length_append]; omega
          clear hown1' hown2 hgr2 hb5 hb6 hX hb46 H4m hsz5 hpb hps HV3 HB3 HG3 l3 H3 H4 hg hb3 hb4
          generalize xb ++ xf = xs at *
          go_upto_region 12 with fail
          go_wp2_with fail
          go_loopw [10, 12] (fun bv iv wr => ∃ k : Nat, k ≤ xs.length ∧ iv = .int .i64 k ∧ bv = .int .i64 (farthest l id K nx (xs.take k)) ∧ Hid (Below w6.heap.size w6 wr)) (fun _ iv _ => xs.length - (intOf iv).toNat)
          case atStart => exact ⟨0, Nat.zero_le _, rfl, rfl, Below.refl _ _⟩
          case round =>
            obtain ⟨k, hk, rfl, rfl, HBr⟩ := hrel
            have HVr := hide (HV6.out.below HBr.out (Nat.le_refl _))
            have HGr := HG6.out.below HBr.out HG6.out.lt
            have m0 : wr.cell? ⟨b0, 0, none⟩ = some (.slice (some ⟨g, off, none⟩) l.length cap) := by rw [HGr.cell 0]; rfl
            have ml := HGr.lt
            have HBw := hide (HB6.out.trans (HBr.out.mono HB6.out.size))
            by_cases hlt : k < xs.length
            · obtain ⟨ax, cx, hax, HA⟩ := HX.out.below HBr.out (Nat.le_refl _)
              cases hax
              obtain ⟨gi, oi, rfl, hgi, hci⟩ := HA k hlt
              have HT := hide (far_take (l := l) (id := id) (key := K) (next := nx) hlt)
              clear HA HGr
              generalize farthest l id K nx (xs.take k) = best at *
              generalize xs[k] = x at *
              have CP := hide (specPeerAt_calls wr _ l x HVr.out hl)
              have CB := hide (fun wx => specBetween_calls id x K wx)
              have CA := hide (fun wx => specAhead_calls id x wx)
              have CZ := hide (fun wx => specAhead_calls id best wx)
              have HFS : Hid (further l id K best x = (decide (x ≠ K) && (decide (0 ≤ peerAt l x) && (btw id x K && decide (ahd id best < ahd id x))))) := rfl
              have HYes : Hid (further l id K best x = true → farthest l id K nx (xs.take (k + 1)) = x) := fun h => by rw [HT.out]; unfold farStep; rw [if_pos h]
              have HNo : Hid (further l id K best x = false → farthest l id K nx (xs.take (k + 1)) = best) := fun h => by rw [HT.out]; unfold farStep; rw [if_neg (by rw [h]; simp)]
              clear HT
              by_cases hx : x = K
              · have HR2 := hide (HNo.out (by rw [HFS.out]; simp [hx]))
                have hxd : (x != K) = false := by simpa using hx
                clear HYes HNo HFS hx CP CB CA CZ HVr
                go_wp2_with fail
                go_roundw
                case rel => exact ⟨k + 1, by omega, by go_num, by rw [HR2.out], HBr.out⟩
                case measure => simp [intOf]; omega
              · have hxd : (x != K) = true := by simpa using hx
                rw [show decide (x ≠ K) = true from decide_eq_true hx, Bool.true_and] at HFS
                clear hx
                generalize peerAt l x = px at *
                by_cases hp : 0 ≤ px
                · have hpd : decide (px ≥ 0) = true := decide_eq_true hp
                  rw [decide_eq_true hp, Bool.true_and] at HFS
                  clear hp
                  cases hbx : btw id x K with
                  | true =>
                    rw [hbx] at CB HFS
                    rw [Bool.true_and] at HFS
                    clear hbx
                    generalize ahd id x = ex at *
                    generalize ahd id best = eb at *
                    by_cases hfx : eb < ex
                    · have HR2 := hide (HYes.out (by rw [HFS.out]; exact decide_eq_true hfx))
                      have hfd : decide ((ex : Int) > (eb : Int)) = true := decide_eq_true (by omega)
                      clear HYes HNo HFS
                      go_wp2_with fail
                      refine CP.out.mono ?_
                      rintro e wy ⟨rfl, hby⟩
                      have HBy := hide (HBr.out.trans (hby.mono HBr.out.size))
                      clear hby CP HBr m0 ml HVr HBw
                      go_wp2_with fail
                      refine (CB.out _).mono ?_
                      rintro e wz ⟨rfl, hw⟩
                      subst hw
                      go_wp2_with fail
                      refine (CA.out _).mono ?_
                      rintro e wz ⟨rfl, hw⟩
                      subst hw
                      go_wp2_with fail
                      refine (CZ.out _).mono ?_
                      rintro e wz ⟨rfl, hw⟩
                      subst hw
                      go_wp2_with fail
                      go_roundw
                      case rel => exact ⟨k + 1, by omega, by go_num, by rw [HR2.out], HBy.out⟩
                      case measure => simp [intOf]; omega
                    · have HR2 := hide (HNo.out (by rw [HFS.out]; exact decide_eq_false hfx))
                      have hfd : decide ((ex : Int) > (eb : Int)) = false := decide_eq_false (by omega)
                      have hfx2 : ex ≤ eb := by omega
                      clear HYes HNo HFS
                      go_wp2_with fail
                      refine CP.out.mono ?_
                      rintro e wy ⟨rfl, hby⟩
                      have HBy := hide (HBr.out.trans (hby.mono HBr.out.size))
                      clear hby CP HBr m0 ml HVr HBw
                      go_wp2_with fail
                      refine (CB.out _).mono ?_
                      rintro e wz ⟨rfl, hw⟩
                      subst hw
                      go_wp2_with fail
                      refine (CA.out _).mono ?_
                      rintro e wz ⟨rfl, hw⟩
                      subst hw
                      go_wp2_with fail
                      refine (CZ.out _).mono ?_
                      rintro e wz ⟨rfl, hw⟩
                      subst hw
                      go_wp2_with fail
                      go_roundw
                      case rel => exact ⟨k + 1, by omega, by go_num, by rw [HR2.out], HBy.out⟩
                      case measure => simp [intOf]; omega
                  | false =>
                    have HR2 := hide (HNo.out (by rw [HFS.out, hbx]; rfl))
                    rw [hbx] at CB
                    clear HYes HNo HFS hbx CA CZ
                    go_wp2_with fail
                    refine CP.out.mono ?_
                    rintro e wy ⟨rfl, hby⟩
                    have HBy := hide (HBr.out.trans (hby.mono HBr.out.size))
                    clear hby CP HBr m0 ml HVr HBw
                    go_wp2_with fail
                    refine (CB.out _).mono ?_
                    rintro e wz ⟨rfl, hw⟩
                    subst hw
                    go_wp2_with fail
                    go_roundw
                    case rel => exact ⟨k + 1, by omega, by go_num, by rw [HR2.out], HBy.out⟩
                    case measure => simp [intOf]; omega
                · have hpd : decide (px ≥ 0) = false := decide_eq_false hp
                  have HR2 := hide (HNo.out (by rw [HFS.out, decide_eq_false hp]; rfl))
                  clear hp HYes HNo HFS CB CA CZ
                  go_wp2_with fail
                  refine CP.out.mono ?_
                  rintro e wy ⟨rfl, hby⟩
                  have HBy := hide (HBr.out.trans (hby.mono HBr.out.size))
                  clear hby CP HBr m0 ml HVr HBw
                  go_wp2_with fail
                  go_roundw
                  case rel => exact ⟨k + 1, by omega, by go_num, by rw [HR2.out], HBy.out⟩
                  case measure => simp [intOf]; omega
            · obtain rfl : k = xs.length := by omega
              rw [List.take_length] at *
              clear HVr HGr m0 ml
              go_wp2_with fail
              go_ret2
              exact ⟨by rw [HR.out]; rfl, HBw.out⟩
end Go.Proofs.YteladljgnbfcnaaGreat.P9
namespace Go.Proofs.YteladljgnbfcnaaGreat.P9
open Go.RowKit P1 P8 Da

theorem farthest_ge (l : List Pr) (id key next : Int) (xs : List Int) : ahd id next ≤ ahd id (farthest l id key next xs) := by
  have : ∀ (xs : List Int) (b : Int), ahd id b ≤ ahd id (xs.foldl (farStep l id key) b) := by
    intro xs
    induction xs with
    | nil => intro b; exact Nat.le_refl _
    | cons x xs ih =>
      intro b
      refine Nat.le_trans ?_ (ih _)
      unfold farStep
      split
      · rename_i h
        unfold further at h
        simp only [Bool.and_eq_true] at h
        have := of_decide_eq_true h.2.2.2
        omega
      · exact Nat.le_refl _
  exact this xs next

/-- Everybody that is there is on the ring. -/
def OnRing (l : List Pr) : Prop := ∀ p ∈ l, p.here = true → onR p.id = true

theorem on_of_at {l : List Pr} (h : OnRing l) {x : Int} (hx : 0 ≤ peerAt l x) : 0 ≤ x ∧ x < 256 := by
  unfold peerAt at hx
  cases hi : l.findIdx? fun p => p.here && (p.id == x) with
  | none => rw [hi] at hx; simp at hx
  | some i =>
    obtain ⟨hlt, h1, _⟩ := List.findIdx?_eq_some_iff_getElem.1 hi
    simp only [Bool.and_eq_true, beq_iff_eq] at h1
    have := h l[i] (List.getElem_mem hlt) h1.1
    rw [h1.2] at this
    simpa [onR] using this

theorem next_at {l : List Pr} {x : Int} (h : 0 ≤ nextOf l x) : 0 ≤ peerAt l (nextOf l x) := by
  rcases peerAt_lt l x with hp | ⟨i, hi, hp⟩
  · unfold nextOf at h
    rw [hp, if_pos (by decide)] at h
    omega
  · have e := nextOf_hit hi hp
    cases hf : l[i].behind.find? fun y => decide (0 ≤ peerAt l y) with
    | none =>
      rw [hf] at e
      rw [e] at h
      simp at h
    | some y =>
      rw [hf] at e
      have := List.find?_some hf
      rw [e]
      simpa using this

theorem ahd_pos {a b : Int} (ha : 0 ≤ a ∧ a < 256) (hb : 0 ≤ b ∧ b < 256) (h : a ≠ b) : 0 < ahd a b := by
  rcases Nat.eq_zero_or_pos (ahd a b) with h0 | h0
  · rw [ahd_zero_iff] at h0
    omega
  · exact h0

theorem farthest_at {l : List Pr} {id key next : Int} (hn : 0 ≤ peerAt l next) (xs : List Int) : 0 ≤ peerAt l (farthest l id key next xs) := by
  have : ∀ (xs : List Int) (b : Int), 0 ≤ peerAt l b → 0 ≤ peerAt l (xs.foldl (farStep l id key) b) := by
    intro xs
    induction xs with
    | nil => intro b h; exact h
    | cons x xs ih =>
      intro b h
      refine ih _ ?_
      unfold farStep
      split
      · rename_i h2
        unfold further at h2
        simp only [Bool.and_eq_true] at h2
        exact of_decide_eq_true h2.2.1
      · exact h
  exact this xs next hn

/-- What a step tells. -/
theorem step_cases {l : List Pr} (hr : OnRing l) (at_ key : Int) :
    stepTo l at_ key = (-1, false) ∨ (∃ x, stepTo l at_ key = (x, true) ∧ 0 ≤ peerAt l x) ∨ (∃ x, stepTo l at_ key = (x, false) ∧ 0 ≤ peerAt l x ∧ x ≠ at_) := by
  by_cases h1 : peerAt l at_ < 0 ∨ nextOf l at_ < 0
  · exact .inl (stepTo_none h1)
  · have hp : 0 ≤ peerAt l at_ := by omega
    have hn : 0 ≤ nextOf l at_ := by omega
    by_cases h2 : key % 256 = at_
    · exact .inr (.inl ⟨at_, stepTo_self hp hn h2, hp⟩)
    · cases h3 : btw at_ (key % 256) (nextOf l at_) with
      | true => exact .inr (.inl ⟨_, stepTo_next hp hn h2 h3, next_at hn⟩)
      | false =>
        refine .inr (.inr ⟨_, stepTo_far hp hn h2 h3, farthest_at (next_at hn) _, ?_⟩)
        have ha := on_of_at hr hp
        have hb := on_of_at hr (next_at hn)
        have hne : at_ ≠ nextOf l at_ := by
          intro e
          rw [← e, btw_same rfl] at h3
          have := of_decide_eq_false h3
          have h4 := ahd_pos ha (b := key % 256) (by omega) (fun e => h2 e.symm)
          omega
        have h5 := ahd_pos ha hb hne
        have h6 := farthest_ge l at_ (key % 256) (nextOf l at_) (knownOf l at_)
        intro e
        rw [e, ahd_self] at h6
        omega

/-- From at on, so many steps being left. -/
def findGo (l : List Pr) (key : Int) : Nat → Int → Option (Int × Nat)
  | 0, _ => none
  | f + 1, at_ =>
    if (stepTo l at_ key).1 < 0 then none
    else if (stepTo l at_ key).2 then
      (if (stepTo l at_ key).1 ≠ at_ then (if f = 0 then none else some ((stepTo l at_ key).1, 66 - f)) else some ((stepTo l at_ key).1, 65 - f))
    else findGo l key f (stepTo l at_ key).1

def find (l : List Pr) (by_ key : Int) : Option (Int × Nat) := findGo l key 66 by_

theorem peer_pos {l : List Pr} (hr : OnRing l) {x : Int} (h : 0 ≤ peerAt l x) : 0 ≤ x := (on_of_at hr h).1

theorem findGo_at {l : List Pr} (hr : OnRing l) (key : Int) : ∀ (f : Nat) (at_ : Int) (x : Int) (n : Nat), findGo l key f at_ = some (x, n) → 0 ≤ peerAt l x ∧ n ≤ 65 := by
  intro f
  induction f with
  | zero => intro at_ x n h; cases h
  | succ f ih =>
    intro at_ x n h
    unfold findGo at h
    rcases step_cases hr at_ key with e | ⟨y, e, hy⟩ | ⟨y, e, hy, hne⟩
    · rw [e] at h
      simp at h
    · have h0 := peer_pos hr hy
      rw [e] at h
      simp only [if_true] at h
      rw [if_neg (by omega)] at h
      split at h
      · split at h
        · cases h
        · cases h
          exact ⟨hy, by omega⟩
      · cases h
        exact ⟨hy, by omega⟩
    · have h0 := peer_pos hr hy
      rw [e] at h
      simp only [Bool.false_eq_true, if_false] at h
      rw [if_neg (by omega)] at h
      exact ih y x n h
end Go.Proofs.YteladljgnbfcnaaGreat.P9
namespace Go.Proofs.YteladljgnbfcnaaGreat.P9
set_option maxRecDepth 8000
open Go.RowKit P1 P8 Da Ap

def tripV : Option (Int × Nat) → Value
  | some (x, n) => .tuple #[.agg #[.int .i64 x, .int .i64 n], .bool true]
  | none => .tuple #[.agg #[.int .i64 (-1), .int .i64 0], .bool false]

set_option maxRecDepth 100000 in
set_option maxHeartbeats 4000000 in
theorem specFind_calls (w : World) (v : Value) (l : List Pr) (by_ key : Int) (hv : PeersAt w v l) (hl : l.length ≤ 1048576) (hsm : ∀ p ∈ l, Small p) (hon : OnRing l) :
    Calls Tryz.prog 92 #[.agg #[v], .int .i64 by_, .int .i64 key] w fun e w' => e = .returned (tripV (find l by_ key)) ∧ Below w.heap.size w w' := by
  have HE0 : Hid (find l by_ key = findGo l key 66 by_) := rfl
  generalize find l by_ key = R at *
  have hb1 := (Below.refl w.heap.size w).alloc (Nat.le_refl _) (.cells #[v] 28)
  have hb2 := hb1.alloc (by simp) (.cells #[.int .i64 0, .int .i64 0] 119)
  have HV := hide (hv.below hb2 (Nat.le_refl _))
  obtain ⟨a, cap, rfl, -⟩ := hv.open_
  have G0 := Blk.new w #[.slice a l.length cap] 28
  have G := Blk.new (w.alloc (.cells #[.slice a l.length cap] 28)) #[.int .i64 0, .int .i64 0] 119
  have hba := (Below.refl (w.alloc (.cells #[.slice a l.length cap] 28)).heap.size (w.alloc (.cells #[.slice a l.length cap] 28))).alloc (Nat.le_refl _) (.cells #[.int .i64 0, .int .i64 0] 119)
  have G0' := G0.below hba G0.lt
  have HB := hide hb2
  have HSM := hide hsm
  have HON := hide hon
  have es : (w.alloc (.cells #[.slice a l.length cap] 28)).heap.size = w.heap.size + 1 := by simp
  rw [es] at G
  clear hv hb1 hb2 hsm hon G0 hba es
  go_enter Tryz.func92, Tryz.ntmps92
  go_upto_region 1 with fail
  obtain ⟨b0, e0⟩ : ∃ b, b = w.heap.size := ⟨_, rfl⟩
  rw [← e0] at G G0' ⊢
  have HW0 : Hid (w.heap.size ≤ b0) := Nat.le_of_eq e0.symm
  clear e0
  generalize (w.alloc (.cells #[.slice a l.length cap] 28)).alloc (.cells #[.int .i64 0, .int .i64 0] 119) = w1 at *
  have HG := hide G
  have HG0 := hide G0'
  clear G G0'
  go_wp2_with fail
  go_loopw [8, 9] (fun av hv wr => ∃ (h f : Nat) (at_ : Int), h + f = 66 ∧ hv = .int .i64 h ∧ av = .int .i64 at_ ∧ Hid (R = findGo l key f at_) ∧ Hid (Below w1.heap.size w1 wr)) (fun _ hv _ => 67 - (intOf hv).toNat)
  case atStart => exact ⟨0, 66, by_, rfl, rfl, rfl, HE0.out, Below.refl _ _⟩
  case round =>
    clear HE0
    obtain ⟨h, f, at_, hhf, rfl, rfl, HE, HBr⟩ := hrel
    have HVr := hide (HV.out.below HBr.out (Nat.le_refl _))
    have Gr := HG.out.below HBr.out HG.out.lt
    have G0r := HG0.out.below HBr.out HG0.out.lt
    have m0 : wr.cell? ⟨b0, 0, none⟩ = some (.slice a l.length cap) := by rw [G0r.cell 0]; rfl
    have ml := G0r.lt
    have HBw := hide (HB.out.trans (HBr.out.mono HB.out.size))
    have HGr := hide Gr
    clear Gr G0r
    have hw0 := HW0.out
    cases f with
    | zero =>
      have hd : decide ((h : Int) ≤ 65) = false := decide_eq_false (by omega)
      have HR : Hid (R = none) := HE.out
      have m1 := HGr.out.free 0
      have m2 := HGr.out.free 1
      have k0 := HGr.out.cell 0
      have k1 := HGr.out.cell 1
      have kl := HGr.out.lt
      clear HVr
      go_wp2_with fail
      have Rd := (HGr.out.set 0 (.int .i64 (-1))).set 1 (.int .i64 0)
      have x0 := Rd.cell 0
      have x1 := Rd.cell 1
      refine bodyPost_ret (v := .tuple #[.agg #[.int .i64 (-1), .int .i64 0], .bool false]) (by simp [results, Tryz.results92, go_sem, x0, x1]) rfl ⟨by rw [HR.out]; rfl, (HBw.out.setCell (p := ⟨b0 + 1, 0, none⟩) (by show _ ≤ b0 + 1; omega) _).setCell (p := ⟨b0 + 1, 1, none⟩) (by show _ ≤ b0 + 1; omega) _⟩
    | succ f =>
      have hd : decide ((h : Int) ≤ 65) = true := decide_eq_true (by omega)
      have CS := hide (specStepTo_calls wr _ l at_ key HVr.out hl HSM.out)
      have hE := HE.out
      unfold findGo at hE
      clear HE
      rcases step_cases HON.out at_ key with e | ⟨x, e, hx⟩ | ⟨x, e, hx, hne⟩
      · rw [e] at CS hE
        have HR : Hid (R = none) := by show _ = _; rw [hE]; rfl
        clear hE e
        go_wp2_with fail
        refine CS.out.mono ?_
        rintro e wy ⟨rfl, hby⟩
        have Q := HGr.out.below hby HGr.out.lt
        have HBy := hide (HBw.out.trans (hby.mono HBw.out.size))
        have HQ := hide Q
        have m1 := Q.free 0
        have m2 := Q.free 1
        have k0 := Q.cell 0
        have k1 := Q.cell 1
        have kl := Q.lt
        clear Q hby HVr HBr HGr HBw m0 ml CS
        go_wp2_with fail
        have Rd := (HQ.out.set 0 (.int .i64 (-1))).set 1 (.int .i64 0)
        have x0 := Rd.cell 0
        have x1 := Rd.cell 1
        refine bodyPost_ret (v := .tuple #[.agg #[.int .i64 (-1), .int .i64 0], .bool false]) (by simp [results, Tryz.results92, go_sem, x0, x1]) rfl ⟨by rw [HR.out]; rfl, (HBy.out.setCell (p := ⟨b0 + 1, 0, none⟩) (by show _ ≤ b0 + 1; omega) _).setCell (p := ⟨b0 + 1, 1, none⟩) (by show _ ≤ b0 + 1; omega) _⟩
      · have hx0 := peer_pos HON.out hx
        rw [e] at CS hE
        have hxn : decide (x < 0) = false := decide_eq_false (by omega)
        simp only [if_true] at hE
        rw [if_neg (by omega)] at hE
        clear e hx
        by_cases hne : x = at_
        · rw [if_neg (by simpa using hne)] at hE
          have HR : Hid (R = some (x, h)) := by show _ = _; rw [hE, show 65 - f = h by omega]
          have hnd : (x != at_) = false := by simpa using hne
          have hd2 : decide ((h : Int) > 65) = false := decide_eq_false (by omega)
          clear hE hne hx0
          go_wp2_with fail
          refine CS.out.mono ?_
          rintro e wy ⟨rfl, hby⟩
          have Q := HGr.out.below hby HGr.out.lt
          have HBy := hide (HBw.out.trans (hby.mono HBw.out.size))
          have HQ := hide Q
          have m1 := Q.free 0
          have m2 := Q.free 1
          have k0 := Q.cell 0
          have k1 := Q.cell 1
          have kl := Q.lt
          clear Q hby HVr HBr HGr HBw m0 ml CS
          go_wp2_with fail
          have Rd := (HQ.out.set 0 (.int .i64 x)).set 1 (.int .i64 ((h : Nat) : Int))
          have x0 := Rd.cell 0
          have x1 := Rd.cell 1
          refine bodyPost_ret (v := .tuple #[.agg #[.int .i64 x, .int .i64 ((h : Nat) : Int)], .bool true]) (by simp [results, Tryz.results92, go_sem, x0, x1]) rfl ⟨by rw [HR.out]; rfl, (HBy.out.setCell (p := ⟨b0 + 1, 0, none⟩) (by show _ ≤ b0 + 1; omega) _).setCell (p := ⟨b0 + 1, 1, none⟩) (by show _ ≤ b0 + 1; omega) _⟩
        · rw [if_pos hne] at hE
          have hnd : (x != at_) = true := by simpa using hne
          clear hne hx0
          by_cases hf0 : f = 0
          · rw [if_pos hf0] at hE
            have HR : Hid (R = none) := hE
            have hd2 : decide ((h : Int) + 1 > 65) = true := decide_eq_true (by omega)
            clear hE
            go_wp2_with fail
            refine CS.out.mono ?_
            rintro e wy ⟨rfl, hby⟩
            have Q := HGr.out.below hby HGr.out.lt
            have HBy := hide (HBw.out.trans (hby.mono HBw.out.size))
            have HQ := hide Q
            have m1 := Q.free 0
            have m2 := Q.free 1
            have k0 := Q.cell 0
            have k1 := Q.cell 1
            have kl := Q.lt
            clear Q hby HVr HBr HGr HBw m0 ml CS
            go_wp2_with fail
            have Rd := (HQ.out.set 0 (.int .i64 (-1))).set 1 (.int .i64 0)
            have x0 := Rd.cell 0
            have x1 := Rd.cell 1
            refine bodyPost_ret (v := .tuple #[.agg #[.int .i64 (-1), .int .i64 0], .bool false]) (by simp [results, Tryz.results92, go_sem, x0, x1]) rfl ⟨by rw [HR.out]; rfl, (HBy.out.setCell (p := ⟨b0 + 1, 0, none⟩) (by show _ ≤ b0 + 1; omega) _).setCell (p := ⟨b0 + 1, 1, none⟩) (by show _ ≤ b0 + 1; omega) _⟩
          · rw [if_neg hf0] at hE
            have HR : Hid (R = some (x, h + 1)) := by show _ = _; rw [hE, show 66 - f = h + 1 by omega]
            have hd2 : decide ((h : Int) + 1 > 65) = false := decide_eq_false (by omega)
            clear hE
            go_wp2_with fail
            refine CS.out.mono ?_
            rintro e wy ⟨rfl, hby⟩
            have Q := HGr.out.below hby HGr.out.lt
            have HBy := hide (HBw.out.trans (hby.mono HBw.out.size))
            have HQ := hide Q
            have m1 := Q.free 0
            have m2 := Q.free 1
            have k0 := Q.cell 0
            have k1 := Q.cell 1
            have kl := Q.lt
            clear Q hby HVr HBr HGr HBw m0 ml CS
            go_wp2_with fail
            have Rd := (HQ.out.set 0 (.int .i64 x)).set 1 (.int .i64 ((h : Int) + 1))
            have x0 := Rd.cell 0
            have x1 := Rd.cell 1
            refine bodyPost_ret (v := .tuple #[.agg #[.int .i64 x, .int .i64 ((h : Int) + 1)], .bool true]) (by simp [results, Tryz.results92, go_sem, x0, x1]) rfl ⟨by rw [HR.out]; simp [tripV], (HBy.out.setCell (p := ⟨b0 + 1, 0, none⟩) (by show _ ≤ b0 + 1; omega) _).setCell (p := ⟨b0 + 1, 1, none⟩) (by show _ ≤ b0 + 1; omega) _⟩
      · have hx0 := peer_pos HON.out hx
        rw [e] at CS hE
        have hxn : decide (x < 0) = false := decide_eq_false (by omega)
        simp only [Bool.false_eq_true, if_false] at hE
        rw [if_neg (by omega)] at hE
        have HR : Hid (R = findGo l key f x) := hE
        have hnd : (x != at_) = true := by simpa using hne
        clear e hx hx0 hne hE
        go_wp2_with fail
        refine CS.out.mono ?_
        rintro e wy ⟨rfl, hby⟩
        have HBy := hide (HBr.out.trans (hby.mono HBr.out.size))
        clear hby HVr HBr HGr HBw m0 ml CS
        go_wp2_with fail
        go_roundw
        case rel => exact ⟨h + 1, f, x, by omega, by go_num, rfl, HR.out, HBy.out⟩
        case measure => simp [intOf]; omega
end Go.Proofs.YteladljgnbfcnaaGreat.P9
