/- The program's everyone: each id once, the one that is there, or the first; condition: at most 2^20 peers.
The program's present: those that are there, by their ids; condition: at most 2^20 peers. -/
import Derived.Test.YteladljgnbfcnaaGreatZRB
import Derived.Test.YteladljgnbfcnaaGreatZRA
import Derived.Test.YteladljgnbfcnaaGreatZM
namespace Go.Proofs.YteladljgnbfcnaaGreat.P9
set_option maxRecDepth 8000
open Go.RowKit P1 P8 Da Mp

/-- The first with this id that is there; without one the first with this id. -/
def hereIdx (l : List Pr) (x : Int) : Option Nat := l.findIdx? fun p => p.here && (p.id == x)
def anyIdx (l : List Pr) (x : Int) : Option Nat := l.findIdx? fun p => p.id == x
def who (l : List Pr) (x : Int) : Option Nat := (hereIdx l x).or (anyIdx l x)

theorem hereIdx_some {l : List Pr} {x : Int} {j : Nat} (h : hereIdx l x = some j) : ∃ hj : j < l.length, l[j].here = true ∧ l[j].id = x := by
  obtain ⟨hj, h1, _⟩ := List.findIdx?_eq_some_iff_getElem.1 h
  simp at h1
  exact ⟨hj, h1.1, h1.2⟩

theorem anyIdx_some {l : List Pr} {x : Int} {j : Nat} (h : anyIdx l x = some j) : ∃ hj : j < l.length, l[j].id = x := by
  obtain ⟨hj, h1, _⟩ := List.findIdx?_eq_some_iff_getElem.1 h
  simp at h1
  exact ⟨hj, h1⟩

theorem hereIdx_none {l : List Pr} {x : Int} (h : hereIdx l x = none) {j : Nat} (hj : j < l.length) (hx : l[j].id = x) : l[j].here = false := by
  have := List.findIdx?_eq_none_iff.1 h l[j] (List.getElem_mem hj)
  simp only [hx, beq_self_eq_true, Bool.and_true] at this
  exact this

theorem who_some {l : List Pr} {x : Int} {j : Nat} (h : who l x = some j) : ∃ hj : j < l.length, l[j].id = x ∧ (l[j].here = true ↔ hereIdx l x = some j) := by
  unfold who at h
  cases ha : hereIdx l x with
  | some i =>
    rw [ha] at h
    simp at h
    subst h
    obtain ⟨hj, h1, h2⟩ := hereIdx_some ha
    exact ⟨hj, h2, by simp [h1]⟩
  | none =>
    rw [ha] at h
    simp at h
    obtain ⟨hj, h1⟩ := anyIdx_some h
    exact ⟨hj, h1, by simp [hereIdx_none ha hj h1]⟩

/-- One more peer. -/
theorem who_other {l : List Pr} {p : Pr} {x : Int} (h : p.id ≠ x) : who (l ++ [p]) x = who l x := by
  have hb : (p.id == x) = false := by simpa using h
  unfold who hereIdx anyIdx
  rw [List.findIdx?_append, List.findIdx?_append]
  simp [List.findIdx?_cons, hb]

theorem who_new {l : List Pr} {p : Pr} (h : who l p.id = none) : who (l ++ [p]) p.id = some l.length := by
  unfold who at h ⊢
  rw [Option.or_eq_none_iff] at h
  obtain ⟨h1, h2⟩ := h
  unfold hereIdx at *
  unfold anyIdx at *
  rw [List.findIdx?_append, List.findIdx?_append, h1, h2]
  cases hp : p.here <;> simp [List.findIdx?_cons, hp]

theorem who_takes {l : List Pr} {p : Pr} (hp : p.here = true) (hn : hereIdx l p.id = none) : who (l ++ [p]) p.id = some l.length := by
  unfold who
  have h1 : hereIdx (l ++ [p]) p.id = some l.length := by
    unfold hereIdx at *
    rw [List.findIdx?_append, hn]
    simp [List.findIdx?_cons, hp]
  rw [h1]
  rfl

theorem who_stays {l : List Pr} {p : Pr} {j : Nat} (h : who l p.id = some j) (hp : p.here = false ∨ hereIdx l p.id = some j) : who (l ++ [p]) p.id = some j := by
  cases ha : hereIdx l p.id with
  | some i =>
    have h1 : hereIdx (l ++ [p]) p.id = some i := by
      unfold hereIdx at *
      rw [List.findIdx?_append, ha]
      rfl
    unfold who at h ⊢
    rw [ha] at h
    rw [h1]
    simpa using h
  | none =>
    rcases hp with hp | hp
    · have h1 : hereIdx (l ++ [p]) p.id = none := by
        unfold hereIdx at *
        rw [List.findIdx?_append, ha]
        simp [List.findIdx?_cons, hp]
      unfold who at h ⊢
      rw [ha] at h
      have h2 : anyIdx l p.id = some j := by simpa using h
      rw [h1]
      unfold anyIdx at *
      rw [List.findIdx?_append, h2]
      rfl
    · rw [ha] at hp
      cases hp

/-- Where the peer i of a slice is. -/
def pt (v : Value) (i : Nat) : Value := match v with
  | .slice (some ⟨g, off, none⟩) _ _ => .pointer (some ⟨g, off + i * 6, none⟩)
  | _ => .pointer none

def whoV (v : Value) (l : List Pr) (x : Int) : Option Value := (who l x).map (pt v)

theorem zero_ptr : ∀ w : World, (zeroValue 54).run Tryz.prog w = .ok (.pointer none) w := fun w => by kernel_rfl

theorem whoV_look {w : World} {km n : Nat} {v : Value} {l : List Pr} (h : MapR keyI w km n (whoV v l)) (x : Int) :
    (Instr.lookup 53 (.map (some km)) (.int .i64 x) true).run Tryz.prog w = .ok (.tuple #[((who l x).map (pt v)).getD (.pointer none), .bool (who l x).isSome]) w := by
  have := h.look (t := 53) Tryz.underlying53 (zero_ptr w) true x
  rw [if_pos rfl] at this
  refine this.trans ?_
  unfold whoV
  simp

set_option maxRecDepth 100000 in
set_option maxHeartbeats 2000000 in
theorem everyone_calls (w : World) (v : Value) (l : List Pr) (hv : PeersAt w v l) (hl : l.length ≤ 1048576) :
    Calls Tryz.prog 36 #[.agg #[v]] w fun e w' => ∃ km, e = .returned (.map (some km)) ∧ w.heap.size ≤ km ∧ MapR keyI w' km l.length (whoV v l) ∧ Below w.heap.size w w' := by
  have hb1 := (Below.refl w.heap.size w).alloc (Nat.le_refl _) (.cells #[v] 28)
  have HV0 := hide hv
  obtain ⟨a, cap, rfl, -⟩ := hv.open_
  have G := Blk.new w #[.slice a l.length cap] 28
  have hmk := fun wx : World => (show (Instr.makeMap 53 none).run Tryz.prog wx = .ok (.map (some wx.heap.size)) (wx.alloc (.map #[] 0)) from by kernel_rfl)
  have hb2 := hb1.alloc (by simp) (.map #[] 0)
  have HM0 := hide (MapR.made (T := keyI) (w.alloc (.cells #[.slice a l.length cap] 28)))
  have hbx := (Below.refl (w.alloc (.cells #[.slice a l.length cap] 28)).heap.size (w.alloc (.cells #[.slice a l.length cap] 28))).alloc (Nat.le_refl _) (.map #[] 0)
  have G2 := G.below hbx G.lt
  have HB := hide hb2
  clear hv hb1 hb2 hbx G
  go_enter Tryz.func36, Tryz.ntmps36
  go_upto_region 2 with fail
  clear hmk
  obtain ⟨b0, e0⟩ : ∃ b, b = w.heap.size := ⟨_, rfl⟩
  have es : (w.alloc (.cells #[.slice a l.length cap] 28)).heap.size = b0 + 1 := by simp [e0]
  rw [← e0] at G2 ⊢
  rw [es] at HM0
  have HE0 : Hid (w.heap.size ≤ b0) := Nat.le_of_eq e0.symm
  clear e0 es
  generalize (w.alloc (.cells #[.slice a l.length cap] 28)).alloc (.map #[] 0) = w1 at *
  have c0 : w1.cell? ⟨b0, 0, none⟩ = some (.slice a l.length cap) := by rw [G2.cell 0]; rfl
  have l0 := G2.lt
  go_wp2_with fail
  clear c0 l0
  go_loopw [12] (fun i wr => ∃ k : Nat, k ≤ l.length ∧ i = .int .i64 k ∧ Hid (MapR keyI wr (b0 + 1) k (whoV (.slice a l.length cap) (l.take k))) ∧ Hid (Blk wr b0 [.slice a l.length cap] 28) ∧ Hid (Below w.heap.size w wr)) (fun i _ => l.length - (intOf i).toNat)
  case atStart => exact ⟨0, Nat.zero_le _, rfl, HM0.out.congr (fun x => rfl), G2, HB.out⟩
  case round =>
    clear HM0 G2 HB
    obtain ⟨k, hk, rfl, HM, HG, HB⟩ := hrel
    by_cases hlt : k < l.length
    · have hvr := HV0.out.below HB.out (Nat.le_refl _)
      obtain ⟨a2, c2, hsh, HA⟩ := hvr.open_
      cases hsh
      obtain ⟨g, off, u3, u4, u5, rfl, hg, hc⟩ := HA k hlt
      have f0 := hc.id
      have f1 := hc.here
      have c0 : wr.cell? ⟨b0, 0, none⟩ = some (.slice (some ⟨g, off, none⟩) l.length cap) := by rw [HG.out.cell 0]; rfl
      have l0 := HG.out.lt
      have hlk := whoV_look HM.out l[k].id
      have HT := hide (List.take_succ_eq_append_getElem hlt)
      have hlen : (l.take k).length = k := by rw [List.length_take]; omega
      have hst := fun y => HM.out.store (t := 53) Tryz.underlying53 l[k].id y
      obtain ⟨w4, hrun, hM4, hg4, hs4⟩ := hst (.pointer (some ⟨g, off + k * 6, none⟩))
      change (Instr.mapUpdate 53 (.map (some (b0 + 1))) (.int .i64 l[k].id) _).run Tryz.prog _ = .ok () w4 at hrun
      have HB4 : Hid (Below w.heap.size w w4) := HB.out.grown hg4 HB.out.size (fun j e => by cases e; have := HE0.out; omega)
      have HG4 : Hid (Blk w4 b0 [.slice (some ⟨g, off, none⟩) l.length cap] 28) := (hg4.block b0 l0 (by simp)).trans HG.out
      have HM4 : Hid (who (l.take (k + 1)) l[k].id = some k → MapR keyI w4 (b0 + 1) (k + 1) (whoV (.slice (some ⟨g, off, none⟩) l.length cap) (l.take (k + 1)))) := fun he => hM4.congr (fun x => by
        unfold upd
        by_cases hx : x = l[k].id
        · subst hx
          rw [if_pos rfl]
          unfold whoV
          rw [he]
          rfl
        · rw [if_neg hx]
          unfold whoV
          rw [HT.out, who_other (fun e => hx e.symm)])
      have HMs : Hid (who (l.take (k + 1)) l[k].id = who (l.take k) l[k].id → MapR keyI wr (b0 + 1) (k + 1) (whoV (.slice (some ⟨g, off, none⟩) l.length cap) (l.take (k + 1)))) := fun he => (HM.out.mono (Nat.le_succ k)).congr (fun x => by
        unfold whoV
        by_cases hx : x = l[k].id
        · subst hx
          rw [he]
        · rw [HT.out, who_other (fun e => hx e.symm)])
      clear hM4 hg4 hs4 hst hc HA hvr
      cases hwho : who (l.take k) l[k].id with
      | none =>
        have HX := hide (HM4.out (by rw [HT.out, who_new hwho, hlen]))
        rw [hwho] at hlk
        simp only [Option.map_none, Option.getD_none, Option.isSome_none] at hlk
        clear HM4 HMs HM hwho
        go_wp2_with fail
        go_roundw
        case rel => exact ⟨k + 1, by omega, by go_num, HX.out, HG4.out, HB4.out⟩
        case measure => simp [intOf]; omega
      | some j =>
        obtain ⟨hj, hji, hjh⟩ := who_some hwho
        have hjk : j < k := by omega
        have hjl : j < l.length := by omega
        have hvr := HV0.out.below HB.out (Nat.le_refl _)
        obtain ⟨a2, c2, hsh, HA⟩ := hvr.open_
        cases hsh
        obtain ⟨g', off', v3, v4, v5, e', _, hcj⟩ := HA j hjl
        cases e'
        have fj := hcj.here
        rw [List.getElem_take] at hjh
        rw [hwho] at hlk
        simp only [Option.map_some, Option.getD_some, Option.isSome_some] at hlk
        change _ = Result.ok (Value.tuple #[.pointer (some ⟨g, off + j * 6, none⟩), .bool true]) _ at hlk
        clear hcj HA hvr
        cases hp : l[k].here with
        | false =>
          have HX := hide (HMs.out (by rw [HT.out, who_stays hwho (.inl hp), hwho]))
          rw [hp] at f1
          clear HM4 HMs HM hwho hjh
          go_wp2_with fail
          go_roundw
          case rel => exact ⟨k + 1, by omega, by go_num, HX.out, HG.out, HB.out⟩
          case measure => simp [intOf]; omega
        | true =>
          rw [hp] at f1
          cases hpj : l[j].here with
          | true =>
            have HX := hide (HMs.out (by rw [HT.out, who_stays hwho (.inr (hjh.1 hpj)), hwho]))
            rw [hpj] at fj
            clear HM4 HMs HM hwho hjh
            go_wp2_with fail
            go_roundw
            case rel => exact ⟨k + 1, by omega, by go_num, HX.out, HG.out, HB.out⟩
            case measure => simp [intOf]; omega
          | false =>
            have hn : hereIdx (l.take k) l[k].id = none := by
              cases ha : hereIdx (l.take k) l[k].id with
              | none => rfl
              | some i =>
                exfalso
                unfold who at hwho
                rw [ha] at hwho
                simp at hwho
                subst hwho
                obtain ⟨hi, h1, _⟩ := hereIdx_some ha
                rw [List.getElem_take, hpj] at h1
                cases h1
            have HX := hide (HM4.out (by rw [HT.out, who_takes hp hn, hlen]))
            rw [hpj] at fj
            clear HM4 HMs HM hwho hjh
            go_wp2_with fail
            go_roundw
            case rel => exact ⟨k + 1, by omega, by go_num, HX.out, HG4.out, HB4.out⟩
            case measure => simp [intOf]; omega
    · obtain rfl : k = l.length := by omega
      rw [List.take_length] at HM
      go_wp2_with fail
      go_ret
      exact ⟨b0 + 1, rfl, by have := HE0.out; omega, HM.out, HB.out⟩
end Go.Proofs.YteladljgnbfcnaaGreat.P9
namespace Go.Proofs.YteladljgnbfcnaaGreat.P9
set_option maxRecDepth 8000
open Go.RowKit P1 P8 Da Mp

def hereV (v : Value) (l : List Pr) (x : Int) : Option Value := (hereIdx l x).map (pt v)

/-- Who is left is one of all, and all that are there are. -/
structure Part (v : Value) (l : List Pr) (f : Int → Option Value) : Prop where
  sub : ∀ x y, f x = some y → ∃ j, who l x = some j ∧ y = pt v j
  all : ∀ x j, hereIdx l x = some j → f x = some (pt v j)

theorem who_of_here {l : List Pr} {x : Int} {j : Nat} (h : hereIdx l x = some j) : who l x = some j := by
  unfold who
  rw [h]
  rfl

theorem Part.whole (v : Value) (l : List Pr) : Part v l (whoV v l) := by
  refine ⟨fun x y h => ?_, fun x j h => ?_⟩
  · unfold whoV at h
    obtain ⟨j, h1, h2⟩ := Option.map_eq_some_iff.1 h
    exact ⟨j, h1, h2.symm⟩
  · unfold whoV
    rw [who_of_here h]
    rfl

theorem Part.drop {v : Value} {l : List Pr} {f : Int → Option Value} (h : Part v l f) {x : Int} (hx : hereIdx l x = none) : Part v l (del f x) := by
  refine ⟨fun y u hy => ?_, fun y j hy => ?_⟩
  · unfold del at hy
    by_cases e : y = x
    · rw [if_pos e] at hy
      cases hy
    · rw [if_neg e] at hy
      exact h.sub y u hy
  · unfold del
    by_cases e : y = x
    · subst e
      rw [hx] at hy
      cases hy
    · rw [if_neg e]
      exact h.all y j hy

theorem Part.end_ {v : Value} {l : List Pr} {f : Int → Option Value} (h : Part v l f) (hg : ∀ x y, f x = some y → (hereIdx l x).isSome = true) (x : Int) : hereV v l x = f x := by
  unfold hereV
  cases hx : hereIdx l x with
  | some j =>
    rw [h.all x j hx]
    rfl
  | none =>
    cases hf : f x with
    | none => rfl
    | some y =>
      have := hg x y hf
      rw [hx] at this
      cases this

set_option maxRecDepth 100000 in
set_option maxHeartbeats 2000000 in
theorem leave_calls (w : World) (v : Value) (l : List Pr) (km n B : Nat) (hv : ∀ wx, Below B w wx → PeersAt wx v l) (hB : B ≤ km) (hm : MapR keyI w km n (whoV v l)) :
    Calls Tryz.prog 57 #[.map (some km)] w fun e w' => (∃ u, e = .returned u) ∧ MapR keyI w' km n (hereV v l) ∧ Below B w w' := by
  have HV := hide hv
  have hlt := hm.lt
  obtain ⟨w1, cnt0, hrun, hw1, hg1, hs1⟩ := hm.range (t := 53) Tryz.underlying53
  obtain ⟨r, er⟩ : ∃ r, r = w.heap.size := ⟨_, rfl⟩
  rw [← er] at hrun hw1
  have hBr : B ≤ r := by omega
  have HB1 : Hid (Below B w w1) := (Below.refl B w).grown hg1 (by omega) (fun j e => by cases e)
  have HW1 := hide hw1
  have HP := hide (Part.whole v l)
  clear hv hm hw1 hg1 hs1 er hlt
  go_enter Tryz.func57, Tryz.ntmps57
  go_wp2_with fail
  go_loopw [2, 3] (fun _ _ wr => ∃ (f : Int → Option Value) (S : Int → Prop) (cnt : Nat), Hid (MapW keyI wr km r n f S cnt) ∧ Hid (Part v l f) ∧ Hid (∀ x y, S x → f x = some y → (hereIdx l x).isSome = true) ∧ Hid (Below B w wr)) (fun _ _ wr => wr.rangeLeft km r)
  case atStart => exact ⟨_, _, _, HW1.out, HP.out, fun x y h => h.elim, HB1.out⟩
  case round =>
    clear HW1 HP HB1
    obtain ⟨f, S, cnt, HM, HP, HS, HB⟩ := hrel
    have hleft := HM.out.left
    rcases HM.out.next 0 with ⟨hl, hrn⟩ | ⟨x, y, w2, cnt2, hf, hrn, hm2, hlt2, hg2, hs2, hen⟩
    · have HM' := hide (HM.out.mapR.congr (HP.out.end_ (fun x y h => HS.out x y (hl x y h) h)))
      clear hl hleft HM HP HS
      go_wp2_with fail
      first | go_end0 | go_ret
      exact ⟨⟨_, rfl⟩, HM'.out, HB.out⟩
    · obtain ⟨j, hj, rfl⟩ := HP.out.sub x y hf
      obtain ⟨hjl, hji, hjh⟩ := who_some hj
      have hrl := HM.out.lt
      have hb2 : Below B w w2 := HB.out.grown hg2 (by omega) (fun q e => by cases e; omega)
      have hv2 := HV.out w2 hb2
      obtain ⟨a2, c2, hsh, HA⟩ := hv2.open_
      obtain ⟨g, off, u3, u4, u5, rfl, hg, hc⟩ := HA j hjl
      subst hsh
      have f1 := hc.here
      change (Instr.next (.pointer (some ⟨r, 0, none⟩)) false 0).run Tryz.prog wr = Result.ok (Value.tuple #[.bool true, .int .i64 x, .pointer (some ⟨g, off + j * 6, none⟩)]) w2 at hrn
      change (Instr.entry (.pointer (some ⟨r, 0, none⟩))).run Tryz.prog w2 = Result.ok (Value.tuple #[.int .i64 x, .pointer (some ⟨g, off + j * 6, none⟩)]) w2 at hen
      have HB2 := hide hb2
      have HM2 := hide hm2
      clear hb2 hv2 HA hc hg2 hf hm2
      cases hh : l[j].here with
      | true =>
        have HS2 : Hid (∀ z y, (S z ∨ z = x) → f z = some y → (hereIdx l z).isSome = true) := fun z y hz hy => by
          rcases hz with hz | rfl
          · exact HS.out z y hz hy
          · rw [hjh.1 hh]; rfl
        have hl2 := HM2.out.left
        rw [hh] at f1
        have hlt3 : w2.rangeLeft km r < wr.rangeLeft km r := by omega
        clear hjh hj hji hleft hl2 HM HS HB hlt2 hs2
        go_wp2_with fail
        go_roundw
        case rel => exact ⟨f, _, cnt2, HM2.out, HP.out, HS2.out, HB2.out⟩
        case measure => exact hlt3
      | false =>
        have hn : hereIdx l x = none := by
          cases ha : hereIdx l x with
          | none => rfl
          | some i =>
            have h1 := who_of_here ha
            rw [hj] at h1
            cases h1
            have := hjh.2 ha
            rw [hh] at this
            cases this
        obtain ⟨w3, cnt3, hrd, hm3, hle3, hg3, hs3⟩ := HM2.out.drop (t := 53) Tryz.underlying53 x 0
        change (Builtin.delete_ #[53, 3] 0 #[.map (some km), .int .i64 x]).run Tryz.prog w2 = Result.ok (Value.tuple #[]) w3 at hrd
        have HB3 : Hid (Below B w w3) := HB2.out.grown hg3 (by omega) (fun q e => by cases e; omega)
        have HM3 := hide hm3
        have HP3 := hide (HP.out.drop hn)
        have HS3 : Hid (∀ z y, (S z ∨ z = x) → del f x z = some y → (hereIdx l z).isSome = true) := fun z y hz hy => by
          unfold del at hy
          by_cases e : z = x
          · rw [if_pos e] at hy
            cases hy
          · rw [if_neg e] at hy
            rcases hz with hz | hz
            · exact HS.out z y hz hy
            · exact absurd hz e
        have hl2 := HM3.out.left
        rw [hh] at f1
        have hlt3 : w3.rangeLeft km r < wr.rangeLeft km r := by omega
        clear hjh hj hji hleft hl2 HM HS HB hlt2 hs2 hm3 hg3 hs3 hle3 HM2 HB2 HP
        go_wp2_with fail
        go_roundw
        case rel => exact ⟨_, _, cnt3, HM3.out, HP3.out, HS3.out, HB3.out⟩
        case measure => exact hlt3

set_option maxHeartbeats 1000000 in
theorem present_calls (w : World) (v : Value) (l : List Pr) (hv : PeersAt w v l) (hl : l.length ≤ 1048576) :
    Calls Tryz.prog 30 #[.agg #[v]] w fun e w' => ∃ km, e = .returned (.map (some km)) ∧ w.heap.size ≤ km ∧ MapR keyI w' km l.length (hereV v l) ∧ Below w.heap.size w w' := by
  have hb1 := (Below.refl w.heap.size w).alloc (Nat.le_refl _) (.cells #[v] 28)
  have HV := hide (hv.below hb1 (Nat.le_refl _))
  obtain ⟨a, cap, hsh, -⟩ := hv.open_
  have HB := hide hb1
  clear hv hb1
  subst hsh
  go_enter Tryz.func30, Tryz.ntmps30
  go_wp2_with fail
  generalize w.alloc (.cells #[.slice a l.length cap] 28) = w1 at *
  refine (everyone_calls w1 _ l HV.out hl).mono ?_
  rintro e w2 ⟨km, rfl, hkm, hm, hb2⟩
  have HB2 := hide (HB.out.trans (hb2.mono HB.out.size))
  have HL := hide (leave_calls w2 (.slice a l.length cap) l km l.length w1.heap.size (fun wx hb => HV.out.below (hb2.trans hb) (Nat.le_refl _)) hkm hm)
  have HKM : Hid (w.heap.size ≤ km) := Nat.le_trans HB.out.size hkm
  have hsz := HB.out.size
  clear hm hb2 HB HV hkm
  go_wp2_with fail
  refine HL.out.mono ?_
  rintro e w3 ⟨⟨u, rfl⟩, hm3, hb3⟩
  have HB3 := hide (HB2.out.trans (hb3.mono hsz))
  have HM3 := hide hm3
  clear hm3 hb3 HL HB2
  go_wp2_with fail
  go_ret
  exact ⟨km, rfl, HKM.out, HM3.out, HB3.out⟩

theorem hereV_look {w : World} {km n : Nat} {v : Value} {l : List Pr} (h : MapR keyI w km n (hereV v l)) (x : Int) :
    (Instr.lookup 53 (.map (some km)) (.int .i64 x) true).run Tryz.prog w = .ok (.tuple #[((hereIdx l x).map (pt v)).getD (.pointer none), .bool (hereIdx l x).isSome]) w := by
  have := h.look (t := 53) Tryz.underlying53 (zero_ptr w) true x
  rw [if_pos rfl] at this
  refine this.trans ?_
  unfold hereV
  simp

theorem hereIdx_isSome (l : List Pr) (x : Int) : (hereIdx l x).isSome = decide (0 ≤ peerAt l x) := by
  unfold peerAt
  show _ = decide (0 ≤ ((hereIdx l x).map fun (i : Nat) => (i : Int)).getD (-1))
  cases hereIdx l x with
  | none => rfl
  | some i => simp

/-- The first of these that is there. -/
def firstHere (l : List Pr) (b : List Int) : Option Int := b.find? fun y => decide (0 ≤ peerAt l y)

set_option maxHeartbeats 1000000 in
theorem next_calls (w : World) (v u3 : Value) (l : List Pr) (b : List Int) (km n g p : Nat) (hm : MapR keyI w km n (hereV v l)) (hc : w.cell? ⟨g, p + 3, none⟩ = some u3) (hb : IntsAt w u3 b) (hl : b.length ≤ 1048576) :
    Calls Tryz.prog 31 #[.map (some km), .pointer (some ⟨g, p, none⟩)] w fun e w' => e = .returned (.tuple #[.int .i64 ((firstHere l b).getD (-1)), .bool (firstHere l b).isSome]) ∧ w' = w := by
  have HI := hide hb
  obtain ⟨ai, ci, rfl, -⟩ := hb
  have hg : g < w.heap.size := cell_lt' hc
  go_enter Tryz.func31, Tryz.ntmps31
  go_wp2_with fail
  go_loopw [15] (fun i wr => ∃ k : Nat, k ≤ b.length ∧ i = .int .i64 k ∧ Hid (firstHere l (b.take k) = none) ∧ wr = w) (fun i _ => b.length - (intOf i).toNat)
  case atStart => exact ⟨0, Nat.zero_le _, rfl, rfl, rfl⟩
  case round =>
    obtain ⟨k, hk, rfl, HN, hwr⟩ := hrel
    subst hwr
    by_cases hlt : k < b.length
    · obtain ⟨a2, c2, hsh, HA⟩ := HI.out
      cases hsh
      obtain ⟨gi, oi, rfl, h2, h3⟩ := HA k hlt
      have hlk := hereV_look hm b[k]
      have hT := List.take_succ_eq_append_getElem hlt
      cases hp : decide (0 ≤ peerAt l b[k]) with
      | true =>
        have HE : Hid (firstHere l b = some b[k]) := by
          show _ = _
          unfold firstHere
          conv => lhs; rw [← List.take_append_drop k b]
          rw [List.find?_append, show (b.take k).find? _ = none from HN.out, List.drop_eq_getElem_cons hlt, List.find?_cons, hp]
          rfl
        rw [hereIdx_isSome, hp] at hlk
        clear HA HN hT hp
        go_wp2_with fail
        go_ret2
        exact ⟨by rw [HE.out]; rfl, rfl⟩
      | false =>
        have HE : Hid (firstHere l (b.take (k + 1)) = none) := by
          show _ = _
          unfold firstHere
          rw [hT, List.find?_append, show (b.take k).find? _ = none from HN.out]
          simp [hp]
        rw [hereIdx_isSome, hp] at hlk
        clear HA HN hT hp
        go_wp2_with fail
        go_roundw
        case rel => exact ⟨k + 1, by omega, by go_num, HE.out, trivial⟩
        case measure => simp [intOf]; omega
    · obtain rfl : k = b.length := by omega
      have HE : Hid (firstHere l b = none) := by
        show _ = _
        have := HN.out
        rwa [List.take_length] at this
      clear HN
      go_wp2_with fail
      go_ret2
      exact ⟨by rw [HE.out]; rfl, rfl⟩

set_option maxHeartbeats 1000000 in
theorem implNext_calls (w : World) (v : Value) (l : List Pr) (id : Int) (hv : PeersAt w v l) (hl : l.length ≤ 1048576) (hbl : ∀ p ∈ l, p.behind.length ≤ 1048576) :
    Calls Tryz.prog 9 #[.agg #[v], .int .i64 id] w fun e w' => e = .returned (.int .i64 (nextOf l id)) ∧ Below w.heap.size w w' := by
  have hb1 := (Below.refl w.heap.size w).alloc (Nat.le_refl _) (.cells #[v] 28)
  have HV := hide (hv.below hb1 (Nat.le_refl _))
  obtain ⟨a, cap, hsh, -⟩ := hv.open_
  have HB := hide hb1
  have HL := hide hbl
  clear hv hb1 hbl
  subst hsh
  go_enter Tryz.func9, Tryz.ntmps9
  go_wp2_with fail
  generalize w.alloc (.cells #[.slice a l.length cap] 28) = w1 at *
  refine (present_calls w1 _ l HV.out hl).mono ?_
  rintro e w2 ⟨km, rfl, hkm, hm, hb2⟩
  have HB2 := hide (HB.out.trans (hb2.mono HB.out.size))
  have HV2 := hide (HV.out.below hb2 (Nat.le_refl _))
  have hlk := hereV_look hm id
  have HM := hide hm
  clear hm hb2 HB HV hkm
  cases hi : hereIdx l id with
  | none =>
    have HE : Hid (nextOf l id = -1) := by
      show _ = _
      unfold nextOf
      have h1 : decide (0 ≤ peerAt l id) = false := by rw [← hereIdx_isSome, hi]; rfl
      rw [if_pos (by have := of_decide_eq_false h1; omega)]
    rw [hi] at hlk
    simp only [Option.map_none, Option.getD_none, Option.isSome_none] at hlk
    clear hi
    go_wp2_with fail
    go_ret
    exact ⟨by rw [HE.out]; rfl, HB2.out⟩
  | some j =>
    obtain ⟨hj, hjh, hji⟩ := hereIdx_some hi
    obtain ⟨a2, c2, hsh, HA⟩ := HV2.out.open_
    cases hsh
    obtain ⟨g, off, u3, u4, u5, rfl, hg, hc⟩ := HA j hj
    have HE : Hid (nextOf l id = (firstHere l l[j].behind).getD (-1)) := nextOf_hit hj (by
      unfold peerAt
      show ((hereIdx l id).map fun (i : Nat) => (i : Int)).getD (-1) = _
      rw [hi]
      rfl)
    have HC := hide (next_calls w2 _ u3 l l[j].behind km l.length g (off + j * 6) HM.out hc.c3 hc.behind (HL.out l[j] (List.getElem_mem hj)))
    rw [hi] at hlk
    simp only [Option.map_some, Option.getD_some, Option.isSome_some] at hlk
    change _ = Result.ok (Value.tuple #[.pointer (some ⟨g, off + j * 6, none⟩), .bool true]) _ at hlk
    clear hi HA hc HM HL
    go_wp2_with fail
    refine HC.out.mono ?_
    rintro e w3 ⟨rfl, rfl⟩
    go_wp2_with fail
    go_ret
    exact ⟨by rw [HE.out]; rfl, HB2.out⟩
end Go.Proofs.YteladljgnbfcnaaGreat.P9
