/- The program's everyone: each id once, the one that is there, or the first; condition: at most 2^20 peers. -/
import Derived.Test.YthkdgnohkdedpaaRg2
import Derived.Test.YthkdgnohkdedpaaRg4
import Derived.Test.YthkdgnohkdedpaaRng4
import Derived.Test.YthkdgnohkdedpaaMapW
namespace Go.Proofs.Ythkdgnohkdedpaa.P9
set_option maxRecDepth 8000
open Go.RowKit P1 P8 Da Mp

/-- The first with this id that is there; without one the first with this id. -/
def hereIdx (l : List Pr) (x : Int) : Option Nat := l.findIdx? fun p => p.here && (p.id == x)
def anyIdx (l : List Pr) (x : Int) : Option Nat := l.findIdx? fun p => p.id == x
def who (l : List Pr) (x : Int) : Option Nat := (hereIdx l x).or (anyIdx l x)

theorem hereIdx_some {l : List Pr} {x : Int} {j : Nat} (h : hereIdx l x = some j) : ∃ hj : j < l.length, l[j].here = true ∧ l[j].id = x := by
  obtain ⟨hj, h1, _⟩ := List.findIdx?_eq_some_iff_getElem.1 h
  simp at h1
  exact ⟨hj, h1.1, h1.2⟩

theorem anyIdx_some {l : List Pr} {x : Int} {j : Nat} (h : anyIdx l x = some j) : ∃ hj : j < l.length, l[j].id = x := by
  obtain ⟨hj, h1, _⟩ := List.findIdx?_eq_some_iff_getElem.1 h
  simp at h1
  exact ⟨hj, h1⟩

theorem hereIdx_none {l : List Pr} {x : Int} (h : hereIdx l x = none) {j : Nat} (hj : j < l.length) (hx : l[j].id = x) : l[j].here = false := by
  have := List.findIdx?_eq_none_iff.1 h l[j] (List.getElem_mem hj)
  simp only [hx, beq_self_eq_true, Bool.and_true] at this
  exact this

theorem who_some {l : List Pr} {x : Int} {j : Nat} (h : who l x = some j) : ∃ hj : j < l.length, l[j].id = x ∧ (l[j].here = true ↔ hereIdx l x = some j) := by
  unfold who at h
  cases ha : hereIdx l x with
  | some i =>
    rw [ha] at h
    simp at h
    subst h
    obtain ⟨hj, h1, h2⟩ := hereIdx_some ha
    exact ⟨hj, h2, by simp [h1]⟩
  | none =>
    rw [ha] at h
    simp at h
    obtain ⟨hj, h1⟩ := anyIdx_some h
    exact ⟨hj, h1, by simp [hereIdx_none ha hj h1]⟩

/-- One more peer. -/
theorem who_other {l : List Pr} {p : Pr} {x : Int} (h : p.id ≠ x) : who (l ++ [p]) x = who l x := by
  have hb : (p.id == x) = false := by simpa using h
  unfold who hereIdx anyIdx
  rw [List.findIdx?_append, List.findIdx?_append]
  simp [List.findIdx?_cons, hb]

theorem who_new {l : List Pr} {p : Pr} (h : who l p.id = none) : who (l ++ [p]) p.id = some l.length := by
  unfold who at h ⊢
  rw [Option.or_eq_none_iff] at h
  obtain ⟨h1, h2⟩ := h
  unfold hereIdx at *
  unfold anyIdx at *
  rw [List.findIdx?_append, List.findIdx?_append, h1, h2]
  cases hp : p.here <;> simp [List.findIdx?_cons, hp]

theorem who_takes {l : List Pr} {p : Pr} (hp : p.here = true) (hn : hereIdx l p.id = none) : who (l ++ [p]) p.id = some l.length := by
  unfold who
  have h1 : hereIdx (l ++ [p]) p.id = some l.length := by
    unfold hereIdx at *
    rw [List.findIdx?_append, hn]
    simp [List.findIdx?_cons, hp]
  rw [h1]
  rfl

theorem who_stays {l : List Pr} {p : Pr} {j : Nat} (h : who l p.id = some j) (hp : p.here = false ∨ hereIdx l p.id = some j) : who (l ++ [p]) p.id = some j := by
  cases ha : hereIdx l p.id with
  | some i =>
    have h1 : hereIdx (l ++ [p]) p.id = some i := by
      unfold hereIdx at *
      rw [List.findIdx?_append, ha]
      rfl
    unfold who at h ⊢
    rw [ha] at h
    rw [h1]
    simpa using h
  | none =>
    rcases hp with hp | hp
    · have h1 : hereIdx (l ++ [p]) p.id = none := by
        unfold hereIdx at *
        rw [List.findIdx?_append, ha]
        simp [List.findIdx?_cons, hp]
      unfold who at h ⊢
      rw [ha] at h
      have h2 : anyIdx l p.id = some j := by simpa using h
      rw [h1]
      unfold anyIdx at *
      rw [List.findIdx?_append, h2]
      rfl
    · rw [ha] at hp
      cases hp

/-- Where the peer i of a slice is. -/
def pt (v : Value) (i : Nat) : Value := match v with
  | .slice (some ⟨g, off, none⟩) _ _ => .pointer (some ⟨g, off + i * 6, none⟩)
  | _ => .pointer none

def whoV (v : Value) (l : List Pr) (x : Int) : Option Value := (who l x).map (pt v)

theorem zero_ptr : ∀ w : World, (zeroValue 93).run Try.prog w = .ok (.pointer none) w := fun w => by kernel_rfl

theorem whoV_look {w : World} {km n : Nat} {v : Value} {l : List Pr} (h : MapR keyI w km n (whoV v l)) (x : Int) :
    (Instr.lookup 89 (.map (some km)) (.int .i64 x) true).run Try.prog w = .ok (.tuple #[((who l x).map (pt v)).getD (.pointer none), .bool (who l x).isSome]) w := by
  have := h.look (t := 89) Try.underlying89 (zero_ptr w) true x
  rw [if_pos rfl] at this
  refine this.trans ?_
  unfold whoV
  simp

set_option maxRecDepth 100000 in
set_option maxHeartbeats 2000000 in
theorem everyone_calls (w : World) (v : Value) (l : List Pr) (hv : PeersAt w v l) (hl : l.length ≤ 1048576) :
    Calls Try.prog 75 #[.agg #[v]] w fun e w' => ∃ km, e = .returned (.map (some km)) ∧ w.heap.size ≤ km ∧ MapR keyI w' km l.length (whoV v l) ∧ Below w.heap.size w w' := by
  have hb1 := (Below.refl w.heap.size w).alloc (Nat.le_refl _) (.cells #[v] 44)
  have HV0 := hide hv
  obtain ⟨a, cap, rfl, -⟩ := hv.open_
  have G := Blk.new w #[.slice a l.length cap] 44
  have hmk := fun wx : World => (show (Instr.makeMap 89 none).run Try.prog wx = .ok (.map (some wx.heap.size)) (wx.alloc (.map #[] 0)) from by kernel_rfl)
  have hb2 := hb1.alloc (by simp) (.map #[] 0)
  have HM0 := hide (MapR.made (T := keyI) (w.alloc (.cells #[.slice a l.length cap] 44)))
  have hbx := (Below.refl (w.alloc (.cells #[.slice a l.length cap] 44)).heap.size (w.alloc (.cells #[.slice a l.length cap] 44))).alloc (Nat.le_refl _) (.map #[] 0)
  have G2 := G.below hbx G.lt
  have HB := hide hb2
  clear hv hb1 hb2 hbx G
  go_enter Try.func75, Try.ntmps75
  go_upto_region 2 with fail
  clear hmk
  obtain ⟨b0, e0⟩ : ∃ b, b = w.heap.size := ⟨_, rfl⟩
  have es : (w.alloc (.cells #[.slice a l.length cap] 44)).heap.size = b0 + 1 := by simp [e0]
  rw [← e0] at G2 ⊢
  rw [es] at HM0
  have HE0 : Hid (w.heap.size ≤ b0) := Nat.le_of_eq e0.symm
  clear e0 es
  generalize (w.alloc (.cells #[.slice a l.length cap] 44)).alloc (.map #[] 0) = w1 at *
  have c0 : w1.cell? ⟨b0, 0, none⟩ = some (.slice a l.length cap) := by rw [G2.cell 0]; rfl
  have l0 := G2.lt
  go_wp2_with fail
  clear c0 l0
  go_loopw [12] (fun i wr => ∃ k : Nat, k ≤ l.length ∧ i = .int .i64 k ∧ Hid (MapR keyI wr (b0 + 1) k (whoV (.slice a l.length cap) (l.take k))) ∧ Hid (Blk wr b0 [.slice a l.length cap] 44) ∧ Hid (Below w.heap.size w wr)) (fun i _ => l.length - (intOf i).toNat)
  case atStart => exact ⟨0, Nat.zero_le _, rfl, HM0.out.congr (fun x => rfl), G2, HB.out⟩
  case round =>
    clear HM0 G2 HB
    obtain ⟨k, hk, rfl, HM, HG, HB⟩ := hrel
    by_cases hlt : k < l.length
    · have hvr := HV0.out.below HB.out (Nat.le_refl _)
      obtain ⟨a2, c2, hsh, HA⟩ := hvr.open_
      cases hsh
      obtain ⟨g, off, u3, u4, u5, rfl, hg, hc⟩ := HA k hlt
      have f0 := hc.id
      have f1 := hc.here
      have c0 : wr.cell? ⟨b0, 0, none⟩ = some (.slice (some ⟨g, off, none⟩) l.length cap) := by rw [HG.out.cell 0]; rfl
      have l0 := HG.out.lt
      have hlk := whoV_look HM.out l[k].id
      have HT := hide (List.take_succ_eq_append_getElem hlt)
      have hlen : (l.take k).length = k := by rw [List.length_take]; omega
      have hst := fun y => HM.out.store (t := 89) Try.underlying89 l[k].id y
      obtain ⟨w4, hrun, hM4, hg4, hs4⟩ := hst (.pointer (some ⟨g, off + k * 6, none⟩))
      change (Instr.mapUpdate 89 (.map (some (b0 + 1))) (.int .i64 l[k].id) _).run Try.prog _ = .ok () w4 at hrun
      have HB4 : Hid (Below w.heap.size w w4) := HB.out.grown hg4 HB.out.size (fun j e => by cases e; have := HE0.out; omega)
      have HG4 : Hid (Blk w4 b0 [.slice (some ⟨g, off, none⟩) l.length cap] 44) := (hg4.block b0 l0 (by simp)).trans HG.out
      have HM4 : Hid (who (l.take (k + 1)) l[k].id = some k → MapR keyI w4 (b0 + 1) (k + 1) (whoV (.slice (some ⟨g, off, none⟩) l.length cap) (l.take (k + 1)))) := fun he => hM4.congr (fun x => by
        unfold upd
        by_cases hx : x = l[k].id
        · subst hx
          rw [if_pos rfl]
          unfold whoV
          rw [he]
          rfl
        · rw [if_neg hx]
          unfold whoV
          rw [HT.out, who_other (fun e => hx e.symm)])
      have HMs : Hid (who (l.take (k + 1)) l[k].id = who (l.take k) l[k].id → MapR keyI wr (b0 + 1) (k + 1) (whoV (.slice (some ⟨g, off, none⟩) l.length cap) (l.take (k + 1)))) := fun he => (HM.out.mono (Nat.le_succ k)).congr (fun x => by
        unfold whoV
        by_cases hx : x = l[k].id
        · subst hx
          rw [he]
        · rw [HT.out, who_other (fun e => hx e.symm)])
      clear hM4 hg4 hs4 hst hc HA hvr
      cases hwho : who (l.take k) l[k].id with
      | none =>
        have HX := hide (HM4.out (by rw [HT.out, who_new hwho, hlen]))
        rw [hwho] at hlk
        simp only [Option.map_none, Option.getD_none, Option.isSome_none] at hlk
        clear HM4 HMs HM hwho
        go_wp2_with fail
        go_roundw
        case rel => exact ⟨k + 1, by omega, by go_num, HX.out, HG4.out, HB4.out⟩
        case measure => simp [intOf]; omega
      | some j =>
        obtain ⟨hj, hji, hjh⟩ := who_some hwho
        have hjk : j < k := by omega
        have hjl : j < l.length := by omega
        have hvr := HV0.out.below HB.out (Nat.le_refl _)
        obtain ⟨a2, c2, hsh, HA⟩ := hvr.open_
        cases hsh
        obtain ⟨g', off', v3, v4, v5, e', _, hcj⟩ := HA j hjl
        cases e'
        have fj := hcj.here
        rw [List.getElem_take] at hjh
        rw [hwho] at hlk
        simp only [Option.map_some, Option.getD_some, Option.isSome_some] at hlk
        change _ = Result.ok (Value.tuple #[.pointer (some ⟨g, off + j * 6, none⟩), .bool true]) _ at hlk
        clear hcj HA hvr
        cases hp : l[k].here with
        | false =>
          have HX := hide (HMs.out (by rw [HT.out, who_stays hwho (.inl hp), hwho]))
          rw [hp] at f1
          clear HM4 HMs HM hwho hjh
          go_wp2_with fail
          go_roundw
          case rel => exact ⟨k + 1, by omega, by go_num, HX.out, HG.out, HB.out⟩
          case measure => simp [intOf]; omega
        | true =>
          rw [hp] at f1
          cases hpj : l[j].here with
          | true =>
            have HX := hide (HMs.out (by rw [HT.out, who_stays hwho (.inr (hjh.1 hpj)), hwho]))
            rw [hpj] at fj
            clear HM4 HMs HM hwho hjh
            go_wp2_with fail
            go_roundw
            case rel => exact ⟨k + 1, by omega, by go_num, HX.out, HG.out, HB.out⟩
            case measure => simp [intOf]; omega
          | false =>
            have hn : hereIdx (l.take k) l[k].id = none := by
              cases ha : hereIdx (l.take k) l[k].id with
              | none => rfl
              | some i =>
                exfalso
                unfold who at hwho
                rw [ha] at hwho
                simp at hwho
                subst hwho
                obtain ⟨hi, h1, _⟩ := hereIdx_some ha
                rw [List.getElem_take, hpj] at h1
                cases h1
            have HX := hide (HM4.out (by rw [HT.out, who_takes hp hn, hlen]))
            rw [hpj] at fj
            clear HM4 HMs HM hwho hjh
            go_wp2_with fail
            go_roundw
            case rel => exact ⟨k + 1, by omega, by go_num, HX.out, HG4.out, HB4.out⟩
            case measure => simp [intOf]; omega
    · obtain rfl : k = l.length := by omega
      rw [List.take_length] at HM
      go_wp2_with fail
      go_ret
      exact ⟨b0 + 1, rfl, by have := HE0.out; omega, HM.out, HB.out⟩
end Go.Proofs.Ythkdgnohkdedpaa.P9
