/- The specification's PeerOk; condition: lists of at most 2^20, texts of at most 2^20 bytes. -/
import Derived.Test.YtfckfgabeeeccaaRg5
import Derived.Deep.CutRange
namespace Go.Proofs.Ytfckfgabeeeccaa.P9
set_option maxRecDepth 8000
open Go.RowKit P1 P8 Da

def inB (x lo hi : Int) : Bool := decide (lo ≤ x ∧ x ≤ hi)

/-- Whether the k-th shelf is right beside the one ahead of it. -/
def shelfOk (l : List Shf) (k : Nat) : Bool :=
  inB (((l[k]?).map (·.key)).getD 0) 0 255 && (decide (k = 0) || decide (((l[k - 1]?).map (·.key)).getD 0 < ((l[k]?).map (·.key)).getD 0)) && itemsOk (((l[k]?).map (·.items)).getD [])

def behindOk (p : Pr) (k : Nat) : Bool := inB ((p.behind[k]?).getD 0) 0 255 && decide ((p.behind[k]?).getD 0 ≠ p.id)
def fingerOk (p : Pr) (k : Nat) : Bool := inB ((p.fingers[k]?).getD 0) (-1) 255

/-- What one that is there must be. -/
def hereOk (p : Pr) : Bool :=
  (inB p.ahead (-1) 255 && decide (p.behind.length ≤ 3) && decide (p.fingers.length = 8) && decide (p.shelves.length ≤ 80)) &&
    ((List.range p.behind.length).all (behindOk p) && ((List.range p.fingers.length).all (fingerOk p) && (List.range p.shelves.length).all (shelfOk p.shelves)))

def awayOk (p : Pr) : Bool := decide (p.ahead = 0) && decide (p.behind.length = 0) && decide (p.fingers.length = 0) && decide (p.shelves.length = 0)

def peerOk (p : Pr) : Bool := inB p.id 0 255 && if p.here then hereOk p else awayOk p

/-- A peer within reach. -/
structure Small (p : Pr) : Prop where
  b : p.behind.length ≤ 1048576
  f : p.fingers.length ≤ 1048576
  s : p.shelves.length ≤ 1048576
  i : ∀ x ∈ p.shelves, x.items.length ≤ 1048576 ∧ ∀ y ∈ x.items, y.t.length ≤ 1048576

/-- The six cells of a peer as a value. -/
abbrev prV (p : Pr) (u3 u4 u5 : Value) : Value := .agg #[.int .i64 p.id, .bool p.here, .int .i64 p.ahead, u3, u4, u5]

theorem ints_drewn {w wr : World} {v : Value} {l : List Int} (h : IntsAt w v l) (hw : ∃ n, wr = w.drewN n) : IntsAt wr v l := by
  obtain ⟨n, rfl⟩ := hw
  exact h

theorem cell_drewn {w wr : World} (h : ∃ n, wr = w.drewN n) {q : Addr} {c : Value} (hc : w.cell? q = some c) : wr.cell? q = some c := by
  obtain ⟨n, rfl⟩ := h
  exact hc

theorem size_drewn {w wr : World} (h : ∃ n, wr = w.drewN n) : wr.heap.size = w.heap.size := by
  obtain ⟨n, rfl⟩ := h
  rfl

theorem below_drewn {w wr : World} (h : ∃ n, wr = w.drewN n) : Below w.heap.size w wr := by
  obtain ⟨n, rfl⟩ := h
  exact below_drewN (Below.refl _ _) n

set_option maxHeartbeats 4000000 in
theorem specPeerOk_calls (w : World) (p : Pr) (u3 u4 u5 : Value) (h3 : IntsAt w u3 p.behind) (h4 : IntsAt w u4 p.fingers) (h5 : ShelvesAt w u5 p.shelves) (hp : Small p) :
    Calls Try.prog 6 #[prV p u3 u4 u5] w fun e w' => e = .returned (.bool (peerOk p)) ∧ Below w.heap.size w w' := by
  have hb1 := (Below.refl w.heap.size w).alloc (Nat.le_refl _) (.cells #[.int .i64 p.id, .bool p.here, .int .i64 p.ahead, u3, u4, u5] 30)
  have H3 := hide (h3.below hb1 (Nat.le_refl _))
  have H4 := hide (h4.below hb1 (Nat.le_refl _))
  have H5 := hide (h5.below hb1 (Nat.le_refl _))
  obtain ⟨a3, c3, rfl, -⟩ := h3
  obtain ⟨a4, c4, rfl, -⟩ := h4
  obtain ⟨a5, c5, rfl, -⟩ := h5.open_
  have G := Blk.new w #[.int .i64 p.id, .bool p.here, .int .i64 p.ahead, .slice a3 p.behind.length c3, .slice a4 p.fingers.length c4, .slice a5 p.shelves.length c5] 30
  have HB := hide hb1
  have hs3 := hp.b
  have hs4 := hp.f
  have hs5 := hp.s
  have HI := hide hp.i
  have HPO : Hid (peerOk p = (inB p.id 0 255 && if p.here then hereOk p else awayOk p)) := rfl
  have HHO : Hid (hereOk p = ((inB p.ahead (-1) 255 && decide (p.behind.length ≤ 3) && decide (p.fingers.length = 8) && decide (p.shelves.length ≤ 80)) && ((List.range p.behind.length).all (behindOk p) && ((List.range p.fingers.length).all (fingerOk p) && (List.range p.shelves.length).all (shelfOk p.shelves))))) := rfl
  have HAO : Hid (awayOk p = (decide (p.ahead = 0) && decide (p.behind.length = 0) && decide (p.fingers.length = 0) && decide (p.shelves.length = 0))) := rfl
  clear h5 hb1 hp
  go_enter Try.func6, Try.ntmps6
  go_upto_region 1 with fail
  obtain ⟨b0, e0⟩ : ∃ b, b = w.heap.size := ⟨_, rfl⟩
  rw [← e0] at G ⊢
  clear e0
  generalize w.alloc (.cells #[.int .i64 p.id, .bool p.here, .int .i64 p.ahead, .slice a3 p.behind.length c3, .slice a4 p.fingers.length c4, .slice a5 p.shelves.length c5] 30) = w1 at *
  have HG := hide G
  have d0 : w1.cell? ⟨b0, 0, none⟩ = some (.int .i64 p.id) := by rw [G.cell 0]; rfl
  have d1 : w1.cell? ⟨b0, 1, none⟩ = some (.bool p.here) := by rw [G.cell 1]; rfl
  have d2 : w1.cell? ⟨b0, 2, none⟩ = some (.int .i64 p.ahead) := by rw [G.cell 2]; rfl
  have d3 : w1.cell? ⟨b0, 3, none⟩ = some (.slice a3 p.behind.length c3) := by rw [G.cell 3]; rfl
  have d4 : w1.cell? ⟨b0, 4, none⟩ = some (.slice a4 p.fingers.length c4) := by rw [G.cell 4]; rfl
  have d5 : w1.cell? ⟨b0, 5, none⟩ = some (.slice a5 p.shelves.length c5) := by rw [G.cell 5]; rfl
  have l0 := G.lt
  clear G
  have C1 := hide (fun wx => l01In_calls p.id 0 255 wx)
  by_cases hid : 0 ≤ p.id ∧ p.id ≤ 255
  · have hin : inB p.id 0 255 = true := decide_eq_true hid
    rw [decide_eq_true hid] at C1
    rw [hin, Bool.true_and] at HPO
    clear hin hid
    go_wp2_with fail
    refine (C1.out _).mono ?_
    rintro e wz ⟨rfl, rfl⟩
    clear C1
    cases hh : p.here with
    | false =>
      rw [hh] at d1
      have HE : Hid (peerOk p = awayOk p) := by show _ = _; rw [HPO.out, hh]; rfl
      clear hh HPO HHO H3 H4 H5 HI HG
      by_cases q1 : p.ahead = 0
      · rw [q1] at d2 HAO
        rcases Nat.eq_zero_or_pos p.behind.length with q2 | q2
        · rw [q2] at d3 HAO
          rcases Nat.eq_zero_or_pos p.fingers.length with q3 | q3
          · rw [q3] at d4 HAO
            rcases Nat.eq_zero_or_pos p.shelves.length with q4 | q4
            · rw [q4] at d5 HAO
              have HR : Hid (awayOk p = true) := by show _ = _; rw [HAO.out]; rfl
              go_wp2_with fail
              go_ret
              exact ⟨by rw [HE.out, HR.out]; rfl, HB.out⟩
            · obtain ⟨m, hm⟩ : ∃ m, p.shelves.length = m + 1 := ⟨p.shelves.length - 1, by omega⟩
              rw [hm] at d5 HAO hs5
              have HR : Hid (awayOk p = false) := by show _ = _; rw [HAO.out]; simp
              clear hm q4
              go_wp2_with fail
              go_ret
              exact ⟨by rw [HE.out, HR.out]; simp; omega, HB.out⟩
          · obtain ⟨m, hm⟩ : ∃ m, p.fingers.length = m + 1 := ⟨p.fingers.length - 1, by omega⟩
            rw [hm] at d4 HAO hs4
            have HR : Hid (awayOk p = false) := by show _ = _; rw [HAO.out]; simp
            have hq : (((m + 1 : Nat) : Int) == 0) = false := by simp; omega
            clear hm q3
            go_wp2_with fail
            go_ret
            exact ⟨by rw [HE.out, HR.out]; rfl, HB.out⟩
        · obtain ⟨m, hm⟩ : ∃ m, p.behind.length = m + 1 := ⟨p.behind.length - 1, by omega⟩
          rw [hm] at d3 HAO hs3
          have HR : Hid (awayOk p = false) := by show _ = _; rw [HAO.out]; simp
          have hq : (((m + 1 : Nat) : Int) == 0) = false := by simp; omega
          clear hm q2
          go_wp2_with fail
          go_ret
          exact ⟨by rw [HE.out, HR.out]; rfl, HB.out⟩
      · have HR : Hid (awayOk p = false) := by show _ = _; rw [HAO.out, decide_eq_false q1]; rfl
        have hq : (p.ahead == 0) = false := by simpa using q1
        go_wp2_with fail
        go_ret
        exact ⟨by rw [HE.out, HR.out]; rfl, HB.out⟩
    | true =>
      rw [hh] at d1
      have HE : Hid (peerOk p = hereOk p) := by show _ = _; rw [HPO.out, hh]; rfl
      clear hh HPO HAO
      have C2 := hide (fun wx => l01In_calls p.ahead (-1) 255 wx)
      by_cases q1 : -1 ≤ p.ahead ∧ p.ahead ≤ 255
      · have q1' : inB p.ahead (-1) 255 = true := decide_eq_true q1
        rw [decide_eq_true q1] at C2
        rw [q1', Bool.true_and] at HHO
        clear q1 q1'
        by_cases q2 : p.behind.length ≤ 3
        · rw [decide_eq_true q2, Bool.true_and] at HHO
          have k2 : decide ((3 : Int) < ((p.behind.length : Nat) : Int)) = false := decide_eq_false (by omega)
          by_cases q3 : p.fingers.length = 8
          · rw [decide_eq_true q3, Bool.true_and] at HHO
            rw [q3] at d4
            by_cases q4 : p.shelves.length ≤ 80
            · rw [decide_eq_true q4, Bool.true_and] at HHO
              have k4 : decide ((80 : Int) < ((p.shelves.length : Nat) : Int)) = false := decide_eq_false (by omega)
              go_wp2_with fail
              refine (C2.out _).mono ?_
              rintro e wy ⟨rfl, rfl⟩
              clear C2 k2 k4
              go_wp2_with fail
              go_loopw [3] (fun i wr => ∃ k : Nat, k ≤ p.behind.length ∧ i = .int .i64 k ∧ Hid (∀ j, j < k → behindOk p j = true) ∧ Hid (∃ n, wr = wy.drewN n)) (fun i _ => p.behind.length - (intOf i).toNat)
              case atStart => exact ⟨0, Nat.zero_le _, rfl, fun j hj => by omega, 0, rfl⟩
              case round =>
                obtain ⟨k, hk, rfl, HN, HW⟩ := hrel
                have m0 := cell_drewn HW.out d0
                have m3 := cell_drewn HW.out d3
                have ml : b0 < wr.heap.size := by rw [size_drewn HW.out]; exact l0
                by_cases hlt : k < p.behind.length
                · obtain ⟨ax, cx, hax, HA⟩ := ints_drewn H3.out HW.out
                  cases hax
                  obtain ⟨g, off, rfl, hg, hc⟩ := HA k hlt
                  have hbk : behindOk p k = (inB p.behind[k] 0 255 && decide (p.behind[k] ≠ p.id)) := by unfold behindOk; simp [hlt]
                  have HBK := hide hbk
                  have CI := hide (fun wx => l01In_calls p.behind[k] 0 255 wx)
                  have HF : Hid (behindOk p k = false → hereOk p = false) := fun h => by rw [HHO.out, not_all_range hlt h]; rfl
                  have HS : Hid (behindOk p k = true → ∀ j, j < k + 1 → behindOk p j = true) := fun h j hj => by
                    rcases Nat.lt_or_ge j k with h1 | h1
                    · exact HN.out j h1
                    · obtain rfl : j = k := by omega
                      exact h
                  clear HA hbk HN
                  generalize p.behind[k] = x at *
                  by_cases hx : 0 ≤ x ∧ x ≤ 255
                  · rw [decide_eq_true hx] at CI
                    by_cases hy : x = p.id
                    · have HR := hide (HF.out (by rw [HBK.out]; simp [hy]))
                      have hyd : (x == p.id) = true := by simpa using hy
                      clear HBK HF HS hy hx
                      go_wp2_with fail
                      go_quiet (exact Calls.quiet_of_same (CI.out _))
                      have HBq := hide (HB.out.trans ((below_drewn (drewN_more HW.out nq)).mono HB.out.size))
                      go_wp2_with fail
                      go_ret
                      exact ⟨by rw [HE.out, HR.out]; rfl, HBq.out⟩
                    · have HR := hide (HS.out (by rw [HBK.out]; unfold inB; rw [decide_eq_true hx, decide_eq_true hy]; rfl))
                      have hyd : (x == p.id) = false := by simpa using hy
                      clear HBK HF HS hy hx
                      go_wp2_with fail
                      go_quiet (exact Calls.quiet_of_same (CI.out _))
                      go_wp2_with fail
                      go_roundw
                      case rel => exact ⟨k + 1, by omega, by go_num, HR.out, drewN_more HW.out _⟩
                      case measure => simp [intOf]; omega
                  · have HR := hide (HF.out (by rw [HBK.out]; unfold inB; rw [decide_eq_false hx]; rfl))
                    rw [decide_eq_false hx] at CI
                    clear HBK HF HS hx
                    go_wp2_with fail
                    go_quiet (exact Calls.quiet_of_same (CI.out _))
                    have HBq := hide (HB.out.trans ((below_drewn (drewN_more HW.out nq)).mono HB.out.size))
                    go_wp2_with fail
                    go_ret
                    exact ⟨by rw [HE.out, HR.out]; rfl, HBq.out⟩
                · have hk1 : k = p.behind.length := by omega
                  subst hk1
                  rw [all_range HN.out, Bool.true_and] at HHO
                  have m4 := cell_drewn HW.out d4
                  have m5 := cell_drewn HW.out d5
                  have H4b := hide (ints_drewn H4.out HW.out)
                  have H5b := hide (H5.out.below (below_drewn HW.out) (Nat.le_refl _))
                  have HBb := hide (HB.out.trans ((below_drewn HW.out).mono HB.out.size))
                  have HGb := hide (HG.out.below (below_drewn HW.out) HG.out.lt)
                  clear HN HW d0 d1 d2 d3 d4 d5 l0 H3 H4 H5 HB HG hlt hk
                  obtain ⟨wb, ewb⟩ : ∃ wb, wb = wr := ⟨_, rfl⟩
                  subst ewb
                  go_wp2_with fail
                  go_loopw [4] (fun i wr => ∃ k : Nat, k ≤ 8 ∧ i = .int .i64 k ∧ Hid (∀ j, j < k → fingerOk p j = true) ∧ wr = wb) (fun i _ => 8 - (intOf i).toNat)
                  case atStart => exact ⟨0, Nat.zero_le _, rfl, fun j hj => by omega, rfl⟩
                  case round =>
                    obtain ⟨k, hk, rfl, HN, hwr⟩ := hrel
                    subst hwr
                    by_cases hlt : k < 8
                    · obtain ⟨ax, cx, hax, HA⟩ := H4b.out
                      rw [q3] at hax
                      cases hax
                      have hlt2 : k < p.fingers.length := by omega
                      obtain ⟨g, off, rfl, hg, hc⟩ := HA k hlt2
                      have hbk : fingerOk p k = inB p.fingers[k] (-1) 255 := by unfold fingerOk; simp [hlt2]
                      have HBK := hide hbk
                      have CI := hide (fun wx => l01In_calls p.fingers[k] (-1) 255 wx)
                      have HF : Hid (fingerOk p k = false → hereOk p = false) := fun h => by rw [HHO.out, not_all_range hlt2 h]; rfl
                      have HS : Hid (fingerOk p k = true → ∀ j, j < k + 1 → fingerOk p j = true) := fun h j hj => by
                        rcases Nat.lt_or_ge j k with h1 | h1
                        · exact HN.out j h1
                        · obtain rfl : j = k := by omega
                          exact h
                      clear HA hbk HN
                      generalize p.fingers[k] = x at *
                      clear hlt2
                      by_cases hx : -1 ≤ x ∧ x ≤ 255
                      · have HR := hide (HS.out (by rw [HBK.out]; exact decide_eq_true hx))
                        rw [decide_eq_true hx] at CI
                        clear HBK HF HS hx
                        go_wp2_with fail
                        refine (CI.out _).mono ?_
                        rintro e wq ⟨rfl, rfl⟩
                        go_wp2_with fail
                        go_roundw
                        case rel => exact ⟨k + 1, by omega, by go_num, HR.out, trivial⟩
                        case measure => simp [intOf]; omega
                      · have HR := hide (HF.out (by rw [HBK.out]; exact decide_eq_false hx))
                        rw [decide_eq_false hx] at CI
                        clear HBK HF HS hx
                        go_wp2_with fail
                        refine (CI.out _).mono ?_
                        rintro e wq ⟨rfl, rfl⟩
                        go_wp2_with fail
                        go_ret
                        exact ⟨by rw [HE.out, HR.out]; rfl, HBb.out⟩
                    · have hk1 : k = 8 := by omega
                      subst hk1
                      rw [q3, all_range HN.out, Bool.true_and] at HHO
                      clear HN H4b m3 hlt hk
                      obtain ⟨wc, ewc⟩ : ∃ wc, wc = wr := ⟨_, rfl⟩
                      subst ewc
                      go_wp2_with fail
                      clear m0 m4 m5 ml
                      go_loopw [5] (fun i wr => ∃ k : Nat, k ≤ p.shelves.length ∧ i = .int .i64 k ∧ Hid (∀ j, j < k → shelfOk p.shelves j = true) ∧ Hid (Below wc.heap.size wc wr)) (fun i _ => p.shelves.length - (intOf i).toNat)
                      case atStart => exact ⟨0, Nat.zero_le _, rfl, fun j hj => by omega, Below.refl _ _⟩
                      case round =>
                        obtain ⟨k, hk, rfl, HN, HBr⟩ := hrel
                        have Gr := HGb.out.below HBr.out HGb.out.lt
                        have m5 : wr.cell? ⟨b0, 5, none⟩ = some (.slice a5 p.shelves.length c5) := by rw [Gr.cell 5]; rfl
                        have ml := Gr.lt
                        have HVr := hide (H5b.out.below HBr.out (Nat.le_refl _))
                        have HBw := hide (HBb.out.trans (HBr.out.mono HBb.out.size))
                        by_cases hlt : k < p.shelves.length
                        · obtain ⟨ax, cx, hax, HA⟩ := HVr.out.open_
                          cases hax
                          obtain ⟨g, off, u, rfl, hg, f0, f1, hit⟩ := HA k hlt
                          have hsk : shelfOk p.shelves k = (inB p.shelves[k].key 0 255 && (decide (k = 0) || decide (((p.shelves[k - 1]?).map (·.key)).getD 0 < p.shelves[k].key)) && itemsOk p.shelves[k].items) := by unfold shelfOk; simp [hlt]
                          have hsm := HI.out p.shelves[k] (List.getElem_mem hlt)
                          have HF : Hid (shelfOk p.shelves k = false → hereOk p = false) := fun h => by rw [HHO.out, not_all_range hlt h]
                          have HS : Hid (shelfOk p.shelves k = true → ∀ j, j < k + 1 → shelfOk p.shelves j = true) := fun h j hj => by
                            rcases Nat.lt_or_ge j k with h1 | h1
                            · exact HN.out j h1
                            · obtain rfl : j = k := by omega
                              exact h
                          have HPV : Hid (∀ j, k = j + 1 → ∃ y, (p.shelves[k - 1]?).map (·.key) = some y ∧ wr.cell? ⟨g, off + j * 2, none⟩ = some (.int .i64 y)) := fun j e => by
                            obtain ⟨g', off', u', e', _, f0', _⟩ := HA j (by omega)
                            cases e'
                            exact ⟨p.shelves[j].key, by subst e; simp [show j < p.shelves.length by omega], f0'⟩
                          have HSK := hide hsk
                          clear HA hsk HN HVr
                          generalize p.shelves[k].key = key at *
                          generalize p.shelves[k].items = its at *
                          have HIT := hide hit
                          obtain ⟨ai, ci, rfl, -⟩ := hit.open_
                          clear hit
                          go_upto_region 21 with fail
                          have hba := (Below.refl wr.heap.size wr).alloc (Nat.le_refl _) (.cells #[.int .i64 key, .slice ai its.length ci] 50)
                          have S := Blk.new wr #[.int .i64 key, .slice ai its.length ci] 50
                          have HITx := hide (HIT.out.below hba (Nat.le_refl _))
                          have HBx := hide (HBw.out.trans (hba.mono HBw.out.size))
                          have HBy := hide (HBr.out.trans (hba.mono HBr.out.size))
                          have n5 := (hba.cell (p := ⟨b0, 5, none⟩) ml).trans m5
                          have nl : b0 < (wr.alloc (.cells #[.int .i64 key, .slice ai its.length ci] 50)).heap.size := Nat.lt_of_lt_of_le ml hba.size
                          have ng : g < (wr.alloc (.cells #[.int .i64 key, .slice ai its.length ci] 50)).heap.size := Nat.lt_of_lt_of_le hg hba.size
                          have HPW : Hid (∀ j, k = j + 1 → ∃ y, (p.shelves[k - 1]?).map (·.key) = some y ∧ (wr.alloc (.cells #[.int .i64 key, .slice ai its.length ci] 50)).cell? ⟨g, off + j * 2, none⟩ = some (.int .i64 y)) := fun j e => by
                            obtain ⟨y, h1, h2⟩ := HPV.out j e
                            exact ⟨y, h1, (hba.cell (p := ⟨g, off + j * 2, none⟩) hg).trans h2⟩
                          obtain ⟨bs, ebs⟩ : ∃ b, b = wr.heap.size := ⟨_, rfl⟩
                          rw [← ebs] at S ⊢
                          clear ebs hba HIT m5 ml hg f0 f1 HPV HBw HBr Gr
                          generalize wr.alloc (.cells #[.int .i64 key, .slice ai its.length ci] 50) = wx at *
                          have s0 : wx.cell? ⟨bs, 0, none⟩ = some (.int .i64 key) := by rw [S.cell 0]; rfl
                          have s1 : wx.cell? ⟨bs, 1, none⟩ = some (.slice ai its.length ci) := by rw [S.cell 1]; rfl
                          have sl := S.lt
                          clear S
                          have C1 := hide (fun wq => l01In_calls key 0 255 wq)
                          have C2 := hide (fun m => specItems_calls (wx.drewN m) _ its (HITx.out.below (below_drewN (Below.refl wx.heap.size wx) m) (Nat.le_refl _)) hsm.1 hsm.2)
                          by_cases hx : 0 ≤ key ∧ key ≤ 255
                          · rw [decide_eq_true hx] at C1
                            by_cases hk0 : k = 0
                            · have hd0 : decide (0 < k) = false := decide_eq_false (by omega)
                              rw [decide_eq_true hk0, Bool.true_or] at HSK
                              clear hk0 HPW
                              cases hio : itemsOk its with
                              | true =>
                                rw [hio] at C2
                                have HR := hide (HS.out (by rw [HSK.out, hio]; unfold inB; rw [decide_eq_true hx]; simp))
                                clear HSK HF HS hio hx
                                go_wp2_with fail
                                refine wp_region_quiet_lit (by kernel_rfl) (by kernel_rfl) ?_
                                repeat (go_big_quiet_step (fail))
                                go_big_quiet_step (exact Calls.quiet_of_same (C1.out _))
                                repeat (go_big_quiet_step (fail))
                                go_big_quiet_step (exact Calls.quiet_of (C2.out _))
                                repeat (go_big_quiet_step (fail))
                                refine wpQuiet_nil ?_
                                rintro _ ⟨nq, rfl⟩
                                have HBq := hide (below_drewN HBy.out nq)
                                go_wp2_with fail
                                go_roundw
                                case rel => exact ⟨k + 1, by omega, by go_num, HR.out, HBq.out⟩
                                case measure => simp [intOf]; omega
                              | false =>
                                rw [hio] at C2
                                have HR := hide (HF.out (by rw [HSK.out, hio]; simp))
                                clear HSK HF HS hio hx
                                go_wp2_with fail
                                refine wp_region_quiet_lit (by kernel_rfl) (by kernel_rfl) ?_
                                repeat (go_big_quiet_step (fail))
                                go_big_quiet_step (exact Calls.quiet_of_same (C1.out _))
                                repeat (go_big_quiet_step (fail))
                                go_big_quiet_step (exact Calls.quiet_of (C2.out _))
                                repeat (go_big_quiet_step (fail))
                                refine wpQuiet_nil ?_
                                rintro _ ⟨nq, rfl⟩
                                have HBq := hide (below_drewN HBx.out nq)
                                go_wp2_with fail
                                go_ret
                                exact ⟨by rw [HE.out, HR.out]; rfl, HBq.out⟩
                            · obtain ⟨j, rfl⟩ : ∃ j, k = j + 1 := ⟨k - 1, by omega⟩
                              obtain ⟨y, hy1, hy2⟩ := HPW.out j rfl
                              rw [hy1, decide_eq_false hk0, Bool.false_or] at HSK
                              change Hid (shelfOk p.shelves (j + 1) = (inB key 0 255 && decide (y < key) && itemsOk its)) at HSK
                              clear HPW hy1 hk0
                              by_cases hyk : y < key
                              · have hyd : decide (key ≤ y) = false := decide_eq_false (by omega)
                                cases hio : itemsOk its with
                                | true =>
                                  rw [hio] at C2
                                  have HR := hide (HS.out (by rw [HSK.out, hio]; unfold inB; rw [decide_eq_true hx, decide_eq_true hyk]; simp))
                                  clear HSK HF HS hio hx
                                  go_wp2_with fail
                                  refine wp_region_quiet_lit (by kernel_rfl) (by kernel_rfl) ?_
                                  repeat (go_big_quiet_step (fail))
                                  go_big_quiet_step (exact Calls.quiet_of_same (C1.out _))
                                  repeat (go_big_quiet_step (fail))
                                  go_big_quiet_step (exact Calls.quiet_of (C2.out _))
                                  repeat (go_big_quiet_step (fail))
                                  refine wpQuiet_nil ?_
                                  rintro _ ⟨nq, rfl⟩
                                  have HBq := hide (below_drewN HBy.out nq)
                                  go_wp2_with fail
                                  go_roundw
                                  case rel => exact ⟨j + 1 + 1, by omega, by go_num, HR.out, HBq.out⟩
                                  case measure => simp [intOf]; omega
                                | false =>
                                  rw [hio] at C2
                                  have HR := hide (HF.out (by rw [HSK.out, hio]; simp))
                                  clear HSK HF HS hio hx
                                  go_wp2_with fail
                                  refine wp_region_quiet_lit (by kernel_rfl) (by kernel_rfl) ?_
                                  repeat (go_big_quiet_step (fail))
                                  go_big_quiet_step (exact Calls.quiet_of_same (C1.out _))
                                  repeat (go_big_quiet_step (fail))
                                  go_big_quiet_step (exact Calls.quiet_of (C2.out _))
                                  repeat (go_big_quiet_step (fail))
                                  refine wpQuiet_nil ?_
                                  rintro _ ⟨nq, rfl⟩
                                  have HBq := hide (below_drewN HBx.out nq)
                                  go_wp2_with fail
                                  go_ret
                                  exact ⟨by rw [HE.out, HR.out]; rfl, HBq.out⟩
                              · have hyd : decide (key ≤ y) = true := decide_eq_true (by omega)
                                have hyd2 : key ≤ y := by omega
                                have HR := hide (HF.out (by rw [HSK.out, decide_eq_false hyk]; simp))
                                clear HSK HF HS C2
                                go_wp2_with fail
                                refine wp_region_quiet_lit (by kernel_rfl) (by kernel_rfl) ?_
                                repeat (go_big_quiet_step (fail))
                                go_big_quiet_step (exact Calls.quiet_of_same (C1.out _))
                                repeat (go_big_quiet_step (fail))
                                refine wpQuiet_nil ?_
                                rintro _ ⟨nq, rfl⟩
                                have HBq := hide (below_drewN HBx.out nq)
                                go_wp2_with fail
                                go_ret
                                exact ⟨by rw [HE.out, HR.out]; rfl, HBq.out⟩
                          · rw [decide_eq_false hx] at C1
                            have HR := hide (HF.out (by rw [HSK.out]; unfold inB; rw [decide_eq_false hx]; rfl))
                            clear HSK HF HS C2 HPW
                            go_wp2_with fail
                            refine wp_region_quiet_lit (by kernel_rfl) (by kernel_rfl) ?_
                            repeat (go_big_quiet_step (fail))
                            go_big_quiet_step (exact Calls.quiet_of_same (C1.out _))
                            repeat (go_big_quiet_step (fail))
                            refine wpQuiet_nil ?_
                            rintro _ ⟨nq, rfl⟩
                            have HBq := hide (below_drewN HBx.out nq)
                            go_wp2_with fail
                            go_ret
                            exact ⟨by rw [HE.out, HR.out]; rfl, HBq.out⟩
                        · have hk1 : k = p.shelves.length := by omega
                          subst hk1
                          have HR : Hid (hereOk p = true) := by show _ = _; rw [HHO.out]; exact all_range HN.out
                          clear HN HVr
                          go_wp2_with fail
                          go_ret
                          exact ⟨by rw [HE.out, HR.out]; rfl, HBw.out⟩
            · rw [decide_eq_false q4, Bool.false_and] at HHO
              have k4 : decide ((80 : Int) < ((p.shelves.length : Nat) : Int)) = true := decide_eq_true (by omega)
              have HR : Hid (hereOk p = false) := by show _ = _; rw [HHO.out]
              clear HHO H3 H4 H5 HI HG
              go_wp2_with fail
              refine (C2.out _).mono ?_
              rintro e wy ⟨rfl, rfl⟩
              go_wp2_with fail
              go_ret
              exact ⟨by rw [HE.out, HR.out]; rfl, HB.out⟩
          · rw [decide_eq_false q3, Bool.false_and, Bool.false_and] at HHO
            have k3 : (((p.fingers.length : Nat) : Int) != 8) = true := by simp; omega
            have HR : Hid (hereOk p = false) := by show _ = _; rw [HHO.out]
            clear HHO H3 H4 H5 HI HG
            go_wp2_with fail
            refine (C2.out _).mono ?_
            rintro e wy ⟨rfl, rfl⟩
            go_wp2_with fail
            go_ret
            exact ⟨by rw [HE.out, HR.out]; rfl, HB.out⟩
        · rw [decide_eq_false q2, Bool.false_and, Bool.false_and, Bool.false_and] at HHO
          have k2 : decide ((3 : Int) < ((p.behind.length : Nat) : Int)) = true := decide_eq_true (by omega)
          have HR : Hid (hereOk p = false) := by show _ = _; rw [HHO.out]
          clear HHO H3 H4 H5 HI HG
          go_wp2_with fail
          refine (C2.out _).mono ?_
          rintro e wy ⟨rfl, rfl⟩
          go_wp2_with fail
          go_ret
          exact ⟨by rw [HE.out, HR.out]; rfl, HB.out⟩
      · have q1' : inB p.ahead (-1) 255 = false := decide_eq_false q1
        rw [decide_eq_false q1] at C2
        rw [q1', Bool.false_and, Bool.false_and, Bool.false_and, Bool.false_and] at HHO
        have HR : Hid (hereOk p = false) := by show _ = _; rw [HHO.out]
        clear HHO H3 H4 H5 HI HG
        go_wp2_with fail
        refine (C2.out _).mono ?_
        rintro e wy ⟨rfl, rfl⟩
        go_wp2_with fail
        go_ret
        exact ⟨by rw [HE.out, HR.out]; rfl, HB.out⟩
  · have hin : inB p.id 0 255 = false := decide_eq_false hid
    have HE : Hid (peerOk p = false) := by show _ = _; rw [HPO.out, hin]; rfl
    rw [decide_eq_false hid] at C1
    go_wp2_with fail
    refine (C1.out _).mono ?_
    rintro e wz ⟨rfl, rfl⟩
    go_wp2_with fail
    go_ret
    exact ⟨by rw [HE.out]; rfl, HB.out⟩
end Go.Proofs.Ytfckfgabeeeccaa.P9
