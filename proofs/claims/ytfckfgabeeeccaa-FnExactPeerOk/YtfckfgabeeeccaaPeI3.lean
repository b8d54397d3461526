/- The program's shelvesOk; condition: at most 2^20 shelves, of at most 2^20 items, their texts of at most 2^20 bytes. -/
import Derived.Test.YtfckfgabeeeccaaPeI2
namespace Go.Proofs.Ytfckfgabeeeccaa.P9
set_option maxRecDepth 8000
open Go.RowKit P1 P8 Da

def shelvesB (l : List Shf) : Bool := (List.range l.length).all (shelfOk l) && decide (l.length ≤ 80)

set_option maxHeartbeats 4000000 in
theorem implShelves_calls (w : World) (v : Value) (l : List Shf) (hv : ShelvesAt w v l) (hl : l.length ≤ 1048576) (hi : ∀ x ∈ l, x.items.length ≤ 1048576 ∧ ∀ y ∈ x.items, y.t.length ≤ 1048576) :
    Calls Try.prog 26 #[v] w fun e w' => e = .returned (.bool (shelvesB l)) ∧ Below w.heap.size w w' := by
  have HV := hide hv
  obtain ⟨a, cap, rfl, -⟩ := hv.open_
  have HI := hide hi
  clear hv hi
  have HSO : Hid (shelvesB l = ((List.range l.length).all (shelfOk l) && decide (l.length ≤ 80))) := rfl
  go_enter Try.func26, Try.ntmps26
  go_wp2_with fail
  go_loopw [7] (fun i wr => ∃ k : Nat, k ≤ l.length ∧ i = .int .i64 k ∧ Hid (∀ j, j < k → shelfOk l j = true) ∧ Hid (Below w.heap.size w wr)) (fun i _ => l.length - (intOf i).toNat)
  case atStart => exact ⟨0, Nat.zero_le _, rfl, fun j hj => by omega, Below.refl _ _⟩
  case round =>
    obtain ⟨k, hk, rfl, HN, HB⟩ := hrel
    by_cases hlt : k < l.length
    · have HVr := hide (HV.out.below HB.out (Nat.le_refl _))
      obtain ⟨a2, c2, hsh, HA⟩ := HVr.out.open_
      cases hsh
      obtain ⟨g, off, u, rfl, hg, f0, f1, hit⟩ := HA k hlt
      have hsk : shelfOk l k = (inB l[k].key 0 255 && (decide (k = 0) || decide (((l[k - 1]?).map (·.key)).getD 0 < l[k].key)) && itemsOk l[k].items) := by unfold shelfOk; simp [hlt]
      have hsm := HI.out l[k] (List.getElem_mem hlt)
      have HF : Hid (shelfOk l k = false → shelvesB l = false) := fun h => by rw [HSO.out, not_all_range hlt h]; rfl
      have HS : Hid (shelfOk l k = true → ∀ j, j < k + 1 → shelfOk l j = true) := fun h j hj => by
        rcases Nat.lt_or_ge j k with h1 | h1
        · exact HN.out j h1
        · obtain rfl : j = k := by omega
          exact h
      have HPV : Hid (∀ j, k = j + 1 → ∃ y, ((l[k - 1]?).map (·.key)).getD 0 = y ∧ wr.cell? ⟨g, off + j * 2, none⟩ = some (.int .i64 y)) := fun j e => by
        obtain ⟨g', off', u', e', _, f0', _⟩ := HA j (by omega)
        cases e'
        exact ⟨l[j].key, by subst e; simp [show j < l.length by omega], f0'⟩
      have HSK := hide hsk
      clear HA hsk HN HVr
      generalize l[k].key = key at *
      generalize l[k].items = its at *
      have HIT := hide hit
      obtain ⟨ai, ci, rfl, -⟩ := hit.open_
      clear hit
      go_upto_region 4 with fail
      have hba := (Below.refl wr.heap.size wr).alloc (Nat.le_refl _) (.cells #[.int .i64 key, .slice ai its.length ci] 50)
      have S := Blk.new wr #[.int .i64 key, .slice ai its.length ci] 50
      have HITx := hide (HIT.out.below hba (Nat.le_refl _))
      have HBx := hide (HB.out.trans (hba.mono HB.out.size))
      have ng : g < (wr.alloc (.cells #[.int .i64 key, .slice ai its.length ci] 50)).heap.size := Nat.lt_of_lt_of_le hg hba.size
      have HPW : Hid (∀ j, k = j + 1 → ∃ y, ((l[k - 1]?).map (·.key)).getD 0 = y ∧ (wr.alloc (.cells #[.int .i64 key, .slice ai its.length ci] 50)).cell? ⟨g, off + j * 2, none⟩ = some (.int .i64 y)) := fun j e => by
        obtain ⟨y, h1, h2⟩ := HPV.out j e
        exact ⟨y, h1, (hba.cell (p := ⟨g, off + j * 2, none⟩) hg).trans h2⟩
      obtain ⟨bs, ebs⟩ : ∃ b, b = wr.heap.size := ⟨_, rfl⟩
      rw [← ebs] at S ⊢
      clear ebs hba HIT hg f0 f1 HPV HB
      generalize wr.alloc (.cells #[.int .i64 key, .slice ai its.length ci] 50) = wx at *
      have n0 : ∀ p : Near wx.heap.size wx, p.w.cell? ⟨bs, 0, none⟩ = some (.int .i64 key) := fun p => by rw [(S.below p.h S.lt).cell 0]; rfl
      have n1 : ∀ p : Near wx.heap.size wx, p.w.cell? ⟨bs, 1, none⟩ = some (.slice ai its.length ci) := fun p => by rw [(S.below p.h S.lt).cell 1]; rfl
      have HPN : Hid (∀ j, k = j + 1 → ∃ y, ((l[k - 1]?).map (·.key)).getD 0 = y ∧ ∀ p : Near wx.heap.size wx, p.w.cell? ⟨g, off + j * 2, none⟩ = some (.int .i64 y)) := fun j e => by
        obtain ⟨y, h1, h2⟩ := HPW.out j e
        exact ⟨y, h1, fun p => (p.h.cell (p := ⟨g, off + j * 2, none⟩) ng).trans h2⟩
      clear S HPW ng
      have C1 := hide (fun wq => isOn_calls key wq)
      have C2 := hide (fun p : Near wx.heap.size wx => implItems_calls p.w _ its (HITx.out.below p.h (Nat.le_refl _)) hsm.1 hsm.2)
      have hnn := Near.some wx.heap.size wx
      clear HITx hsm
      cases hx : inB key 0 255 with
      | false =>
        have HR := hide (HF.out (by rw [HSK.out, hx]; rfl))
        rw [hx] at C1
        clear HSK HF HS hx HPN C2
        go_wp2_with fail
        refine wp_region_near wx.heap.size wx (Below.refl _ _) (by kernel_rfl) (by kernel_rfl) ?_
        repeat (go_big_quiet_step (fail))
        go_big_quiet_step (exact calls_near_same (C1.out _))
        repeat (go_big_quiet_step (fail))
        refine wpQuiet_nil ?_
        rintro w3 ⟨pq, rfl⟩
        have HBq := hide (HBx.out.trans (pq.h.mono HBx.out.size))
        go_wp2_with fail
        go_ret
        exact ⟨by rw [HR.out]; rfl, HBq.out⟩
      | true =>
        rw [hx, Bool.true_and] at HSK
        rw [hx] at C1
        clear hx
        by_cases hk0 : k = 0
        · have hd0 : decide (0 < k) = false := decide_eq_false (by omega)
          rw [decide_eq_true hk0, Bool.true_or, Bool.true_and] at HSK
          clear hk0 HPN
          cases hio : itemsOk its with
          | true =>
            have HR := hide (HS.out (by rw [HSK.out, hio]))
            rw [hio] at C2
            clear HSK HF HS hio
            go_wp2_with fail
            refine wp_region_near wx.heap.size wx (Below.refl _ _) (by kernel_rfl) (by kernel_rfl) ?_
            repeat (go_big_quiet_step (fail))
            go_big_quiet_step (exact calls_near_same (C1.out _))
            repeat (go_big_quiet_step (fail))
            go_big_quiet_step (exact calls_near (Nat.le_refl _) (C2.out _))
            repeat (go_big_quiet_step (fail))
            refine wpQuiet_nil ?_
            rintro w3 ⟨pq, rfl⟩
            have HBq := hide (HBx.out.trans (pq.h.mono HBx.out.size))
            go_wp2_with fail
            go_roundw
            case rel => exact ⟨k + 1, by omega, by go_num, HR.out, HBq.out⟩
            case measure => simp [intOf]; omega
          | false =>
            have HR := hide (HF.out (by rw [HSK.out, hio]))
            rw [hio] at C2
            clear HSK HF HS hio
            go_wp2_with fail
            refine wp_region_near wx.heap.size wx (Below.refl _ _) (by kernel_rfl) (by kernel_rfl) ?_
            repeat (go_big_quiet_step (fail))
            go_big_quiet_step (exact calls_near_same (C1.out _))
            repeat (go_big_quiet_step (fail))
            go_big_quiet_step (exact calls_near (Nat.le_refl _) (C2.out _))
            repeat (go_big_quiet_step (fail))
            refine wpQuiet_nil ?_
            rintro w3 ⟨pq, rfl⟩
            have HBq := hide (HBx.out.trans (pq.h.mono HBx.out.size))
            go_wp2_with fail
            go_ret
            exact ⟨by rw [HR.out]; rfl, HBq.out⟩
        · obtain ⟨j, rfl⟩ : ∃ j, k = j + 1 := ⟨k - 1, by omega⟩
          obtain ⟨y, ey, nj⟩ := HPN.out j rfl
          rw [decide_eq_false hk0, Bool.false_or, ey] at HSK
          clear hk0 HPN ey
          by_cases hy : y < key
          · have hyd : decide (key ≤ y) = false := decide_eq_false (by omega)
            rw [decide_eq_true hy, Bool.true_and] at HSK
            clear hy
            cases hio : itemsOk its with
            | true =>
              have HR := hide (HS.out (by rw [HSK.out, hio]))
              rw [hio] at C2
              clear HSK HF HS hio
              go_wp2_with fail
              refine wp_region_near wx.heap.size wx (Below.refl _ _) (by kernel_rfl) (by kernel_rfl) ?_
              repeat (go_big_quiet_step (fail))
              go_big_quiet_step (exact calls_near_same (C1.out _))
              repeat (go_big_quiet_step (fail))
              go_big_quiet_step (exact calls_near (Nat.le_refl _) (C2.out _))
              repeat (go_big_quiet_step (fail))
              refine wpQuiet_nil ?_
              rintro w3 ⟨pq, rfl⟩
              have HBq := hide (HBx.out.trans (pq.h.mono HBx.out.size))
              go_wp2_with fail
              go_roundw
              case rel => exact ⟨j + 1 + 1, by omega, by go_num, HR.out, HBq.out⟩
              case measure => simp [intOf]; omega
            | false =>
              have HR := hide (HF.out (by rw [HSK.out, hio]))
              rw [hio] at C2
              clear HSK HF HS hio
              go_wp2_with fail
              refine wp_region_near wx.heap.size wx (Below.refl _ _) (by kernel_rfl) (by kernel_rfl) ?_
              repeat (go_big_quiet_step (fail))
              go_big_quiet_step (exact calls_near_same (C1.out _))
              repeat (go_big_quiet_step (fail))
              go_big_quiet_step (exact calls_near (Nat.le_refl _) (C2.out _))
              repeat (go_big_quiet_step (fail))
              refine wpQuiet_nil ?_
              rintro w3 ⟨pq, rfl⟩
              have HBq := hide (HBx.out.trans (pq.h.mono HBx.out.size))
              go_wp2_with fail
              go_ret
              exact ⟨by rw [HR.out]; rfl, HBq.out⟩
          · have hyd : decide (key ≤ y) = true := decide_eq_true (by omega)
            have HR := hide (HF.out (by rw [HSK.out, decide_eq_false hy]; rfl))
            clear HSK HF HS hy C2
            go_wp2_with fail
            refine wp_region_near wx.heap.size wx (Below.refl _ _) (by kernel_rfl) (by kernel_rfl) ?_
            repeat (go_big_quiet_step (fail))
            go_big_quiet_step (exact calls_near_same (C1.out _))
            repeat (go_big_quiet_step (fail))
            refine wpQuiet_nil ?_
            rintro w3 ⟨pq, rfl⟩
            have HBq := hide (HBx.out.trans (pq.h.mono HBx.out.size))
            go_wp2_with fail
            go_ret
            exact ⟨by rw [HR.out]; rfl, HBq.out⟩
    · obtain rfl : k = l.length := by omega
      have HR : Hid (shelvesB l = decide ((l.length : Int) ≤ 80)) := by show _ = _; rw [HSO.out, all_range HN.out, Bool.true_and, decide_eq_decide]; omega
      clear HN
      go_wp2_with fail
      go_ret
      exact ⟨by rw [HR.out]; simp, HB.out⟩
end Go.Proofs.Ytfckfgabeeeccaa.P9
