/- The program's itemsOk; condition: at most 2^20 items, their texts of at most 2^20 bytes. -/
import Derived.Test.YtfckfgabeeeccaaPeI1
import Derived.Test.YtfckfgabeeeccaaTxtP
namespace Go.Proofs.Ytfckfgabeeeccaa.P9
set_option maxRecDepth 8000
open Go.RowKit P1 P8 Da

set_option maxHeartbeats 2000000 in
theorem implItems_calls (w : World) (v : Value) (l : List It) (hv : ItemsAt w v l) (hl : l.length ≤ 1048576) (hlt6 : ∀ x ∈ l, x.t.length ≤ 1048576) :
    Calls Try.prog 38 #[v] w fun e w' => e = .returned (.bool (itemsOk l)) ∧ Below w.heap.size w w' := by
  have HV := hide hv
  obtain ⟨a, cap, rfl, -⟩ := hv.open_
  clear hv
  have HT := hide hlt6
  clear hlt6
  have HIO : Hid (itemsOk l = ((List.range l.length).all (itemOk l) && decide (l.length ≤ 300))) := rfl
  go_enter Try.func38, Try.ntmps38
  go_wp2_with fail
  go_loopw [7] (fun i wr => ∃ k : Nat, k ≤ l.length ∧ i = .int .i64 k ∧ Hid (∀ j, j < k → itemOk l j = true) ∧ Hid (Below w.heap.size w wr)) (fun i _ => l.length - (intOf i).toNat)
  case atStart => exact ⟨0, Nat.zero_le _, rfl, fun j hj => by omega, Below.refl _ _⟩
  case round =>
    obtain ⟨k, hk, rfl, HN, HB⟩ := hrel
    by_cases hlt : k < l.length
    · have hvr := HV.out.below HB.out (Nat.le_refl _)
      obtain ⟨a2, c2, hsh, HA⟩ := hvr.open_
      cases hsh
      obtain ⟨g, off, rfl, hg, f0, f1⟩ := HA k hlt
      have HF : Hid (itemOk l k = false → itemsOk l = false) := fun h => by rw [HIO.out, not_all_range hlt h]; rfl
      have HS : Hid (itemOk l k = true → ∀ j, j < k + 1 → itemOk l j = true) := fun h j hj => by
        rcases Nat.lt_or_ge j k with h1 | h1
        · exact HN.out j h1
        · obtain rfl : j = k := by omega
          exact h
      have hi : itemOk l k = (decide (l[k].t.length ≤ 600) && (decide (k = 0) || Op.bytesLess (((l[k - 1]?).map (·.t)).getD []) l[k].t)) := by unfold itemOk; simp [hlt]
      have HPV : Hid (∀ j, k = j + 1 → ∃ y : List UInt8, (((l[k - 1]?).map (·.t)).getD []) = y ∧ wr.cell? ⟨g, off + j * 2, none⟩ = some (.string ⟨y.toArray⟩)) := fun j e => by
        obtain ⟨g', off', e', _, f0', _⟩ := HA j (by omega)
        cases e'
        exact ⟨l[j].t, by subst e; simp [show j < l.length by omega], f0'⟩
      have hmx := HT.out l[k] (List.getElem_mem hlt)
      have HI := hide hi
      clear hi hvr HA HN
      generalize l[k].t = t1 at *
      generalize l[k].gone = g1 at *
      have hsz : (⟨t1.toArray⟩ : ByteArray).size = t1.length := rfl
      go_upto_region 4 with fail
      have hba := (Below.refl wr.heap.size wr).alloc (Nat.le_refl _) (.cells #[.string ⟨t1.toArray⟩, .bool g1] 74)
      have S := Blk.new wr #[.string ⟨t1.toArray⟩, .bool g1] 74
      have HBx := hide (HB.out.trans (hba.mono HB.out.size))
      have ng : g < (wr.alloc (.cells #[.string ⟨t1.toArray⟩, .bool g1] 74)).heap.size := Nat.lt_of_lt_of_le hg hba.size
      have HPW : Hid (∀ j, k = j + 1 → ∃ y : List UInt8, (((l[k - 1]?).map (·.t)).getD []) = y ∧ (wr.alloc (.cells #[.string ⟨t1.toArray⟩, .bool g1] 74)).cell? ⟨g, off + j * 2, none⟩ = some (.string ⟨y.toArray⟩)) := fun j e => by
        obtain ⟨y, h1, h2⟩ := HPV.out j e
        exact ⟨y, h1, (hba.cell (p := ⟨g, off + j * 2, none⟩) hg).trans h2⟩
      obtain ⟨bs, ebs⟩ : ∃ b, b = wr.heap.size := ⟨_, rfl⟩
      rw [← ebs] at S ⊢
      clear ebs hba hg f0 f1 HPV HB
      generalize wr.alloc (.cells #[.string ⟨t1.toArray⟩, .bool g1] 74) = wx at *
      have s0 : wx.cell? ⟨bs, 0, none⟩ = some (.string ⟨t1.toArray⟩) := by rw [S.cell 0]; rfl
      have sl := S.lt
      clear S
      by_cases h6 : 600 < t1.length
      · have HR : Hid (itemsOk l = false) := HF.out (by rw [HI.out, decide_eq_false (by omega)]; rfl)
        have hd : decide ((600 : Int) < ((t1.length : Nat) : Int)) = true := decide_eq_true (by omega)
        clear HI HS HF HPW h6
        go_wp2_with fail
        go_quiet (fail)
        have HBq := hide (below_drewN HBx.out nq)
        go_wp2_with fail
        go_ret
        exact ⟨by rw [HR.out]; rfl, HBq.out⟩
      · have hd : decide ((600 : Int) < ((t1.length : Nat) : Int)) = false := decide_eq_false (by omega)
        have h6' : t1.length ≤ 600 := by omega
        by_cases hk0 : k = 0
        · have HR := hide (HS.out (by rw [HI.out, decide_eq_true h6', decide_eq_true hk0]; rfl))
          have hd0 : decide (0 < k) = false := decide_eq_false (by omega)
          clear HI HS HF hk0 HPW h6 h6'
          go_wp2_with fail
          go_quiet (fail)
          have HBq := hide (below_drewN HBx.out nq)
          go_wp2_with fail
          go_roundw
          case rel => exact ⟨k + 1, by omega, by go_num, HR.out, HBq.out⟩
          case measure => simp [intOf]; omega
        · obtain ⟨j, rfl⟩ : ∃ j, k = j + 1 := ⟨k - 1, by omega⟩
          obtain ⟨t0, et0, f0'⟩ := HPW.out j rfl
          have hi2 := HI.out
          rw [decide_eq_true h6', decide_eq_false hk0, et0] at hi2
          have HI2 := hide hi2
          clear HI hi2 HPW et0 h6 h6' hk0
          cases hbl : Op.bytesLess t0 t1 with
          | true =>
            have hb2 : Op.bytesLess t1 t0 = false := bl_asymm hbl
            have hb3 : (t1 == t0) = false := by simpa using fun e : t1 = t0 => bl_ne hbl e.symm
            have HR := hide (HS.out (by rw [HI2.out]; simpa using hbl))
            clear HI2 HS HF
            go_wp2_with fail
            go_quiet (fail)
            have HBq := hide (below_drewN HBx.out nq)
            go_wp2_with fail
            go_roundw
            case rel => exact ⟨j + 1 + 1, by omega, by go_num, HR.out, HBq.out⟩
            case measure => simp [intOf]; omega
          | false =>
            have HR : Hid (itemsOk l = false) := HF.out (by rw [HI2.out]; simpa using hbl)
            have hb4 := bl_leq (a := t0) (b := t1)
            rw [hbl, Bool.not_false] at hb4
            clear HI2 HS HF hbl
            cases hb2 : Op.bytesLess t1 t0 with
            | true =>
              clear hb4
              go_wp2_with fail
              go_quiet (fail)
              have HBq := hide (below_drewN HBx.out nq)
              go_wp2_with fail
              go_ret
              exact ⟨by rw [HR.out]; rfl, HBq.out⟩
            | false =>
              have hb3 : (t1 == t0) = true := by simpa [hb2] using hb4
              clear hb4
              go_wp2_with fail
              go_quiet (fail)
              have HBq := hide (below_drewN HBx.out nq)
              go_wp2_with fail
              go_ret
              exact ⟨by rw [HR.out]; rfl, HBq.out⟩
    · obtain rfl : k = l.length := by omega
      have HR : Hid (itemsOk l = decide ((l.length : Int) ≤ 300)) := by show _ = _; rw [HIO.out, all_range HN.out, Bool.true_and, decide_eq_decide]; omega
      clear HN
      go_wp2_with fail
      go_ret
      exact ⟨by rw [HR.out]; simp, HB.out⟩
end Go.Proofs.Ytfckfgabeeeccaa.P9
