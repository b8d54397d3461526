/- The contract of impl.Unhex: what chapter 1 tells of figures; condition: the text is at most 2^20 bytes long. -/
import Derived.Test.YtknlhejpcjpeeaaDoorFigO
import Derived.Test.YtknlhejpcjpeeaaDoorOrd
import Derived.WalkKit
namespace Go.Proofs.YtknlhejpcjpeeaaDoor.P1
set_option maxRecDepth 8000
open Go.RowKit

theorem cellsB_zeros (n : Nat) : (madeCells #[Value.int .u8 0] n).toList = cellsB (List.replicate n 0) := by
  rw [toList_madeCells_one]
  simp [cellsB]

theorem cellsB_set (l : List UInt8) (k : Nat) (b : UInt8) : (cellsB l).set k (.int .u8 (b.toNat : Int)) = cellsB (l.set k b) := by
  simp [cellsB]

set_option maxHeartbeats 1000000 in
theorem implUnhex_calls (s : ByteArray) (hs : s.size ≤ 1048576) (w : World) :
    Calls Tryd.prog 14 #[.string s] w fun e w' => e = .returned (.tuple #[.string ⟨(unhexL s.data.toList).1.toArray⟩, .bool (unhexL s.data.toList).2]) ∧ Below w.heap.size w w' := by
  have hlen : s.data.toList.length = s.size := Array.length_toList
  by_cases h : s.data.toList.length ≤ 40000 ∧ s.data.toList.length % 2 = 0
  · obtain ⟨i0, hi, hz0, hz1, hz2⟩ := info_parts info5
    have Hh := hide h
    rw [hlen] at h
    obtain ⟨h1, h2⟩ := h
    have hmod : (((s.size : Int) % 2) != 0) = false := by simp; omega
    have Hl := hide hlen
    obtain ⟨n, Hn⟩ : ∃ n, Hid (s.size = 2 * n) := ⟨s.size / 2, by show s.size = 2 * (s.size / 2); omega⟩
    have Hu := hide (unhexB_figs n s.data.toList (by rw [hlen]; exact Hn.out))
    have Hlt := hide (figs_lt 16 s.data.toList)
    clear hlen h2
    go_enter Tryd.func14, Tryd.ntmps14
    go_wp2_with fail
    refine (figuresOf_calls s hs _).mono ?_
    rintro e w1 ⟨v, rfl, hown, hb1⟩
    obtain ⟨F, HF⟩ : ∃ F, Hid (F = figs 16 s.data.toList) := ⟨_, hide rfl⟩
    rw [← HF.out] at hown ⊢
    by_cases hF : F.length = s.size
    · have hd : decide (F.length = s.size) = true := by simpa using hF
      have Ha : Hid (unhexL s.data.toList = (pairs F, true)) := unhexL_in Hh.out (by rw [Hu.out, if_pos (by rw [← HF.out, Hl.out]; exact hF), ← HF.out])
      rw [hd]
      clear hd
      have HFn : Hid (F.length = 2 * n) := by show F.length = 2 * n; rw [hF]; exact Hn.out
      clear hF
      rcases hown.2 with ⟨rfl, h0⟩ | ⟨g, cap, cur, rfl, hg1, hg2, -⟩
      · have hn0 : n = 0 := by have := HFn.out; omega
        subst hn0
        have hF0 : F = [] := List.eq_nil_of_length_eq_zero h0
        subst hF0
        clear hown h0
        go_wp2_with (at_make; refine wpList_make_full _ rfl (.tmp 26) (.tmp 26) 22 rfl w.heap.size 5 i0 (.int .u8 0) 1 Tryd.underlying22 hi hz0 hz1 .i64 .i64 _ _ 0 rfl rfl (by omega) (by omega) (by rw [hz2]; omega) (by unfold maxLen; omega) hb1.size ?_)
        intro w2 hown2 hgr2
        rw [cellsB_zeros] at hown2
        have hcv := own_text_any (P := Tryd.prog) (l := []) hown2 22 9 Tryd.underlying22 Tryd.underlying5 Tryd.underlying9
        have hb2 : Below w.heap.size w w2 := hb1.grown hgr2 hb1.size (by intro k hk; cases hk)
        clear hown2 hgr2 hb1
        go_wp2
        go_loopw [30] (fun i wr => i = .int .i64 0 ∧ wr = w2) (fun _ _ => 0)
        case atStart => exact ⟨rfl, rfl⟩
        case round =>
          obtain ⟨rfl, rfl⟩ := hrel
          go_wp2
          go_ret2
          exact ⟨by rw [Ha.out]; rfl, hb2⟩
      · have hglt := (hown.lt g rfl).2
        have hm : F.length = 2 * n := HFn.out
        rw [hm] at hown ⊢
        have hnn : n ≤ 20000 := by have := Hn.out; omega
        clear hm
        go_wp2_with (at_make; refine wpList_make_full _ rfl (.tmp 26) (.tmp 26) 22 rfl w.heap.size 5 i0 (.int .u8 0) 1 Tryd.underlying22 hi hz0 hz1 .i64 .i64 _ _ n rfl rfl (by omega) (by omega) (by rw [hz2]; omega) (by unfold maxLen; omega) hb1.size ?_)
        intro w2 hown2 hgr2
        rw [cellsB_zeros, ← halfU_start F n] at hown2
        have hownH := hown.kept hgr2 (.inr (by simp [Value.ownBlock]))
        have hb2 : Below w.heap.size w w2 := hb1.grown hgr2 hb1.size (by intro k hk; cases hk)
        have hgO : w.heap.size ≤ w1.heap.size := hb1.size
        clear hown hgr2 hg2 hg1 cur hb1
        generalize w1.heap.size = gO at *
        clear w1
        go_wp2
        go_loopw [30] (fun i wr => ∃ k : Nat, k ≤ n ∧ i = .int .i64 (k : Int) ∧ wr.ownsRow w.heap.size 5 1 (.slice (some ⟨gO, 0, none⟩) n n) n (cellsB (halfU F n k)) ∧ wr.ownsRow w.heap.size 5 1 (.slice (some ⟨g, 0, none⟩) (2 * n) cap) (2 * n) (cellsB F) ∧ Below w.heap.size w wr) (fun i _ => n - (intOf i).toNat)
        case atStart => exact ⟨0, Nat.zero_le _, rfl, hown2, hownH, hb2⟩
        case round =>
          clear hown2 hownH hb2 w2
          obtain ⟨k, hk, rfl, hownO, hownH, hbel⟩ := hrel
          by_cases hlt : k < n
          · have hm := HFn.out
            have hx1 : 2 * k < F.length := by omega
            have hx2 : 2 * k + 1 < F.length := by omega
            have Hset := hide (halfU_next F n k hm hlt hx1 hx2)
            have hv1 : (F[2 * k]).toNat < 16 := by have := Hlt.out (2 * k) (by rw [← HF.out]; exact hx1); simpa [← HF.out] using this
            have hv2 : (F[2 * k + 1]).toNat < 16 := by have := Hlt.out (2 * k + 1) (by rw [← HF.out]; exact hx2); simpa [← HF.out] using this
            clear hm
            go_wp2
            refine wp_region_tail 16 (fun wd => wd.ownsRow w.heap.size 5 1 (.slice (some ⟨gO, 0, none⟩) n n) n (cellsB (halfU F n k)) ∧ wd.ownsRow w.heap.size 5 1 (.slice (some ⟨g, 0, none⟩) (2 * n) cap) (2 * n) (cellsB F) ∧ Below w.heap.size w wd) ⟨hownO.drew, hownH.drew, hbel.drew⟩ (by kernel_rfl) (by kernel_rfl) ?_
            clear hownO hownH hbel
            rintro wd ⟨hownO, hownH, hbel⟩
            have hc1 : wd.cell? ⟨g, 2 * k, none⟩ = some (.int .u8 ((F[2 * k]).toNat : Int)) := by rw [hownH.cellAt (2 * k) (by omega)]; simp [cellsB, hx1]
            have hc2 : wd.cell? ⟨g, 2 * k + 1, none⟩ = some (.int .u8 ((F[2 * k + 1]).toNat : Int)) := by rw [hownH.cellAt (2 * k + 1) (by omega)]; simp [cellsB, hx2]
            simp only [List.take_succ_cons, List.take_zero, List.drop_succ_cons, List.drop_zero]
            repeat (go_big_quiet_step (fail))
            refine wpQuiet_nil ?_
            have hhl := halfU_length F n k HFn.out (by omega)
            obtain ⟨x, hcO⟩ : ∃ x, wd.cell? ⟨gO, k, none⟩ = some x := by rw [hownO.cellAt k (by omega)]; exact ⟨_, List.getElem?_eq_getElem (by rw [cellsB_length]; omega)⟩
            have hfO : wd.frozen? ⟨gO, k, none⟩ = false := hownO.frozenAt k
            clear hhl hc1 hc2
            go_wp2
            go_roundw
            case rel =>
              have hst := hownO.stored k (.int .u8 (((UInt8.ofNat (16 * (F[2 * k]).toNat + (F[2 * k + 1]).toNat)).toNat : Nat) : Int))
              rw [cellsB_set, Hset.out, byte_of _ (by omega)] at hst
              have e1 : ((16 * (F[2 * k]).toNat + (F[2 * k + 1]).toNat : Nat) : Int) = ((F[2 * k]).toNat : Int) * 16 + ((F[2 * k + 1]).toNat : Int) := by omega
              rw [e1] at hst
              exact ⟨k + 1, by omega, by go_num, hst.1, hownH.kept hst.2 (.inr (by simp [Value.ownBlock]; omega)), hbel.setCell hgO _⟩
            case measure => simp [intOf]; omega
          · have hcv := own_text_any (P := Tryd.prog) (l := halfU F n k) (by rw [halfU_length F n k HFn.out (by omega)]; exact hownO) 22 9 Tryd.underlying22 Tryd.underlying5 Tryd.underlying9
            rw [halfU_end F n k HFn.out (by omega)] at hcv
            clear hownO hownH
            go_wp2
            go_ret2
            exact ⟨by rw [Ha.out]; rfl, hbel⟩
    · have hd : decide (F.length = s.size) = false := by simpa using hF
      have Ha : Hid (unhexL s.data.toList = ([], false)) := unhexL_bad Hh.out (by rw [Hu.out, if_neg (by rw [← HF.out, Hl.out]; exact hF)])
      rw [hd]
      clear hd hF
      go_wp2
      go_ret2
      exact ⟨by rw [Ha.out]; rfl, hb1⟩
  · rw [unhexL_out h]
    rw [hlen] at h
    by_cases h1 : s.size % 2 = 0
    · have hmod : (((s.size : Int) % 2) != 0) = false := by simp; omega
      have h3 : 40000 < s.size := by omega
      clear hlen h
      go_enter Tryd.func14, Tryd.ntmps14
      go_wp2
      go_ret2
      exact ⟨rfl, Below.refl _ _⟩
    · have hmod : (((s.size : Int) % 2) != 0) = true := by simp; omega
      clear hlen h
      go_enter Tryd.func14, Tryd.ntmps14
      go_wp2
      go_ret2
      exact ⟨rfl, Below.refl _ _⟩
end Go.Proofs.YtknlhejpcjpeeaaDoor.P1
