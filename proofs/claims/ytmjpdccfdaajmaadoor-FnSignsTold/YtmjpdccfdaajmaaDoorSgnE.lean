/- The draw of a signing; the laws' own look at two lists of texts; condition: at most 2^20 texts. -/
import Derived.Test.YtmjpdccfdaajmaaDoorSgnD
namespace Go.Proofs.YtmjpdccfdaajmaaDoor.Cu
set_option maxRecDepth 8000
open Go.RowKit P1

set_option maxHeartbeats 400000 in
theorem drawSign_calls (w : World) (a : Option Addr) (len cap : Nat) (hc : Code w.heap.size w (.slice a len cap) len) :
    Calls Tryd.prog 24 #[.slice a len cap] w fun e w' => ∃ (s l : Int) (x : List UInt8), s ∈ seeds ∧ (-1 ≤ l ∧ l < 5) ∧ x.length ≤ 14 ∧ e = .returned (.tuple #[.int .i64 s, .int .i64 l, .string ⟨x.toArray⟩]) ∧ Below w.heap.size w w' := by
  have Hc := hide hc
  clear hc
  go_enter Tryd.func24, Tryd.ntmps24
  go_wp2_with fail
  refine (new_calls _ a len cap Hc.out).mono ?_
  rintro e w1 ⟨rfl, hc1, hb1⟩
  have Hc1 := hide hc1
  have Hb1 := hide hb1
  have hg1 : w.heap.size < w1.heap.size := hc1.2.1
  have HCo := hide ((Hc.out.below (fun k hk => hb1.block k hk)).more hb1.size)
  clear hc1 hb1
  go_wp2_with fail
  refine (drawSecret_calls _ a len cap HCo.out).mono ?_
  rintro e w2 ⟨s, l, i, hs, hl, hi, rfl, hb2⟩
  have HS := hide hs
  have Hc2 := hide (cur_below Hc1.out hb2 hg1)
  have Hb2 := hide (Hb1.out.trans (hb2.mono Hb1.out.size))
  clear hs hi hb2
  go_wp2_with fail
  refine (below_calls _ _ _ Hc2.out 2 (by decide) (by decide)).mono ?_
  rintro e w3 ⟨x, hx, rfl, hc3, hg3⟩
  have Hc3 := hide hc3
  have Hb3 := hide (Hb2.out.trans (below_of_grown hg3 (Nat.le_refl _) Hb2.out.size))
  clear hc3 hg3
  go_wp2_with fail
  refine (text4_calls _ _ _ Hc3.out).mono ?_
  rintro e w4 ⟨y, hy, rfl, hc4, hg4⟩
  have HY := hide (fourTexts_le y hy)
  have Hb4 := hide (Hb3.out.trans (below_of_grown hg4 (Nat.le_refl _) Hb3.out.size))
  clear hy hc4 hg4
  go_wp2_with fail
  refine bodyPost_ret (v := .tuple #[.int .i64 s, .int .i64 (l - (x : Int)), .string ⟨y.toArray⟩]) (by simp [results, Tryd.results24, go_sem]) rfl ⟨s, l - (x : Int), y, HS.out, by omega, HY.out, rfl, Hb4.out⟩

set_option maxHeartbeats 400000 in
theorem sameTexts_calls (w : World) (v u : Value) (l : List (List UInt8)) (hv : TextsAt w v l) (hu : TextsAt w u l) (hl : l.length ≤ 1073741824) :
    Calls Tryd.prog 71 #[v, u] w fun e w' => e = .returned (.bool true) ∧ ∃ n, w' = w.drewN n := by
  obtain ⟨a, ca, rfl, HA⟩ := hv
  obtain ⟨b, cb, rfl, HB⟩ := hu
  replace HA := hide HA
  replace HB := hide HB
  go_enter Tryd.func71, Tryd.ntmps71
  go_wp2_with fail
  go_loopw [5] (fun i wr => ∃ k : Nat, k ≤ l.length ∧ i = .int .i64 k ∧ ∃ n, wr = w.drewN n) (fun i _ => l.length - (intOf i).toNat)
  case atStart => exact ⟨0, Nat.zero_le _, rfl, 0, rfl⟩
  case round =>
    obtain ⟨k, hk, rfl, n, rfl⟩ := hrel
    by_cases hlt : k < l.length
    · obtain ⟨ga, oa, rfl, ha2, ha3⟩ := HA.out k hlt
      obtain ⟨gb, ob, rfl, hb2, hb3⟩ := HB.out k hlt
      generalize l[k] = x at *
      go_wp2_with fail
      go_quiet (fail)
      go_wp2_with fail
      go_roundw
      case rel => exact ⟨k + 1, by omega, by go_num, _, rfl⟩
      case measure => simp [intOf]; omega
    · go_wp2_with fail
      go_ret
      exact ⟨rfl, _, rfl⟩
end Go.Proofs.YtmjpdccfdaajmaaDoor.Cu
