/- The contracts of both PlaceOf; condition: the listed tables hold what their text lays (the program's). -/
import Derived.Test.YtflicklgmhgpiaaDoorZK
import Derived.Test.YtflicklgmhgpiaaDoorZC
import Derived.Test.YtflicklgmhgpiaaDoorZE
namespace Go.Proofs.YtflicklgmhgpiaaDoor.P5
set_option maxRecDepth 8000
open Go.RowKit P1 P3

/-- Where a role is kept. -/
def place (a b : Int) : Nat := if roleOk a b then ((digest (rowB [a.toNat, b.toNat])).getD 0 0).toNat else 0

theorem place_lt (a b : Int) : place a b < 256 := by
  unfold place
  split
  · exact UInt8.toNat_lt _
  · decide

theorem rowB2 (a b : Nat) : rowB [a, b] = varB 4 a ++ varB 4 b := by simp [rowB]

/-- The first byte of a text. -/
theorem first_byte (l : List UInt8) (h : 0 < l.length) (hh : 0 < (⟨l.toArray⟩ : ByteArray).size) : ((⟨l.toArray⟩ : ByteArray)[0]'hh) = l.getD 0 0 := by
  cases l with
  | nil => simp at h
  | cons x r => rfl

set_option maxHeartbeats 1000000 in
theorem specPlace_calls (a b : Int) (w : World) :
    Calls Tryd.prog 22 #[roleV a b] w fun e w' => e = .returned (.int .i64 (place a b : Nat)) ∧ Below w.heap.size w w' := by
  have HB := hide ((Below.refl w.heap.size w).alloc (Nat.le_refl _) (.cells #[.int .i64 a, .int .i64 b] 25))
  have HA := hide (Blk.new w #[.int .i64 a, .int .i64 b] 25)
  have HR := hide (fun wx => specRole_calls a b wx)
  by_cases hr : roleOk a b
  · simp only [decide_eq_true hr] at HR
    have hlen := digest_length (rowB [a.toNat, b.toNat])
    have hpl : place a b = ((digest (rowB [a.toNat, b.toNat])).getD 0 0).toNat := by unfold place; rw [if_pos hr]
    rw [hpl]
    have hl := rowB_le [a.toNat, b.toNat]
    have HD := hide (fun wx => specDigest_calls (rowB [a.toNat, b.toNat]) (by simp at hl; omega) wx)
    generalize digest (rowB [a.toNat, b.toNat]) = D at *
    obtain ⟨x, r, rfl⟩ : ∃ x r, D = x :: r := by
      cases D with
      | nil => simp at hlen
      | cons x r => exact ⟨x, r, rfl⟩
    have hx : wrap64 ((x :: r)[0].toNat : Int) = (((x :: r).getD 0 0).toNat : Int) := by have := x.toNat_lt; unfold wrap64; simp; omega
    rw [rowB2] at HD
    unfold roleOk at hr
    have h1 : 0 ≤ a ∧ a ≤ 9999 := by omega
    have h2 : 0 ≤ b ∧ b ≤ 9999 := by omega
    clear hpl hl hr
    go_enter Tryd.func22, Tryd.ntmps22
    go_wp2_with fail
    obtain ⟨b0, e0⟩ : ∃ b, b = w.heap.size := ⟨_, rfl⟩
    rw [← e0] at HA ⊢
    clear e0
    generalize w.alloc (.cells #[.int .i64 a, .int .i64 b] 25) = w1 at *
    refine (HR.out _).mono ?_
    rintro e w2 ⟨rfl, hb⟩
    have hA2 := HA.out.below hb HA.out.lt
    have HB := hide (HB.out.trans (hb.mono HB.out.size))
    clear hb HA HR
    have n0 : ∀ p : Near w2.heap.size w2, p.w.cell? ⟨b0, 0, none⟩ = some (.int .i64 a) := fun p => by rw [(hA2.below p.h hA2.lt).cell 0]; rfl
    have n1 : ∀ p : Near w2.heap.size w2, p.w.cell? ⟨b0, 1, none⟩ = some (.int .i64 b) := fun p => by rw [(hA2.below p.h hA2.lt).cell 1]; rfl
    have C0 := hide (fun p : Near w2.heap.size w2 => l01Var_near a h1 (Nat.le_refl _) p)
    have C1 := hide (fun p : Near w2.heap.size w2 => l01Var_near b h2 (Nat.le_refl _) p)
    have l0 := (varB_length 4 a.toNat).2
    have l1 := (varB_length 4 b.toNat).2
    clear hA2 h1 h2
    generalize varB 4 a.toNat = t0 at *
    generalize varB 4 b.toNat = t1 at *
    have hcat : (⟨(t0 ++ t1).toArray⟩ : ByteArray) = ⟨t0.toArray⟩ ++ ⟨t1.toArray⟩ := by rw [ByteArray.mk_append_mk]
    simp only [hcat] at HD
    have hix := fun wx => index_byte (x :: r) 0 0 rfl (by rw [hlen]; decide) wx
    clear hcat
    have hnn := Near.some w2.heap.size w2
    go_wp2_with fail
    refine wp_region_near w2.heap.size w2 (Below.refl _ _) (by kernel_rfl) (by kernel_rfl) ?_
    repeat (go_big_quiet_step (fail))
    go_big_quiet_step (exact C0.out _)
    repeat (go_big_quiet_step (fail))
    go_big_quiet_step (exact C1.out _)
    repeat (go_big_quiet_step (fail))
    go_big_quiet_step (exact calls_near (Nat.le_refl _) (HD.out _))
    repeat (go_big_quiet_step (fail))
    refine wpQuiet_nil ?_
    rintro w3 ⟨pq, rfl⟩
    have hqb := pq.h
    obtain ⟨w3, hq⟩ := pq
    simp only at hqb ⊢
    have HB := hide (HB.out.trans (hqb.mono HB.out.size))
    clear hq hqb hnn n0 n1 C0 C1 HD hix
    go_wp2_with fail
    go_ret
    exact ⟨by rw [← hx]; rfl, HB.out⟩
  · simp only [decide_eq_false hr] at HR
    have hpl : place a b = 0 := by unfold place; rw [if_neg hr]
    rw [hpl]
    clear hpl hr
    go_enter Tryd.func22, Tryd.ntmps22
    go_wp2_with fail
    generalize w.alloc (.cells #[.int .i64 a, .int .i64 b] 25) = w1 at *
    refine (HR.out _).mono ?_
    rintro e w2 ⟨rfl, hb⟩
    have HB := hide (HB.out.trans (hb.mono HB.out.size))
    clear hb HA HR
    go_wp2_with fail
    go_ret
    exact ⟨rfl, HB.out⟩

set_option maxHeartbeats 1000000 in
theorem implPlace_calls (a b : Int) (w : World) (hG : Glo w) :
    Calls Tryd.prog 14 #[roleV a b] w fun e w' => e = .returned (.int .i64 (place a b : Nat)) ∧ Below w.heap.size w w' := by
  have HB := hide ((Below.refl w.heap.size w).alloc (Nat.le_refl _) (.cells #[.int .i64 a, .int .i64 b] 25))
  have HA := hide (Blk.new w #[.int .i64 a, .int .i64 b] 25)
  have HR := hide (fun wx => implRole_calls a b wx)
  have HG := hide hG
  clear hG
  by_cases hr : roleOk a b
  · simp only [decide_eq_true hr] at HR
    have hlen := digest_length (rowB [a.toNat, b.toNat])
    have hpl : place a b = ((digest (rowB [a.toNat, b.toNat])).getD 0 0).toNat := by unfold place; rw [if_pos hr]
    rw [hpl]
    have hl := rowB_le [a.toNat, b.toNat]
    have HD := hide (fun wx (hg : Glo wx) => implDigest_calls (rowB [a.toNat, b.toNat]) (by simp at hl; omega) wx hg.s hg.k)
    generalize digest (rowB [a.toNat, b.toNat]) = D at *
    obtain ⟨x, r, rfl⟩ : ∃ x r, D = x :: r := by
      cases D with
      | nil => simp at hlen
      | cons x r => exact ⟨x, r, rfl⟩
    have hx : wrap64 ((x :: r)[0].toNat : Int) = (((x :: r).getD 0 0).toNat : Int) := by have := x.toNat_lt; unfold wrap64; simp; omega
    unfold roleOk at hr
    have hra : a = (a.toNat : Int) := by omega
    have hrb : b = (b.toNat : Int) := by omega
    have HX : Hid (∀ y ∈ [a.toNat, b.toNat], y ≤ 1000000000) := by
      intro y hy
      simp only [List.mem_cons, List.not_mem_nil, or_false] at hy
      rcases hy with rfl | rfl <;> omega
    have Hab := hide (And.intro hra hrb)
    clear hpl hl hr hra hrb
    go_enter Tryd.func14, Tryd.ntmps14
    go_wp2_with fail
    obtain ⟨b0, e0⟩ : ∃ b, b = w.heap.size := ⟨_, rfl⟩
    rw [← e0] at HA ⊢
    clear e0
    generalize w.alloc (.cells #[.int .i64 a, .int .i64 b] 25) = w1 at *
    refine (HR.out _).mono ?_
    rintro e w2 ⟨rfl, hb⟩
    have HA := hide (HA.out.below hb HA.out.lt)
    have HB := hide (HB.out.trans (hb.mono HB.out.size))
    clear hb HR
    have c0 : w2.cell? ⟨b0, 0, none⟩ = some (.int .i64 a) := by rw [HA.out.cell 0]; rfl
    have c1 : w2.cell? ⟨b0, 1, none⟩ = some (.int .i64 b) := by rw [HA.out.cell 1]; rfl
    have l0 := HA.out.lt
    go_wp2_with fail
    clear c0 c1 l0
    have hI : IntsAt (w2.alloc (.cells #[.int .i64 a, .int .i64 b] 3)) (.slice (some ⟨w2.heap.size, 0, none⟩) 2 2) (intsOf [a.toNat, b.toNat]) := by
      refine ⟨_, _, rfl, fun j hj => ⟨w2.heap.size, 0, rfl, (Blk.new w2 #[.int .i64 a, .int .i64 b] 3).lt, ?_⟩⟩
      rw [Nat.zero_add, (Blk.new w2 #[.int .i64 a, .int .i64 b] 3).cell j]
      have hj' : j < 2 := hj
      match j, hj' with
      | 0, _ => show some (Value.int .i64 a) = some (.int .i64 (a.toNat : Nat)); rw [← Hab.out.1]
      | 1, _ => show some (Value.int .i64 b) = some (.int .i64 (b.toNat : Nat)); rw [← Hab.out.2]
    have HB := hide (HB.out.alloc HB.out.size (.cells #[.int .i64 a, .int .i64 b] 3))
    refine (varsText_calls _ _ _ hI (by simp) HX.out).mono ?_
    rintro e w4 ⟨rfl, hb⟩
    have HB := hide (HB.out.trans (hb.mono HB.out.size))
    clear hb hI
    generalize rowB [a.toNat, b.toNat] = R at *
    go_wp2_with fail
    refine (HD.out _ (HG.out.below HB.out)).mono ?_
    rintro e w5 ⟨rfl, hb⟩
    have HB := hide (HB.out.trans (hb.mono HB.out.size))
    have hix := fun wx => index_byte (x :: r) 0 0 rfl (by rw [hlen]; decide) wx
    clear hb
    go_wp2_with fail
    go_ret
    exact ⟨by rw [← hx]; rfl, HB.out⟩
  · simp only [decide_eq_false hr] at HR
    have hpl : place a b = 0 := by unfold place; rw [if_neg hr]
    rw [hpl]
    clear hpl hr
    go_enter Tryd.func14, Tryd.ntmps14
    go_wp2_with fail
    generalize w.alloc (.cells #[.int .i64 a, .int .i64 b] 25) = w1 at *
    refine (HR.out _).mono ?_
    rintro e w2 ⟨rfl, hb⟩
    have HB := hide (HB.out.trans (hb.mono HB.out.size))
    clear hb HA HR
    go_wp2_with fail
    go_ret
    exact ⟨rfl, HB.out⟩
end Go.Proofs.YtflicklgmhgpiaaDoor.P5
