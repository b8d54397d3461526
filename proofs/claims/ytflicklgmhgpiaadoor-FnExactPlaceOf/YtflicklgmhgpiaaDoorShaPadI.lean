/- The contract of impl.PadText; condition: the text is at most 2^21 bytes long. -/
import Derived.Test.YtflicklgmhgpiaaDoorShaPad
import Derived.Test.YtflicklgmhgpiaaDoorCopyT
namespace Go.Proofs.YtflicklgmhgpiaaDoor.P3
set_option maxRecDepth 8000
open Go.RowKit P1

/-- The last eight bytes, i of them written from behind. -/
def tailB (n i : Nat) : List UInt8 := List.replicate (8 - i) 0 ++ (lenB n).drop (8 - i)

theorem tailB_length (n i : Nat) (hi : i ≤ 8) : (tailB n i).length = 8 := by
  have h8 : (lenB n).length = 8 := rfl
  unfold tailB
  rw [List.length_append, List.length_replicate, List.length_drop, h8]
  omega

theorem tailB_next (n i : Nat) (hi : i < 8) : (tailB n i).set (7 - i) ((lenB n).getD (7 - i) 0) = tailB n (i + 1) := by
  match i, hi with
  | 0, _ => rfl
  | 1, _ => rfl
  | 2, _ => rfl
  | 3, _ => rfl
  | 4, _ => rfl
  | 5, _ => rfl
  | 6, _ => rfl
  | 7, _ => rfl

theorem zeros_first (t : List UInt8) : (t ++ (List.replicate (t.length + 9 + zeros t.length) 0).drop t.length).set t.length 128 = padK t (zeros t.length) ++ tailB (8 * t.length) 0 := by
  have e : (List.replicate (t.length + 9 + zeros t.length) (0 : UInt8)).drop t.length = 0 :: (List.replicate (zeros t.length) 0 ++ List.replicate 8 0) := by
    rw [List.drop_replicate, List.replicate_append_replicate, ← List.replicate_succ]
    congr 1
    omega
  rw [e, List.set_append_right _ _ (Nat.le_refl _)]
  simp [padK, tailB, lenB]

theorem pad_tail (t : List UInt8) : pad t = padK t (zeros t.length) ++ tailB (8 * t.length) 8 := by rw [pad_eq]; simp [tailB]

theorem zero_bytes (n : Nat) : (madeCells #[Value.int .u8 0] n).toList = cellsB (List.replicate n 0) := by
  rw [toList_madeCells_one]
  simp [cellsB]

theorem one_u8 : (Tryd.prog.info? 5).map (·.size) = some 1 := by kernel_rfl

set_option maxHeartbeats 1000000 in
theorem implPad_calls (t : List UInt8) (ht : t.length ≤ 2097152) (w : World) :
    Calls Tryd.prog 46 #[.string ⟨t.toArray⟩] w fun e w' => e = .returned (.string ⟨(pad t).toArray⟩) ∧ Below w.heap.size w w' := by
  obtain ⟨i0, hi, hz0, hz1, hz2⟩ := info_parts info_u8
  have hz64 : zeros t.length < 64 := Nat.mod_lt _ (by decide)
  obtain ⟨sz, hsz⟩ : ∃ sz, sz = t.length + 9 + zeros t.length := ⟨_, rfl⟩
  have hq : ((t.length : Int) + 1 + 8 + 64 - 1) / 64 * 64 = (sz : Int) := by
    rw [hsz]
    unfold zeros
    omega
  have HZ := hide hsz
  have HF := hide (zeros_first t)
  have HP := hide (pad_tail t)
  rw [← hsz] at HF
  have hlow : t.length + 9 ≤ sz := by omega
  have hup : sz ≤ 2097300 := by omega
  obtain ⟨pk, Epk⟩ : ∃ pk, Hid (pk = padK t (zeros t.length)) := ⟨_, rfl⟩
  have hpl : pk.length + 8 = sz := by rw [Epk.out, padK_length]; omega
  rw [← Epk.out] at HF HP
  obtain ⟨pd, HPD⟩ : ∃ pd, Hid (pd = pad t) := ⟨_, rfl⟩
  rw [← HPD.out] at HP ⊢
  clear HPD hsz Epk hz64
  go_enter Tryd.func46, Tryd.ntmps46
  go_wp2_with (at_make; refine wpList_make_full _ rfl (.tmp 17) (.tmp 17) 22 rfl w.heap.size 5 i0 (.int .u8 0) 1 Tryd.underlying22 hi hz0 hz1 .i64 .i64 _ _ sz rfl rfl (by omega) (by omega) (by rw [hz2]; omega) (by unfold maxLen; omega) (Nat.le_refl _) ?_)
  intro w2 hown2 hgr2
  have hown3 : w2.ownsRow w.heap.size 5 1 (.slice (some ⟨w.heap.size, 0, none⟩) sz sz) sz (cellsB (List.replicate sz 0)) := by rw [← zero_bytes]; exact hown2
  have hbt := Byt.of_own hown3
  have hb2 : Below w.heap.size w w2 := ⟨hgr2.os, hgr2.tape, hgr2.output, hgr2.size, fun k hk => hgr2.block k hk (fun e => by cases e)⟩
  obtain ⟨g, hg⟩ : ∃ g, g = w.heap.size := ⟨_, rfl⟩
  have hwg : w.heap.size ≤ g := by omega
  rw [← hg] at hbt ⊢
  have HBt := hide hbt
  have HB := hide hb2
  clear hown2 hgr2 hown3 hbt hb2 hg
  have hcp := run_copy_text (P := Tryd.prog) w2 22 9 3 5 g sz sz t Tryd.underlying22 one_u8 (by omega) (fun j hj => by rw [HBt.out.cell j (by rw [List.length_replicate]; omega)]; rfl) (fun j _ => HBt.out.free j)
  have hbt3 := HBt.out.copied t (by rw [List.length_replicate]; omega)
  have hb3 := below_setCells hwg (cellsB t) 0 _ HB.out
  generalize w2.setCells g 0 (cellsB t) = w3 at hbt3 hb3 hcp
  clear HBt HB
  have hl3 : (t ++ (List.replicate sz (0 : UInt8)).drop t.length).length = sz := by rw [List.length_append, List.length_drop, List.length_replicate]; omega
  have hc3 : ∃ y, w3.cell? ⟨g, t.length, none⟩ = some y := ⟨_, hbt3.cell t.length (by omega)⟩
  obtain ⟨y, hc3⟩ := hc3
  have hf3 := hbt3.free t.length
  have hbt4 := hbt3.set (i := t.length) 128 (z := 128) rfl
  rw [HF.out] at hbt4
  have hb4 := hb3.setCell (p := ⟨g, t.length, none⟩) hwg (.int .u8 128)
  have HBt := hide hbt4
  have HB := hide hb4
  clear hbt3 hb3 hbt4 hb4 hl3 HF
  have htl : (t.length : Int) < (sz : Int) := by omega
  go_wp2_with fail
  generalize w3.setCell ⟨g, t.length, none⟩ (.int .u8 128) = w4 at HBt HB ⊢
  clear hc3 hf3
  go_loopw [30] (fun i wr => ∃ k : Nat, k ≤ 8 ∧ i = .int .i64 k ∧ Byt wr g (pk ++ tailB (8 * t.length) k) ∧ Below w.heap.size w wr) (fun i _ => 8 - (intOf i).toNat)
  case atStart => exact ⟨0, by omega, rfl, HBt.out, HB.out⟩
  case round =>
    clear HBt HB
    obtain ⟨k, hk, rfl, hbt, hb⟩ := hrel
    have HBt := hide hbt
    have HB := hide hb
    clear hbt hb
    by_cases hlt : k < 8
    · have hln : (pk ++ tailB (8 * t.length) k).length = sz := by rw [List.length_append, tailB_length _ _ hk]; omega
      have hc : ∃ y, wr.cell? ⟨g, sz - 1 - k, none⟩ = some y := ⟨_, HBt.out.cell (sz - 1 - k) (by omega)⟩
      obtain ⟨y, hc⟩ := hc
      have hf := HBt.out.free (sz - 1 - k)
      have HS : Hid ((pk ++ tailB (8 * t.length) k).set (sz - 1 - k) ((lenB (8 * t.length)).getD (7 - k) 0) = pk ++ tailB (8 * t.length) (k + 1)) := by
        show (pk ++ tailB (8 * t.length) k).set (sz - 1 - k) ((lenB (8 * t.length)).getD (7 - k) 0) = pk ++ tailB (8 * t.length) (k + 1)
        rw [List.set_append_right _ _ (by omega), show sz - 1 - k - pk.length = 7 - k by omega, tailB_next _ _ hlt]
      have hat := lenB_at (8 * t.length) (7 - k) (by omega)
      rw [show 7 - (7 - k) = k by omega] at hat
      have HAT := hide hat
      clear hln hat
      go_wp2_with fail
      go_roundw
      case rel =>
        refine ⟨k + 1, by omega, by go_num, ?_, HB.out.setCell hwg _⟩
        rw [← HS.out]
        exact HBt.out.set _ (by rw [HAT.out]; simp)
      case measure => simp [intOf]; omega
    · have hk8 : k = 8 := by omega
      rw [hk8, ← HP.out] at HBt
      have hpn : pd.length = sz := by rw [HP.out, List.length_append, tailB_length _ _ (Nat.le_refl _)]; omega
      have hcv := HBt.out.text (P := Tryd.prog) (cap := sz) sz hpn 22 9 5 Tryd.underlying22 Tryd.underlying5 Tryd.underlying9
      clear HBt hk8
      go_wp2_with fail
      go_ret
      exact ⟨rfl, HB.out⟩
end Go.Proofs.YtflicklgmhgpiaaDoor.P3
