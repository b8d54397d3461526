/- The contract of impl.PartsOf: the parts that chapter 1 names, in memory of its own; conditions: the line is at most 2^20 bytes long, and the library's table of ASCII blanks holds what its text lays. -/
import Derived.Test.YtnincclbpgfilabDoorParS
import Derived.Test.YtnincclbpgfilabDoorShelf
import Derived.Lib.LaidTab
import Derived.WalkSmall
import Derived.LaidMore
import Derived.Stop.Joined
import Derived.WalkKit
namespace Go.Proofs.YtnincclbpgfilabDoor.P1
open Go.RowKit

/-- The table of blanks is there. -/
def Blanks (w : World) : Prop := Lib.TabIs Tryd.prog w "strings.asciiSpace" .u8 Lib.asciiSpaceTab

theorem gSp : Tryd.prog.globalNamed "strings.asciiSpace" = some 0 := by kernel_rfl
theorem tSp : (Tryd.prog.globals[0]?).map (·.type) = some 38 := by kernel_rfl
theorem uSp : Tryd.prog.underlying 38 = some (.array 256 5) := by kernel_rfl
theorem cSp : Tryd.prog.cellsOf 38 = 256 := by kernel_rfl
theorem cByte : Tryd.prog.cellsOf 5 = 1 := by kernel_rfl
theorem spData : (Rows.laid_strings_asciiSpace : DataW Unit) = Lib.tabData .u8 Lib.asciiSpaceTab := by kernel_rfl

/-- The two tables that the row of PartsOf lists. -/
def laid2 : List (String × DataW Unit) := [("unicode.White_Space", Rows.laid_unicode_White_Space), ("strings.asciiSpace", Rows.laid_strings_asciiSpace)]

theorem blanks_of_laid {W : World} (h : laidMetH Tryd.prog laid2 W) : Blanks W := by
  rw [MakeChecks.laidMetH_plain _ _ _ (by kernel_rfl)] at h
  obtain ⟨ps, ⟨g0, t0, cs0, f0, p0, q0, hg0, ht0, hv0, hd0, ⟨g1, t1, cs1, f1, p1, q1, hg1, ht1, hv1, hd1, _, _⟩, _⟩, _⟩ := h
  obtain rfl := Option.some.inj (gSp.symm.trans hg1)
  obtain rfl := Option.some.inj (tSp.symm.trans ht1)
  rw [spData] at hd1
  unfold Blanks Lib.TabIs
  rw [hv1, ← Lib.cells_of_tab uSp Tryd.underlying5 cByte cSp hd1]

theorem Blanks.on {w w' : World} (h : Blanks w) (hg : 0 < w.heap.size) (hb : Below w.heap.size w w') : Blanks w' := var?_below hb gSp hg h

theorem Blanks.lt {w : World} (h : Blanks w) : 0 < w.heap.size := by
  unfold Blanks Lib.TabIs World.var? at h
  rw [gSp] at h
  simp only [Option.bind_some] at h
  rcases Nat.lt_or_ge 0 w.heap.size with h' | h'
  · exact h'
  · rw [Array.getElem?_eq_none h'] at h; simp at h

theorem clone_calls (s : ByteArray) (hs : s.size ≤ 281474976710656) (w : World) :
    Calls Tryd.prog 19 #[.string s] w fun e w' => e = .returned (.string s) ∧ Below w.heap.size w w' := by
  go_enter Tryd.func19, Tryd.ntmps19
  go_wp2_with fail
  refine (Tryd.stringslite_Clone s _ hs).mono ?_
  rintro e w1 ⟨rfl, hb⟩
  go_wp2
  go_ret
  exact ⟨rfl, hb⟩

set_option maxHeartbeats 400000 in
theorem implPartsOf_calls (s : ByteArray) (hs : s.size ≤ 1048576) (w : World) (ht : Blanks w) :
    Calls Tryd.prog 11 #[.string s] w fun e w' => PartsR s.data.toList w e w' := by
  have hlen : s.data.toList.length = s.size := Array.length_toList
  have HT := hide ht
  clear ht
  by_cases h6 : s.size ≤ 600
  · have Hl := hide hlen
    clear hlen
    go_enter Tryd.func11, Tryd.ntmps11
    go_wp2
    go_loop [11] (fun i => ∃ k : Nat, k ≤ s.size ∧ (∀ j (h : j < s.data.toList.length), j < k → okB s.data.toList[j]) ∧ i = .int .i64 (k : Int)) (fun i => s.size - (intOf i).toNat)
    case atStart => exact ⟨0, Nat.zero_le _, fun _ _ h => absurd h (by omega), rfl⟩
    case round =>
      obtain ⟨k, hk, hok, rfl⟩ := hrel
      have Hok := hide hok
      clear hok
      by_cases hlt : k < s.size
      · have hlt' : k < s.data.toList.length := by rw [Hl.out]; exact hlt
        have hby : (s[k]'hlt).toNat < 256 := UInt8.toNat_lt _
        by_cases ho : 32 ≤ (s[k]'hlt).toNat ∧ (s[k]'hlt).toNat ≤ 126
        · have Hn : Hid (∀ j (h : j < s.data.toList.length), j < k + 1 → okB s.data.toList[j]) := fun j h hj => by
            by_cases e : j = k
            · subst e; exact ho
            · exact Hok.out j h (by omega)
          obtain ⟨ho1, ho2⟩ := ho
          clear hlt'
          go_wp2
          go_round
          case rel => exact ⟨k + 1, by omega, Hn.out, by go_num⟩
          case measure => simp [intOf]; omega
        · have Ht : Hid (Tells s.data.toList [] false) := .inr ⟨fun g => ho (g.2.1 k hlt'), rfl, rfl⟩
          have hc2 : (s[k]'hlt).toNat < 32 ∨ 126 < (s[k]'hlt).toNat := by omega
          clear ho hlt'
          rcases hc2 with hc | hc
          all_goals
            go_wp2
            go_ret2
            exact PartsR.mk _ [] false rfl Ht.out (World.ownsRow_nil _ _ _ _) (Below.refl _ _)
      · have hall : ∀ j (h : j < s.data.toList.length), okB s.data.toList[j] := fun j h => Hok.out j h (by rw [Hl.out] at h; omega)
        have Hall := hide hall
        have hasc : ∀ (j : Nat) b, s.data.toList[j]? = some b → b.toNat < 128 := fun j b hb => by
          obtain ⟨hj, rfl⟩ := List.getElem?_eq_some_iff.1 hb
          have := (hall j hj).2
          omega
        have Hasc := hide hasc
        clear hall hasc Hok
        go_wp2_with fail
        refine (clone_calls s (by omega) _).mono ?_
        rintro e w1 ⟨rfl, hb1⟩
        have HT1 := hide (HT.out.on HT.out.lt hb1)
        go_wp2_with fail
        refine (Tryd.strings_Fields s _ (by omega) Hasc.out HT1.out).mono ?_
        rintro e w2 ⟨rfl, hw2⟩
        obtain ⟨F, HF⟩ : ∃ F, Hid (F = Lib.fields s.data.toList) := ⟨_, hide rfl⟩
        rw [← HF.out] at hw2 ⊢
        have hfew : F.length ≤ s.size := by
          have h1 := Lib.fields_length s.data.toList
          have h2 : ∀ (l : List UInt8) (b : Bool), Lib.cntF b l ≤ l.length := by
            intro l
            induction l with
            | nil => intro b; simp [Lib.cntF]
            | cons c r ih => intro b; have := ih (Lib.isSp c); simp only [Lib.cntF, List.length_cons]; split <;> omega
          rw [HF.out, h1, ← Hl.out]; exact h2 _ _
        have hown : w2.ownsRow w.heap.size 9 1 (.slice (some ⟨w1.heap.size, 0, none⟩) F.length F.length) F.length (cellsS F) := by
          rw [hw2]
          exact World.ownsRow_lit w1 _ F.length hb1.size (by unfold maxLen; omega) (by simp)
        have hb2 : Below w.heap.size w w2 := by rw [hw2]; exact hb1.alloc hb1.size _
        have Hown := hide hown
        clear hown hw2
        obtain ⟨n, Hn⟩ : ∃ n, Hid (n = F.length) := ⟨_, hide rfl⟩
        rw [← Hn.out] at hfew ⊢
        by_cases h10 : n ≤ 10
        · have Ht : Hid (Tells s.data.toList F true) := .inl ⟨⟨by rw [Hl.out]; exact h6, Hall.out, by rw [← HF.out, ← Hn.out]; exact h10⟩, HF.out, rfl⟩
          go_wp2
          go_ret2
          exact PartsR.mk _ F true rfl Ht.out (by have h := Hown.out; rw [← Hn.out] at h ⊢; exact h) hb2
        · have Ht : Hid (Tells s.data.toList [] false) := .inr ⟨fun g => h10 (by rw [Hn.out, HF.out]; exact g.2.2), rfl, rfl⟩
          go_wp2
          go_ret2
          exact PartsR.mk _ [] false rfl Ht.out (World.ownsRow_nil _ _ _ _) hb2
  · have Ht : Hid (Tells s.data.toList [] false) := .inr ⟨fun g => h6 (by rw [← hlen]; exact g.1), rfl, rfl⟩
    clear hlen
    go_enter Tryd.func11, Tryd.ntmps11
    go_wp2
    go_ret2
    exact PartsR.mk _ [] false rfl Ht.out (World.ownsRow_nil _ _ _ _) (Below.refl _ _)
end Go.Proofs.YtnincclbpgfilabDoor.P1
