/- The contract of spec.PartsOf: the parts that chapter 1 names, in memory of its own; condition: the line is at most 2^20 bytes long. -/
import Derived.Test.YtnincclbpgfilabDoorStr
import Derived.Test.YtnincclbpgfilabDoorParP
import Derived.WalkKit
namespace Go.Proofs.YtnincclbpgfilabDoor.P1
open Go.RowKit

theorem slice_cut (wx : World) (s : ByteArray) (a b : Nat) (h1 : a ≤ b) (h2 : b ≤ s.size) :
    (Instr.slice 9 (.string s) (some (.int .i64 (a : Int))) (some (.int .i64 (b : Int))) none).run Tryd.prog wx = .ok (.string (s.extract a b)) wx := by
  have := run_slice_string (P := Tryd.prog) wx 9 s .i64 .i64 (a : Int) (b : Int) Tryd.underlying9 (by omega) (by omega) (by omega)
  simpa using this

theorem extract_eq (s : ByteArray) (a b : Nat) : s.extract a b = ⟨((s.data.toList.drop a).take (b - a)).toArray⟩ := by
  apply ByteArray.ext
  apply Array.toList_inj.1
  obtain ⟨⟨l⟩⟩ := s
  rw [ByteArray.extract_mk]

/-- What a call of PartsOf leaves: a row of texts in memory of its own, and a flag. -/
def PartsR (l : List UInt8) (w : World) (e : Ending) (w' : World) : Prop :=
  ∃ v ps b, e = .returned (.tuple #[v, .bool b]) ∧ Tells l ps b ∧ w'.ownsRow w.heap.size 9 1 v ps.length (cellsS ps) ∧ Below w.heap.size w w'

theorem PartsR.mk {l : List UInt8} {w w' : World} {e : Ending} (v : Value) (ps : List (List UInt8)) (b : Bool) (h1 : e = .returned (.tuple #[v, .bool b])) (h2 : Tells l ps b) (h3 : w'.ownsRow w.heap.size 9 1 v ps.length (cellsS ps)) (h4 : Below w.heap.size w w') : PartsR l w e w' :=
  ⟨v, ps, b, h1, h2, h3, h4⟩

/-- What the loop of spec.PartsOf holds at place k. -/
def AtS (s : ByteArray) (k b : Nat) (ps : List (List UInt8)) : Prop :=
  Par s.data.toList k b ps ∨ (k = s.size + 1 ∧ (∀ j (h : j < s.data.toList.length), okB s.data.toList[j]) ∧ Lib.fields s.data.toList = ps ∧ ps.length ≤ k)

theorem AtS.few {s : ByteArray} {k b : Nat} {ps : List (List UInt8)} (h : AtS s k b ps) : ps.length ≤ k := by
  rcases h with h | h
  · exact h.few
  · exact h.2.2.2

set_option maxHeartbeats 1000000 in
theorem specPartsOf_calls (s : ByteArray) (hs : s.size ≤ 1048576) (w : World) :
    Calls Tryd.prog 10 #[.string s] w fun e w' => PartsR s.data.toList w e w' := by
  have hlen : s.data.toList.length = s.size := Array.length_toList
  by_cases h6 : s.size ≤ 600
  · obtain ⟨i0, hi, hz0, hz1, hz2⟩ := info_parts info9
    have Hl := hide hlen
    clear hlen
    go_enter Tryd.func10, Tryd.ntmps10
    go_wp2
    go_loopw [4, 5, 6] (fun v b i wr => ∃ k : Nat, ∃ c : Nat, ∃ ps : List (List UInt8), k ≤ s.size + 1 ∧ c ≤ k ∧ AtS s k c ps ∧ b = .int .i64 (c : Int) ∧ i = .int .i64 (k : Int) ∧ wr.ownsRow w.heap.size 9 1 v ps.length (cellsS ps) ∧ Below w.heap.size w wr) (fun _ _ i _ => s.size + 1 - (intOf i).toNat)
    case atStart => exact ⟨0, 0, [], by omega, Nat.le_refl _, .inl (Par.start _), rfl, rfl, World.ownsRow_lit _ _ 0 (Nat.le_refl _) (by decide) rfl, (Below.refl _ _).alloc (Nat.le_refl _) _⟩
    case round =>
      obtain ⟨k, c, ps, hk, hck, hat, rfl, rfl, hown, hbel⟩ := hrel
      have hfew := hat.few
      have hpl : ps.length ≤ 601 := by omega
      clear hfew
      by_cases hk1 : k = s.size + 1
      · -- the loop has ended
        have hfin : Lib.fields s.data.toList = ps ∧ ∀ j (h : j < s.data.toList.length), okB s.data.toList[j] := by
          rcases hat with hp | ⟨_, h2, h3, _⟩
          · have := hp.top; rw [Hl.out] at this; omega
          · exact ⟨h3, h2⟩
        have Hfin := hide hfin
        clear hfin hat
        have hend : ¬ k ≤ s.size := by omega
        clear hk1 hk hck
        by_cases h10 : ps.length ≤ 10
        · have Ht : Hid (Tells s.data.toList ps true) := .inl ⟨⟨by rw [Hl.out]; exact h6, Hfin.out.2, by rw [Hfin.out.1]; exact h10⟩, Hfin.out.1.symm, rfl⟩
          have Hown := hide hown
          obtain ⟨n, Hn⟩ : ∃ n, Hid (n = ps.length) := ⟨_, hide rfl⟩
          have sh := hown.2
          rw [← Hn.out] at sh h10
          clear hown hpl
          rcases sh with ⟨rfl, hn0⟩ | ⟨g, cap, cur, rfl, -⟩
          · go_wp2
            go_ret2
            exact PartsR.mk _ ps true rfl Ht.out (Hown.out) (hbel)
          · go_wp2
            go_ret2
            exact PartsR.mk _ ps true rfl Ht.out (Hown.out) (hbel)
        · have Ht : Hid (Tells s.data.toList [] false) := .inr ⟨fun g => h10 (by rw [← Hfin.out.1]; exact g.2.2), rfl, rfl⟩
          obtain ⟨n, Hn⟩ : ∃ n, Hid (n = ps.length) := ⟨_, hide rfl⟩
          have sh := hown.2
          rw [← Hn.out] at sh h10 hpl
          clear hown
          rcases sh with ⟨rfl, hn0⟩ | ⟨g, cap, cur, rfl, -⟩
          · omega
          · go_wp2
            go_ret2
            exact PartsR.mk _ [] false rfl Ht.out (World.ownsRow_lit _ _ 0 hbel.size (by decide) rfl) (hbel.alloc hbel.size _)
      · have hp : Par s.data.toList k c ps := by
          rcases hat with hp | ⟨h, _⟩
          · exact hp
          · exact absurd h hk1
        have Hp := hide hp
        clear hp hat
        have hks : k ≤ s.size := by omega
        clear hk1 hk
        by_cases hlt : k < s.size
        · have hlt' : k < s.data.toList.length := by rw [Hl.out]; exact hlt
          have hby : (s[k]'hlt).toNat < 256 := UInt8.toNat_lt _
          by_cases hok : 32 ≤ (s[k]'hlt).toNat ∧ (s[k]'hlt).toNat ≤ 126
          · obtain ⟨ho1, ho2⟩ := hok
            by_cases hbl : (s[k]'hlt).toNat = 32
            · by_cases hcb : c < k
              · have Hn := hide (Hp.out.part hlt' hbl hcb)
                have hsl := fun (wx : World) => slice_cut wx s c k (by omega) (by omega)
                have Hex := hide (extract_eq s c k)
                generalize s.extract c k = z at hsl Hex
                have hblb : (((s[k]'hlt).toNat : Int) != 32) = false := by simp [hbl]
                clear hbl hlt'
                go_wp2_with (at_builtin; refine wpList_append_str hbel (Nat.le_refl _) rfl (.tmp 48) (.tmp 53) 27 rfl 9 i0 Tryd.underlying27 hi hz0 hz1 hz2 _ _ _ rfl hown 1 rfl (by omega) ?_)
                intro v' w1 hown' hbel'
                clear hsl
                go_wp2
                go_roundw
                case rel => exact ⟨k + 1, k + 1, _, by omega, Nat.le_refl _, .inl Hn.out, by go_num, by go_num, own_snocS hown' _ Hex.out, hbel'⟩
                case measure => simp [intOf]; omega
              · have Hn := hide (Hp.out.blank hlt' hbl hcb)
                have hblb : (((s[k]'hlt).toNat : Int) != 32) = false := by simp [hbl]
                clear hbl hlt'
                go_wp2
                go_roundw
                case rel => exact ⟨k + 1, k + 1, _, by omega, Nat.le_refl _, .inl Hn.out, by go_num, by go_num, hown, hbel⟩
                case measure => simp [intOf]; omega
            · have Hn := hide (Hp.out.go hlt' ⟨ho1, ho2⟩ hbl)
              have hblb : (((s[k]'hlt).toNat : Int) != 32) = true := by simp; omega
              clear hbl hlt'
              go_wp2
              go_roundw
              case rel => exact ⟨k + 1, c, _, by omega, by omega, .inl Hn.out, rfl, by go_num, hown, hbel⟩
              case measure => simp [intOf]; omega
          · have Ht : Hid (Tells s.data.toList [] false) := .inr ⟨fun g => hok (g.2.1 k hlt'), rfl, rfl⟩
            have hc2 : (s[k]'hlt).toNat < 32 ∨ 126 < (s[k]'hlt).toNat := by omega
            clear hok hlt' hown
            rcases hc2 with hc | hc
            all_goals
              go_wp2
              go_ret2
              exact PartsR.mk _ [] false rfl Ht.out (World.ownsRow_lit _ _ 0 hbel.size (by decide) rfl) (hbel.alloc hbel.size _)
        · have hke : k = s.size := by omega
          have hall : ∀ j (h : j < s.data.toList.length), okB s.data.toList[j] := fun j h => Hp.out.ok j h (by rw [Hl.out] at h; omega)
          have Hall := hide hall
          clear hall
          by_cases hcb : c < k
          · have Hn := hide (Hp.out.last (by rw [Hl.out]; exact hke) hcb)
            have hsl := fun (wx : World) => slice_cut wx s c k (by omega) (by omega)
            have Hex := hide (extract_eq s c k)
            generalize s.extract c k = z at hsl Hex
            have hps : (ps ++ [(s.data.toList.drop c).take (k - c)]).length ≤ k + 1 := by have := Hp.out.few; simp; omega
            have Hps := hide hps
            have Hke := hide hke
            clear hps hke
            go_wp2_with (at_builtin; refine wpList_append_str hbel (Nat.le_refl _) rfl (.tmp 48) (.tmp 53) 27 rfl 9 i0 Tryd.underlying27 hi hz0 hz1 hz2 _ _ _ rfl hown 1 rfl (by omega) ?_)
            intro v' w1 hown' hbel'
            clear hsl
            go_wp2
            go_roundw
            case rel => exact ⟨k + 1, k + 1, _, by omega, Nat.le_refl _, .inr ⟨by rw [Hke.out], Hall.out, Hn.out, Hps.out⟩, by go_num, by go_num, own_snocS hown' _ Hex.out, hbel'⟩
            case measure => simp [intOf]; omega
          · have Hn := hide (Hp.out.none_ (by rw [Hl.out]; exact hke) hcb)
            have hps : ps.length ≤ k + 1 := by have := Hp.out.few; omega
            have Hke := hide hke
            clear hke
            go_wp2
            go_roundw
            case rel => exact ⟨k + 1, k + 1, _, by omega, Nat.le_refl _, .inr ⟨by rw [Hke.out], Hall.out, Hn.out, hps⟩, by go_num, by go_num, hown, hbel⟩
            case measure => simp [intOf]; omega
  · have Ht : Hid (Tells s.data.toList [] false) := .inr ⟨fun g => h6 (by rw [← hlen]; exact g.1), rfl, rfl⟩
    clear hlen
    go_enter Tryd.func10, Tryd.ntmps10
    go_wp2
    go_ret2
    exact PartsR.mk _ [] false rfl Ht.out (World.ownsRow_lit _ _ 0 (Nat.le_refl _) (by decide) rfl) ((Below.refl _ _).alloc (Nat.le_refl _) _)
end Go.Proofs.YtnincclbpgfilabDoor.P1
