/- The laws' own helpers over rows of texts: markText, eqStringS, markStringS, heldStringS; conditions: rows of at most 2^20 texts that are owned. -/
import Derived.Test.YtmjpdccfdaajmaaDoorStrB
import Derived.Test.YtmjpdccfdaajmaaDoorDecP
import Derived.Test.YtmjpdccfdaajmaaDoorKit
import Derived.WalkKit
namespace Go.Proofs.YtmjpdccfdaajmaaDoor.Sr
set_option maxRecDepth 8000
open Go.RowKit P1

theorem cellsS_get (l : List (List UInt8)) (k : Nat) (h : k < l.length) : (cellsS l)[k]? = some (.string ⟨(l[k]).toArray⟩) := by simp [cellsS, h]

theorem one_text (W : World) (z : Int) (h0 : 0 ≤ z) (h1 : z < 256) :
    (convert 22 9 (.slice (some ⟨W.heap.size, 0, none⟩) 1 1)).run Tryd.prog (W.alloc (.cells #[.int .u8 z] 5)) = .ok (.string ⟨[UInt8.ofNat z.toNat].toArray⟩) (W.alloc (.cells #[.int .u8 z] 5)) := by
  refine run_convert_bytes_back _ 22 9 5 ⟨W.heap.size, 0, none⟩ 1 [UInt8.ofNat z.toNat] Tryd.underlying22 Tryd.underlying5 Tryd.underlying9 ?_
  intro j hj
  obtain rfl : j = 0 := by simp at hj; exact hj
  have hb := byte_of z.toNat (by omega)
  simp only [List.getElem_cons_zero, hb]
  rw [show ((z.toNat : Nat) : Int) = z by omega]
  simp [Addr.add]

/-- The k-th mark. -/
def mtext (k : Nat) : List UInt8 := 109 :: Lib.decDigits k

set_option maxHeartbeats 400000 in
theorem markText_calls (N : Nat) (h0 : 1 ≤ N) (h1 : N ≤ 1000000000) (w : World) :
    Calls Tryd.prog 96 #[.int .i64 (N : Int)] w fun e w' => e = .returned (.string ⟨(mtext N).toArray⟩) ∧ Below w.heap.size w w' := by
  go_enter Tryd.func96, Tryd.ntmps96
  go_wp2
  go_loopw [0, 3] (fun n v wr => ∃ c : Nat, ∃ t : List UInt8, Dec (N : Int) (c : Int) t ∧ n = .int .i64 (c : Int) ∧ v = .string ⟨t.toArray⟩ ∧ Below w.heap.size w wr) (fun n _ _ => (intOf n).toNat)
  case atStart => exact ⟨N, [], Dec.start _ (by omega), rfl, rfl, Below.refl _ _⟩
  case round =>
    obtain ⟨c, t, hd, rfl, rfl, hbel⟩ := hrel
    have hlen := hd.len (by omega) (by omega)
    have hcN := (hd.high (by omega)).2
    have Hd := hide hd
    clear hd
    by_cases hc : 0 < c
    · have hn := Hd.out.next (c' := ((c / 10 : Nat) : Int)) (by omega) (by omega) (by omega) (by omega)
      have hcv := one_text wr (48 + (c : Int) % 10) (by omega) (by omega)
      rw [show UInt8.ofNat (48 + (c : Int) % 10).toNat = UInt8.ofNat (48 + ((c : Int)).natAbs % 10) by congr 1] at hcv
      generalize UInt8.ofNat (48 + ((c : Int)).natAbs % 10) = b at hn hcv
      have Hn := hide hn
      clear hn Hd
      go_wp2
      go_roundw
      case rel => exact ⟨c / 10, _, Hn.out, by go_num, congrArg Value.string (ByteArray.mk_append_mk [b] t), hbel.alloc hbel.size _⟩
      case measure => simp [intOf]; omega
    · obtain rfl : c = 0 := by omega
      have Ht := hide (Hd.out.none_ rfl)
      have hs1 : (⟨#[109]⟩ : ByteArray) ++ ⟨t.toArray⟩ = ⟨(109 :: t).toArray⟩ := ByteArray.mk_append_mk [109] t
      go_wp2
      go_ret
      refine ⟨?_, hbel⟩
      have e1 : mtext N = 109 :: t := by rw [← Ht.out]; rfl
      rw [e1]
      show Ending.returned (Value.string ((⟨#[109]⟩ : ByteArray) ++ ⟨t.toArray⟩)) = _
      rw [hs1]

theorem below_grown {a b : World} (h : Below a.heap.size a b) (row : Option Nat) : a.grownBy b row := ⟨h.os, h.tape, h.output, h.size, fun k hk _ => h.block k hk⟩

/-- What is owned stays owned, where what was there stays as it was. -/
theorem own_on {a b : World} {B : Nat} {e : TypeId} {v : Value} {n : Nat} {xs : List Value} (h : a.ownsRow B e 1 v n xs) (hb : Below a.heap.size a b) : b.ownsRow B e 1 v n xs := by
  rcases h.2 with ⟨rfl, h0⟩ | ⟨g, cap, cur, rfl, h1, h2, h3⟩
  · exact ⟨h.1, .inl ⟨rfl, h0⟩⟩
  · have hg := (h.lt g rfl).2
    exact ⟨h.1, .inr ⟨g, cap, cur, rfl, h1, (hb.block g hg).trans h2, h3⟩⟩

theorem world_drewN_below (w : World) (n : Nat) : Below w.heap.size w (w.drewN n) := ⟨rfl, rfl, rfl, Nat.le_refl _, fun _ _ => rfl⟩

set_option maxHeartbeats 400000 in
theorem eqStringS_calls (l : List (List UInt8)) (B1 B2 : Nat) (v1 v2 : Value) (w : World) (hl : l.length ≤ 1048576) (h1 : w.ownsRow B1 9 1 v1 l.length (cellsS l)) (h2 : w.ownsRow B2 9 1 v2 l.length (cellsS l)) :
    Calls Tryd.prog 76 #[v1, v2] w fun e w' => e = .returned (.bool true) ∧ Below w.heap.size w w' := by
  have hc1 := fun (g c : Nat) (h : v1 = .slice (some ⟨g, 0, none⟩) l.length c) (k : Nat) (hk : k < l.length) => (show w.cell? ⟨g, k, none⟩ = some (.string ⟨(l[k]).toArray⟩) by
    have h' := h1; rw [h] at h'; rw [h'.cellAt k (by omega), cellsS_get l k hk])
  have hc2 := fun (g c : Nat) (h : v2 = .slice (some ⟨g, 0, none⟩) l.length c) (k : Nat) (hk : k < l.length) => (show w.cell? ⟨g, k, none⟩ = some (.string ⟨(l[k]).toArray⟩) by
    have h' := h2; rw [h] at h'; rw [h'.cellAt k (by omega), cellsS_get l k hk])
  have Hc1 := hide hc1
  have Hc2 := hide hc2
  have s1 := h1.2
  have s2 := h2.2
  clear hc1 hc2 h1 h2
  obtain ⟨n, Hn⟩ : ∃ n, Hid (n = l.length) := ⟨_, hide rfl⟩
  rw [← Hn.out] at hl s1 s2
  rcases s1 with ⟨rfl, hn0⟩ | ⟨g1, c1, cur1, rfl, -⟩
  · subst hn0
    rcases s2 with ⟨rfl, -⟩ | ⟨g2, c2, cur2, rfl, -⟩
    all_goals
      go_enter Tryd.func76, Tryd.ntmps76
      go_wp2
      go_loop [5] (fun i => i = .int .i64 0) (fun _ => 0)
      case atStart => rfl
      case round =>
        obtain rfl := hrel
        go_wp2
        go_ret
        exact ⟨rfl, Below.refl _ _⟩
  · rcases s2 with ⟨rfl, hn0⟩ | ⟨g2, c2, cur2, rfl, -⟩
    · subst hn0
      go_enter Tryd.func76, Tryd.ntmps76
      go_wp2
      go_loop [5] (fun i => i = .int .i64 0) (fun _ => 0)
      case atStart => rfl
      case round =>
        obtain rfl := hrel
        go_wp2
        go_ret
        exact ⟨rfl, Below.refl _ _⟩
    · go_enter Tryd.func76, Tryd.ntmps76
      go_wp2
      go_loopw [5] (fun i wr => ∃ k : Nat, ∃ q : Nat, k ≤ n ∧ i = .int .i64 (k : Int) ∧ wr = w.drewN q) (fun i _ => n - (intOf i).toNat)
      case atStart => exact ⟨0, 0, Nat.zero_le _, rfl, rfl⟩
      case round =>
        obtain ⟨k, q, hk, rfl, rfl⟩ := hrel
        by_cases hlt : k < n
        · have hkl : k < l.length := by rw [← Hn.out]; exact hlt
          have hx1 := Hc1.out g1 c1 (by rw [Hn.out]) k hkl
          have hx2 := Hc2.out g2 c2 (by rw [Hn.out]) k hkl
          generalize (l[k]).toArray = z at hx1 hx2
          go_wp2
          go_quiet (fail)
          go_wp2
          go_roundw
          case rel => exact ⟨k + 1, _, by omega, by go_num, rfl⟩
          case measure => simp [intOf]; omega
        · go_wp2
          go_ret
          exact ⟨rfl, world_drewN_below _ _⟩

/-- So many marks from k on. -/
def marks (k n : Nat) : List (List UInt8) := (List.range n).map fun j => mtext (k + j)

theorem marks_length (k n : Nat) : (marks k n).length = n := by simp [marks]
theorem marks_get (k n j : Nat) (h : j < (marks k n).length) : (marks k n)[j] = mtext (k + j) := by simp [marks]

/-- The first j are marks. -/
def marked (l : List (List UInt8)) (k j : Nat) : List (List UInt8) := (marks k l.length).take j ++ l.drop j

theorem marked_length (l : List (List UInt8)) (k j : Nat) (h : j ≤ l.length) : (marked l k j).length = l.length := by simp [marked, marks_length]; omega

theorem marked_next (l : List (List UInt8)) (k j : Nat) (h : j < l.length) : (marked l k j).set j (mtext (k + j)) = marked l k (j + 1) := by
  have hl : ((marks k l.length).take j).length = j := by simp [marks_length]; omega
  have hm : j < (marks k l.length).length := by rw [marks_length]; exact h
  unfold marked
  rw [List.set_append_right _ _ (by omega), hl, Nat.sub_self, List.drop_eq_getElem_cons h, List.set_cons_zero, List.take_succ_eq_append_getElem hm, marks_get, List.append_assoc]
  rfl

theorem marked_end (l : List (List UInt8)) (k : Nat) : marked l k l.length = marks k l.length := by
  unfold marked
  rw [List.take_of_length_le (by rw [marks_length]; exact Nat.le_refl _), List.drop_length, List.append_nil]

theorem marked_start (l : List (List UInt8)) (k : Nat) : marked l k 0 = l := by simp [marked]

theorem cellsS_set (l : List (List UInt8)) (k : Nat) (b : List UInt8) : (cellsS l).set k (.string ⟨b.toArray⟩) = cellsS (l.set k b) := by simp [cellsS]

theorem grownBy_step {a b c : World} {row : Option Nat} (h1 : a.grownBy b row) (h2 : b.grownBy c row) : a.grownBy c row :=
  ⟨h2.os.trans h1.os, h2.tape.trans h1.tape, h2.output.trans h1.output, Nat.le_trans h1.size h2.size, fun k hk hr => (h2.block k (Nat.lt_of_lt_of_le hk h1.size) hr).trans (h1.block k hk hr)⟩

set_option maxHeartbeats 400000 in
theorem markStringS_calls (l : List (List UInt8)) (k B : Nat) (v : Value) (w : World) (hl : l.length ≤ 1048576) (hk0 : 1 ≤ k) (hk1 : k ≤ 1000000) (h1 : w.ownsRow B 9 1 v l.length (cellsS l)) :
    Calls Tryd.prog 77 #[v, .int .i64 (k : Int)] w fun e w' => e = .returned (.int .i64 ((k + l.length : Nat) : Int)) ∧ w'.ownsRow B 9 1 v l.length (cellsS (marks k l.length)) ∧ w.grownBy w' v.ownBlock := by
  obtain ⟨n, Hn⟩ : ∃ n, Hid (n = l.length) := ⟨_, hide rfl⟩
  have Hl : Hid (l.length ≤ 1048576) := hide hl
  clear hl
  have hn : n ≤ 1048576 := by rw [Hn.out]; exact Hl.out
  rcases h1.2 with ⟨rfl, hn0⟩ | ⟨g, c, cur, rfl, -⟩
  · obtain rfl : l = [] := List.eq_nil_of_length_eq_zero hn0
    have Hown := hide h1
    clear h1
    go_enter Tryd.func77, Tryd.ntmps77
    go_wp2
    go_loop [1, 5] (fun a i => a = .int .i64 (k : Int) ∧ i = .int .i64 0) (fun _ _ => 0)
    case atStart => exact ⟨rfl, rfl⟩
    case round =>
      obtain ⟨rfl, rfl⟩ := hrel
      go_wp2
      go_ret
      exact ⟨rfl, Hown.out, World.grownBy.refl _ _⟩
  · rw [← Hn.out] at h1 ⊢
    go_enter Tryd.func77, Tryd.ntmps77
    go_wp2
    go_loopw [1, 5] (fun a i wr => ∃ j : Nat, j ≤ n ∧ a = .int .i64 ((k + j : Nat) : Int) ∧ i = .int .i64 (j : Int) ∧ wr.ownsRow B 9 1 (.slice (some ⟨g, 0, none⟩) n c) n (cellsS (marked l k j)) ∧ w.grownBy wr (some g)) (fun _ i _ => n - (intOf i).toNat)
    case atStart => exact ⟨0, Nat.zero_le _, rfl, rfl, by rw [marked_start]; exact h1, World.grownBy.refl _ _⟩
    case round =>
      clear h1
      obtain ⟨j, hj, rfl, rfl, hown, hgr⟩ := hrel
      by_cases hlt : j < n
      · go_wp2_with fail
        rw [show (k : Int) + (j : Int) = ((k + j : Nat) : Int) by omega]
        refine (markText_calls (k + j) (by omega) (by omega) _).mono ?_
        rintro e w1 ⟨rfl, hb1⟩
        have hown1 := own_on hown hb1
        have hgr1 := grownBy_step hgr (below_grown hb1 (some g))
        clear hown hgr hb1
        obtain ⟨x, hcO⟩ : ∃ x, w1.cell? ⟨g, j, none⟩ = some x := by
          rw [hown1.cellAt j (by omega)]; exact ⟨_, List.getElem?_eq_getElem (by rw [cellsS_length, marked_length l k j (by rw [← Hn.out]; omega), ← Hn.out]; exact hlt)⟩
        have hfO : w1.frozen? ⟨g, j, none⟩ = false := hown1.frozenAt j
        have hst := hown1.stored j (.string ⟨(mtext (k + j)).toArray⟩)
        rw [cellsS_set, marked_next l k j (by rw [← Hn.out]; exact hlt)] at hst
        have Hst := hide hst
        have Hgr := hide hgr1
        generalize (mtext (k + j)).toArray = z at Hst ⊢
        clear hown1 hst hgr1
        go_wp2
        go_roundw
        case rel => exact ⟨j + 1, by omega, by go_num, by go_num, Hst.out.1, grownBy_step Hgr.out Hst.out.2⟩
        case measure => simp [intOf]; omega
      · obtain rfl : j = n := by omega
        have Hown := hide hown
        have Hgr := hide hgr
        clear hown hgr
        go_wp2
        go_ret
        refine ⟨by rfl, ?_, Hgr.out⟩
        have h := Hown.out
        have e1 : marked l k j = marks k j := by rw [Hn.out]; exact marked_end l k
        rw [e1] at h
        exact h

set_option maxHeartbeats 400000 in
theorem heldStringS_calls (n k B : Nat) (v : Value) (w : World) (hn : n ≤ 1048576) (hk0 : 1 ≤ k) (hk1 : k ≤ 1000000) (h1 : w.ownsRow B 9 1 v n (cellsS (marks k n))) :
    Calls Tryd.prog 78 #[v, .int .i64 (k : Int)] w fun e w' => e = .returned (.int .i64 ((k + n : Nat) : Int)) ∧ Below w.heap.size w w' := by
  rcases h1.2 with ⟨rfl, rfl⟩ | ⟨g, c, cur, rfl, -⟩
  · clear h1
    go_enter Tryd.func78, Tryd.ntmps78
    go_wp2
    go_loop [1, 5] (fun a i => a = .int .i64 (k : Int) ∧ i = .int .i64 0) (fun _ _ => 0)
    case atStart => exact ⟨rfl, rfl⟩
    case round =>
      obtain ⟨rfl, rfl⟩ := hrel
      go_wp2
      go_ret
      exact ⟨rfl, Below.refl _ _⟩
  · have hg := (h1.lt g rfl).2
    have hcell : ∀ j, j < n → w.cell? ⟨g, j, none⟩ = some (.string ⟨(mtext (k + j)).toArray⟩) := fun j hj => by
      rw [h1.cellAt j (by omega), cellsS_get _ j (by rw [marks_length]; exact hj), marks_get]
    have Hcell := hide hcell
    clear hcell h1
    go_enter Tryd.func78, Tryd.ntmps78
    go_wp2
    go_loopw [1, 5] (fun a i wr => ∃ j : Nat, j ≤ n ∧ a = .int .i64 ((k + j : Nat) : Int) ∧ i = .int .i64 (j : Int) ∧ Below w.heap.size w wr) (fun _ i _ => n - (intOf i).toNat)
    case atStart => exact ⟨0, Nat.zero_le _, rfl, rfl, Below.refl _ _⟩
    case round =>
      obtain ⟨j, hj, rfl, rfl, hbel⟩ := hrel
      by_cases hlt : j < n
      · have hmt := fun (wx : World) => markText_calls (k + j) (by omega) (by omega) wx
        rw [show ((k + j : Nat) : Int) = (k : Int) + (j : Int) by omega] at hmt
        have hce : ∀ p : Near w.heap.size w, p.w.cell? ⟨g, j, none⟩ = some (.string ⟨(mtext (k + j)).toArray⟩) := fun p => (p.h.cell hg).trans (Hcell.out j hlt)
        obtain ⟨z, Hz⟩ : ∃ z, Hid (z = (mtext (k + j)).toArray) := ⟨_, hide rfl⟩
        rw [← Hz.out] at hmt hce
        have Hmt := hide hmt
        clear hmt
        have hne := Near.some w.heap.size w
        go_wp2
        refine wp_region_near w.heap.size w hbel (by kernel_rfl) (by kernel_rfl) ?_
        repeat (go_big_quiet_step (exact calls_near (Nat.le_refl _) (Hmt.out _)))
        refine wpQuiet_nil ?_
        rintro wx ⟨q, rfl⟩
        have hqb := q.h
        obtain ⟨wx, hq⟩ := q
        simp only at hqb ⊢
        clear hq hce hne
        go_wp2
        go_roundw
        case rel => exact ⟨j + 1, by omega, by go_num, by go_num, hqb⟩
        case measure => simp [intOf]; omega
      · obtain rfl : j = n := by omega
        go_wp2
        go_ret
        exact ⟨rfl, hbel⟩
end Go.Proofs.YtmjpdccfdaajmaaDoor.Sr
