/- The contract of the laws' own sameSign, over two signatures that read alike; condition: lists of at most 2^20. -/
import Derived.Test.YtmjpdccfdaajmaaDoorSgn5
import Derived.Test.YtmjpdccfdaajmaaDoorSgnE
namespace Go.Proofs.YtmjpdccfdaajmaaDoor.P4
set_option maxRecDepth 8000
open Go.RowKit P1 P3

set_option maxHeartbeats 400000 in
theorem sameSign_calls (w : World) (v u : Value) (leaf : Int) (E W : List (List UInt8)) (hv : SigAt w v leaf E W) (hu : SigAt w u leaf E W) :
    Calls Tryd.prog 29 #[v, u] w fun e w' => e = .returned (.bool true) ∧ Below w.heap.size w w' := by
  obtain ⟨⟨vE, vW, rfl, tE, tW⟩, lE, lW, -, -⟩ := hv
  obtain ⟨⟨uE, uW, rfl, sE, sW⟩, -, -, -, -⟩ := hu
  have k1 : Below w.heap.size w (w.alloc (.cells #[.int .i64 leaf, vE, vW] 29)) := (Below.refl _ _).alloc (Nat.le_refl _) _
  have k2 : Below (w.alloc (.cells #[.int .i64 leaf, vE, vW] 29)).heap.size (w.alloc (.cells #[.int .i64 leaf, vE, vW] 29)) ((w.alloc (.cells #[.int .i64 leaf, vE, vW] 29)).alloc (.cells #[.int .i64 leaf, uE, uW] 29)) := (Below.refl _ _).alloc (Nat.le_refl _) _
  have hb := k1.trans (k2.mono k1.size)
  have TE := hide (tE.below hb (Nat.le_refl _))
  have TW := hide (tW.below hb (Nat.le_refl _))
  have SE := hide (sE.below hb (Nat.le_refl _))
  have SW := hide (sW.below hb (Nat.le_refl _))
  have HB := hide hb
  clear k1 k2 hb tE tW sE sW
  go_enter Tryd.func29, Tryd.ntmps29
  go_wp2_with fail
  refine (Cu.sameTexts_calls _ _ _ E TE.out SE.out (by omega)).mono ?_
  rintro e w1 ⟨rfl, m, rfl⟩
  go_wp2_with fail
  refine (Cu.sameTexts_calls _ _ _ W (TW.out.drewN m) (SW.out.drewN m) (by omega)).mono ?_
  rintro e w2 ⟨rfl, m2, rfl⟩
  go_wp2_with fail
  go_ret
  exact ⟨rfl, ⟨HB.out.os, HB.out.tape, HB.out.output, HB.out.size, HB.out.block⟩⟩
end Go.Proofs.YtmjpdccfdaajmaaDoor.P4
