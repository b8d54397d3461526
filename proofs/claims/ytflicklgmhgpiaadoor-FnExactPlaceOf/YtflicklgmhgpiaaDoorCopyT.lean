/- A text copied into a row of bytes; no condition but that there is room. -/
import Derived.Test.YtflicklgmhgpiaaDoorArrS
import Derived.Laws.IdiomCopy
namespace Go.Proofs.YtflicklgmhgpiaaDoor.P1
open Go.RowKit

theorem run_copy_text {P : Program} (w : World) (dT sT ty elem : TypeId) (b dLen dCap : Nat) (l : List UInt8) (hu : P.underlying dT = some (.slice elem)) (hs : (P.info? elem).map (·.size) = some 1) (hle : l.length ≤ dLen)
    (hc : ∀ j, j < l.length → (w.cell? ⟨b, j, none⟩).isSome = true) (hf : ∀ j, j < l.length → w.frozen? ⟨b, j, none⟩ = false) :
    (Builtin.copy_ #[dT, sT] ty #[.slice (some ⟨b, 0, none⟩) dLen dCap, .string ⟨l.toArray⟩]).run P w = .ok (goInt l.length) (w.setCells b 0 (cellsB l)) := by
  have hst := run_storeCells_cells (P := P) b 0 (cellsB l) 0 w (fun j hj => by simpa using hc j (by simpa [cellsB] using hj)) (fun j hj => by simpa using hf j (by simpa [cellsB] using hj)) (by
    intro v hv
    simp [cellsB] at hv
    obtain ⟨n, _, rfl⟩ := hv
    rfl)
  have hz : (⟨l.toArray⟩ : ByteArray).size = l.length := rfl
  have hm : Nat.min l.length dLen = l.length := Nat.min_eq_left hle
  have hx : ((⟨l.toArray⟩ : ByteArray).extract 0 l.length).data.map (fun b => Value.int .u8 (b.toNat : Int)) = (cellsB l).toArray := by
    rw [ByteArray.extract_mk]
    simp [cellsB]
  cases hq : P.info? elem with
  | none => simp [hq] at hs
  | some i =>
    simp only [Builtin.copy_, Sem.run_bind, run_underlying hu, Builtin.lenOf, Builtin.firstCells, sizeOf, typeInfo, Sem.run_pure, Result.andThen_ok, hz, hm, hx, List.getElem?_toArray, List.getElem?_cons_zero, List.getElem?_cons_succ]
    simp [hq, hst]

theorem wpList_copy_text {P : Program} {w : World} {ops : Array Oper} {rest : List Oper} {o : Oper} {a : Act} {Q : Exit → Act → World → Prop} (hgd : o.guard = none) (d s : Operand) (dT sT : TypeId)
    (ho : o.op = .call { callee := .builtin .copy, args := #[d, s], argTypes := #[dT, sT] }) (elem : TypeId) (hu : P.underlying dT = some (.slice elem)) (hsz : (P.info? elem).map (·.size) = some 1)
    (g dLen dCap : Nat) (l L : List UInt8) (hd : a.eval d = .slice (some ⟨g, 0, none⟩) dLen dCap) (hs : a.eval s = .string ⟨l.toArray⟩) (hB : Byt w g L) (hL : l.length ≤ L.length) (hle : l.length ≤ dLen)
    (h : wpList P ops Q rest (a.put o.dst (goInt l.length)) (w.setCells g 0 (cellsB l))) : wpList P ops Q (o :: rest) a w := by
  refine wpList_plain hgd fun K hK => ?_
  have hrun := run_copy_text (P := P) w dT sT o.type elem g dLen dCap l hu hsz hle (fun j hj => by rw [hB.cell j (by omega)]; rfl) (fun j _ => hB.free j)
  unfold Oper.wp
  simp [execOp, ho, resolve, invoke, builtin, hd, hs, hrun, Result.andThen]
  exact hK _ _ h

theorem Byt.copied {w : World} {g : Nat} {L : List UInt8} (h : Byt w g L) (l : List UInt8) (hl : l.length ≤ L.length) : Byt (w.setCells g 0 (cellsB l)) g (l ++ L.drop l.length) := by
  refine ⟨by rw [size_setCells]; exact h.lt, fun i hi => ?_, fun i => by rw [World.frozen?_setCells]; exact h.free i⟩
  have hlen : (cellsB l).length = l.length := cellsB_length l
  by_cases e : i < l.length
  · have := World.cell?_setCells_in g (cellsB l) 0 w (fun j hj => by rw [Nat.zero_add, h.cell j (by omega)]; rfl) i (by omega)
    rw [Nat.zero_add] at this
    rw [this]
    simp [cellsB, e]
  · have hi2 : i < L.length := by simp at hi; omega
    rw [World.cell?_setCells_out g (cellsB l) 0 w ⟨g, i, none⟩ (fun _ => by simp [hlen]; omega), h.cell i hi2]
    rw [List.getElem_append_right (by omega)]
    simp [show l.length + (i - l.length) = i by omega]
end Go.Proofs.YtflicklgmhgpiaaDoor.P1
