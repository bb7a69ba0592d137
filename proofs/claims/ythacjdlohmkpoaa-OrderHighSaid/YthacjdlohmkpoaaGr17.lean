/- Texts of one's own, joined: BasE. -/
import Derived.Test.YthacjdlohmkpoaaGr1
import Derived.Laws.CopyRow
namespace Go.Proofs.Ythacjdlohmkpoaa
open Go.RowKit

theorem run_storeAt_row {P : Program} (w : World) (t : TypeId) (i : TypeInfo) (hi : P.info? t = some i) (b : Nat) (cur vs : Array Value) (T : TypeId) (hw : w.heap[b]? = some (.cells cur T (0, 0))) (hsz : cur.size = vs.size) (hti : i.size = vs.size)
    (h1 : ∀ v ∈ vs.toList, v.oneCell' = true) : (Instr.storeAt t (.pointer (some ⟨b, 0, none⟩)) (.agg vs)).run P w = .ok () (w.setRow b vs) := by
  have hr := run_storeCells_at P b 0 T vs.toList 0 cur w hw (by simp [hsz]) h1
  have e : (cur.toList.take (0 + 0) ++ vs.toList ++ cur.toList.drop (0 + 0 + vs.toList.length)).toArray = vs := by
    rw [Nat.zero_add, Nat.zero_add, List.take_zero, List.nil_append, List.drop_of_length_le (by simp [hsz]), List.append_nil]
  rw [e] at hr
  simp [Instr.storeAt, Instr.sureAddr, storeVar, sizeOf, typeInfo, hi, hti, Value.cells, hr]
theorem wpList_store_row {P : Program} (w : World) {ops : Array Oper} {rest : List Oper} {o : Oper} {a : Act} {Q : Exit → Act → World → Prop}
    (hg : o.guard = none) (t : TypeId) (x y : Operand) (hop : o.op = Op.store t x y) (hd : o.dst = none) (i : TypeInfo) (hi : P.info? t = some i) (b : Nat) (cur vs : Array Value) (T : TypeId) (hx : a.eval x = .pointer (some ⟨b, 0, none⟩)) (hy : a.eval y = .agg vs)
    (hw : w.heap[b]? = some (.cells cur T (0, 0))) (hsz : cur.size = vs.size) (hti : i.size = vs.size) (h1 : ∀ v ∈ vs.toList, v.oneCell' = true)
    (hK : ∀ w', w'.heap[b]? = some (.cells vs T (0, 0)) → w.grownBy w' (some b) → wpList P ops Q rest a w') : wpList P ops Q (o :: rest) a w := by
  refine wpList_plain hg fun K hK' => ?_
  have hrun := run_storeAt_row (P := P) w t i hi b cur vs T hw hsz hti h1
  unfold Oper.wp
  simp [execOp, hop, hx, hy, hrun, Result.andThen]
  refine hK' _ _ ?_
  rw [hd]
  exact (hK _ (setRow_heap w b cur vs T _ hw) ⟨rfl, rfl, rfl, by simp [World.setRow], fun k _ hk => setRow_other w b k vs (fun e => hk (by simp [e]))⟩)
theorem run_loadAt_row {P : Program} (w : World) (t : TypeId) (i : TypeInfo) (hi : P.info? t = some i) (hag : (isAgg t).run P w = .ok true w) (b : Nat) (vs : Array Value) (T : TypeId) (hw : w.heap[b]? = some (.cells vs T (0, 0))) (hti : i.size = vs.size) :
    (Instr.loadAt t (.pointer (some ⟨b, 0, none⟩))).run P w = .ok (.agg vs) w := by
  have hr := run_loadCells_list (P := P) (w := w) ⟨b, 0, none⟩ vs.toList (fun j v hj => by
    have : (⟨b, 0, none⟩ : Addr).add j = ⟨b, j, none⟩ := by simp [Addr.add]; omega
    rw [this, Lib.cell_of_heap hw]
    rw [Array.getElem?_toList] at hj
    exact hj)
  rw [Array.length_toList, Array.toArray_toList] at hr
  simp [Instr.loadAt, Instr.sureAddr, loadVar, hag, sizeOf, typeInfo, hi, hti, hr]
theorem wpList_load_row {P : Program} (w : World) {ops : Array Oper} {rest : List Oper} {o : Oper} {a : Act} {Q : Exit → Act → World → Prop}
    (hg : o.guard = none) (t : TypeId) (x : Operand) (hop : o.op = Op.load t x) (i : TypeInfo) (hi : P.info? t = some i) (hag : (isAgg t).run P w = .ok true w) (b : Nat) (vs : Array Value) (T : TypeId) (hx : a.eval x = .pointer (some ⟨b, 0, none⟩))
    (hw : w.heap[b]? = some (.cells vs T (0, 0))) (hti : i.size = vs.size)
    (hK : wpList P ops Q rest (a.put o.dst (.agg vs)) w) : wpList P ops Q (o :: rest) a w := by
  refine wpList_plain hg fun K hK' => ?_
  have hrun := run_loadAt_row (P := P) w t i hi hag b vs T hw hti
  unfold Oper.wp
  simp [execOp, hop, hx, hrun, Result.andThen]
  exact hK' _ _ hK
end Go.Proofs.Ythacjdlohmkpoaa
