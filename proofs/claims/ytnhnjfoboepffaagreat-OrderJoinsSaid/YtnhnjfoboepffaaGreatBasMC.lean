/- DERIVED. A region that draws its order: the one operation that may come up, walked; a struct of many cells that is loaded in it. -/
import Derived.Test.YtnhnjfoboepffaaGreatGr1
import Derived.Test.YtnhnjfoboepffaaGreatGr2
namespace Go.Proofs.YtnhnjfoboepffaaGreat
open Go.RowKit

theorem wpAnyH_one {P : Program} {md : Region.Mode} {ops : Array Oper} {Q : Exit → Act → World → Prop} {S : World → Prop} {fuel : Nat} {listed : Array Bool} {a : Act} {w : World} (i : Nat) {o : Oper} (hr : Region.ready md ops listed = [i]) (ho : ops[i]? = some o)
    (h : ∀ K' : Act → World → Prop, Hid (∀ a w, (S w ∧ wpAnyH P md ops Q S fuel (listed.setIfInBounds i true) a w) → K' a w) → wpList P ops (then1 K' Q) [o] a w) : wpAnyH P md ops Q S (fuel + 1) listed a w :=
  wpAnyH_all hr (by simp) (fun j hj => by
    rw [List.mem_singleton] at hj
    subst hj
    exact wpOp_walk ho h)
theorem run_exec_load_row {P : Program} {o : Oper} {ev : Operand → Value} (w : World) (t : TypeId) (x : Operand) (hop : o.op = Op.load t x) (i : TypeInfo) (hi : P.info? t = some i) (hag : (isAgg t).run P w = .ok true w) (b : Nat) (vs : Array Value) (T : TypeId) (hx : ev x = .pointer (some ⟨b, 0, none⟩))
    (hw : w.heap[b]? = some (.cells vs T (0, 0))) (hti : i.size = vs.size) : (execOp ev o).run P w = .ok (.value (.agg vs)) w := by
  have hrun := run_loadAt_row (P := P) w t i hi hag b vs T hw hti
  simp [execOp, hop, hx, hrun, Result.andThen]
end Go.Proofs.YtnhnjfoboepffaaGreat
