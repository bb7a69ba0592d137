/- DERIVED. A region that draws its order: the one operation that may come up is a call. -/
import Derived.Test.YtlpindnbkgaplaaGr26
namespace Go.Proofs.Ytlpindnbkgaplaa
open Go.RowKit

theorem wpAnyH_call {P : Program} {md : Region.Mode} {ops : Array Oper} {Q : Exit → Act → World → Prop} {S : World → Prop} {fuel : Nat} {listed : Array Bool} {a : Act} {w : World} (i : Nat) {o : Oper} (f : FuncId) (args : Array Value) (V : Value) (hr : Region.ready md ops listed = [i]) (ho : ops[i]? = some o)
    (hw : Region.wanted o (yielded ops a.tmps) = true) (hx : (execOp a.eval o).run P w = .ok (.enter f args) w)
    (hc : Calls P f args w fun e w' => e = .returned V ∧ Below w.heap.size w w')
    (h : ∀ w', Below w.heap.size w w' → S w' ∧ wpAnyH P md ops Q S fuel (listed.setIfInBounds i true) (a.put o.dst V) w') : wpAnyH P md ops Q S (fuel + 1) listed a w :=
  wpAnyH_all hr (by simp) (fun j hj => by
    rw [List.mem_singleton] at hj
    subst hj
    unfold wpOp
    rw [ho]
    simp only
    rw [if_pos hw]
    refine Or.inl ?_
    unfold Oper.wp
    rw [hx]
    refine hc.mono fun e w' ⟨he, hB⟩ => ?_
    subst he
    exact h w' hB)
end Go.Proofs.Ytlpindnbkgaplaa
