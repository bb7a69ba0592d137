/- DERIVED. For all arguments, whatever lies in memory and in whatever order Go takes what it leaves open, the statement OrderTurned answers true and leaves its arguments as they were. No condition. -/
import Derived.Test.YtnhnjfoboepffaaOrdGdC
import Derived.Test.YtnhnjfoboepffaaGr9
namespace Go.Proofs.Ytnhnjfoboepffaa
open Go.RowKit Go.WideMaps Go.Maps
open Go.ChangeShapes Go.WideShapes Go.ChangeAt Go.WideElems Go.ChangeMaps

set_option maxRecDepth 100000 in
set_option maxHeartbeats 1000000 in
theorem orderTurned_lifted (os : Os) (started : os.Started) (H : Type) (enc : TypeId × Value → H) :
    ReturnsInHanded {} Try.checked os 5 .any (Rows.orderTurnedSpec.pre6 enc Try.prog Try.f5 Rows.orderTurnedRow.domain false) (Rows.orderTurnedSpec.post enc Try.prog Try.f5 false true false false) := by
  refine returnsInHanded_of_change (C := Try.checked) own started (by kernel_rfl) Try.func5
    (ChangeSpec.witness6 (enc := enc) (C := Try.checked) false ⟨#[], #[.agg #[.string ⟨#[]⟩, .slice none 0 0, .slice none 0 0, .slice none 0 0], .slice none 0 0], []⟩ 8 (by kernel_rfl) (by kernel_rfl) (by kernel_rfl) (by kernel_rfl)) ?_
  intro W base args ds gs before hval0 hW _ _
  have hval : ∀ (j : Nat) t v, Try.f5.params[j]? = some t → args[j]? = some v → Value.okWide Try.prog W .any base t v := hval0
  have hW' := hW
  obtain ⟨p, q, hA0, hV, rfl, hfz, hnd⟩ := hW
  have hA : DataW.TrodAll enc Try.prog W 0 (fun _ => true) true Try.f5.params.toList args.toList ds p := hA0
  rw [Try.params5] at hA hval
  obtain ⟨v0, v1, d0, d1, p0, p1, rfl, rfl, rfl, h0, h1⟩ := trodAll_two hA
  obtain ⟨rfl, rfl⟩ := trodVars_none hV
  obtain ⟨t0, q0, rfl, ht0⟩ := tb_open (hval 0 26 v0 rfl rfl) h0
  obtain ⟨y1, c1, l1, rfl, hn1, hy1⟩ := by_open (hval 1 41 v1 rfl rfl) h1
  obtain ⟨fuel0, hf0⟩ := h0
  have hlt0 := DataW.trod_lt fuel0 _ _ _ hf0
  obtain ⟨fuel1, hf1⟩ := h1
  have hlt1 := DataW.trod_lt fuel1 _ _ _ hf1
  refine (orderTurned_any t0 q0 y1 c1 l1 W ht0 hn1 hy1).mono fun e W' ⟨he, hB⟩ => ?_
  subst he
  have e1 : Rows.orderTurnedSpec.fn H ([d0, d1] ++ []) = { results := [.lit (.bool true)], args := [d0, d1] } := rfl
  refine ⟨_, rfl, _, _, _, [], p0 ++ p1, [], hW', ?_, ?_, ?_, hB.frame _, fun h => by cases h⟩
  · rw [e1]; exact trodAll_mk1 (shut_bool Try.underlying4 true)
  · rw [e1]
    exact trodAll_mk2 (Below.trod (by kernel_rfl) (by kernel_rfl) (by decide +kernel) ⟨fuel0, hf0⟩ hB hlt0) (Below.trod (by kernel_rfl) (by kernel_rfl) (by decide +kernel) ⟨fuel1, hf1⟩ hB hlt1)
  · rw [e1]; rfl

theorem orderTurned_holds : Rows.OrderTurnedSaid :=
  OpenClaim.holds_of_wide 5 Try.f5 rfl rfl rfl rfl rfl rfl rfl ⟨rfl, rfl, rfl, rfl, rfl⟩ rfl rfl rfl rfl rfl (by kernel_rfl) Try.func5 (by kernel_rfl)
    (of_decide_eq_true (by kernel_rfl)) (by unfold Func.isWrapper; first | (rw [if_pos (by decide +kernel)]; kernel_rfl) | (rw [if_neg (by decide +kernel)]; exact ⟨rfl, rfl⟩))
    (fun os started H enc _ => orderTurned_lifted os started H enc)
#print axioms orderTurned_holds
end Go.Proofs.Ytnhnjfoboepffaa
