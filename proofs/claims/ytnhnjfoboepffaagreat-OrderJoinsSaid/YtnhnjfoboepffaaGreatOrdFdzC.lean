/- DERIVED. For all arguments, whatever lies in memory and in whatever order Go takes what it leaves open, the statement OrderJoins answers true and leaves its arguments as they were. No condition. -/
import Derived.Test.YtnhnjfoboepffaaGreatOrdFdC
import Derived.Test.YtnhnjfoboepffaaGreatGr4
namespace Go.Proofs.YtnhnjfoboepffaaGreat
open Go.RowKit Go.WideMaps Go.Maps
open Go.ChangeShapes Go.WideShapes Go.ChangeAt Go.WideElems Go.ChangeMaps

set_option maxRecDepth 100000 in
set_option maxHeartbeats 1000000 in
theorem orderJoins_lifted (os : Os) (started : os.Started) (H : Type) (enc : TypeId × Value → H) :
    ReturnsInHanded {} Tryz.checked os 3 .any (Rows.orderJoinsSpec.pre6 enc Tryz.prog Tryz.f3 Rows.orderJoinsRow.domain false) (Rows.orderJoinsSpec.post enc Tryz.prog Tryz.f3 false true false false) := by
  refine returnsInHanded_of_change (C := Tryz.checked) own started (by kernel_rfl) Tryz.func3
    (ChangeSpec.witness6 (enc := enc) (C := Tryz.checked) false ⟨#[], #[.agg #[.string ⟨#[]⟩, .slice none 0 0, .slice none 0 0, .slice none 0 0], .agg #[.int .i64 0, .int .i64 0]], []⟩ 8 (by kernel_rfl) (by kernel_rfl) (by kernel_rfl) (by kernel_rfl)) ?_
  intro W base args ds gs before hval0 hW _ _
  have hval : ∀ (j : Nat) t v, Tryz.f3.params[j]? = some t → args[j]? = some v → Value.okWide Tryz.prog W .any base t v := hval0
  have hW' := hW
  obtain ⟨p, q, hA0, hV, rfl, hfz, hnd⟩ := hW
  have hA : DataW.TrodAll enc Tryz.prog W 0 (fun _ => true) true Tryz.f3.params.toList args.toList ds p := hA0
  rw [Tryz.params3] at hA hval
  obtain ⟨v0, v1, d0, d1, p0, p1, rfl, rfl, rfl, h0, h1⟩ := trodAll_two hA
  obtain ⟨rfl, rfl⟩ := trodVars_none hV
  obtain ⟨t0, q0, rfl, ht0⟩ := tb_open (hval 0 26 v0 rfl rfl) h0
  obtain ⟨a1, b1, rfl⟩ := pr_open (hval 1 28 v1 rfl rfl) h1
  obtain ⟨fuel0, hf0⟩ := h0
  have hlt0 := DataW.trod_lt fuel0 _ _ _ hf0
  obtain ⟨fuel1, hf1⟩ := h1
  have hlt1 := DataW.trod_lt fuel1 _ _ _ hf1
  refine (orderJoins_any t0 q0 a1 b1 W ht0).mono fun e W' ⟨he, hB⟩ => ?_
  subst he
  have e1 : Rows.orderJoinsSpec.fn H ([d0, d1] ++ []) = { results := [.lit (.bool true)], args := [d0, d1] } := rfl
  refine ⟨_, rfl, _, _, _, [], p0 ++ p1, [], hW', ?_, ?_, ?_, hB.frame _, fun h => by cases h⟩
  · rw [e1]; exact trodAll_mk1 (shut_bool Tryz.underlying4 true)
  · rw [e1]
    exact trodAll_mk2 (Below.trod (by kernel_rfl) (by kernel_rfl) (by decide +kernel) ⟨fuel0, hf0⟩ hB hlt0) (Below.trod (by kernel_rfl) (by kernel_rfl) (by decide +kernel) ⟨fuel1, hf1⟩ hB hlt1)
  · rw [e1]; rfl

theorem orderJoins_holds : Rows.OrderJoinsSaid :=
  OpenClaim.holds_of_wide 3 Tryz.f3 rfl rfl rfl rfl rfl rfl rfl ⟨rfl, rfl, rfl, rfl, rfl⟩ rfl rfl rfl rfl rfl (by kernel_rfl) Tryz.func3 (by kernel_rfl)
    (of_decide_eq_true (by kernel_rfl)) (by unfold Func.isWrapper; first | (rw [if_pos (by decide +kernel)]; kernel_rfl) | (rw [if_neg (by decide +kernel)]; exact ⟨rfl, rfl⟩))
    (fun os started H enc _ => orderJoins_lifted os started H enc)
#print axioms orderJoins_holds
end Go.Proofs.YtnhnjfoboepffaaGreat
