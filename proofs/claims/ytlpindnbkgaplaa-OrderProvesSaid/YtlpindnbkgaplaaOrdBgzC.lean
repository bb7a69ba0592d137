/- DERIVED. For every table, whatever lies in memory and in whatever order Go takes what it leaves open, the statement OrderProves answers true and leaves its table as it was. No condition. -/
import Derived.Test.YtlpindnbkgaplaaOrdBgC
import Derived.Test.YtlpindnbkgaplaaGr27
namespace Go.Proofs.Ytlpindnbkgaplaa
open Go.RowKit Go.WideMaps Go.Maps
open Go.ChangeShapes Go.WideShapes Go.ChangeAt Go.WideElems Go.ChangeMaps

set_option maxRecDepth 100000 in
set_option maxHeartbeats 1000000 in
theorem orderProves_lifted (os : Os) (started : os.Started) (H : Type) (enc : TypeId × Value → H) :
    ReturnsInHanded {} Try.checked os 3 .any (Rows.orderProvesSpec.pre6 enc Try.prog Try.f3 Rows.orderProvesRow.domain false) (Rows.orderProvesSpec.post enc Try.prog Try.f3 false true false false) := by
  refine returnsInHanded_of_change (C := Try.checked) own started (by kernel_rfl) Try.func3
    (ChangeSpec.witness6 (enc := enc) (C := Try.checked) false ⟨#[], #[.agg #[.string ⟨#[]⟩, .slice none 0 0, .slice none 0 0, .slice none 0 0]], []⟩ 8 (by kernel_rfl) (by kernel_rfl) (by kernel_rfl) (by kernel_rfl)) ?_
  intro W base args ds gs before hval0 hW _ _
  have hval : ∀ (j : Nat) t v, Try.f3.params[j]? = some t → args[j]? = some v → Value.okWide Try.prog W .any base t v := hval0
  have hW' := hW
  obtain ⟨p, q, hA0, hV, rfl, hfz, hnd⟩ := hW
  have hA : DataW.TrodAll enc Try.prog W 0 (fun _ => true) true Try.f3.params.toList args.toList ds p := hA0
  rw [Try.params3] at hA hval
  obtain ⟨v0, d0, rfl, rfl, h0⟩ := trodAll_one hA
  obtain ⟨rfl, rfl⟩ := trodVars_none hV
  obtain ⟨t, tp, rfl, ht⟩ := tb_open (hval 0 26 v0 rfl rfl) h0
  obtain ⟨fuel, hf⟩ := h0
  have hlt := DataW.trod_lt fuel _ _ _ hf
  refine (orderProves_any t tp W ht).mono fun e W' ⟨he, hB⟩ => ?_
  subst he
  have e1 : Rows.orderProvesSpec.fn H ([d0] ++ []) = { results := [.lit (.bool true)], args := [d0] } := rfl
  refine ⟨_, rfl, _, _, _, [], p, [], hW', ?_, ?_, ?_, hB.frame _, fun h => by cases h⟩
  · rw [e1]; exact trodAll_mk1 (shut_bool Try.underlying4 true)
  · rw [e1]
    exact trodAll_mk1 (Below.trod (by kernel_rfl) (by kernel_rfl) (by decide +kernel) ⟨fuel, hf⟩ hB hlt)
  · rw [e1]; rfl

theorem orderProves_holds : Rows.OrderProvesSaid :=
  OpenClaim.holds_of_wide 3 Try.f3 rfl rfl rfl rfl rfl rfl rfl ⟨rfl, rfl, rfl, rfl, rfl⟩ rfl rfl rfl rfl rfl (by kernel_rfl) Try.func3 (by kernel_rfl)
    (of_decide_eq_true (by kernel_rfl)) (by unfold Func.isWrapper; first | (rw [if_pos (by decide +kernel)]; kernel_rfl) | (rw [if_neg (by decide +kernel)]; exact ⟨rfl, rfl⟩))
    (fun os started H enc _ => orderProves_lifted os started H enc)
#print axioms orderProves_holds
end Go.Proofs.Ytlpindnbkgaplaa
