/- DERIVED. The statement LexPatches: its row, and its tied card. -/
import Derived.Test.YtamdcloahkacnaaGreatDoorLexBz
import Derived.Test.YtamdcloahkacnaaGreatDoorLexRow4
import Derived.ChangeOld
import Derived.Test.YtamdcloahkacnaaGreatDoorTie
import Derived.Test.YtamdcloahkacnaaGreatDoorCards
import Derived.SevenTiedAt
namespace Go.Proofs.YtamdcloahkacnaaGreatDoor
open Go.RowKit Go.WideMaps Go.Maps Go.Shelf
open Go.ChangeShapes Go.WideShapes Go.ChangeAt Go.WideElems Go.ChangeMaps

set_option maxRecDepth 100000 in
set_option maxHeartbeats 1000000 in
theorem lexPatches_lifted (os : Os) (started : os.Started) (H : Type) (enc : TypeId × Value → H) :
    ReturnsInHanded {} Tryz.checked os 3 .any (fun w args => (Rows.lexPatchesSpec.pre enc Tryz.prog Tryz.f3 [] false w args ∧ laidMetH Tryz.prog laidL w) ∧ sizedMet enc Tryz.prog Tryz.f3 (OpenSpec.ofChange Rows.lexPatchesSpec) false w args)
      (Rows.lexPatchesSpec.post enc Tryz.prog Tryz.f3 false true false false) := by
  refine returnsInHanded_of_change_and (C := Tryz.checked) (X := fun w _ => laidMetH Tryz.prog laidL w) (fun _ _ _ hh h => h.of_heap hh) own started (by kernel_rfl) Tryz.func3
    (ChangeSpec.witness_shaped (enc := enc) (C := Tryz.checked) (os := os) (X := fun w _ => laidMetH Tryz.prog laidL w) false (World.doorLaid Tryz.prog 400 os) #[.slice none 0 0, .agg #[.int .i64 0, .int .i64 0, .string ⟨#[]⟩], .agg #[.int .i64 0, .int .i64 0, .slice none 0 0]] 8 rfl (World.shaped_of_RefB (by kernel_rfl) (by kernel_rfl)) (by kernel_rfl) (by kernel_rfl) (by kernel_rfl) (door_met os _)) ?_
  intro W base args ds gs before hval0 hW _ _ hL _
  have hval : ∀ (j : Nat) t v, Tryz.f3.params[j]? = some t → args[j]? = some v → Value.okWide Tryz.prog W .any base t v := hval0
  have hW' := hW
  obtain ⟨p, q, hA0, hV, rfl, hfz, hnd⟩ := hW
  have hA : DataW.TrodAll enc Tryz.prog W 0 (fun _ => true) true Tryz.f3.params.toList args.toList ds p := hA0
  rw [Tryz.params3] at hA hval
  obtain ⟨v0, v1, v2, d0, d1, d2, p0, p1, p2, rfl, rfl, rfl, h0, h1, h2⟩ := trodAll_three hA
  obtain ⟨rfl, rfl⟩ := trodVars_none hV
  obtain ⟨fuel, hf⟩ := h0
  obtain ⟨va, vl, vc, rfl⟩ := okWide_slice Tryz.underlying22 (hval 0 22 v0 rfl rfl)
  have hcap := lx_cap (a := va) (n := vl) (c := vc) hf
  obtain ⟨a, c, l, e0, hn, hl⟩ := lx_open (v := .slice va vl vc) hf
  cases e0
  have hlt := DataW.trod_lt fuel _ _ _ hf
  obtain ⟨x, rfl, rfl, rfl, hx⟩ := ed_open (hval 1 24 v1 rfl rfl) h1
  obtain ⟨hd, tl, a', c', nw, rfl, hn', hcap', hl'⟩ := ch_open (hval 2 26 v2 rfl rfl) h2
  obtain ⟨fuel2, hf2⟩ := h2
  have hlt2 := DataW.trod_lt fuel2 _ _ _ hf2
  refine (lexPatches_any va vc a' c' l nw x hd tl W (ready_of_laid hL) hn hn' hcap hl hl').mono fun e W' ⟨he, hB⟩ => ?_
  subst he
  have e1 : Rows.lexPatchesSpec.fn H ([d0, edD x, d2] ++ []) = { results := [.lit (.bool true)], args := [d0, edD x, d2] } := rfl
  refine ⟨_, rfl, _, _, _, [], p0 ++ ([] ++ p2), [], hW', ?_, ?_, ?_, hB.frame _, fun h => by cases h⟩
  · rw [e1]; exact trodAll_mk1 (shut_bool Tryz.underlying4 true)
  · rw [e1]
    exact trodAll_mk3 (Below.trod (by kernel_rfl) (by kernel_rfl) (by decide +kernel) ⟨fuel, hf⟩ hB hlt) (ed_shut x hx) (Below.trod (by kernel_rfl) (by kernel_rfl) (by decide +kernel) ⟨fuel2, hf2⟩ hB hlt2)
  · rw [e1]; rfl

theorem lexPatches_holds : Rows.LexPatchesSaid :=
  OpenClaim.holds_of_wide 3 Tryz.f3 rfl rfl rfl rfl rfl rfl rfl ⟨rfl, rfl, rfl, rfl, rfl⟩ rfl rfl rfl rfl rfl (by kernel_rfl) Tryz.func3 (by kernel_rfl)
    (of_decide_eq_true (by kernel_rfl)) (by unfold Func.isWrapper; first | (rw [if_pos (by decide +kernel)]; kernel_rfl) | (rw [if_neg (by decide +kernel)]; exact ⟨rfl, rfl⟩))
    (fun os started H enc _ => lexPatches_lifted os started H enc)

theorem lexPatches_card : Rows.LexPatchesCardSaid :=
  Claim7.holds_tied_plain_at .later [] [.data, .data, .data, .sentinel, .sentinel] true (true, "9bc5d46deb3e699249d2fee34f11e2d69fa537cefd19183f719203ac418eca1f") true
    lexPatches_holds (fun _ h => by cases h) (by kernel_rfl) (fun _ h => by cases h) lexPatches_row_tie rfl ⟨rfl, rfl⟩ (by kernel_rfl) rfl
    (fun f fn hf hfn => by
      obtain rfl : f = 3 := Option.some.inj ((show Tryz.prog.funcNamed "dripstone/dripstonelaw01.LexPatches" = some 3 by kernel_rfl).symm.trans hf) |>.symm
      obtain rfl : fn = Tryz.f3 := (Option.some.inj (Tryz.func3.symm.trans hfn)).symm
      exact ⟨by kernel_rfl, fun j t ht => by
        rw [Tryz.params3] at ht
        have hm : t ∈ [22, 24, 26] := by simpa using Array.mem_of_getElem? ht
        have hall : ([22, 24, 26].all fun u => !Tryz.prog.wantsStandIn u) = true := by kernel_rfl
        exact (show Tryz.prog.wantsStandIn t = false by simpa using List.all_eq_true.1 hall t hm)⟩)
    (by kernel_rfl)
#print axioms lexPatches_card
end Go.Proofs.YtamdcloahkacnaaGreatDoor
