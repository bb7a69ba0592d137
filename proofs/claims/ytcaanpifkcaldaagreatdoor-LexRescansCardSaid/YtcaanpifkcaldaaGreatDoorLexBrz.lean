/- DERIVED. The statement LexRescans: its row, and its tied card. -/
import Derived.Test.YtcaanpifkcaldaaGreatDoorLexBr
import Derived.Test.YtcaanpifkcaldaaGreatDoorLexRow2
import Derived.Test.YtcaanpifkcaldaaGreatDoorTie
import Derived.Test.YtcaanpifkcaldaaGreatDoorCards
import Derived.SevenTiedAt
namespace Go.Proofs.YtcaanpifkcaldaaGreatDoor
open Go.RowKit Go.WideMaps Go.Maps Go.Shelf
open Go.ChangeShapes Go.WideShapes Go.ChangeAt Go.WideElems Go.ChangeMaps

set_option maxRecDepth 100000 in
theorem lexRescans_lifted (os : Os) (started : os.Started) (H : Type) (enc : TypeId × Value → H) :
    ReturnsInHanded {} Tryz.checked os 6 .any (fun w args => (Rows.lexRescansSpec.pre enc Tryz.prog Tryz.f6 [] false w args ∧ laidMetH Tryz.prog laidL w) ∧ sizedMet enc Tryz.prog Tryz.f6 (OpenSpec.ofChange Rows.lexRescansSpec) false w args)
      (Rows.lexRescansSpec.post enc Tryz.prog Tryz.f6 false true false false) := by
  refine returnsInHanded_of_change_and (C := Tryz.checked) (X := fun w _ => laidMetH Tryz.prog laidL w) (fun _ _ _ hh h => h.of_heap hh) own started (by kernel_rfl) Tryz.func6
    (ChangeSpec.witness_shaped (enc := enc) (C := Tryz.checked) (os := os) (X := fun w _ => laidMetH Tryz.prog laidL w) false (World.doorLaid Tryz.prog 400 os) #[.string ⟨#[]⟩, .agg #[.int .i64 0, .int .i64 0, .string ⟨#[]⟩]] 8 rfl (World.shaped_of_RefB (by kernel_rfl) (by kernel_rfl)) (by kernel_rfl) (by kernel_rfl) (by kernel_rfl) (door_met os _)) ?_
  intro W base args ds gs before hval0 hW _ hsz hL _
  have hval : ∀ (j : Nat) t v, Tryz.f6.params[j]? = some t → args[j]? = some v → Value.okWide Tryz.prog W .any base t v := hval0
  have hW' := hW
  obtain ⟨p, q, hA0, hV, rfl, hfz, hnd⟩ := hW
  have hA : DataW.TrodAll enc Tryz.prog W 0 (fun _ => true) true Tryz.f6.params.toList args.toList ds p := hA0
  rw [Tryz.params6] at hA hval hsz
  obtain ⟨v0, v1, d0, d1, p0, p1, rfl, rfl, rfl, h0, h1⟩ := trodAll_two hA
  obtain ⟨rfl, rfl⟩ := trodVars_none hV
  obtain ⟨s, rfl, rfl, rfl, hs⟩ := open_string Tryz.underlying9 (hval 0 9 v0 rfl rfl) h0
  obtain ⟨x, rfl, rfl, rfl, hx⟩ := ed_open (hval 1 35 v1 rfl rfl) h1
  have hx2 := ed_size hsz (j := 1) (x := x) rfl rfl
  refine (lexRescans_any s x W (ready_of_laid hL) hs (by omega)).mono fun e W' ⟨he, hB⟩ => ?_
  subst he
  have e1 : Rows.lexRescansSpec.fn H ([.lit (.string s.data.toList), edD x] ++ []) = { results := [.lit (.bool true)], args := [.lit (.string s.data.toList), edD x] } := rfl
  refine ⟨_, rfl, _, _, _, [], [], [], hW', ?_, ?_, ?_, hB.frame _, fun h => by cases h⟩
  · rw [e1]; exact trodAll_mk1 (shut_bool Tryz.underlying4 true)
  · rw [e1]; exact trodAll_mk2 (shut_string Tryz.underlying9 hs) (ed_shut x hx)
  · rw [e1]; rfl

theorem lexRescans_holds : Rows.LexRescansSaid :=
  OpenClaim.holds_of_wide 6 Tryz.f6 rfl rfl rfl rfl rfl rfl rfl ⟨rfl, rfl, rfl, rfl, rfl⟩ rfl rfl rfl rfl rfl (by kernel_rfl) Tryz.func6 (by kernel_rfl)
    (of_decide_eq_true (by kernel_rfl)) (by unfold Func.isWrapper; first | (rw [if_pos (by decide +kernel)]; kernel_rfl) | (rw [if_neg (by decide +kernel)]; exact ⟨rfl, rfl⟩))
    (fun os started H enc _ => lexRescans_lifted os started H enc)

theorem lexRescans_card : Rows.LexRescansCardSaid :=
  Claim7.holds_tied_plain_at .later [] [.data, .data, .data, .sentinel, .sentinel] true (true, "f5ab7d9d2611e1c9acd90457b8189ce4a47540926d8d63495c48ab601beac922") true
    lexRescans_holds (fun _ h => by cases h) (by kernel_rfl) (fun _ h => by cases h) lexRescans_row_tie rfl ⟨rfl, rfl⟩ (by kernel_rfl) rfl
    (fun f fn hf hfn => by
      obtain rfl : f = 6 := Option.some.inj ((show Tryz.prog.funcNamed "dripstone/dripstonelaw01.LexRescans" = some 6 by kernel_rfl).symm.trans hf) |>.symm
      obtain rfl : fn = Tryz.f6 := (Option.some.inj (Tryz.func6.symm.trans hfn)).symm
      exact ⟨by kernel_rfl, fun j t ht => by
        rw [Tryz.params6] at ht
        have hm : t ∈ [9, 35] := by simpa using Array.mem_of_getElem? ht
        have hall : ([9, 35].all fun u => !Tryz.prog.wantsStandIn u) = true := by kernel_rfl
        exact (show Tryz.prog.wantsStandIn t = false by simpa using List.all_eq_true.1 hall t hm)⟩)
    (by kernel_rfl)
#print axioms lexRescans_card
end Go.Proofs.YtcaanpifkcaldaaGreatDoor
