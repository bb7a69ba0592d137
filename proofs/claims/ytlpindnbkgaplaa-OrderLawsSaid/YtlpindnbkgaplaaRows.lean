/-
  No cell of these rows narrows 'for every input' (looked for: loops, veiled, ifaces, maps, wideKeys, modest, calm, conditions, laid).
  DERIVED. THE GIVEN ROWS OF THIS SEAT. 4 by the template 'for every input the law returns true; each argument reads behind the call as it read before'; 0 by the template 'total and deterministic' (their statements: YtlpindnbkgaplaaTotals.lean).
  GIVEN WITH THE SEED: the statements are not yours to turn. If you find one false, say at which input.
  Laid BY PROGRAM, IN A SANDBOX (cutbox-rows.mjs): the forced cells as the released guide's own fill.sh prints them over the translation 12cf8a3fa3f0ac9c… (all of the seat's roots in one cut). By AI agents, Wed Nov 11 2026. No macro, syntax, notation, axiom, sorry.
-/
import Derived.Test.YtlpindnbkgaplaaChecked
import GoSem.Claim
import GoSem.ClaimJoined
import GoSem.ClaimMapViews
import Derived.JoinedTies
import Derived.KernelRfl
namespace Go.Proofs.Ytlpindnbkgaplaa
/- THE CELL 'sum', in the pinned program and in every row, IS THE sha256 OF THE DUMP (.gsa) THAT YtlpindnbkgaplaaProg.lean LOADS. Nothing in Lean hashes anything: it is a label: what it is worth is what the hold of that sum in a sandbox is worth. -/
noncomputable def Try.pinned : Pinned := { name := "ytlpindnbkgaplaa", sum := "12cf8a3fa3f0ac9cb677c3d073eb3169f2f6a4883e799b1fd06c44b7da570018", checked := Try.checked }
namespace Rows
def none {H : Type} : Left H := { results := [], args := [] }

/-- 'dripstonelaw03.OrderProves': WHATEVER THE INPUT: true; the input reads as it did. -/
def orderProvesSpec : ChangeSpec := { name := "orderProves", fn := fun _ => fun
  | [d] => { results := [.lit (.bool true)], args := [d] }
  | _ => none }
def orderProvesRow : OpenClaim := { program := "ytlpindnbkgaplaa", sum := "12cf8a3fa3f0ac9cb677c3d073eb3169f2f6a4883e799b1fd06c44b7da570018", func := "dripstone/dripstonelaw03.OrderProves", spec := "orderProves", inPlace := ["internal/abi.NoEscape", "internal/bytealg.MakeNoZero"], unfollowed := true, recurses := true, apart := false }
def OrderProvesSaid : Prop := orderProvesRow.holds Try.pinned (OpenSpec.ofChange orderProvesSpec)

/-- ITS FALSE NEIGHBOUR: 'it returns false'. Refute it at one input. -/
def orderProvesWrong : ChangeSpec := { name := "orderProves", fn := fun _ => fun
  | [d] => { results := [.lit (.bool false)], args := [d] }
  | _ => none }
def OrderProvesWrongFalsely : Prop := orderProvesRow.holds Try.pinned (OpenSpec.ofChange orderProvesWrong)

/-- 'dripstonelaw03.OrderReaches': WHATEVER THE INPUT: true; the input reads as it did. -/
def orderReachesSpec : ChangeSpec := { name := "orderReaches", fn := fun _ => fun
  | [d1, d2] => { results := [.lit (.bool true)], args := [d1, d2] }
  | _ => none }
def orderReachesRow : OpenClaim := { program := "ytlpindnbkgaplaa", sum := "12cf8a3fa3f0ac9cb677c3d073eb3169f2f6a4883e799b1fd06c44b7da570018", func := "dripstone/dripstonelaw03.OrderReaches", spec := "orderReaches", inPlace := ["internal/abi.NoEscape", "internal/bytealg.MakeNoZero"], unfollowed := true, recurses := true, apart := false }
def OrderReachesSaid : Prop := orderReachesRow.holds Try.pinned (OpenSpec.ofChange orderReachesSpec)

/-- ITS FALSE NEIGHBOUR: 'it returns false'. Refute it at one input. -/
def orderReachesWrong : ChangeSpec := { name := "orderReaches", fn := fun _ => fun
  | [d1, d2] => { results := [.lit (.bool false)], args := [d1, d2] }
  | _ => none }
def OrderReachesWrongFalsely : Prop := orderReachesRow.holds Try.pinned (OpenSpec.ofChange orderReachesWrong)

/-- 'dripstonelaw03.OrderSlims': WHATEVER THE INPUT: true; the input reads as it did. -/
def orderSlimsSpec : ChangeSpec := { name := "orderSlims", fn := fun _ => fun
  | [d] => { results := [.lit (.bool true)], args := [d] }
  | _ => none }
def orderSlimsRow : OpenClaim := { program := "ytlpindnbkgaplaa", sum := "12cf8a3fa3f0ac9cb677c3d073eb3169f2f6a4883e799b1fd06c44b7da570018", func := "dripstone/dripstonelaw03.OrderSlims", spec := "orderSlims", inPlace := ["internal/abi.NoEscape", "internal/bytealg.MakeNoZero"], unfollowed := true, recurses := true, apart := false }
def OrderSlimsSaid : Prop := orderSlimsRow.holds Try.pinned (OpenSpec.ofChange orderSlimsSpec)

/-- ITS FALSE NEIGHBOUR: 'it returns false'. Refute it at one input. -/
def orderSlimsWrong : ChangeSpec := { name := "orderSlims", fn := fun _ => fun
  | [d] => { results := [.lit (.bool false)], args := [d] }
  | _ => none }
def OrderSlimsWrongFalsely : Prop := orderSlimsRow.holds Try.pinned (OpenSpec.ofChange orderSlimsWrong)

/-- 'dripstonelaw03.OrderLaws': WHATEVER THE INPUT: true; the input reads as it did. -/
def orderLawsSpec : ChangeSpec := { name := "orderLaws", fn := fun _ => fun
  | [d] => { results := [.lit (.bool true)], args := [d] }
  | _ => none }
def orderLawsRow : OpenClaim := { program := "ytlpindnbkgaplaa", sum := "12cf8a3fa3f0ac9cb677c3d073eb3169f2f6a4883e799b1fd06c44b7da570018", func := "dripstone/dripstonelaw03.OrderLaws", spec := "orderLaws", inPlace := ["internal/abi.NoEscape", "internal/bytealg.MakeNoZero"], unfollowed := true, recurses := true, apart := false }
def OrderLawsSaid : Prop := orderLawsRow.holds Try.pinned (OpenSpec.ofChange orderLawsSpec)

/-- ITS FALSE NEIGHBOUR: 'it returns false'. Refute it at one input. -/
def orderLawsWrong : ChangeSpec := { name := "orderLaws", fn := fun _ => fun
  | [d] => { results := [.lit (.bool false)], args := [d] }
  | _ => none }
def OrderLawsWrongFalsely : Prop := orderLawsRow.holds Try.pinned (OpenSpec.ofChange orderLawsWrong)

/- THE SECOND FORM. 'bulk': how many values and letters a reading holds, each counted each time it is reached (what is shared counts as often as it is met; a slice's spare places count too). A statement '..UptoSaid' is the law's where the arguments, and the package variables that the reading takes, are together of bulk at most 1048576: NARROWER than '..Said'. Prove '..Said' where nothing that the law and all that it calls make is longer than what came in: it says more and counts as full. Else prove '..UptoSaid'. A law counts once. -/
mutual
def uptoBulk {H : Type} : DataW H → Nat
  | .lit (.string bytes) => bytes.length + 1
  | .lit _ => 1
  | .nil => 1
  | .ptr d => uptoBulk d + 1
  | .slice elems spare => uptoBulkAll elems + uptoBulkAll spare + 1
  | .agg parts => uptoBulkAll parts + 1
  | .iface _ d => uptoBulk d + 1
  | .map entries => uptoBulkEntries entries + 1
  | .held _ => 1
def uptoBulkAll {H : Type} : List (DataW H) → Nat
  | [] => 0
  | d :: r => uptoBulk d + uptoBulkAll r
def uptoBulkEntries {H : Type} : List (Lit × DataW H) → Nat
  | [] => 0
  | x :: r => uptoBulkEntry x + uptoBulkEntries r
def uptoBulkEntry {H : Type} : Lit × DataW H → Nat
  | (.string bytes, d) => bytes.length + uptoBulk d + 1
  | (_, d) => uptoBulk d + 1
 end
def uptoSmall : (H : Type) → List (DataW H) → Bool := fun _ ds => decide (uptoBulkAll ds ≤ 1048576)
def OpenSpec.upto (s : _root_.Go.ChangeSpec) : _root_.Go.OpenSpec := { _root_.Go.OpenSpec.ofChange s with cond := some uptoSmall }

/-- 'dripstonelaw03.OrderProves', WHERE WHAT IT READS IS OF BULK AT MOST 1048576: true; the input reads as it did. -/
def orderProvesUptoRow : OpenClaim := { program := "ytlpindnbkgaplaa", sum := "12cf8a3fa3f0ac9cb677c3d073eb3169f2f6a4883e799b1fd06c44b7da570018", func := "dripstone/dripstonelaw03.OrderProves", spec := "orderProves", inPlace := ["internal/abi.NoEscape", "internal/bytealg.MakeNoZero"], unfollowed := true, recurses := true, apart := false, narrowed := true }
def OrderProvesUptoSaid : Prop := orderProvesUptoRow.holds Try.pinned (OpenSpec.upto orderProvesSpec)

/-- 'dripstonelaw03.OrderReaches', WHERE WHAT IT READS IS OF BULK AT MOST 1048576: true; the input reads as it did. -/
def orderReachesUptoRow : OpenClaim := { program := "ytlpindnbkgaplaa", sum := "12cf8a3fa3f0ac9cb677c3d073eb3169f2f6a4883e799b1fd06c44b7da570018", func := "dripstone/dripstonelaw03.OrderReaches", spec := "orderReaches", inPlace := ["internal/abi.NoEscape", "internal/bytealg.MakeNoZero"], unfollowed := true, recurses := true, apart := false, narrowed := true }
def OrderReachesUptoSaid : Prop := orderReachesUptoRow.holds Try.pinned (OpenSpec.upto orderReachesSpec)

/-- 'dripstonelaw03.OrderSlims', WHERE WHAT IT READS IS OF BULK AT MOST 1048576: true; the input reads as it did. -/
def orderSlimsUptoRow : OpenClaim := { program := "ytlpindnbkgaplaa", sum := "12cf8a3fa3f0ac9cb677c3d073eb3169f2f6a4883e799b1fd06c44b7da570018", func := "dripstone/dripstonelaw03.OrderSlims", spec := "orderSlims", inPlace := ["internal/abi.NoEscape", "internal/bytealg.MakeNoZero"], unfollowed := true, recurses := true, apart := false, narrowed := true }
def OrderSlimsUptoSaid : Prop := orderSlimsUptoRow.holds Try.pinned (OpenSpec.upto orderSlimsSpec)

/-- 'dripstonelaw03.OrderLaws', WHERE WHAT IT READS IS OF BULK AT MOST 1048576: true; the input reads as it did. -/
def orderLawsUptoRow : OpenClaim := { program := "ytlpindnbkgaplaa", sum := "12cf8a3fa3f0ac9cb677c3d073eb3169f2f6a4883e799b1fd06c44b7da570018", func := "dripstone/dripstonelaw03.OrderLaws", spec := "orderLaws", inPlace := ["internal/abi.NoEscape", "internal/bytealg.MakeNoZero"], unfollowed := true, recurses := true, apart := false, narrowed := true }
def OrderLawsUptoSaid : Prop := orderLawsUptoRow.holds Try.pinned (OpenSpec.upto orderLawsSpec)

end Rows
end Go.Proofs.Ytlpindnbkgaplaa
