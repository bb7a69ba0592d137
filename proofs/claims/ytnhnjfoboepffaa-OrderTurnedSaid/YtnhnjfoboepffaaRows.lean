/-
  No cell of these rows narrows 'for every input' (looked for: loops, veiled, ifaces, maps, wideKeys, modest, calm, conditions, laid).
  DERIVED. THE GIVEN ROWS OF THIS SEAT. 3 by the template 'for every input the law returns true; each argument reads behind the call as it read before'; 0 by the template 'total and deterministic' (their statements: YtnhnjfoboepffaaTotals.lean).
  GIVEN WITH THE SEED: the statements are not yours to turn. If you find one false, say at which input.
  Laid BY PROGRAM, IN A SANDBOX (cutbox-rows.mjs): the forced cells as the released guide's own fill.sh prints them over the translation d3736c291d8f465a… (all of the seat's roots in one cut). By AI agents, Wed Nov 11 2026. No macro, syntax, notation, axiom, sorry.
-/
import Derived.Test.YtnhnjfoboepffaaChecked
import GoSem.Claim
import GoSem.ClaimJoined
import GoSem.ClaimMapViews
import Derived.JoinedTies
import Derived.KernelRfl
namespace Go.Proofs.Ytnhnjfoboepffaa
/- THE CELL 'sum', in the pinned program and in every row, IS THE sha256 OF THE DUMP (.gsa) THAT YtnhnjfoboepffaaProg.lean LOADS. Nothing in Lean hashes anything: it is a label: what it is worth is what the hold of that sum in a sandbox is worth. -/
noncomputable def Try.pinned : Pinned := { name := "ytnhnjfoboepffaa", sum := "d3736c291d8f465a8919953d803f0136f3aae7f3f16ae0164fb025437601aff0", checked := Try.checked }
namespace Rows
def none {H : Type} : Left H := { results := [], args := [] }

/-- 'dripstonelaw03.OrderSlims': WHATEVER THE INPUT: true; the input reads as it did. -/
def orderSlimsSpec : ChangeSpec := { name := "orderSlims", fn := fun _ => fun
  | [d] => { results := [.lit (.bool true)], args := [d] }
  | _ => none }
def orderSlimsRow : OpenClaim := { program := "ytnhnjfoboepffaa", sum := "d3736c291d8f465a8919953d803f0136f3aae7f3f16ae0164fb025437601aff0", func := "dripstone/dripstonelaw03.OrderSlims", spec := "orderSlims", inPlace := ["internal/abi.NoEscape", "internal/bytealg.MakeNoZero"], unfollowed := true, recurses := true, apart := false }
def OrderSlimsSaid : Prop := orderSlimsRow.holds Try.pinned (OpenSpec.ofChange orderSlimsSpec)

/-- ITS FALSE NEIGHBOUR: 'it returns false'. Refute it at one input. -/
def orderSlimsWrong : ChangeSpec := { name := "orderSlims", fn := fun _ => fun
  | [d] => { results := [.lit (.bool false)], args := [d] }
  | _ => none }
def OrderSlimsWrongFalsely : Prop := orderSlimsRow.holds Try.pinned (OpenSpec.ofChange orderSlimsWrong)

/-- 'dripstonelaw03.OrderSlim': WHATEVER THE INPUT: true; the input reads as it did. -/
def orderSlimSpec : ChangeSpec := { name := "orderSlim", fn := fun _ => fun
  | [d] => { results := [.lit (.bool true)], args := [d] }
  | _ => none }
def orderSlimRow : OpenClaim := { program := "ytnhnjfoboepffaa", sum := "d3736c291d8f465a8919953d803f0136f3aae7f3f16ae0164fb025437601aff0", func := "dripstone/dripstonelaw03.OrderSlim", spec := "orderSlim", inPlace := ["internal/abi.NoEscape", "internal/bytealg.MakeNoZero"], unfollowed := true, recurses := true, apart := false }
def OrderSlimSaid : Prop := orderSlimRow.holds Try.pinned (OpenSpec.ofChange orderSlimSpec)

/-- ITS FALSE NEIGHBOUR: 'it returns false'. Refute it at one input. -/
def orderSlimWrong : ChangeSpec := { name := "orderSlim", fn := fun _ => fun
  | [d] => { results := [.lit (.bool false)], args := [d] }
  | _ => none }
def OrderSlimWrongFalsely : Prop := orderSlimRow.holds Try.pinned (OpenSpec.ofChange orderSlimWrong)

/-- 'dripstonelaw03.OrderTurned': WHATEVER THE INPUT: true; the input reads as it did. -/
def orderTurnedSpec : ChangeSpec := { name := "orderTurned", fn := fun _ => fun
  | [d1, d2] => { results := [.lit (.bool true)], args := [d1, d2] }
  | _ => none }
def orderTurnedRow : OpenClaim := { program := "ytnhnjfoboepffaa", sum := "d3736c291d8f465a8919953d803f0136f3aae7f3f16ae0164fb025437601aff0", func := "dripstone/dripstonelaw03.OrderTurned", spec := "orderTurned", inPlace := ["internal/abi.NoEscape", "internal/bytealg.MakeNoZero"], unfollowed := true, recurses := true, apart := false }
def OrderTurnedSaid : Prop := orderTurnedRow.holds Try.pinned (OpenSpec.ofChange orderTurnedSpec)

/-- ITS FALSE NEIGHBOUR: 'it returns false'. Refute it at one input. -/
def orderTurnedWrong : ChangeSpec := { name := "orderTurned", fn := fun _ => fun
  | [d1, d2] => { results := [.lit (.bool false)], args := [d1, d2] }
  | _ => none }
def OrderTurnedWrongFalsely : Prop := orderTurnedRow.holds Try.pinned (OpenSpec.ofChange orderTurnedWrong)

/- THE SECOND FORM. 'bulk': how many values and letters a reading holds, each counted each time it is reached (what is shared counts as often as it is met; a slice's spare places count too). A statement '..UptoSaid' is the law's where the arguments, and the package variables that the reading takes, are together of bulk at most 1048576: NARROWER than '..Said'. Prove '..Said' where nothing that the law and all that it calls make is longer than what came in: it says more and counts as full. Else prove '..UptoSaid'. A law counts once. -/
mutual
def uptoBulk {H : Type} : DataW H → Nat
  | .lit (.string bytes) => bytes.length + 1
  | .lit _ => 1
  | .nil => 1
  | .ptr d => uptoBulk d + 1
  | .slice elems spare => uptoBulkAll elems + uptoBulkAll spare + 1
  | .agg parts => uptoBulkAll parts + 1
  | .iface _ d => uptoBulk d + 1
  | .map entries => uptoBulkEntries entries + 1
  | .held _ => 1
def uptoBulkAll {H : Type} : List (DataW H) → Nat
  | [] => 0
  | d :: r => uptoBulk d + uptoBulkAll r
def uptoBulkEntries {H : Type} : List (Lit × DataW H) → Nat
  | [] => 0
  | x :: r => uptoBulkEntry x + uptoBulkEntries r
def uptoBulkEntry {H : Type} : Lit × DataW H → Nat
  | (.string bytes, d) => bytes.length + uptoBulk d + 1
  | (_, d) => uptoBulk d + 1
 end
def uptoSmall : (H : Type) → List (DataW H) → Bool := fun _ ds => decide (uptoBulkAll ds ≤ 1048576)
def OpenSpec.upto (s : _root_.Go.ChangeSpec) : _root_.Go.OpenSpec := { _root_.Go.OpenSpec.ofChange s with cond := some uptoSmall }

/-- 'dripstonelaw03.OrderSlims', WHERE WHAT IT READS IS OF BULK AT MOST 1048576: true; the input reads as it did. -/
def orderSlimsUptoRow : OpenClaim := { program := "ytnhnjfoboepffaa", sum := "d3736c291d8f465a8919953d803f0136f3aae7f3f16ae0164fb025437601aff0", func := "dripstone/dripstonelaw03.OrderSlims", spec := "orderSlims", inPlace := ["internal/abi.NoEscape", "internal/bytealg.MakeNoZero"], unfollowed := true, recurses := true, apart := false, narrowed := true }
def OrderSlimsUptoSaid : Prop := orderSlimsUptoRow.holds Try.pinned (OpenSpec.upto orderSlimsSpec)

/-- 'dripstonelaw03.OrderSlim', WHERE WHAT IT READS IS OF BULK AT MOST 1048576: true; the input reads as it did. -/
def orderSlimUptoRow : OpenClaim := { program := "ytnhnjfoboepffaa", sum := "d3736c291d8f465a8919953d803f0136f3aae7f3f16ae0164fb025437601aff0", func := "dripstone/dripstonelaw03.OrderSlim", spec := "orderSlim", inPlace := ["internal/abi.NoEscape", "internal/bytealg.MakeNoZero"], unfollowed := true, recurses := true, apart := false, narrowed := true }
def OrderSlimUptoSaid : Prop := orderSlimUptoRow.holds Try.pinned (OpenSpec.upto orderSlimSpec)

/-- 'dripstonelaw03.OrderTurned', WHERE WHAT IT READS IS OF BULK AT MOST 1048576: true; the input reads as it did. -/
def orderTurnedUptoRow : OpenClaim := { program := "ytnhnjfoboepffaa", sum := "d3736c291d8f465a8919953d803f0136f3aae7f3f16ae0164fb025437601aff0", func := "dripstone/dripstonelaw03.OrderTurned", spec := "orderTurned", inPlace := ["internal/abi.NoEscape", "internal/bytealg.MakeNoZero"], unfollowed := true, recurses := true, apart := false, narrowed := true }
def OrderTurnedUptoSaid : Prop := orderTurnedUptoRow.holds Try.pinned (OpenSpec.upto orderTurnedSpec)

end Rows
end Go.Proofs.Ytnhnjfoboepffaa
