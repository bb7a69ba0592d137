/- Texts of one's own, joined: OrdX. -/
import Derived.Test.YtmgbdeomloklnaaGr10
import Derived.Deep.DeepCutAuto
import Derived.Deep.RegionWith
namespace Go.Proofs.Ytmgbdeomloklnaa
open Go.RowKit

abbrev brkV (x : Nat × Nat × Nat) : Value := .agg #[.int .u8 x.1, .int .i64 x.2.1, .int .i64 x.2.2]
abbrev br0 : Array Value := #[.int .u8 0, .int .i64 0, .int .i64 0]
/-- A break of no kind in its box. -/
structure Z3 (W : World) (B : Nat) : Prop where
  c0 : W.cell? ⟨B, 0, none⟩ = some (.int .u8 0)
  c1 : W.cell? ⟨B, 1, none⟩ = some (.int .i64 0)
  c2 : W.cell? ⟨B, 2, none⟩ = some (.int .i64 0)
  f0 : W.frozen? ⟨B, 0, none⟩ = false
  f1 : W.frozen? ⟨B, 1, none⟩ = false
  f2 : W.frozen? ⟨B, 2, none⟩ = false
theorem z3_of {W : World} {B : Nat} {T : TypeId} (h : W.heap[B]? = some (.cells br0 T (0, 0))) : Z3 W B :=
  ⟨by rw [Lib.cell_of_heap h]; rfl, by rw [Lib.cell_of_heap h]; rfl, by rw [Lib.cell_of_heap h]; rfl, Lib.frozen_of_heap h 0, Lib.frozen_of_heap h 1, Lib.frozen_of_heap h 2⟩
theorem Z3.below {W W' : World} {B n : Nat} (h : Z3 W B) (hB : Below n W W') (hn : B < n) : Z3 W' B :=
  ⟨(hB.cell (p := ⟨B, 0, none⟩) hn).trans h.c0, (hB.cell (p := ⟨B, 1, none⟩) hn).trans h.c1, (hB.cell (p := ⟨B, 2, none⟩) hn).trans h.c2, (hB.frozen (p := ⟨B, 0, none⟩) hn).trans h.f0, (hB.frozen (p := ⟨B, 1, none⟩) hn).trans h.f1, (hB.frozen (p := ⟨B, 2, none⟩) hn).trans h.f2⟩

end Go.Proofs.Ytmgbdeomloklnaa
