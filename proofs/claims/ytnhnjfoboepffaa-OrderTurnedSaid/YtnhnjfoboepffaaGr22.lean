/- Texts of one's own, joined: OrdO. -/
import Derived.Test.YtnhnjfoboepffaaGr21
namespace Go.Proofs.Ytnhnjfoboepffaa
open Go.RowKit

/-- What Below comes to. -/
def BelowPost (t : M.Tb) (a b : Int) (w : World) (e : Ending) (w' : World) : Prop :=
  ((¬ M.form t ∧ e = .returned (.tuple #[.bool false, .int .i64 4])) ∨ (M.form t ∧ (M.inB t.elems.length a && M.inB t.elems.length b) = false ∧ e = .returned (.tuple #[.bool false, .int .i64 7])) ∨
    (M.form t ∧ (M.inB t.elems.length a && M.inB t.elems.length b) = true ∧ e = .returned (.tuple #[.bool ((M.know t a.toNat).testBit b.toNat), .int .i64 0]))) ∧ Below w.heap.size w w'
theorem bel_1 {t : M.Tb} {a b : Int} {w w' : World} (h : ¬ M.form t) (hB : Below w.heap.size w w') : BelowPost t a b w (.returned (.tuple #[.bool false, .int .i64 4])) w' := ⟨Or.inl ⟨h, rfl⟩, hB⟩
theorem bel_2 {t : M.Tb} {a b : Int} {w w' : World} (h : M.form t) (ha : (M.inB t.elems.length a && M.inB t.elems.length b) = false) (hB : Below w.heap.size w w') : BelowPost t a b w (.returned (.tuple #[.bool false, .int .i64 7])) w' := ⟨Or.inr (Or.inl ⟨h, ha, rfl⟩), hB⟩
theorem bel_3 {t : M.Tb} {a b : Int} {w w' : World} (h : M.form t) (ha : (M.inB t.elems.length a && M.inB t.elems.length b) = true) (hB : Below w.heap.size w w') : BelowPost t a b w (.returned (.tuple #[.bool ((M.know t a.toNat).testBit b.toNat), .int .i64 0])) w' := ⟨Or.inr (Or.inr ⟨h, ha, rfl⟩), hB⟩

end Go.Proofs.Ytnhnjfoboepffaa
