/- DERIVED. Lists of bytes among the arguments of a row. -/
import Derived.Test.YthacjdlohmkpoaaGr27
import Derived.Test.YthacjdlohmkpoaaBasLC
import Derived.DataShut
namespace Go.Proofs.Ythacjdlohmkpoaa
set_option maxRecDepth 100000
open Go.RowKit Go.WideMaps Go.Maps
open Go.ChangeShapes Go.WideShapes Go.ChangeAt Go.WideElems Go.ChangeMaps Go.Deep

section
variable {H : Type} {enc : TypeId × Value → H}
/-- A list of bytes that comes in. -/
theorem by_open {W : World} {base b0 : Nat} {sp : Nat → Bool} {held : Bool} {r : Reach} {v : Value} {d : DataW H} {p : List MemPlace} (hv : Value.okWide Try.prog W r b0 44 v) (h : DataW.Trod enc Try.prog W base sp held 44 v d p) :
    ∃ (a : Option Addr) (c : Nat) (l : List (Fin 256)), v = .slice a l.length c ∧ (a = none → c = 0) ∧ CelSl bytV W a l := by
  obtain ⟨sa, sl, sc, rfl⟩ := okWide_slice Try.underlying44 hv
  obtain ⟨fuel, h⟩ := h
  obtain ⟨a, c, l, h1, h2, _, h3⟩ := cel_open (f := bytV) Try.underlying44 (by kernel_rfl) (fun {n c y} h => by
    obtain ⟨x, e, _, hw⟩ := DataW.trod_int Try.underlying5 h
    cases e
    have hx : 0 ≤ x ∧ x < 256 := by
      have q := (Lit.wf_int_iff .u8 x).1 hw
      have q1 : (0 : Int) ≤ x := q.1
      have q2 : x ≤ (255 : Int) := q.2
      omega
    exact ⟨⟨x.toNat, by omega⟩, by show Value.int .u8 x = .int .u8 ((x.toNat : Nat) : Int); rw [Int.toNat_of_nonneg hx.1]⟩) h
  exact ⟨a, c, l, h1, h2, h3⟩
end
end Go.Proofs.Ythacjdlohmkpoaa
