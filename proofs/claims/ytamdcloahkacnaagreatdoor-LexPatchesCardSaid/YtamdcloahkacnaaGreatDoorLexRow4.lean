/- DERIVED. Changes of tokens among the arguments of a row. -/
import Derived.Test.YtamdcloahkacnaaGreatDoorLexRow3
namespace Go.Proofs.YtamdcloahkacnaaGreatDoor
set_option maxRecDepth 100000
open Go.RowKit Go.WideMaps Go.Maps Go.Shelf
open Go.ChangeShapes Go.WideShapes Go.ChangeAt Go.WideElems Go.ChangeMaps Go.Deep
section
variable {H : Type} {enc : TypeId × Value → H}
theorem lx_cap {W : World} {base : Nat} {sp : Nat → Bool} {held : Bool} {fuel : Nat} {a : Option Addr} {n c : Nat} {x : DataW H × List MemPlace} (h : DataW.trod enc Tryz.prog W base sp held fuel 22 [.slice a n c] = some x) : n ≤ c := by
  rcases open_slice Tryz.underlying22 h with ⟨h0, _⟩ | ⟨a, len, cap, m, n, D, Pl, hcs, hb, hl, _⟩
  · cases h0; exact Nat.le_refl _
  · cases hcs; exact hl
theorem ch_cells : Tryz.prog.cellsOf 26 = 3 := by kernel_rfl
/-- A change that comes in. -/
theorem ch_open {W : World} {base b0 : Nat} {sp : Nat → Bool} {held : Bool} {r : Reach} {v : Value} {d : DataW H} {p : List MemPlace} (hv : Value.okWide Tryz.prog W r b0 26 v) (h : DataW.Trod enc Tryz.prog W base sp held 26 v d p) :
    ∃ (hd tl : Int) (a : Option Addr) (c : Nat) (l : List M.Lx), v = .agg #[.int .i64 hd, .int .i64 tl, .slice a l.length c] ∧ (a = none → c = 0) ∧ l.length ≤ c ∧ LxSl W a l := by
  obtain ⟨v0, v1, v2, y0, y1, y2, n, rfl, rfl, rfl, h0, h1, h2⟩ := Go.Joins.open_agg3 Tryz.underlying26 (by kernel_rfl) ch_cells hv h
  obtain ⟨a, e0, _, _⟩ := DataW.trod_int Tryz.underlying3 h0
  obtain ⟨b, e1, _, _⟩ := DataW.trod_int Tryz.underlying3 h1
  have h2' : DataW.trod enc Tryz.prog W base sp held n 22 [v2] = some y2 := h2
  obtain ⟨ad, c, l, rfl, hn, hl⟩ := lx_open h2'
  simp only [List.cons.injEq, and_true] at e0 e1
  subst e0 e1
  exact ⟨a, b, ad, c, l, rfl, hn, lx_cap h2', hl⟩
end
end Go.Proofs.YtamdcloahkacnaaGreatDoor
