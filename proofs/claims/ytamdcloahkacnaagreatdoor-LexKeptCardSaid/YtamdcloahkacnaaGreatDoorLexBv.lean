/- DERIVED. lex.Patch: the tokens of three lists joined, and the last of them moved. -/
import Derived.Test.YtamdcloahkacnaaGreatDoorLexBu
import Derived.Test.YtamdcloahkacnaaGreatDoorLexRd
namespace Go.Proofs.YtamdcloahkacnaaGreatDoor
open Go.RowKit Go.WideMaps Go.Maps Go.Shelf

theorem parts3 {w : World} {B : Nat} {l1 l2 l3 : List M.Lx} {a1 a2 a3 : Option Addr} {c1 c2 c3 : Nat} (hB : w.heap[B]? = some (.cells #[.slice a1 l1.length c1, .slice a2 l2.length c2, .slice a3 l3.length c3] 22 (0, 0)))
    (n1 : a1 = none → c1 = 0) (n2 : a2 = none → c2 = 0) (n3 : a3 = none → c3 = 0) (h1 : LxSl w a1 l1) (h2 : LxSl w a2 l2) (h3 : LxSl w a3 l3) : PartsAt w B [l1, l2, l3] := by
  refine ⟨Lib.lt_of_heap hB, fun i hi => ?_⟩
  match i, hi with
  | 0, _ => exact ⟨a1, c1, by rw [Lib.cell_of_heap hB]; rfl, n1, h1⟩
  | 1, _ => exact ⟨a2, c2, by rw [Lib.cell_of_heap hB]; rfl, n2, h2⟩
  | 2, _ => exact ⟨a3, c3, by rw [Lib.cell_of_heap hB]; rfl, n3, h3⟩
theorem LxSl.upto {w : World} {a : Option Addr} {l : List M.Lx} (h : LxSl w a l) (p : Nat) : LxSl w a (l.take p) := by
  rcases h with rfl | ⟨b, off, e, h⟩
  · exact Or.inl (by simp)
  · refine Or.inr ⟨b, off, e, h.lt, ?_, ?_, ?_⟩ <;> intro i hi <;> simp only [List.length_take] at hi <;> simp only [List.getElem_take]
    · exact h.c0 i (by omega)
    · exact h.c1 i (by omega)
    · exact h.c2 i (by omega)

end Go.Proofs.YtamdcloahkacnaaGreatDoor
