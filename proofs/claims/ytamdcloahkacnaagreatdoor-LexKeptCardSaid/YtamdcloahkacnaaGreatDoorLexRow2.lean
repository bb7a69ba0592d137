/- DERIVED. Edits among the arguments of a row. -/
import Derived.Test.YtamdcloahkacnaaGreatDoorLexRow
import Derived.Lib.SmallJoins
import Derived.SizedLaws
import Derived.ChangeMaps5
namespace Go.Proofs.YtamdcloahkacnaaGreatDoor
set_option maxRecDepth 100000
open Go.RowKit Go.WideMaps Go.Maps Go.Shelf
open Go.ChangeShapes Go.WideShapes Go.ChangeAt Go.WideElems Go.ChangeMaps
section
variable {H : Type} {enc : TypeId × Value → H}
def edD (x : M.Ed) : DataW H := .agg [.lit (.int .i64 x.from_), .lit (.int .i64 x.to_), .lit (.string x.put.data.toList)]
def edWf (x : M.Ed) : Prop := (Lit.int .i64 x.from_).wf = true ∧ (Lit.int .i64 x.to_).wf = true ∧ x.put.size ≤ maxLen
theorem ed_cells : Tryz.prog.cellsOf 24 = 3 := by kernel_rfl
theorem ed_open {W : World} {base b0 : Nat} {sp : Nat → Bool} {held : Bool} {r : Reach} {v : Value} {d : DataW H} {p : List MemPlace} (hv : Value.okWide Tryz.prog W r b0 24 v) (h : DataW.Trod enc Tryz.prog W base sp held 24 v d p) :
    ∃ x : M.Ed, v = edV x ∧ d = edD x ∧ p = [] ∧ edWf x := by
  obtain ⟨v0, v1, v2, y0, y1, y2, n, rfl, rfl, rfl, h0, h1, h2⟩ := Go.Joins.open_agg3 Tryz.underlying24 (by kernel_rfl) ed_cells hv h
  obtain ⟨a, e0, rfl, w0⟩ := DataW.trod_int Tryz.underlying3 h0
  obtain ⟨b, e1, rfl, w1⟩ := DataW.trod_int Tryz.underlying3 h1
  obtain ⟨s, e2, rfl, w2⟩ := DataW.trod_string Tryz.underlying9 h2
  simp only [List.cons.injEq, and_true] at e0 e1 e2
  subst e0 e1 e2
  exact ⟨⟨a, b, s⟩, rfl, rfl, rfl, w0, w1, w2⟩
theorem ed_shut {W : World} {base : Nat} {sp : Nat → Bool} {held : Bool} (x : M.Ed) (hx : edWf x) : DataW.Trod enc Tryz.prog W base sp held 24 (edV x) (edD x) [] := by
  obtain ⟨w0, w1, w2⟩ := hx
  exact Go.Joins.shut_agg3 (y0 := (.lit (.int .i64 x.from_), [])) (y1 := (.lit (.int .i64 x.to_), [])) (y2 := (.lit (.string x.put.data.toList), [])) Tryz.underlying24 (by kernel_rfl) ed_cells
    (shut_int Tryz.underlying3 w0) (shut_int Tryz.underlying3 w1) (shut_string Tryz.underlying9 w2)
theorem ed_size {ts : List TypeId} {ds : List (DataW H)} (h : (DataW.weightsEach Tryz.prog ts ds).all (· ≤ reachBytes) = true) {j : Nat} {x : M.Ed} (ht : ts[j]? = some 24) (hd : ds[j]? = some (edD x)) : x.put.size ≤ 140737488351232 := by
  have := List.all_eq_true.1 h _ (DataW.weights_mem_each ht hd x.put.data.toList.length (by unfold edD; simp [DataW.weights, Tryz.underlying24, DataW.weightsEach]))
  have h2 : x.put.data.toList.length ≤ reachBytes := by simpa using this
  rw [M.size_list] at h2
  simp only [reachBytes] at h2
  omega
theorem str_size_le {ts : List TypeId} {ds : List (DataW H)} (h : (DataW.weightsEach Tryz.prog ts ds).all (· ≤ reachBytes) = true) {j : Nat} {t : TypeId} {s : ByteArray} (ht : ts[j]? = some t) (hd : ds[j]? = some (.lit (.string s.data.toList))) : s.size ≤ 140737488351232 := by
  have := sized_string h ht hd
  simp only [reachBytes] at this
  rw [M.size_list] at this
  omega
end
end Go.Proofs.YtamdcloahkacnaaGreatDoor
