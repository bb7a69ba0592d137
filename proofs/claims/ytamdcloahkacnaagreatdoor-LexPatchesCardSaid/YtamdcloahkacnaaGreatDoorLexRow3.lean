/- DERIVED. Lists of tokens among the arguments of a row. -/
import Derived.Test.YtamdcloahkacnaaGreatDoorLexRow2
import Derived.Deep.Slices
import Derived.Deep.Fields
import Derived.ChangeSame
import Derived.Carry
namespace Go.Proofs.YtamdcloahkacnaaGreatDoor
set_option maxRecDepth 100000
open Go.RowKit Go.WideMaps Go.Maps Go.Shelf
open Go.ChangeShapes Go.WideShapes Go.ChangeAt Go.WideElems Go.ChangeMaps Go.Deep
section
variable {H : Type} {enc : TypeId × Value → H}
theorem lx_cells : Tryz.prog.cellsOf 42 = 3 := by kernel_rfl
/-- A list of tokens that comes in. -/
theorem lx_open {W : World} {base : Nat} {sp : Nat → Bool} {held : Bool} {fuel : Nat} {v : Value} {x : DataW H × List MemPlace} (h : DataW.trod enc Tryz.prog W base sp held fuel 22 [v] = some x) :
    ∃ (a : Option Addr) (c : Nat) (l : List M.Lx), v = .slice a l.length c ∧ (a = none → c = 0) ∧ LxSl W a l := by
  rcases open_slice Tryz.underlying22 h with ⟨h0, _⟩ | ⟨a, len, cap, m, n, D, Pl, hcs, hb, hl, hm, hmm, hx, hi⟩
  · cases h0
    exact ⟨none, 0, [], rfl, fun _ => rfl, Or.inl rfl⟩
  · cases hcs
    have hlm : len ≤ m := by rw [hmm]; split <;> omega
    have hel : ∀ i, i < len → ∃ (k : Int) (t : ByteArray) (p : Int), W.cell? (a.add (i * 3)) = some (.int .u8 k) ∧ W.cell? (a.add (i * 3 + 1)) = some (.string t) ∧ W.cell? (a.add (i * 3 + 2)) = some (.int .i64 p) := by
      intro i hil
      obtain ⟨cs', hc, ht'⟩ := hi i (by omega)
      rw [lx_cells] at hc
      obtain ⟨ys, n', hn', hy, hlen, hyl, hf⟩ := DataW.trod_struct Tryz.underlying42 ht'
      obtain ⟨_, hcl, hat⟩ := World.cells?_some hc
      have hyl3 : ys.length = 3 := hyl
      match cs', hcl, ys, hyl3 with
      | [c0, c1, c2], _, [y0, y1, y2], _ =>
        have h0 : DataW.trod enc Tryz.prog W base sp held n' 5 [c0] = some y0 := hf 0 _ rfl
        have h1 : DataW.trod enc Tryz.prog W base sp held n' 9 [c1] = some y1 := hf 1 _ rfl
        have h2 : DataW.trod enc Tryz.prog W base sp held n' 3 [c2] = some y2 := hf 2 _ rfl
        obtain ⟨k, e0, _, _⟩ := DataW.trod_int Tryz.underlying5 h0
        obtain ⟨t, e1, _, _⟩ := DataW.trod_string Tryz.underlying9 h1
        obtain ⟨p, e2, _, _⟩ := DataW.trod_int Tryz.underlying3 h2
        cases e0
        cases e1
        cases e2
        refine ⟨k, t, p, ?_, ?_, ?_⟩
        · have := hat 0 (by simp)
          simpa [Addr.add] using this
        · have := hat 1 (by simp)
          rw [Go.Deep.add_add] at this
          exact this
        · have := hat 2 (by simp)
          rw [Go.Deep.add_add] at this
          exact this
    rcases Nat.eq_zero_or_pos len with h0 | h0
    · subst h0
      exact ⟨some a, cap, [], rfl, (fun h => by cases h), Or.inl rfl⟩
    · obtain ⟨k0, t0, p0, g0, _, _⟩ := hel 0 h0
      obtain ⟨b, off, spot⟩ := a
      have hspot : spot = none := by simpa [Addr.add] using World.cell?_spot g0
      subst hspot
      have hblt : b < W.heap.size := World.block_lt_of_cell? W _ g0
      have hadd : ∀ i, (⟨b, off, none⟩ : Addr).add i = ⟨b, off + i, none⟩ := fun i => by simp [Addr.add]
      obtain ⟨f, hf⟩ : ∃ f : Nat → M.Lx, ∀ i, i < len → W.cell? ⟨b, off + i * 3, none⟩ = some (.int .u8 (f i).kind) ∧ W.cell? ⟨b, off + i * 3 + 1, none⟩ = some (.string (f i).text) ∧ W.cell? ⟨b, off + i * 3 + 2, none⟩ = some (.int .i64 (f i).pos) := by
        have hel2 : ∀ i, i < len → ∃ x : M.Lx, W.cell? ⟨b, off + i * 3, none⟩ = some (.int .u8 x.kind) ∧ W.cell? ⟨b, off + i * 3 + 1, none⟩ = some (.string x.text) ∧ W.cell? ⟨b, off + i * 3 + 2, none⟩ = some (.int .i64 x.pos) := by
          intro i hi
          obtain ⟨k, t, p, g1, g2, g3⟩ := hel i hi
          rw [hadd] at g1 g2 g3
          exact ⟨⟨k, t, p⟩, g1, g2, g3⟩
        refine ⟨fun i => if h : i < len then (hel2 i h).choose else ⟨0, ⟨#[]⟩, 0⟩, fun i hi => ?_⟩
        have := (hel2 i hi).choose_spec
        simp only [dif_pos hi]
        exact this
      refine ⟨some ⟨b, off, none⟩, cap, (List.range len).map f, by rw [List.length_map, List.length_range], (fun h => by cases h), Or.inr ⟨b, off, rfl, hblt, ?_, ?_, ?_⟩⟩
      · intro i hi
        rw [List.length_map, List.length_range] at hi
        rw [List.getElem_map, List.getElem_range]; exact (hf i hi).1
      · intro i hi
        rw [List.length_map, List.length_range] at hi
        rw [List.getElem_map, List.getElem_range]; exact (hf i hi).2.1
      · intro i hi
        rw [List.length_map, List.length_range] at hi
        rw [List.getElem_map, List.getElem_range]; exact (hf i hi).2.2
end
end Go.Proofs.YtamdcloahkacnaaGreatDoor
