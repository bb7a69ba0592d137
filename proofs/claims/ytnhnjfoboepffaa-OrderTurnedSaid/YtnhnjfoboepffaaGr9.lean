/- Texts of one's own, joined: OrdRow, OrdRow2. -/
import Derived.Test.YtnhnjfoboepffaaGr2
import Derived.Test.YtnhnjfoboepffaaRows
import Derived.ProofKit
import Derived.OpenShut
import Derived.Deep.Slices
import Derived.Deep.Fields
import Derived.Lib.SmallJoins
import Derived.ChangeSame
import Derived.ChangeOld
import Derived.Carry
import Derived.Test.YtnhnjfoboepffaaGr8
import Derived.DataShut
namespace Go.Proofs.Ytnhnjfoboepffaa
set_option maxRecDepth 100000
open Go.RowKit Go.WideMaps Go.Maps
open Go.ChangeShapes Go.WideShapes Go.ChangeAt Go.WideElems Go.ChangeMaps Go.Deep

theorem own : ownKnob Try.prog.godebug = none := by kernel_rfl
section
variable {H : Type} {enc : TypeId × Value → H}
/-- A list of one-cell elements that comes in. -/
theorem cel_open {α : Type} {f : α → Value} [Inhabited α] {sT eT : TypeId} {W : World} {base : Nat} {sp : Nat → Bool} {held : Bool} {fuel : Nat} {v : Value} {x : DataW H × List MemPlace} (hu : Try.prog.underlying sT = some (.slice eT)) (hc : Try.prog.cellsOf eT = 1)
    (hone : ∀ {n : Nat} {c : Value} {y : DataW H × List MemPlace}, DataW.trod enc Try.prog W base sp held n eT [c] = some y → ∃ z : α, c = f z)
    (h : DataW.trod enc Try.prog W base sp held fuel sT [v] = some x) :
    ∃ (a : Option Addr) (c : Nat) (l : List α), v = .slice a l.length c ∧ (a = none → c = 0) ∧ l.length ≤ c ∧ CelSl f W a l := by
  rcases open_slice1 hu hc h with ⟨h0, _⟩ | ⟨a, len, cap, m, n, V, D, Pl, hcs, hb, hl, hm, hmm, hx, hi⟩
  · cases h0
    exact ⟨none, 0, [], rfl, fun _ => rfl, Nat.le_refl _, Or.inl rfl⟩
  · cases hcs
    have hlm : len ≤ m := by rw [hmm]; split <;> omega
    obtain ⟨g, hg⟩ : ∃ g : Nat → α, ∀ i, i < len → W.cell? (a.add i) = some (f (g i)) := by
      have hel : ∀ i, i < len → ∃ z : α, W.cell? (a.add i) = some (f z) := fun i hil => by
        obtain ⟨h1, h2⟩ := hi i (by omega)
        obtain ⟨z, e⟩ := hone h2
        exact ⟨z, by rw [h1, e]⟩
      refine ⟨fun i => if h : i < len then (hel i h).choose else default, fun i hi => ?_⟩
      have := (hel i hi).choose_spec
      simp only [dif_pos hi]
      exact this
    rcases Nat.eq_zero_or_pos len with h0 | h0
    · subst h0
      exact ⟨some a, cap, [], rfl, (fun h => by cases h), hl, Or.inl rfl⟩
    · have g0 := hg 0 h0
      obtain ⟨b, off, spot⟩ := a
      have hspot : spot = none := by simpa [Addr.add] using World.cell?_spot g0
      subst hspot
      have hblt : b < W.heap.size := World.block_lt_of_cell? W _ g0
      have hadd : ∀ i, (⟨b, off, none⟩ : Addr).add i = ⟨b, off + i, none⟩ := fun i => by simp [Addr.add]
      refine ⟨some ⟨b, off, none⟩, cap, (List.range len).map g, by rw [List.length_map, List.length_range], (fun h => by cases h), by rw [List.length_map, List.length_range]; exact hl, Or.inr ⟨b, off, rfl, hblt, fun i hi => ?_⟩⟩
      rw [List.length_map, List.length_range] at hi
      rw [List.getElem_map, List.getElem_range, ← hadd]
      exact hg i hi
theorem strs_open {W : World} {base : Nat} {sp : Nat → Bool} {held : Bool} {fuel : Nat} {v : Value} {x : DataW H × List MemPlace} (h : DataW.trod enc Try.prog W base sp held fuel 22 [v] = some x) :
    ∃ (a : Option Addr) (c : Nat) (l : List ByteArray), v = .slice a l.length c ∧ (a = none → c = 0) ∧ l.length ≤ c ∧ StrSl W a l :=
  cel_open (f := Value.string) Try.underlying22 (by kernel_rfl) (fun h => by
    obtain ⟨t, e, _⟩ := DataW.trod_string Try.underlying9 h
    cases e; exact ⟨t, rfl⟩) h
theorem bools_open {W : World} {base : Nat} {sp : Nat → Bool} {held : Bool} {fuel : Nat} {v : Value} {x : DataW H × List MemPlace} (h : DataW.trod enc Try.prog W base sp held fuel 24 [v] = some x) :
    ∃ (a : Option Addr) (c : Nat) (l : List Bool), v = .slice a l.length c ∧ (a = none → c = 0) ∧ l.length ≤ c ∧ BoolSl W a l :=
  cel_open (f := Value.bool) Try.underlying24 (by kernel_rfl) (fun h => by
    obtain ⟨t, e, _⟩ := DataW.trod_bool Try.underlying4 h
    cases e; exact ⟨t, rfl⟩) h
theorem ints_open {W : World} {base : Nat} {sp : Nat → Bool} {held : Bool} {fuel : Nat} {v : Value} {x : DataW H × List MemPlace} (h : DataW.trod enc Try.prog W base sp held fuel 37 [v] = some x) :
    ∃ (a : Option Addr) (c : Nat) (l : List Int), v = .slice a l.length c ∧ (a = none → c = 0) ∧ l.length ≤ c ∧ IntSl W a l :=
  cel_open (f := Value.int .i64) Try.underlying37 (by kernel_rfl) (fun h => by
    obtain ⟨t, e, _⟩ := DataW.trod_int Try.underlying3 h
    cases e; exact ⟨t, rfl⟩) h
/-- Lists of numbers that come in. -/
theorem rows_open {W : World} {base : Nat} {sp : Nat → Bool} {held : Bool} {fuel : Nat} {v : Value} {x : DataW H × List MemPlace} (h : DataW.trod enc Try.prog W base sp held fuel 23 [v] = some x) :
    ∃ (a : Option Addr) (c : Nat) (l : List (List Int)), v = .slice a l.length c ∧ (a = none → c = 0) ∧ l.length ≤ c ∧ RowSl W a l := by
  rcases open_slice1 Try.underlying23 (by kernel_rfl) h with ⟨h0, _⟩ | ⟨a, len, cap, m, n, V, D, Pl, hcs, hb, hl, hm, hmm, hx, hi⟩
  · cases h0
    exact ⟨none, 0, [], rfl, fun _ => rfl, Nat.le_refl _, Or.inl rfl⟩
  · cases hcs
    have hlm : len ≤ m := by rw [hmm]; split <;> omega
    obtain ⟨g, hg⟩ : ∃ g : Nat → List Int, ∀ i, i < len → ∃ ra rc, W.cell? (a.add i) = some (.slice ra (g i).length rc) ∧ (ra = none → rc = 0) ∧ (g i).length ≤ rc ∧ IntSl W ra (g i) := by
      have hel : ∀ i, i < len → ∃ z : List Int, ∃ ra rc, W.cell? (a.add i) = some (.slice ra z.length rc) ∧ (ra = none → rc = 0) ∧ z.length ≤ rc ∧ IntSl W ra z := fun i hil => by
        obtain ⟨h1, h2⟩ := hi i (by omega)
        obtain ⟨ra, rc, z, e, q⟩ := ints_open h2
        exact ⟨z, ra, rc, by rw [h1, e], q⟩
      refine ⟨fun i => if h : i < len then (hel i h).choose else [], fun i hi => ?_⟩
      have := (hel i hi).choose_spec
      simp only [dif_pos hi]
      exact this
    rcases Nat.eq_zero_or_pos len with h0 | h0
    · subst h0
      exact ⟨some a, cap, [], rfl, (fun h => by cases h), hl, Or.inl rfl⟩
    · obtain ⟨_, _, g0, _⟩ := hg 0 h0
      obtain ⟨b, off, spot⟩ := a
      have hspot : spot = none := by simpa [Addr.add] using World.cell?_spot g0
      subst hspot
      have hblt : b < W.heap.size := World.block_lt_of_cell? W _ g0
      have hadd : ∀ i, (⟨b, off, none⟩ : Addr).add i = ⟨b, off + i, none⟩ := fun i => by simp [Addr.add]
      refine ⟨some ⟨b, off, none⟩, cap, (List.range len).map g, by rw [List.length_map, List.length_range], (fun h => by cases h), by rw [List.length_map, List.length_range]; exact hl, Or.inr ⟨b, off, rfl, hblt, fun i hi => ?_⟩⟩
      rw [List.length_map, List.length_range] at hi
      rw [List.getElem_map, List.getElem_range, ← hadd]
      exact hg i hi
theorem tb_cells : Try.prog.cellsOf 26 = 4 := by kernel_rfl
/-- A table that comes in. -/
theorem tb_open {W : World} {base b0 : Nat} {sp : Nat → Bool} {held : Bool} {r : Reach} {v : Value} {d : DataW H} {p : List MemPlace} (hv : Value.okWide Try.prog W r b0 26 v) (h : DataW.Trod enc Try.prog W base sp held 26 v d p) :
    ∃ (t : M.Tb) (q : Tp), v = tbV t q ∧ TbIn W t q := by
  obtain ⟨v0, v1, v2, v3, y0, y1, y2, y3, n, rfl, rfl, rfl, h0, h1, h2, h3⟩ := Go.Joins.open_agg4 Try.underlying26 (by kernel_rfl) tb_cells hv h
  have h0' : DataW.trod enc Try.prog W base sp held n 9 [v0] = some y0 := h0
  have h1' : DataW.trod enc Try.prog W base sp held n 22 [v1] = some y1 := h1
  have h2' : DataW.trod enc Try.prog W base sp held n 23 [v2] = some y2 := h2
  have h3' : DataW.trod enc Try.prog W base sp held n 24 [v3] = some y3 := h3
  obtain ⟨s, e0, _⟩ := DataW.trod_string Try.underlying9 h0'
  cases e0
  obtain ⟨ea, ec, el, rfl, e1, e2, e3⟩ := strs_open h1'
  obtain ⟨aa, ac, al, rfl, a1, a2, a3⟩ := rows_open h2'
  obtain ⟨wa, wc, wl, rfl, w1, w2, w3⟩ := bools_open h3'
  exact ⟨⟨s, el, al, wl⟩, ⟨ea, ec, aa, ac, wa, wc⟩, rfl, ⟨e3, a3, w3, e1, a1, w1, e2, a2, w2⟩⟩
end
end Go.Proofs.Ytnhnjfoboepffaa

namespace Go.Proofs.Ytnhnjfoboepffaa
set_option maxRecDepth 100000
open Go.RowKit Go.WideMaps Go.Maps
open Go.ChangeShapes Go.WideShapes Go.ChangeAt Go.WideElems Go.ChangeMaps Go.Deep

section
variable {H : Type} {enc : TypeId × Value → H}
/-- A list of bytes that comes in. -/
theorem by_open {W : World} {base b0 : Nat} {sp : Nat → Bool} {held : Bool} {r : Reach} {v : Value} {d : DataW H} {p : List MemPlace} (hv : Value.okWide Try.prog W r b0 41 v) (h : DataW.Trod enc Try.prog W base sp held 41 v d p) :
    ∃ (a : Option Addr) (c : Nat) (l : List (Fin 256)), v = .slice a l.length c ∧ (a = none → c = 0) ∧ CelSl bytV W a l := by
  obtain ⟨sa, sl, sc, rfl⟩ := okWide_slice Try.underlying41 hv
  obtain ⟨fuel, h⟩ := h
  obtain ⟨a, c, l, h1, h2, _, h3⟩ := cel_open (f := bytV) Try.underlying41 (by kernel_rfl) (fun {n c y} h => by
    obtain ⟨x, e, _, hw⟩ := DataW.trod_int Try.underlying5 h
    cases e
    have hx : 0 ≤ x ∧ x < 256 := by
      have q := (Lit.wf_int_iff .u8 x).1 hw
      have q1 : (0 : Int) ≤ x := q.1
      have q2 : x ≤ (255 : Int) := q.2
      omega
    exact ⟨⟨x.toNat, by omega⟩, by show Value.int .u8 x = .int .u8 ((x.toNat : Nat) : Int); rw [Int.toNat_of_nonneg hx.1]⟩) h
  exact ⟨a, c, l, h1, h2, h3⟩
end
end Go.Proofs.Ytnhnjfoboepffaa
