/- Texts of one's own, joined: OrdJ. -/
import Derived.Test.YtnhnjfoboepffaaGr7
import Derived.Test.YtnhnjfoboepffaaGr8
namespace Go.Proofs.Ytnhnjfoboepffaa
open Go.RowKit

theorem still_tail {P : Program} {id : Nat} {Q : Exit → Act → World → Prop} {a : Act} {w : World} {l : List Oper} (n : Nat) (hm : P.follows .mixedOrders = true) (hB : Region.lexTailB .any l.toArray n = true)
    (h : wpStill P l.toArray w.drew (fun a' => wpList P l.toArray Q (l.drop n) a' w.drew) (l.take n) a) : (Code.region id l.toArray true).wp P Q a w :=
  wp_region_still_tail n hm hB h
theorem set_other (W : World) (b i j : Nat) (v : Value) (h : i ≠ j) : (W.setCell ⟨b, i, none⟩ v).cell? ⟨b, j, none⟩ = W.cell? ⟨b, j, none⟩ :=
  World.cell?_setCell_other _ _ _ _ (by intro e; exact h (by cases e; rfl))
theorem set_same (W : World) (b i : Nat) (v u : Value) (h : W.cell? ⟨b, i, none⟩ = some u) : (W.setCell ⟨b, i, none⟩ v).cell? ⟨b, i, none⟩ = some v :=
  World.cell?_setCell_same' _ _ _ (by rw [h]; rfl)
theorem store16 (W : World) (R : Nat) (v0 v1 v2 v3 v4 v5 v6 v7 v8 v9 v10 v11 v12 v13 v14 v15 : Value) (h : ∀ i, i < 16 → ∃ u, W.cell? ⟨R, i, none⟩ = some u) :
    ((((((((((((((((W.setCell ⟨R, 0, none⟩ v0).setCell ⟨R, 1, none⟩ v1).setCell ⟨R, 2, none⟩ v2).setCell ⟨R, 3, none⟩ v3).setCell ⟨R, 4, none⟩ v4).setCell ⟨R, 5, none⟩ v5).setCell ⟨R, 6, none⟩ v6).setCell ⟨R, 7, none⟩ v7).setCell ⟨R, 8, none⟩ v8).setCell ⟨R, 9, none⟩ v9).setCell ⟨R, 10, none⟩ v10).setCell ⟨R, 11, none⟩ v11).setCell ⟨R, 12, none⟩ v12).setCell ⟨R, 13, none⟩ v13).setCell ⟨R, 14, none⟩ v14).setCell ⟨R, 15, none⟩ v15).cell? ⟨R, 0, none⟩ = some v0 ∧ ((((((((((((((((W.setCell ⟨R, 0, none⟩ v0).setCell ⟨R, 1, none⟩ v1).setCell ⟨R, 2, none⟩ v2).setCell ⟨R, 3, none⟩ v3).setCell ⟨R, 4, none⟩ v4).setCell ⟨R, 5, none⟩ v5).setCell ⟨R, 6, none⟩ v6).setCell ⟨R, 7, none⟩ v7).setCell ⟨R, 8, none⟩ v8).setCell ⟨R, 9, none⟩ v9).setCell ⟨R, 10, none⟩ v10).setCell ⟨R, 11, none⟩ v11).setCell ⟨R, 12, none⟩ v12).setCell ⟨R, 13, none⟩ v13).setCell ⟨R, 14, none⟩ v14).setCell ⟨R, 15, none⟩ v15).cell? ⟨R, 1, none⟩ = some v1 ∧ ((((((((((((((((W.setCell ⟨R, 0, none⟩ v0).setCell ⟨R, 1, none⟩ v1).setCell ⟨R, 2, none⟩ v2).setCell ⟨R, 3, none⟩ v3).setCell ⟨R, 4, none⟩ v4).setCell ⟨R, 5, none⟩ v5).setCell ⟨R, 6, none⟩ v6).setCell ⟨R, 7, none⟩ v7).setCell ⟨R, 8, none⟩ v8).setCell ⟨R, 9, none⟩ v9).setCell ⟨R, 10, none⟩ v10).setCell ⟨R, 11, none⟩ v11).setCell ⟨R, 12, none⟩ v12).setCell ⟨R, 13, none⟩ v13).setCell ⟨R, 14, none⟩ v14).setCell ⟨R, 15, none⟩ v15).cell? ⟨R, 2, none⟩ = some v2 ∧ ((((((((((((((((W.setCell ⟨R, 0, none⟩ v0).setCell ⟨R, 1, none⟩ v1).setCell ⟨R, 2, none⟩ v2).setCell ⟨R, 3, none⟩ v3).setCell ⟨R, 4, none⟩ v4).setCell ⟨R, 5, none⟩ v5).setCell ⟨R, 6, none⟩ v6).setCell ⟨R, 7, none⟩ v7).setCell ⟨R, 8, none⟩ v8).setCell ⟨R, 9, none⟩ v9).setCell ⟨R, 10, none⟩ v10).setCell ⟨R, 11, none⟩ v11).setCell ⟨R, 12, none⟩ v12).setCell ⟨R, 13, none⟩ v13).setCell ⟨R, 14, none⟩ v14).setCell ⟨R, 15, none⟩ v15).cell? ⟨R, 3, none⟩ = some v3 ∧ ((((((((((((((((W.setCell ⟨R, 0, none⟩ v0).setCell ⟨R, 1, none⟩ v1).setCell ⟨R, 2, none⟩ v2).setCell ⟨R, 3, none⟩ v3).setCell ⟨R, 4, none⟩ v4).setCell ⟨R, 5, none⟩ v5).setCell ⟨R, 6, none⟩ v6).setCell ⟨R, 7, none⟩ v7).setCell ⟨R, 8, none⟩ v8).setCell ⟨R, 9, none⟩ v9).setCell ⟨R, 10, none⟩ v10).setCell ⟨R, 11, none⟩ v11).setCell ⟨R, 12, none⟩ v12).setCell ⟨R, 13, none⟩ v13).setCell ⟨R, 14, none⟩ v14).setCell ⟨R, 15, none⟩ v15).cell? ⟨R, 4, none⟩ = some v4 ∧ ((((((((((((((((W.setCell ⟨R, 0, none⟩ v0).setCell ⟨R, 1, none⟩ v1).setCell ⟨R, 2, none⟩ v2).setCell ⟨R, 3, none⟩ v3).setCell ⟨R, 4, none⟩ v4).setCell ⟨R, 5, none⟩ v5).setCell ⟨R, 6, none⟩ v6).setCell ⟨R, 7, none⟩ v7).setCell ⟨R, 8, none⟩ v8).setCell ⟨R, 9, none⟩ v9).setCell ⟨R, 10, none⟩ v10).setCell ⟨R, 11, none⟩ v11).setCell ⟨R, 12, none⟩ v12).setCell ⟨R, 13, none⟩ v13).setCell ⟨R, 14, none⟩ v14).setCell ⟨R, 15, none⟩ v15).cell? ⟨R, 5, none⟩ = some v5 ∧ ((((((((((((((((W.setCell ⟨R, 0, none⟩ v0).setCell ⟨R, 1, none⟩ v1).setCell ⟨R, 2, none⟩ v2).setCell ⟨R, 3, none⟩ v3).setCell ⟨R, 4, none⟩ v4).setCell ⟨R, 5, none⟩ v5).setCell ⟨R, 6, none⟩ v6).setCell ⟨R, 7, none⟩ v7).setCell ⟨R, 8, none⟩ v8).setCell ⟨R, 9, none⟩ v9).setCell ⟨R, 10, none⟩ v10).setCell ⟨R, 11, none⟩ v11).setCell ⟨R, 12, none⟩ v12).setCell ⟨R, 13, none⟩ v13).setCell ⟨R, 14, none⟩ v14).setCell ⟨R, 15, none⟩ v15).cell? ⟨R, 6, none⟩ = some v6 ∧ ((((((((((((((((W.setCell ⟨R, 0, none⟩ v0).setCell ⟨R, 1, none⟩ v1).setCell ⟨R, 2, none⟩ v2).setCell ⟨R, 3, none⟩ v3).setCell ⟨R, 4, none⟩ v4).setCell ⟨R, 5, none⟩ v5).setCell ⟨R, 6, none⟩ v6).setCell ⟨R, 7, none⟩ v7).setCell ⟨R, 8, none⟩ v8).setCell ⟨R, 9, none⟩ v9).setCell ⟨R, 10, none⟩ v10).setCell ⟨R, 11, none⟩ v11).setCell ⟨R, 12, none⟩ v12).setCell ⟨R, 13, none⟩ v13).setCell ⟨R, 14, none⟩ v14).setCell ⟨R, 15, none⟩ v15).cell? ⟨R, 7, none⟩ = some v7 ∧ ((((((((((((((((W.setCell ⟨R, 0, none⟩ v0).setCell ⟨R, 1, none⟩ v1).setCell ⟨R, 2, none⟩ v2).setCell ⟨R, 3, none⟩ v3).setCell ⟨R, 4, none⟩ v4).setCell ⟨R, 5, none⟩ v5).setCell ⟨R, 6, none⟩ v6).setCell ⟨R, 7, none⟩ v7).setCell ⟨R, 8, none⟩ v8).setCell ⟨R, 9, none⟩ v9).setCell ⟨R, 10, none⟩ v10).setCell ⟨R, 11, none⟩ v11).setCell ⟨R, 12, none⟩ v12).setCell ⟨R, 13, none⟩ v13).setCell ⟨R, 14, none⟩ v14).setCell ⟨R, 15, none⟩ v15).cell? ⟨R, 8, none⟩ = some v8 ∧ ((((((((((((((((W.setCell ⟨R, 0, none⟩ v0).setCell ⟨R, 1, none⟩ v1).setCell ⟨R, 2, none⟩ v2).setCell ⟨R, 3, none⟩ v3).setCell ⟨R, 4, none⟩ v4).setCell ⟨R, 5, none⟩ v5).setCell ⟨R, 6, none⟩ v6).setCell ⟨R, 7, none⟩ v7).setCell ⟨R, 8, none⟩ v8).setCell ⟨R, 9, none⟩ v9).setCell ⟨R, 10, none⟩ v10).setCell ⟨R, 11, none⟩ v11).setCell ⟨R, 12, none⟩ v12).setCell ⟨R, 13, none⟩ v13).setCell ⟨R, 14, none⟩ v14).setCell ⟨R, 15, none⟩ v15).cell? ⟨R, 9, none⟩ = some v9 ∧ ((((((((((((((((W.setCell ⟨R, 0, none⟩ v0).setCell ⟨R, 1, none⟩ v1).setCell ⟨R, 2, none⟩ v2).setCell ⟨R, 3, none⟩ v3).setCell ⟨R, 4, none⟩ v4).setCell ⟨R, 5, none⟩ v5).setCell ⟨R, 6, none⟩ v6).setCell ⟨R, 7, none⟩ v7).setCell ⟨R, 8, none⟩ v8).setCell ⟨R, 9, none⟩ v9).setCell ⟨R, 10, none⟩ v10).setCell ⟨R, 11, none⟩ v11).setCell ⟨R, 12, none⟩ v12).setCell ⟨R, 13, none⟩ v13).setCell ⟨R, 14, none⟩ v14).setCell ⟨R, 15, none⟩ v15).cell? ⟨R, 10, none⟩ = some v10 ∧ ((((((((((((((((W.setCell ⟨R, 0, none⟩ v0).setCell ⟨R, 1, none⟩ v1).setCell ⟨R, 2, none⟩ v2).setCell ⟨R, 3, none⟩ v3).setCell ⟨R, 4, none⟩ v4).setCell ⟨R, 5, none⟩ v5).setCell ⟨R, 6, none⟩ v6).setCell ⟨R, 7, none⟩ v7).setCell ⟨R, 8, none⟩ v8).setCell ⟨R, 9, none⟩ v9).setCell ⟨R, 10, none⟩ v10).setCell ⟨R, 11, none⟩ v11).setCell ⟨R, 12, none⟩ v12).setCell ⟨R, 13, none⟩ v13).setCell ⟨R, 14, none⟩ v14).setCell ⟨R, 15, none⟩ v15).cell? ⟨R, 11, none⟩ = some v11 ∧ ((((((((((((((((W.setCell ⟨R, 0, none⟩ v0).setCell ⟨R, 1, none⟩ v1).setCell ⟨R, 2, none⟩ v2).setCell ⟨R, 3, none⟩ v3).setCell ⟨R, 4, none⟩ v4).setCell ⟨R, 5, none⟩ v5).setCell ⟨R, 6, none⟩ v6).setCell ⟨R, 7, none⟩ v7).setCell ⟨R, 8, none⟩ v8).setCell ⟨R, 9, none⟩ v9).setCell ⟨R, 10, none⟩ v10).setCell ⟨R, 11, none⟩ v11).setCell ⟨R, 12, none⟩ v12).setCell ⟨R, 13, none⟩ v13).setCell ⟨R, 14, none⟩ v14).setCell ⟨R, 15, none⟩ v15).cell? ⟨R, 12, none⟩ = some v12 ∧ ((((((((((((((((W.setCell ⟨R, 0, none⟩ v0).setCell ⟨R, 1, none⟩ v1).setCell ⟨R, 2, none⟩ v2).setCell ⟨R, 3, none⟩ v3).setCell ⟨R, 4, none⟩ v4).setCell ⟨R, 5, none⟩ v5).setCell ⟨R, 6, none⟩ v6).setCell ⟨R, 7, none⟩ v7).setCell ⟨R, 8, none⟩ v8).setCell ⟨R, 9, none⟩ v9).setCell ⟨R, 10, none⟩ v10).setCell ⟨R, 11, none⟩ v11).setCell ⟨R, 12, none⟩ v12).setCell ⟨R, 13, none⟩ v13).setCell ⟨R, 14, none⟩ v14).setCell ⟨R, 15, none⟩ v15).cell? ⟨R, 13, none⟩ = some v13 ∧ ((((((((((((((((W.setCell ⟨R, 0, none⟩ v0).setCell ⟨R, 1, none⟩ v1).setCell ⟨R, 2, none⟩ v2).setCell ⟨R, 3, none⟩ v3).setCell ⟨R, 4, none⟩ v4).setCell ⟨R, 5, none⟩ v5).setCell ⟨R, 6, none⟩ v6).setCell ⟨R, 7, none⟩ v7).setCell ⟨R, 8, none⟩ v8).setCell ⟨R, 9, none⟩ v9).setCell ⟨R, 10, none⟩ v10).setCell ⟨R, 11, none⟩ v11).setCell ⟨R, 12, none⟩ v12).setCell ⟨R, 13, none⟩ v13).setCell ⟨R, 14, none⟩ v14).setCell ⟨R, 15, none⟩ v15).cell? ⟨R, 14, none⟩ = some v14 ∧ ((((((((((((((((W.setCell ⟨R, 0, none⟩ v0).setCell ⟨R, 1, none⟩ v1).setCell ⟨R, 2, none⟩ v2).setCell ⟨R, 3, none⟩ v3).setCell ⟨R, 4, none⟩ v4).setCell ⟨R, 5, none⟩ v5).setCell ⟨R, 6, none⟩ v6).setCell ⟨R, 7, none⟩ v7).setCell ⟨R, 8, none⟩ v8).setCell ⟨R, 9, none⟩ v9).setCell ⟨R, 10, none⟩ v10).setCell ⟨R, 11, none⟩ v11).setCell ⟨R, 12, none⟩ v12).setCell ⟨R, 13, none⟩ v13).setCell ⟨R, 14, none⟩ v14).setCell ⟨R, 15, none⟩ v15).cell? ⟨R, 15, none⟩ = some v15 := by
  refine ⟨?_, ?_, ?_, ?_, ?_, ?_, ?_, ?_, ?_, ?_, ?_, ?_, ?_, ?_, ?_, ?_⟩
  · obtain ⟨u, hu⟩ := h 0 (by decide)
    rw [set_other _ _ _ _ _ (by decide), set_other _ _ _ _ _ (by decide), set_other _ _ _ _ _ (by decide), set_other _ _ _ _ _ (by decide), set_other _ _ _ _ _ (by decide), set_other _ _ _ _ _ (by decide), set_other _ _ _ _ _ (by decide), set_other _ _ _ _ _ (by decide), set_other _ _ _ _ _ (by decide), set_other _ _ _ _ _ (by decide), set_other _ _ _ _ _ (by decide), set_other _ _ _ _ _ (by decide), set_other _ _ _ _ _ (by decide), set_other _ _ _ _ _ (by decide), set_other _ _ _ _ _ (by decide)]
    exact set_same _ _ _ _ u (by exact hu)
  · obtain ⟨u, hu⟩ := h 1 (by decide)
    rw [set_other _ _ _ _ _ (by decide), set_other _ _ _ _ _ (by decide), set_other _ _ _ _ _ (by decide), set_other _ _ _ _ _ (by decide), set_other _ _ _ _ _ (by decide), set_other _ _ _ _ _ (by decide), set_other _ _ _ _ _ (by decide), set_other _ _ _ _ _ (by decide), set_other _ _ _ _ _ (by decide), set_other _ _ _ _ _ (by decide), set_other _ _ _ _ _ (by decide), set_other _ _ _ _ _ (by decide), set_other _ _ _ _ _ (by decide), set_other _ _ _ _ _ (by decide)]
    exact set_same _ _ _ _ u (by rw [set_other _ _ _ _ _ (by decide)]; exact hu)
  · obtain ⟨u, hu⟩ := h 2 (by decide)
    rw [set_other _ _ _ _ _ (by decide), set_other _ _ _ _ _ (by decide), set_other _ _ _ _ _ (by decide), set_other _ _ _ _ _ (by decide), set_other _ _ _ _ _ (by decide), set_other _ _ _ _ _ (by decide), set_other _ _ _ _ _ (by decide), set_other _ _ _ _ _ (by decide), set_other _ _ _ _ _ (by decide), set_other _ _ _ _ _ (by decide), set_other _ _ _ _ _ (by decide), set_other _ _ _ _ _ (by decide), set_other _ _ _ _ _ (by decide)]
    exact set_same _ _ _ _ u (by rw [set_other _ _ _ _ _ (by decide), set_other _ _ _ _ _ (by decide)]; exact hu)
  · obtain ⟨u, hu⟩ := h 3 (by decide)
    rw [set_other _ _ _ _ _ (by decide), set_other _ _ _ _ _ (by decide), set_other _ _ _ _ _ (by decide), set_other _ _ _ _ _ (by decide), set_other _ _ _ _ _ (by decide), set_other _ _ _ _ _ (by decide), set_other _ _ _ _ _ (by decide), set_other _ _ _ _ _ (by decide), set_other _ _ _ _ _ (by decide), set_other _ _ _ _ _ (by decide), set_other _ _ _ _ _ (by decide), set_other _ _ _ _ _ (by decide)]
    exact set_same _ _ _ _ u (by rw [set_other _ _ _ _ _ (by decide), set_other _ _ _ _ _ (by decide), set_other _ _ _ _ _ (by decide)]; exact hu)
  · obtain ⟨u, hu⟩ := h 4 (by decide)
    rw [set_other _ _ _ _ _ (by decide), set_other _ _ _ _ _ (by decide), set_other _ _ _ _ _ (by decide), set_other _ _ _ _ _ (by decide), set_other _ _ _ _ _ (by decide), set_other _ _ _ _ _ (by decide), set_other _ _ _ _ _ (by decide), set_other _ _ _ _ _ (by decide), set_other _ _ _ _ _ (by decide), set_other _ _ _ _ _ (by decide), set_other _ _ _ _ _ (by decide)]
    exact set_same _ _ _ _ u (by rw [set_other _ _ _ _ _ (by decide), set_other _ _ _ _ _ (by decide), set_other _ _ _ _ _ (by decide), set_other _ _ _ _ _ (by decide)]; exact hu)
  · obtain ⟨u, hu⟩ := h 5 (by decide)
    rw [set_other _ _ _ _ _ (by decide), set_other _ _ _ _ _ (by decide), set_other _ _ _ _ _ (by decide), set_other _ _ _ _ _ (by decide), set_other _ _ _ _ _ (by decide), set_other _ _ _ _ _ (by decide), set_other _ _ _ _ _ (by decide), set_other _ _ _ _ _ (by decide), set_other _ _ _ _ _ (by decide), set_other _ _ _ _ _ (by decide)]
    exact set_same _ _ _ _ u (by rw [set_other _ _ _ _ _ (by decide), set_other _ _ _ _ _ (by decide), set_other _ _ _ _ _ (by decide), set_other _ _ _ _ _ (by decide), set_other _ _ _ _ _ (by decide)]; exact hu)
  · obtain ⟨u, hu⟩ := h 6 (by decide)
    rw [set_other _ _ _ _ _ (by decide), set_other _ _ _ _ _ (by decide), set_other _ _ _ _ _ (by decide), set_other _ _ _ _ _ (by decide), set_other _ _ _ _ _ (by decide), set_other _ _ _ _ _ (by decide), set_other _ _ _ _ _ (by decide), set_other _ _ _ _ _ (by decide), set_other _ _ _ _ _ (by decide)]
    exact set_same _ _ _ _ u (by rw [set_other _ _ _ _ _ (by decide), set_other _ _ _ _ _ (by decide), set_other _ _ _ _ _ (by decide), set_other _ _ _ _ _ (by decide), set_other _ _ _ _ _ (by decide), set_other _ _ _ _ _ (by decide)]; exact hu)
  · obtain ⟨u, hu⟩ := h 7 (by decide)
    rw [set_other _ _ _ _ _ (by decide), set_other _ _ _ _ _ (by decide), set_other _ _ _ _ _ (by decide), set_other _ _ _ _ _ (by decide), set_other _ _ _ _ _ (by decide), set_other _ _ _ _ _ (by decide), set_other _ _ _ _ _ (by decide), set_other _ _ _ _ _ (by decide)]
    exact set_same _ _ _ _ u (by rw [set_other _ _ _ _ _ (by decide), set_other _ _ _ _ _ (by decide), set_other _ _ _ _ _ (by decide), set_other _ _ _ _ _ (by decide), set_other _ _ _ _ _ (by decide), set_other _ _ _ _ _ (by decide), set_other _ _ _ _ _ (by decide)]; exact hu)
  · obtain ⟨u, hu⟩ := h 8 (by decide)
    rw [set_other _ _ _ _ _ (by decide), set_other _ _ _ _ _ (by decide), set_other _ _ _ _ _ (by decide), set_other _ _ _ _ _ (by decide), set_other _ _ _ _ _ (by decide), set_other _ _ _ _ _ (by decide), set_other _ _ _ _ _ (by decide)]
    exact set_same _ _ _ _ u (by rw [set_other _ _ _ _ _ (by decide), set_other _ _ _ _ _ (by decide), set_other _ _ _ _ _ (by decide), set_other _ _ _ _ _ (by decide), set_other _ _ _ _ _ (by decide), set_other _ _ _ _ _ (by decide), set_other _ _ _ _ _ (by decide), set_other _ _ _ _ _ (by decide)]; exact hu)
  · obtain ⟨u, hu⟩ := h 9 (by decide)
    rw [set_other _ _ _ _ _ (by decide), set_other _ _ _ _ _ (by decide), set_other _ _ _ _ _ (by decide), set_other _ _ _ _ _ (by decide), set_other _ _ _ _ _ (by decide), set_other _ _ _ _ _ (by decide)]
    exact set_same _ _ _ _ u (by rw [set_other _ _ _ _ _ (by decide), set_other _ _ _ _ _ (by decide), set_other _ _ _ _ _ (by decide), set_other _ _ _ _ _ (by decide), set_other _ _ _ _ _ (by decide), set_other _ _ _ _ _ (by decide), set_other _ _ _ _ _ (by decide), set_other _ _ _ _ _ (by decide), set_other _ _ _ _ _ (by decide)]; exact hu)
  · obtain ⟨u, hu⟩ := h 10 (by decide)
    rw [set_other _ _ _ _ _ (by decide), set_other _ _ _ _ _ (by decide), set_other _ _ _ _ _ (by decide), set_other _ _ _ _ _ (by decide), set_other _ _ _ _ _ (by decide)]
    exact set_same _ _ _ _ u (by rw [set_other _ _ _ _ _ (by decide), set_other _ _ _ _ _ (by decide), set_other _ _ _ _ _ (by decide), set_other _ _ _ _ _ (by decide), set_other _ _ _ _ _ (by decide), set_other _ _ _ _ _ (by decide), set_other _ _ _ _ _ (by decide), set_other _ _ _ _ _ (by decide), set_other _ _ _ _ _ (by decide), set_other _ _ _ _ _ (by decide)]; exact hu)
  · obtain ⟨u, hu⟩ := h 11 (by decide)
    rw [set_other _ _ _ _ _ (by decide), set_other _ _ _ _ _ (by decide), set_other _ _ _ _ _ (by decide), set_other _ _ _ _ _ (by decide)]
    exact set_same _ _ _ _ u (by rw [set_other _ _ _ _ _ (by decide), set_other _ _ _ _ _ (by decide), set_other _ _ _ _ _ (by decide), set_other _ _ _ _ _ (by decide), set_other _ _ _ _ _ (by decide), set_other _ _ _ _ _ (by decide), set_other _ _ _ _ _ (by decide), set_other _ _ _ _ _ (by decide), set_other _ _ _ _ _ (by decide), set_other _ _ _ _ _ (by decide), set_other _ _ _ _ _ (by decide)]; exact hu)
  · obtain ⟨u, hu⟩ := h 12 (by decide)
    rw [set_other _ _ _ _ _ (by decide), set_other _ _ _ _ _ (by decide), set_other _ _ _ _ _ (by decide)]
    exact set_same _ _ _ _ u (by rw [set_other _ _ _ _ _ (by decide), set_other _ _ _ _ _ (by decide), set_other _ _ _ _ _ (by decide), set_other _ _ _ _ _ (by decide), set_other _ _ _ _ _ (by decide), set_other _ _ _ _ _ (by decide), set_other _ _ _ _ _ (by decide), set_other _ _ _ _ _ (by decide), set_other _ _ _ _ _ (by decide), set_other _ _ _ _ _ (by decide), set_other _ _ _ _ _ (by decide), set_other _ _ _ _ _ (by decide)]; exact hu)
  · obtain ⟨u, hu⟩ := h 13 (by decide)
    rw [set_other _ _ _ _ _ (by decide), set_other _ _ _ _ _ (by decide)]
    exact set_same _ _ _ _ u (by rw [set_other _ _ _ _ _ (by decide), set_other _ _ _ _ _ (by decide), set_other _ _ _ _ _ (by decide), set_other _ _ _ _ _ (by decide), set_other _ _ _ _ _ (by decide), set_other _ _ _ _ _ (by decide), set_other _ _ _ _ _ (by decide), set_other _ _ _ _ _ (by decide), set_other _ _ _ _ _ (by decide), set_other _ _ _ _ _ (by decide), set_other _ _ _ _ _ (by decide), set_other _ _ _ _ _ (by decide), set_other _ _ _ _ _ (by decide)]; exact hu)
  · obtain ⟨u, hu⟩ := h 14 (by decide)
    rw [set_other _ _ _ _ _ (by decide)]
    exact set_same _ _ _ _ u (by rw [set_other _ _ _ _ _ (by decide), set_other _ _ _ _ _ (by decide), set_other _ _ _ _ _ (by decide), set_other _ _ _ _ _ (by decide), set_other _ _ _ _ _ (by decide), set_other _ _ _ _ _ (by decide), set_other _ _ _ _ _ (by decide), set_other _ _ _ _ _ (by decide), set_other _ _ _ _ _ (by decide), set_other _ _ _ _ _ (by decide), set_other _ _ _ _ _ (by decide), set_other _ _ _ _ _ (by decide), set_other _ _ _ _ _ (by decide), set_other _ _ _ _ _ (by decide)]; exact hu)
  · obtain ⟨u, hu⟩ := h 15 (by decide)
    exact set_same _ _ _ _ u (by rw [set_other _ _ _ _ _ (by decide), set_other _ _ _ _ _ (by decide), set_other _ _ _ _ _ (by decide), set_other _ _ _ _ _ (by decide), set_other _ _ _ _ _ (by decide), set_other _ _ _ _ _ (by decide), set_other _ _ _ _ _ (by decide), set_other _ _ _ _ _ (by decide), set_other _ _ _ _ _ (by decide), set_other _ _ _ _ _ (by decide), set_other _ _ _ _ _ (by decide), set_other _ _ _ _ _ (by decide), set_other _ _ _ _ _ (by decide), set_other _ _ _ _ _ (by decide), set_other _ _ _ _ _ (by decide)]; exact hu)
theorem below16 {w W : World} {R : Nat} (h : Below w.heap.size w W) (hR : w.heap.size ≤ R) (v0 v1 v2 v3 v4 v5 v6 v7 v8 v9 v10 v11 v12 v13 v14 v15 : Value) : Below w.heap.size w ((((((((((((((((W.setCell ⟨R, 0, none⟩ v0).setCell ⟨R, 1, none⟩ v1).setCell ⟨R, 2, none⟩ v2).setCell ⟨R, 3, none⟩ v3).setCell ⟨R, 4, none⟩ v4).setCell ⟨R, 5, none⟩ v5).setCell ⟨R, 6, none⟩ v6).setCell ⟨R, 7, none⟩ v7).setCell ⟨R, 8, none⟩ v8).setCell ⟨R, 9, none⟩ v9).setCell ⟨R, 10, none⟩ v10).setCell ⟨R, 11, none⟩ v11).setCell ⟨R, 12, none⟩ v12).setCell ⟨R, 13, none⟩ v13).setCell ⟨R, 14, none⟩ v14).setCell ⟨R, 15, none⟩ v15) :=
  ((((((((((((((((h.setCell (p := ⟨R, 0, none⟩) hR v0).setCell (p := ⟨R, 1, none⟩) hR v1).setCell (p := ⟨R, 2, none⟩) hR v2).setCell (p := ⟨R, 3, none⟩) hR v3).setCell (p := ⟨R, 4, none⟩) hR v4).setCell (p := ⟨R, 5, none⟩) hR v5).setCell (p := ⟨R, 6, none⟩) hR v6).setCell (p := ⟨R, 7, none⟩) hR v7).setCell (p := ⟨R, 8, none⟩) hR v8).setCell (p := ⟨R, 9, none⟩) hR v9).setCell (p := ⟨R, 10, none⟩) hR v10).setCell (p := ⟨R, 11, none⟩) hR v11).setCell (p := ⟨R, 12, none⟩) hR v12).setCell (p := ⟨R, 13, none⟩) hR v13).setCell (p := ⟨R, 14, none⟩) hR v14).setCell (p := ⟨R, 15, none⟩) hR v15)
abbrev knA (t : M.Tb) (p : Tp) (r : Nat → Nat) : Array Value := #[.string t.name, .slice p.ea t.elems.length p.ec, .slice p.aa t.above.length p.ac, .slice p.wa t.wrong.length p.wc, .int .u16 (r 0), .int .u16 (r 1), .int .u16 (r 2), .int .u16 (r 3), .int .u16 (r 4), .int .u16 (r 5), .int .u16 (r 6), .int .u16 (r 7), .int .u16 (r 8), .int .u16 (r 9), .int .u16 (r 10), .int .u16 (r 11)]
abbrev knV (t : M.Tb) (p : Tp) (r : Nat → Nat) : Value := .agg (knA t p r)
/-- The cells of a box that holds a known table. -/
structure KnBox (w : World) (B : Nat) (t : M.Tb) (p : Tp) (r : Nat → Nat) : Prop where
  c0 : w.cell? ⟨B, 0, none⟩ = some (.string t.name)
  c1 : w.cell? ⟨B, 1, none⟩ = some (.slice p.ea t.elems.length p.ec)
  c2 : w.cell? ⟨B, 2, none⟩ = some (.slice p.aa t.above.length p.ac)
  c3 : w.cell? ⟨B, 3, none⟩ = some (.slice p.wa t.wrong.length p.wc)
  m : ∀ i, i < 12 → w.cell? ⟨B, 4 + i, none⟩ = some (.int .u16 (r i : Nat))
  fz : ∀ i, w.frozen? ⟨B, i, none⟩ = false
theorem knBox {w : World} {B : Nat} {t : M.Tb} {p : Tp} {r : Nat → Nat} {ty : TypeId} (h : w.heap[B]? = some (.cells (knA t p r) ty (0, 0))) : KnBox w B t p r := by
  refine ⟨by rw [Lib.cell_of_heap h]; rfl, by rw [Lib.cell_of_heap h]; rfl, by rw [Lib.cell_of_heap h]; rfl, by rw [Lib.cell_of_heap h]; rfl, fun i hi => ?_, fun i => Lib.frozen_of_heap h i⟩
  rw [Lib.cell_of_heap h]
  match i, hi with
  | 0, _ => rfl
  | 1, _ => rfl
  | 2, _ => rfl
  | 3, _ => rfl
  | 4, _ => rfl
  | 5, _ => rfl
  | 6, _ => rfl
  | 7, _ => rfl
  | 8, _ => rfl
  | 9, _ => rfl
  | 10, _ => rfl
  | 11, _ => rfl
theorem KnBox.below {w w' : World} {B : Nat} {t : M.Tb} {p : Tp} {r : Nat → Nat} (h : KnBox w B t p r) (hB : Below w.heap.size w w') : KnBox w' B t p r :=
  ⟨cell_below h.c0 hB, cell_below h.c1 hB, cell_below h.c2 hB, cell_below h.c3 hB, fun i hi => cell_below (h.m i hi) hB, fun i => by rw [(bcell hB).2 _ _ (World.block_lt_of_cell? w _ h.c0)]; exact h.fz i⟩
theorem KnBox.set {w : World} {B : Nat} {t : M.Tb} {p : Tp} {r : Nat → Nat} (h : KnBox w B t p r) (a v : Nat) (ha : a < 12) : KnBox (w.setCell ⟨B, 4 + a, none⟩ (.int .u16 (v : Nat))) B t p (fun j => if j = a then v else r j) := by
  refine ⟨by rw [set_other _ _ _ _ _ (by omega)]; exact h.c0, by rw [set_other _ _ _ _ _ (by omega)]; exact h.c1, by rw [set_other _ _ _ _ _ (by omega)]; exact h.c2, by rw [set_other _ _ _ _ _ (by omega)]; exact h.c3, fun i hi => ?_, fun i => by rw [World.frozen?_setCell]; exact h.fz i⟩
  by_cases e : i = a
  · subst e
    rw [set_same _ _ _ _ _ (h.m i hi)]; simp
  · rw [set_other _ _ _ _ _ (by omega), h.m i hi]; simp [e]
namespace M
/-- What is above an element by one step or none. -/
def base (t : Tb) (a : Nat) : Nat := ofN [(a : Int)] ||| ofN (t.above.getD a [])
/-- What is told of the first elements. -/
def upto (f : Nat → Nat) (k a : Nat) : Nat := if a < k then f a else 0
theorem upto_next (f : Nat → Nat) (k : Nat) : (fun j => if j = k then f k else upto f k j) = upto f (k + 1) := by
  funext j
  unfold upto
  by_cases h : j = k
  · subst h; rw [if_pos rfl, if_pos (by omega)]
  · rw [if_neg h]
    by_cases h2 : j < k
    · rw [if_pos h2, if_pos (by omega)]
    · rw [if_neg h2, if_neg (by omega)]
/-- A step of the closure: what reaches an element reaches what that one reaches; done for the first ones. -/
def inner (r : Nat → Nat) (v k a : Nat) : Nat := if a < k ∧ (r a).testBit v = true then r a ||| r v else r a
theorem inner_zero (r : Nat → Nat) (v : Nat) : inner r v 0 = r := by funext a; unfold inner; rw [if_neg (by omega)]
theorem inner_self (r : Nat → Nat) (v k : Nat) : inner r v k v = r v := by unfold inner; split <;> simp
theorem inner_at (r : Nat → Nat) (v k : Nat) : inner r v k k = r k := by unfold inner; rw [if_neg (by omega)]
theorem inner_yes (r : Nat → Nat) (v k : Nat) (h : (r k).testBit v = true) : (fun j => if j = k then r k ||| r v else inner r v k j) = inner r v (k + 1) := by
  funext j
  unfold inner
  by_cases e : j = k
  · subst e; rw [if_pos rfl, if_pos ⟨by omega, h⟩]
  · rw [if_neg e]
    by_cases h2 : j < k ∧ (r j).testBit v = true
    · rw [if_pos h2, if_pos ⟨by omega, h2.2⟩]
    · rw [if_neg h2, if_neg (fun q => h2 ⟨by omega, q.2⟩)]
theorem inner_no (r : Nat → Nat) (v k : Nat) (h : (r k).testBit v = false) : inner r v k = inner r v (k + 1) := by
  funext j
  unfold inner
  by_cases h2 : j < k ∧ (r j).testBit v = true
  · rw [if_pos h2, if_pos ⟨by omega, h2.2⟩]
  · rw [if_neg h2, if_neg (fun q => h2 ⟨by
      have : j ≠ k := fun e => by rw [e, h] at q; cases q.2
      omega, q.2⟩)]
/-- What is told when the first elements have been gone through. -/
def war (f : Nat → Nat) (n : Nat) : Nat → Nat → Nat
  | 0 => f
  | k + 1 => inner (war f n k) k n
theorem inner_lt {r : Nat → Nat} (h : ∀ a, r a < 4096) (v k a : Nat) : inner r v k a < 4096 := by
  unfold inner
  split
  · exact Nat.or_lt_two_pow (n := 12) (h a) (h v)
  · exact h a
theorem war_lt {f : Nat → Nat} (h : ∀ a, f a < 4096) (n k : Nat) : ∀ a, war f n k a < 4096 := by
  induction k with
  | zero => exact h
  | succ k ih => exact fun a => inner_lt ih k n a
theorem upto_lt {f : Nat → Nat} (n : Nat) (h : ∀ a, a < n → f a < 4096) (a : Nat) : upto f n a < 4096 := by
  unfold upto
  split
  · exact h a (by assumption)
  · omega
/-- What is above the elements of a table, as bits. -/
def know (t : Tb) : Nat → Nat := war (upto (base t) t.elems.length) t.elems.length t.elems.length
theorem asc_in {n : Nat} {l : List Int} (h : asc n l) (hn : n ≤ 12) : ∀ i, (hi : i < l.length) → 0 ≤ l[i] ∧ l[i] < 12 := fun i hi => by
  have := h i hi; omega
theorem one_lt (k : Nat) (hk : k < 12) : ofN [(k : Int)] < 4096 := by
  have := ofN_lt [(k : Int)] (fun i hi => by
    have : i = 0 := by simpa using hi
    subst this
    show 0 ≤ (k : Int) ∧ (k : Int) < 12
    omega) 1 (Nat.le_refl _)
  exact this
theorem row_lt {n : Nat} {l : List Int} (h : asc n l) (hn : n ≤ 12) : ofN l < 4096 := by
  have := ofN_lt l (asc_in h hn) l.length (Nat.le_refl _)
  rwa [List.take_length] at this
theorem base_lt {t : Tb} (hf : form t) (a : Nat) (ha : a < t.above.length) : base t a < 4096 := by
  have h1 := hf.above
  have h2 := hf.twelve
  unfold base
  rw [getD_in _ _ _ ha]
  exact Nat.or_lt_two_pow (n := 12) (one_lt a (by omega)) (row_lt (hf.rows a ha) h2)
end M
theorem box_two (w : World) (o1 o2 o3 : Obj) (A : Array Value) (T : TypeId) (h : o3 = .cells A T) : (((w.alloc o1).alloc o2).alloc o3).heap[w.heap.size + 1 + 1]? = some (.cells A T (0, 0)) := by
  subst h
  have h := box_new ((w.alloc o1).alloc o2) A T
  simpa using h
abbrev kn0 : Array Value := #[.string ⟨#[]⟩, .slice none 0 0, .slice none 0 0, .slice none 0 0, .int .u16 0, .int .u16 0, .int .u16 0, .int .u16 0, .int .u16 0, .int .u16 0, .int .u16 0, .int .u16 0, .int .u16 0, .int .u16 0, .int .u16 0, .int .u16 0]
theorem box_one (w : World) (o1 o3 : Obj) (A : Array Value) (T : TypeId) : (((w.alloc o1).alloc (.cells A T)).alloc o3).heap[w.heap.size + 1]? = some (.cells A T (0, 0)) := by
  have h := box_new (w.alloc o1) A T
  rw [World.size_alloc] at h
  rw [Lib.alloc_old _ _ _ (by simp)]
  exact h


set_option maxHeartbeats 8000000 in
set_option maxRecDepth 100000 in
theorem know_any (t : M.Tb) (p : Tp) (w : World) (ht : TbIn w t p) (hf : M.form t) :
    Calls Try.prog 60 #[tbV t p] w fun e w' => e = .returned (knV t p (M.know t)) ∧ Below w.heap.size w w' := by
  obtain ⟨c0, c1, c2, c3⟩ := tbBox (t := t) (p := p) (box_new w (tbA t p) 26)
  have HT := Lib.hid ht
  have hn12 : t.above.length ≤ 12 := by have := hf.above; have := hf.twelve; omega
  have hnn : t.above.length = t.elems.length := hf.above
  have HNN := Lib.hid hnn
  have HF := Lib.hid hf
  clear ht hf hnn
  go_enter Try.func60, Try.ntmps60
  go_wp2_with fail
  go_loopw [14] (fun i wr => ∃ k : Nat, k ≤ t.above.length ∧ i = .int .i64 k ∧ Hid (KnBox wr (w.heap.size + 1 + 1) t p (M.upto (M.base t) k)) ∧ Hid (wr.heap[w.heap.size + 1]? = some (.cells kn0 62 (0, 0))) ∧ w.heap.size + 1 + 1 < wr.heap.size ∧ Below w.heap.size w wr) (fun i _ => t.above.length - (intOf i).toNat)
  case atStart =>
    exact ⟨0, by omega, rfl, Lib.hid (knBox (ty := 62) (box_two w _ _ _ _ _ rfl)), Lib.hid (box_one w _ _ _ _), by simp, belowA (belowA (below1 _ _) _) _⟩
  case round =>
    rename_i wr
    obtain ⟨k, hk, rfl, HK, HR, hz, hB⟩ := hrel
    by_cases hkl : k < t.above.length
    · obtain ⟨b, off, ea, ha⟩ := (HT.out.below hB).as_.at hkl
      obtain ⟨ra, rc, q, _, _, hrow⟩ := ha.at_ k hkl
      have hasc := HF.out.rows k hkl
      have hlen : t.above[k].length ≤ 1000000 := by
        rcases Nat.lt_or_ge 1000000 t.above[k].length with h | h
        · exfalso
          have hall : ∀ j, (hj : j < t.above[k].length) → (j : Int) ≤ t.above[k][j] := fun j => by
            induction j with
            | zero => intro hj; exact (hasc 0 hj).1
            | succ j ih =>
              intro hj
              have h1 := ih (by omega)
              have h2 := (hasc (j + 1) hj).2.2 (by omega)
              have h3 : t.above[k][j] < t.above[k][j + 1] := h2
              omega
          have h1 := hall 1000000 h
          have h2 := (hasc 1000000 h).2.1
          have := HNN.out
          omega
        · exact h
      have n1 : (k : Int) < (t.above.length : Int) := by omega
      have n2 : (0 : Int) ≤ (k : Int) := by omega
      have n3 : (k : Int) < 12 := by omega
      have hfz := HK.out.fz (4 + k)
      have hmk := HK.out.m k (by omega)
      have hbs : M.base t k = M.ofN [(k : Int)] ||| M.ofN t.above[k] := by unfold M.base; rw [getD_in _ _ _ hkl]
      have hl2 := M.row_lt hasc (by have := HF.out.twelve; exact this)
      have hor : bits .or .u16 (M.ofN [(k : Int)] : Nat) (M.ofN t.above[k] : Nat) = ((M.base t k : Nat) : Int) := by
        rw [hbs]; exact u16_or_nat _ _ (Nat.lt_trans (M.one_lt k (by omega)) (by omega)) (Nat.lt_trans hl2 (by omega))
      have hc1 := of_any (some ⟨wr.heap.size, 0, none⟩) 1 [(k : Int)] (wr.alloc (.cells #[.int .i64 k] 3)) (by show 1 ≤ 1000000; omega) (Or.inr ⟨wr.heap.size, 0, rfl, by simp, fun i hi => by
        have : i = 0 := by simpa using hi
        subst this
        rw [World.cell?_alloc_at _ _ _ _ rfl]; rfl⟩) (fun i hi => by
        have : i = 0 := by simpa using hi
        subst this
        show 0 ≤ (k : Int) ∧ (k : Int) < 12
        omega)
      have hc2 := of_any ra rc t.above[k] (wr.alloc (.cells #[.int .i64 k] 3)) hlen (hrow.below (below1 _ _)) (M.asc_in hasc HF.out.twelve)
      have HC1 := Lib.hid hc1
      have HC2 := Lib.hid hc2
      have HOR := Lib.hid hor
      obtain ⟨L, hL⟩ : ∃ L, t.above[k] = L := ⟨_, rfl⟩
      rw [hL] at q HC2 HOR
      clear hc1 hc2 hor hbs hl2 hasc hlen hrow ha hL
      rw [ea]
      go_wp2_with fail
      refine HC1.out.mono ?_
      rintro e w1 ⟨rfl, rfl⟩
      go_wp2_with fail
      refine HC2.out.mono ?_
      rintro e w1 ⟨rfl, rfl⟩
      go_wp2_with fail
      go_roundw
      case rel =>
        refine ⟨k + 1, by omega, by go_num, Lib.hid ?_, Lib.hid ?_, ?_, ?_⟩
        · rw [HOR.out, ← M.upto_next]
          exact (HK.out.set k (M.base t k) (by omega)).below (below1 _ _)
        · rw [Lib.alloc_old _ _ _ (by simp [World.setCell]; omega), Below.heap_setCell _ _ _ _ (by show w.heap.size + 1 ≠ w.heap.size + 1 + 1; omega)]
          exact HR.out
        · simp [World.setCell]; omega
        · exact belowA (hB.setCell (p := ⟨w.heap.size + 1 + 1, 4 + k, none⟩) (by show w.heap.size ≤ w.heap.size + 1 + 1; omega) _) _
      case measure => simp [intOf]; omega
    · obtain rfl : k = t.above.length := by omega
      have m1 : decide ((t.above.length : Int) < (t.above.length : Int)) = false := decide_eq_false (by omega)
      rw [HNN.out] at HK
      have x1 := HK.out.c1
      have hn : t.elems.length ≤ 12 := HF.out.twelve
      have hblt : ∀ a, M.upto (M.base t) t.elems.length a < 4096 := M.upto_lt _ (fun a ha => M.base_lt HF.out a (by rw [HNN.out]; exact ha))
      have HBL := Lib.hid hblt
      clear hblt
      go_wp2_with fail
      go_loopw [33] (fun i wo => ∃ k : Nat, k ≤ t.elems.length ∧ i = .int .i64 k ∧ Hid (KnBox wo (w.heap.size + 1 + 1) t p (M.war (M.upto (M.base t) t.elems.length) t.elems.length k)) ∧ Hid (wo.heap[w.heap.size + 1]? = some (.cells kn0 62 (0, 0))) ∧ w.heap.size + 1 + 1 < wo.heap.size ∧ Below w.heap.size w wo) (fun i _ => t.elems.length - (intOf i).toNat)
      case atStart => exact ⟨0, by omega, rfl, HK, HR, hz, hB⟩
      case round =>
        clear x1 hB hz HR HK
        rename World => wo
        obtain ⟨k, hk, rfl, HK, HR, hz, hB⟩ := hrel
        have x1 := HK.out.c1
        by_cases hkl : k < t.elems.length
        · have n1 : (k : Int) < (t.elems.length : Int) := by omega
          have n2 : (0 : Int) ≤ (k : Int) := by omega
          obtain ⟨f, hf⟩ : ∃ f, M.war (M.upto (M.base t) t.elems.length) t.elems.length k = f := ⟨_, rfl⟩
          have hflt : ∀ a, f a < 4096 := by rw [← hf]; exact M.war_lt HBL.out _ _
          have HFL := Lib.hid hflt
          have hnext : M.inner f k t.elems.length = M.war (M.upto (M.base t) t.elems.length) t.elems.length (k + 1) := by rw [← hf]; rfl
          have HNX := Lib.hid hnext
          rw [hf] at HK
          clear hflt hnext hf
          go_wp2_with fail
          go_loopw [40] (fun i wp => ∃ j : Nat, j ≤ t.elems.length ∧ i = .int .i64 j ∧ Hid (KnBox wp (w.heap.size + 1 + 1) t p (M.inner f k j)) ∧ Hid (wp.heap[w.heap.size + 1]? = some (.cells kn0 62 (0, 0))) ∧ w.heap.size + 1 + 1 < wp.heap.size ∧ Below w.heap.size w wp) (fun i _ => t.elems.length - (intOf i).toNat)
          case atStart => exact ⟨0, by omega, rfl, by rw [M.inner_zero]; exact HK, HR, hz, hB⟩
          case round =>
            clear x1 hB hz HR HK
            rename World => wp
            obtain ⟨j, hj, rfl, HK, HR, hz, hB⟩ := hrel
            by_cases hjl : j < t.elems.length
            · have n4 : (j : Int) < (t.elems.length : Int) := by omega
              have n5 : (0 : Int) ≤ (j : Int) := by omega
              have n6 : (j : Int) < 12 := by omega
              have n7 : (k : Int) < 12 := by omega
              have y1 := HK.out.m j (by omega)
              have y2 := HK.out.m k (by omega)
              have hfz := HK.out.fz (4 + j)
              rw [M.inner_at] at y1
              rw [M.inner_self] at y2
              have hcall := fun W => has_any (f j) k W (Nat.lt_trans (HFL.out j) (by omega)) (by omega)
              cases hb : (f j).testBit k with
              | false =>
                rw [hb] at hcall
                have HC := Lib.hid hcall
                have HN := Lib.hid (M.inner_no f k j hb)
                clear hcall hb
                go_wp2_with fail
                refine (HC.out _).mono ?_
                rintro e w1 ⟨rfl, rfl⟩
                go_wp2_with fail
                go_roundw
                case rel => exact ⟨j + 1, by omega, by go_num, by rw [← HN.out]; exact HK, HR, hz, hB⟩
                case measure => simp [intOf]; omega
              | true =>
                rw [hb] at hcall
                have HC := Lib.hid hcall
                have HN := Lib.hid (M.inner_yes f k j hb)
                have hor : bits .or .u16 (f j : Nat) (f k : Nat) = ((f j ||| f k : Nat) : Int) := u16_or_nat _ _ (Nat.lt_trans (HFL.out j) (by omega)) (Nat.lt_trans (HFL.out k) (by omega))
                have HOR := Lib.hid hor
                clear hcall hb hor
                go_wp2_with fail
                refine (HC.out _).mono ?_
                rintro e w1 ⟨rfl, rfl⟩
                go_wp2_with fail
                refine still_tail 11 (by kernel_rfl) (by kernel_rfl) ?_
                simp only [List.take_succ_cons, List.take_zero, List.drop_succ_cons, List.drop_zero]
                repeat still_step
                refine wpStill_nil ?_
                go_wp2_with fail
                go_roundw
                case rel =>
                  refine ⟨j + 1, by omega, by go_num, Lib.hid ?_, Lib.hid ?_, ?_, ?_⟩
                  · rw [HOR.out, ← HN.out]
                    exact (HK.out.set j (f j ||| f k) (by omega)).below (Below.refl _ _).drew
                  · show (World.setCell _ _ _).heap[w.heap.size + 1]? = _
                    rw [Below.heap_setCell _ _ _ _ (by show w.heap.size + 1 ≠ w.heap.size + 1 + 1; omega)]
                    exact HR.out
                  · show w.heap.size + 1 + 1 < (World.setCell _ _ _).heap.size
                    simp [World.setCell]; omega
                  · exact (hB.setCell (p := ⟨w.heap.size + 1 + 1, 4 + j, none⟩) (by show w.heap.size ≤ w.heap.size + 1 + 1; omega) _).drew
                case measure => simp [intOf]; omega
            · obtain rfl : j = t.elems.length := by omega
              have m2 : decide ((t.elems.length : Int) < (t.elems.length : Int)) = false := decide_eq_false (by omega)
              rw [HNX.out] at HK
              go_wp2_with fail
              go_roundw
              case rel => exact ⟨k + 1, by omega, by go_num, HK, HR, hz, hB⟩
              case measure => simp [intOf]; omega
        · obtain rfl : k = t.elems.length := by omega
          have m2 : decide ((t.elems.length : Int) < (t.elems.length : Int)) = false := decide_eq_false (by omega)
          obtain ⟨f, hf⟩ : ∃ f, M.war (M.upto (M.base t) t.elems.length) t.elems.length t.elems.length = f := ⟨_, rfl⟩
          have hkn : M.know t = f := hf
          have HKN := Lib.hid hkn
          rw [hf] at HK
          clear hf hkn
          obtain ⟨y0, y1, y2, y3, ym, yf⟩ := HK.out
          have z0 := ym 0 (by omega)
          have z1 := ym 1 (by omega)
          have z2 := ym 2 (by omega)
          have z3 := ym 3 (by omega)
          have z4 := ym 4 (by omega)
          have z5 := ym 5 (by omega)
          have z6 := ym 6 (by omega)
          have z7 := ym 7 (by omega)
          have z8 := ym 8 (by omega)
          have z9 := ym 9 (by omega)
          have z10 := ym 10 (by omega)
          have z11 := ym 11 (by omega)
          clear ym yf
          have hrr := HR.out
          have r0 : wo.cell? ⟨w.heap.size + 1, 0, none⟩ = some (.string ⟨#[]⟩) := by rw [Lib.cell_of_heap hrr]; rfl
          have g0 : wo.frozen? ⟨w.heap.size + 1, 0, none⟩ = false := Lib.frozen_of_heap hrr 0
          have r1 : wo.cell? ⟨w.heap.size + 1, 1, none⟩ = some (.slice none 0 0) := by rw [Lib.cell_of_heap hrr]; rfl
          have g1 : wo.frozen? ⟨w.heap.size + 1, 1, none⟩ = false := Lib.frozen_of_heap hrr 1
          have r2 : wo.cell? ⟨w.heap.size + 1, 2, none⟩ = some (.slice none 0 0) := by rw [Lib.cell_of_heap hrr]; rfl
          have g2 : wo.frozen? ⟨w.heap.size + 1, 2, none⟩ = false := Lib.frozen_of_heap hrr 2
          have r3 : wo.cell? ⟨w.heap.size + 1, 3, none⟩ = some (.slice none 0 0) := by rw [Lib.cell_of_heap hrr]; rfl
          have g3 : wo.frozen? ⟨w.heap.size + 1, 3, none⟩ = false := Lib.frozen_of_heap hrr 3
          have r4 : wo.cell? ⟨w.heap.size + 1, 4, none⟩ = some (.int .u16 0) := by rw [Lib.cell_of_heap hrr]; rfl
          have g4 : wo.frozen? ⟨w.heap.size + 1, 4, none⟩ = false := Lib.frozen_of_heap hrr 4
          have r5 : wo.cell? ⟨w.heap.size + 1, 5, none⟩ = some (.int .u16 0) := by rw [Lib.cell_of_heap hrr]; rfl
          have g5 : wo.frozen? ⟨w.heap.size + 1, 5, none⟩ = false := Lib.frozen_of_heap hrr 5
          have r6 : wo.cell? ⟨w.heap.size + 1, 6, none⟩ = some (.int .u16 0) := by rw [Lib.cell_of_heap hrr]; rfl
          have g6 : wo.frozen? ⟨w.heap.size + 1, 6, none⟩ = false := Lib.frozen_of_heap hrr 6
          have r7 : wo.cell? ⟨w.heap.size + 1, 7, none⟩ = some (.int .u16 0) := by rw [Lib.cell_of_heap hrr]; rfl
          have g7 : wo.frozen? ⟨w.heap.size + 1, 7, none⟩ = false := Lib.frozen_of_heap hrr 7
          have r8 : wo.cell? ⟨w.heap.size + 1, 8, none⟩ = some (.int .u16 0) := by rw [Lib.cell_of_heap hrr]; rfl
          have g8 : wo.frozen? ⟨w.heap.size + 1, 8, none⟩ = false := Lib.frozen_of_heap hrr 8
          have r9 : wo.cell? ⟨w.heap.size + 1, 9, none⟩ = some (.int .u16 0) := by rw [Lib.cell_of_heap hrr]; rfl
          have g9 : wo.frozen? ⟨w.heap.size + 1, 9, none⟩ = false := Lib.frozen_of_heap hrr 9
          have r10 : wo.cell? ⟨w.heap.size + 1, 10, none⟩ = some (.int .u16 0) := by rw [Lib.cell_of_heap hrr]; rfl
          have g10 : wo.frozen? ⟨w.heap.size + 1, 10, none⟩ = false := Lib.frozen_of_heap hrr 10
          have r11 : wo.cell? ⟨w.heap.size + 1, 11, none⟩ = some (.int .u16 0) := by rw [Lib.cell_of_heap hrr]; rfl
          have g11 : wo.frozen? ⟨w.heap.size + 1, 11, none⟩ = false := Lib.frozen_of_heap hrr 11
          have r12 : wo.cell? ⟨w.heap.size + 1, 12, none⟩ = some (.int .u16 0) := by rw [Lib.cell_of_heap hrr]; rfl
          have g12 : wo.frozen? ⟨w.heap.size + 1, 12, none⟩ = false := Lib.frozen_of_heap hrr 12
          have r13 : wo.cell? ⟨w.heap.size + 1, 13, none⟩ = some (.int .u16 0) := by rw [Lib.cell_of_heap hrr]; rfl
          have g13 : wo.frozen? ⟨w.heap.size + 1, 13, none⟩ = false := Lib.frozen_of_heap hrr 13
          have r14 : wo.cell? ⟨w.heap.size + 1, 14, none⟩ = some (.int .u16 0) := by rw [Lib.cell_of_heap hrr]; rfl
          have g14 : wo.frozen? ⟨w.heap.size + 1, 14, none⟩ = false := Lib.frozen_of_heap hrr 14
          have r15 : wo.cell? ⟨w.heap.size + 1, 15, none⟩ = some (.int .u16 0) := by rw [Lib.cell_of_heap hrr]; rfl
          have g15 : wo.frozen? ⟨w.heap.size + 1, 15, none⟩ = false := Lib.frozen_of_heap hrr 15
          clear hrr
          go_wp2_with fail
          obtain ⟨q0, q1, q2, q3, q4, q5, q6, q7, q8, q9, q10, q11, q12, q13, q14, q15⟩ := store16 wo (w.heap.size + 1) (.string t.name) (.slice p.ea t.elems.length p.ec) (.slice p.aa t.above.length p.ac) (.slice p.wa t.wrong.length p.wc) (.int .u16 (f 0 : Nat)) (.int .u16 (f 1 : Nat)) (.int .u16 (f 2 : Nat)) (.int .u16 (f 3 : Nat)) (.int .u16 (f 4 : Nat)) (.int .u16 (f 5 : Nat)) (.int .u16 (f 6 : Nat)) (.int .u16 (f 7 : Nat)) (.int .u16 (f 8 : Nat)) (.int .u16 (f 9 : Nat)) (.int .u16 (f 10 : Nat)) (.int .u16 (f 11 : Nat)) (fun i hi => ⟨_, by rw [Lib.cell_of_heap HR.out]; exact Array.getElem?_eq_getElem (show i < kn0.size from hi)⟩)
          have hBU := below16 (R := w.heap.size + 1) hB (by omega) (.string t.name) (.slice p.ea t.elems.length p.ec) (.slice p.aa t.above.length p.ac) (.slice p.wa t.wrong.length p.wc) (.int .u16 (f 0 : Nat)) (.int .u16 (f 1 : Nat)) (.int .u16 (f 2 : Nat)) (.int .u16 (f 3 : Nat)) (.int .u16 (f 4 : Nat)) (.int .u16 (f 5 : Nat)) (.int .u16 (f 6 : Nat)) (.int .u16 (f 7 : Nat)) (.int .u16 (f 8 : Nat)) (.int .u16 (f 9 : Nat)) (.int .u16 (f 10 : Nat)) (.int .u16 (f 11 : Nat))
          rw [HKN.out]
          exact bodyPost_ret (v := knV t p f) (by simp [results, Try.results60, go_sem, q0, q1, q2, q3, q4, q5, q6, q7, q8, q9, q10, q11, q12, q13, q14, q15]) rfl ⟨rfl, hBU⟩
end Go.Proofs.Ytnhnjfoboepffaa
