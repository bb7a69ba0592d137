/- Texts of one's own, joined: OrdAc. -/
import Derived.Test.YtnhnjfoboepffaaGr25
import Derived.LoopIn
import Derived.LoopNIn
import Derived.OwnWalkIn
import Derived.RangeFuncBound
import Derived.RangeFuncCalls
import Derived.RangeFuncLeaves
import Derived.RangeFuncNested
import Derived.Shelf.Abstract
import Derived.Shelf.RegionOpen
import Derived.TacticsInMore
namespace Go.Proofs.Ytnhnjfoboepffaa
open Go.RowKit

/-- What proved comes to. -/
def ProvedPost (t : M.Tb) (p : Tp) (w : World) (e : Ending) (w' : World) : Prop :=
  ((¬ M.form t ∧ e = .returned (.tuple #[.agg kn0, .int .i64 4])) ∨ (M.form t ∧ (M.brk t).1 ≠ 0 ∧ e = .returned (.tuple #[.agg kn0, .int .i64 12])) ∨ (M.lat t ∧ e = .returned (.tuple #[knV t p (M.know t), .int .i64 0]))) ∧ Below w.heap.size w w'
theorem proved_1 {t : M.Tb} {p : Tp} {w w' : World} (h : ¬ M.form t) (hB : Below w.heap.size w w') : ProvedPost t p w (.returned (.tuple #[.agg kn0, .int .i64 4])) w' := ⟨Or.inl ⟨h, rfl⟩, hB⟩
theorem proved_2 {t : M.Tb} {p : Tp} {w w' : World} (h : M.form t) (hk : (M.brk t).1 ≠ 0) (hB : Below w.heap.size w w') : ProvedPost t p w (.returned (.tuple #[.agg kn0, .int .i64 12])) w' := ⟨Or.inr (Or.inl ⟨h, hk, rfl⟩), hB⟩
theorem proved_3 {t : M.Tb} {p : Tp} {w w' : World} (h : M.lat t) (hB : Below w.heap.size w w') : ProvedPost t p w (.returned (.tuple #[knV t p (M.know t), .int .i64 0])) w' := ⟨Or.inr (Or.inr ⟨h, rfl⟩), hB⟩

set_option maxHeartbeats 8000000 in
set_option maxRecDepth 100000 in
theorem proved_c1 (t : M.Tb) (p : Tp) (w : World) (hn : ¬ M.form t) (hal : ∀ l, l ∈ t.above → l.length ≤ 1000000) (ht : TbIn w t p) : Calls Try.prog 28 #[tbV t p] w (ProvedPost t p w) := by
  have HW := Lib.hid (belowA (below1 w (.cells (tbA t p) 26)) (.cells kn0 62))
  have HC := Lib.hid (formed_any t p ((w.alloc (.cells (tbA t p) 26)).alloc (.cells kn0 62)) hal (ht.below HW.out))
  have HT := Lib.hid ht
  have hb0 := (tbBox (t := t) (p := p) (box_new w (tbA t p) 26)).below (below1 _ (.cells kn0 62))
  have hr0 := Lib.hid (box_last w (.cells (tbA t p) 26) kn0 62)
  obtain ⟨c0, c1, c2, c3⟩ := hb0
  clear ht hal
  go_enter Try.func28, Try.ntmps28
  go_wp2_with fail
  refine HC.out.mono ?_
  rintro e w1 ⟨⟨hf, rfl⟩ | ⟨hf, rfl⟩, hB1⟩
  · exact absurd hf hn
  · have HF := Lib.hid hf
    go_upto_region 2 with fail
    have hrr : (w1.alloc (.cells kn0 62)).heap[w.heap.size + 1]? = some (.cells kn0 62 (0, 0)) := by
      have hz := hB1.size
      simp only [World.size_alloc] at hz
      rw [Below.heap_alloc _ _ _ (by omega), hB1.block _ (by simp)]; exact hr0.out
    have hBf := belowA (below2 HW.out hB1) (.cells kn0 62)
    have hz1 : w.heap.size + 1 < (w1.alloc (.cells kn0 62)).heap.size := by have := hB1.size; simp at this; simp; omega
    generalize hW1 : w1.alloc (.cells kn0 62) = W1 at *
    clear hW1
    have r0 : W1.cell? ⟨w.heap.size + 1, 0, none⟩ = some (.string ⟨#[]⟩) := by rw [Lib.cell_of_heap hrr]; rfl
    have g0 : W1.frozen? ⟨w.heap.size + 1, 0, none⟩ = false := Lib.frozen_of_heap hrr 0
    have r1 : W1.cell? ⟨w.heap.size + 1, 1, none⟩ = some (.slice none 0 0) := by rw [Lib.cell_of_heap hrr]; rfl
    have g1 : W1.frozen? ⟨w.heap.size + 1, 1, none⟩ = false := Lib.frozen_of_heap hrr 1
    have r2 : W1.cell? ⟨w.heap.size + 1, 2, none⟩ = some (.slice none 0 0) := by rw [Lib.cell_of_heap hrr]; rfl
    have g2 : W1.frozen? ⟨w.heap.size + 1, 2, none⟩ = false := Lib.frozen_of_heap hrr 2
    have r3 : W1.cell? ⟨w.heap.size + 1, 3, none⟩ = some (.slice none 0 0) := by rw [Lib.cell_of_heap hrr]; rfl
    have g3 : W1.frozen? ⟨w.heap.size + 1, 3, none⟩ = false := Lib.frozen_of_heap hrr 3
    have r4 : W1.cell? ⟨w.heap.size + 1, 4, none⟩ = some (.int .u16 0) := by rw [Lib.cell_of_heap hrr]; rfl
    have g4 : W1.frozen? ⟨w.heap.size + 1, 4, none⟩ = false := Lib.frozen_of_heap hrr 4
    have r5 : W1.cell? ⟨w.heap.size + 1, 5, none⟩ = some (.int .u16 0) := by rw [Lib.cell_of_heap hrr]; rfl
    have g5 : W1.frozen? ⟨w.heap.size + 1, 5, none⟩ = false := Lib.frozen_of_heap hrr 5
    have r6 : W1.cell? ⟨w.heap.size + 1, 6, none⟩ = some (.int .u16 0) := by rw [Lib.cell_of_heap hrr]; rfl
    have g6 : W1.frozen? ⟨w.heap.size + 1, 6, none⟩ = false := Lib.frozen_of_heap hrr 6
    have r7 : W1.cell? ⟨w.heap.size + 1, 7, none⟩ = some (.int .u16 0) := by rw [Lib.cell_of_heap hrr]; rfl
    have g7 : W1.frozen? ⟨w.heap.size + 1, 7, none⟩ = false := Lib.frozen_of_heap hrr 7
    have r8 : W1.cell? ⟨w.heap.size + 1, 8, none⟩ = some (.int .u16 0) := by rw [Lib.cell_of_heap hrr]; rfl
    have g8 : W1.frozen? ⟨w.heap.size + 1, 8, none⟩ = false := Lib.frozen_of_heap hrr 8
    have r9 : W1.cell? ⟨w.heap.size + 1, 9, none⟩ = some (.int .u16 0) := by rw [Lib.cell_of_heap hrr]; rfl
    have g9 : W1.frozen? ⟨w.heap.size + 1, 9, none⟩ = false := Lib.frozen_of_heap hrr 9
    have r10 : W1.cell? ⟨w.heap.size + 1, 10, none⟩ = some (.int .u16 0) := by rw [Lib.cell_of_heap hrr]; rfl
    have g10 : W1.frozen? ⟨w.heap.size + 1, 10, none⟩ = false := Lib.frozen_of_heap hrr 10
    have r11 : W1.cell? ⟨w.heap.size + 1, 11, none⟩ = some (.int .u16 0) := by rw [Lib.cell_of_heap hrr]; rfl
    have g11 : W1.frozen? ⟨w.heap.size + 1, 11, none⟩ = false := Lib.frozen_of_heap hrr 11
    have r12 : W1.cell? ⟨w.heap.size + 1, 12, none⟩ = some (.int .u16 0) := by rw [Lib.cell_of_heap hrr]; rfl
    have g12 : W1.frozen? ⟨w.heap.size + 1, 12, none⟩ = false := Lib.frozen_of_heap hrr 12
    have r13 : W1.cell? ⟨w.heap.size + 1, 13, none⟩ = some (.int .u16 0) := by rw [Lib.cell_of_heap hrr]; rfl
    have g13 : W1.frozen? ⟨w.heap.size + 1, 13, none⟩ = false := Lib.frozen_of_heap hrr 13
    have r14 : W1.cell? ⟨w.heap.size + 1, 14, none⟩ = some (.int .u16 0) := by rw [Lib.cell_of_heap hrr]; rfl
    have g14 : W1.frozen? ⟨w.heap.size + 1, 14, none⟩ = false := Lib.frozen_of_heap hrr 14
    have r15 : W1.cell? ⟨w.heap.size + 1, 15, none⟩ = some (.int .u16 0) := by rw [Lib.cell_of_heap hrr]; rfl
    have g15 : W1.frozen? ⟨w.heap.size + 1, 15, none⟩ = false := Lib.frozen_of_heap hrr 15
    obtain ⟨q0, q1, q2, q3, q4, q5, q6, q7, q8, q9, q10, q11, q12, q13, q14, q15⟩ := store16 W1 (w.heap.size + 1) (.string ⟨#[]⟩) (.slice none 0 0) (.slice none 0 0) (.slice none 0 0) (.int .u16 0) (.int .u16 0) (.int .u16 0) (.int .u16 0) (.int .u16 0) (.int .u16 0) (.int .u16 0) (.int .u16 0) (.int .u16 0) (.int .u16 0) (.int .u16 0) (.int .u16 0) (fun i hi => ⟨_, by rw [Lib.cell_of_heap hrr]; exact Array.getElem?_eq_getElem (show i < kn0.size from hi)⟩)
    have hBU := below16 (R := w.heap.size + 1) hBf (by omega) (.string ⟨#[]⟩) (.slice none 0 0) (.slice none 0 0) (.slice none 0 0) (.int .u16 0) (.int .u16 0) (.int .u16 0) (.int .u16 0) (.int .u16 0) (.int .u16 0) (.int .u16 0) (.int .u16 0) (.int .u16 0) (.int .u16 0) (.int .u16 0) (.int .u16 0)
    clear c0 c1 c2 c3 hf hB1 hrr hBf
    go_wp2_with fail
    exact bodyPost_ret (v := .tuple #[.agg kn0, .int .i64 4]) (by simp [results, Try.results28, go_sem, q0, q1, q2, q3, q4, q5, q6, q7, q8, q9, q10, q11, q12, q13, q14, q15]) rfl (proved_1 HF.out hBU)
end Go.Proofs.Ytnhnjfoboepffaa
