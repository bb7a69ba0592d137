/- Texts of one's own, joined: OrdAd. -/
import Derived.Test.YtnhnjfoboepffaaGr30
import Derived.Test.YtnhnjfoboepffaaGr27
namespace Go.Proofs.Ytnhnjfoboepffaa
open Go.RowKit

set_option maxHeartbeats 8000000 in
set_option maxRecDepth 100000 in
theorem proved_c2 (t : M.Tb) (p : Tp) (w : World) (hfm : M.form t) (hn : (M.brk t).1 ≠ 0) (hal : ∀ l, l ∈ t.above → l.length ≤ 1000000) (ht : TbIn w t p) : Calls Try.prog 28 #[tbV t p] w (ProvedPost t p w) := by
  have HW := Lib.hid (belowA (below1 w (.cells (tbA t p) 26)) (.cells kn0 62))
  have HC := Lib.hid (formed_any t p ((w.alloc (.cells (tbA t p) 26)).alloc (.cells kn0 62)) hal (ht.below HW.out))
  have HT := Lib.hid ht
  have hb0 := (tbBox (t := t) (p := p) (box_new w (tbA t p) 26)).below (below1 _ (.cells kn0 62))
  have hr0 := Lib.hid (box_last w (.cells (tbA t p) 26) kn0 62)
  obtain ⟨c0, c1, c2, c3⟩ := hb0
  clear ht hal
  go_enter Try.func28, Try.ntmps28
  go_wp2_with fail
  refine HC.out.mono ?_
  rintro e w1 ⟨⟨hf, rfl⟩ | ⟨hf, rfl⟩, hB1⟩
  · have HF := Lib.hid hf
    have hrr : w1.heap[w.heap.size + 1]? = some (.cells kn0 62 (0, 0)) := by rw [hB1.block _ (by simp)]; exact hr0.out
    have hB := below2 HW.out hB1
    have hz : w.heap.size + 1 < w1.heap.size := by have := hB1.size; simp at this; omega
    have HT1 := Lib.hid (HT.out.below hB)
    have HRR := Lib.hid hrr
    have HKK := Lib.hid (knBox (t := t) (p := p) (r := M.know t) (box_new w1 (knA t p (M.know t)) 62))
    clear c0 c1 c2 c3 hf hB1 hrr
    go_wp2_with fail
    refine (isLattice_any t p _ (HT1.out.below (below1 _ _)) HF.out).mono ?_
    rintro e w2 ⟨rfl, hB2⟩
    have hB2' := below2 (below1 w1 (.cells (knA t p (M.know t)) 62)) hB2
    have hrr : w2.heap[w.heap.size + 1]? = some (.cells kn0 62 (0, 0)) := by rw [hB2'.block _ hz]; exact HRR.out
    have hBf := below2 hB hB2'
    by_cases hk : (M.brk t).1 = 0
    · exact absurd hk hn
    · have HK := Lib.hid hk
      rw [decide_eq_false hk]
      have r0 : w2.cell? ⟨w.heap.size + 1, 0, none⟩ = some (.string ⟨#[]⟩) := by rw [Lib.cell_of_heap hrr]; rfl
      have g0 : w2.frozen? ⟨w.heap.size + 1, 0, none⟩ = false := Lib.frozen_of_heap hrr 0
      have r1 : w2.cell? ⟨w.heap.size + 1, 1, none⟩ = some (.slice none 0 0) := by rw [Lib.cell_of_heap hrr]; rfl
      have g1 : w2.frozen? ⟨w.heap.size + 1, 1, none⟩ = false := Lib.frozen_of_heap hrr 1
      have r2 : w2.cell? ⟨w.heap.size + 1, 2, none⟩ = some (.slice none 0 0) := by rw [Lib.cell_of_heap hrr]; rfl
      have g2 : w2.frozen? ⟨w.heap.size + 1, 2, none⟩ = false := Lib.frozen_of_heap hrr 2
      have r3 : w2.cell? ⟨w.heap.size + 1, 3, none⟩ = some (.slice none 0 0) := by rw [Lib.cell_of_heap hrr]; rfl
      have g3 : w2.frozen? ⟨w.heap.size + 1, 3, none⟩ = false := Lib.frozen_of_heap hrr 3
      have r4 : w2.cell? ⟨w.heap.size + 1, 4, none⟩ = some (.int .u16 0) := by rw [Lib.cell_of_heap hrr]; rfl
      have g4 : w2.frozen? ⟨w.heap.size + 1, 4, none⟩ = false := Lib.frozen_of_heap hrr 4
      have r5 : w2.cell? ⟨w.heap.size + 1, 5, none⟩ = some (.int .u16 0) := by rw [Lib.cell_of_heap hrr]; rfl
      have g5 : w2.frozen? ⟨w.heap.size + 1, 5, none⟩ = false := Lib.frozen_of_heap hrr 5
      have r6 : w2.cell? ⟨w.heap.size + 1, 6, none⟩ = some (.int .u16 0) := by rw [Lib.cell_of_heap hrr]; rfl
      have g6 : w2.frozen? ⟨w.heap.size + 1, 6, none⟩ = false := Lib.frozen_of_heap hrr 6
      have r7 : w2.cell? ⟨w.heap.size + 1, 7, none⟩ = some (.int .u16 0) := by rw [Lib.cell_of_heap hrr]; rfl
      have g7 : w2.frozen? ⟨w.heap.size + 1, 7, none⟩ = false := Lib.frozen_of_heap hrr 7
      have r8 : w2.cell? ⟨w.heap.size + 1, 8, none⟩ = some (.int .u16 0) := by rw [Lib.cell_of_heap hrr]; rfl
      have g8 : w2.frozen? ⟨w.heap.size + 1, 8, none⟩ = false := Lib.frozen_of_heap hrr 8
      have r9 : w2.cell? ⟨w.heap.size + 1, 9, none⟩ = some (.int .u16 0) := by rw [Lib.cell_of_heap hrr]; rfl
      have g9 : w2.frozen? ⟨w.heap.size + 1, 9, none⟩ = false := Lib.frozen_of_heap hrr 9
      have r10 : w2.cell? ⟨w.heap.size + 1, 10, none⟩ = some (.int .u16 0) := by rw [Lib.cell_of_heap hrr]; rfl
      have g10 : w2.frozen? ⟨w.heap.size + 1, 10, none⟩ = false := Lib.frozen_of_heap hrr 10
      have r11 : w2.cell? ⟨w.heap.size + 1, 11, none⟩ = some (.int .u16 0) := by rw [Lib.cell_of_heap hrr]; rfl
      have g11 : w2.frozen? ⟨w.heap.size + 1, 11, none⟩ = false := Lib.frozen_of_heap hrr 11
      have r12 : w2.cell? ⟨w.heap.size + 1, 12, none⟩ = some (.int .u16 0) := by rw [Lib.cell_of_heap hrr]; rfl
      have g12 : w2.frozen? ⟨w.heap.size + 1, 12, none⟩ = false := Lib.frozen_of_heap hrr 12
      have r13 : w2.cell? ⟨w.heap.size + 1, 13, none⟩ = some (.int .u16 0) := by rw [Lib.cell_of_heap hrr]; rfl
      have g13 : w2.frozen? ⟨w.heap.size + 1, 13, none⟩ = false := Lib.frozen_of_heap hrr 13
      have r14 : w2.cell? ⟨w.heap.size + 1, 14, none⟩ = some (.int .u16 0) := by rw [Lib.cell_of_heap hrr]; rfl
      have g14 : w2.frozen? ⟨w.heap.size + 1, 14, none⟩ = false := Lib.frozen_of_heap hrr 14
      have r15 : w2.cell? ⟨w.heap.size + 1, 15, none⟩ = some (.int .u16 0) := by rw [Lib.cell_of_heap hrr]; rfl
      have g15 : w2.frozen? ⟨w.heap.size + 1, 15, none⟩ = false := Lib.frozen_of_heap hrr 15
      obtain ⟨q0, q1, q2, q3, q4, q5, q6, q7, q8, q9, q10, q11, q12, q13, q14, q15⟩ := store16 w2 (w.heap.size + 1) (.string ⟨#[]⟩) (.slice none 0 0) (.slice none 0 0) (.slice none 0 0) (.int .u16 0) (.int .u16 0) (.int .u16 0) (.int .u16 0) (.int .u16 0) (.int .u16 0) (.int .u16 0) (.int .u16 0) (.int .u16 0) (.int .u16 0) (.int .u16 0) (.int .u16 0) (fun i hi => ⟨_, by rw [Lib.cell_of_heap hrr]; exact Array.getElem?_eq_getElem (show i < kn0.size from hi)⟩)
      have hBU := below16 (R := w.heap.size + 1) hBf (by omega) (.string ⟨#[]⟩) (.slice none 0 0) (.slice none 0 0) (.slice none 0 0) (.int .u16 0) (.int .u16 0) (.int .u16 0) (.int .u16 0) (.int .u16 0) (.int .u16 0) (.int .u16 0) (.int .u16 0) (.int .u16 0) (.int .u16 0) (.int .u16 0) (.int .u16 0)
      have hz2 : w.heap.size + 1 < w2.heap.size := Nat.lt_of_lt_of_le hz hB2'.size
      clear hrr hBf hB2 hB2' hk
      go_wp2_with fail
      exact bodyPost_ret (v := .tuple #[.agg kn0, .int .i64 12]) (by simp [results, Try.results28, go_sem, q0, q1, q2, q3, q4, q5, q6, q7, q8, q9, q10, q11, q12, q13, q14, q15]) rfl (proved_2 HF.out HK.out hBU)
  · exact absurd hfm hf
end Go.Proofs.Ytnhnjfoboepffaa
