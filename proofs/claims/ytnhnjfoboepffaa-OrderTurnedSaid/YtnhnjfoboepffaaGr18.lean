/- Texts of one's own, joined: OrdK. -/
import Derived.Test.YtnhnjfoboepffaaGr13
namespace Go.Proofs.Ytnhnjfoboepffaa
open Go.RowKit

/-- What formed comes to. -/
def FormedPost (t : M.Tb) (p : Tp) (w : World) (e : Ending) (w' : World) : Prop :=
  ((M.form t ∧ e = .returned (.tuple #[knV t p (M.know t), .int .i64 0])) ∨ (¬ M.form t ∧ e = .returned (.tuple #[.agg kn0, .int .i64 4]))) ∧ Below w.heap.size w w'
theorem formed_yes {t : M.Tb} {p : Tp} {w w' : World} (h : M.form t) (hB : Below w.heap.size w w') : FormedPost t p w (.returned (.tuple #[knV t p (M.know t), .int .i64 0])) w' := ⟨Or.inl ⟨h, rfl⟩, hB⟩
theorem formed_no {t : M.Tb} {p : Tp} {w w' : World} (h : ¬ M.form t) (hB : Below w.heap.size w w') : FormedPost t p w (.returned (.tuple #[.agg kn0, .int .i64 4])) w' := ⟨Or.inr ⟨h, rfl⟩, hB⟩
theorem box_last (w : World) (o1 : Obj) (A : Array Value) (T : TypeId) : ((w.alloc o1).alloc (.cells A T)).heap[w.heap.size + 1]? = some (.cells A T (0, 0)) := by
  have h := box_new (w.alloc o1) A T
  rwa [World.size_alloc] at h

set_option maxHeartbeats 8000000 in
set_option maxRecDepth 100000 in
theorem formed_any (t : M.Tb) (p : Tp) (w : World) (hal : ∀ l, l ∈ t.above → l.length ≤ 1000000) (ht : TbIn w t p) : Calls Try.prog 35 #[tbV t p] w (FormedPost t p w) := by
  have HW := Lib.hid (belowA (below1 w (.cells (tbA t p) 26)) (.cells kn0 62))
  have HC := Lib.hid (check_any t p ((w.alloc (.cells (tbA t p) 26)).alloc (.cells kn0 62)) hal (ht.below HW.out))
  have HT := Lib.hid ht
  have hb0 := (tbBox (t := t) (p := p) (box_new w (tbA t p) 26)).below (below1 _ (.cells kn0 62))
  have hr0 := Lib.hid (box_last w (.cells (tbA t p) 26) kn0 62)
  have HB0 := Lib.hid hb0
  obtain ⟨c0, c1, c2, c3⟩ := hb0
  clear ht
  go_enter Try.func35, Try.ntmps35
  go_wp2_with fail
  refine HC.out.mono ?_
  rintro e w1 ⟨⟨hf, rfl⟩ | ⟨hf, rfl⟩, hB1⟩
  · have HF := Lib.hid hf
    have hb1 := HB0.out.below hB1
    have hrr : w1.heap[w.heap.size + 1]? = some (.cells kn0 62 (0, 0)) := by rw [hB1.block _ (by simp)]; exact hr0.out
    have hB := below2 HW.out hB1
    have hz : w.heap.size + 1 < w1.heap.size := by have := hB1.size; simp at this; omega
    have HT1 := Lib.hid (HT.out.below hB)
    obtain ⟨d0, d1, d2, d3⟩ := hb1
    clear c0 c1 c2 c3 hf hB1
    have HRR := Lib.hid hrr
    clear hrr
    go_wp2_with fail
    refine (know_any t p _ HT1.out HF.out).mono ?_
    rintro e w2 ⟨rfl, hB2⟩
    have hrr : w2.heap[w.heap.size + 1]? = some (.cells kn0 62 (0, 0)) := by rw [hB2.block _ hz]; exact HRR.out
    have hBf := below2 hB hB2
    have r0 : w2.cell? ⟨w.heap.size + 1, 0, none⟩ = some (.string ⟨#[]⟩) := by rw [Lib.cell_of_heap hrr]; rfl
    have g0 : w2.frozen? ⟨w.heap.size + 1, 0, none⟩ = false := Lib.frozen_of_heap hrr 0
    have r1 : w2.cell? ⟨w.heap.size + 1, 1, none⟩ = some (.slice none 0 0) := by rw [Lib.cell_of_heap hrr]; rfl
    have g1 : w2.frozen? ⟨w.heap.size + 1, 1, none⟩ = false := Lib.frozen_of_heap hrr 1
    have r2 : w2.cell? ⟨w.heap.size + 1, 2, none⟩ = some (.slice none 0 0) := by rw [Lib.cell_of_heap hrr]; rfl
    have g2 : w2.frozen? ⟨w.heap.size + 1, 2, none⟩ = false := Lib.frozen_of_heap hrr 2
    have r3 : w2.cell? ⟨w.heap.size + 1, 3, none⟩ = some (.slice none 0 0) := by rw [Lib.cell_of_heap hrr]; rfl
    have g3 : w2.frozen? ⟨w.heap.size + 1, 3, none⟩ = false := Lib.frozen_of_heap hrr 3
    have r4 : w2.cell? ⟨w.heap.size + 1, 4, none⟩ = some (.int .u16 0) := by rw [Lib.cell_of_heap hrr]; rfl
    have g4 : w2.frozen? ⟨w.heap.size + 1, 4, none⟩ = false := Lib.frozen_of_heap hrr 4
    have r5 : w2.cell? ⟨w.heap.size + 1, 5, none⟩ = some (.int .u16 0) := by rw [Lib.cell_of_heap hrr]; rfl
    have g5 : w2.frozen? ⟨w.heap.size + 1, 5, none⟩ = false := Lib.frozen_of_heap hrr 5
    have r6 : w2.cell? ⟨w.heap.size + 1, 6, none⟩ = some (.int .u16 0) := by rw [Lib.cell_of_heap hrr]; rfl
    have g6 : w2.frozen? ⟨w.heap.size + 1, 6, none⟩ = false := Lib.frozen_of_heap hrr 6
    have r7 : w2.cell? ⟨w.heap.size + 1, 7, none⟩ = some (.int .u16 0) := by rw [Lib.cell_of_heap hrr]; rfl
    have g7 : w2.frozen? ⟨w.heap.size + 1, 7, none⟩ = false := Lib.frozen_of_heap hrr 7
    have r8 : w2.cell? ⟨w.heap.size + 1, 8, none⟩ = some (.int .u16 0) := by rw [Lib.cell_of_heap hrr]; rfl
    have g8 : w2.frozen? ⟨w.heap.size + 1, 8, none⟩ = false := Lib.frozen_of_heap hrr 8
    have r9 : w2.cell? ⟨w.heap.size + 1, 9, none⟩ = some (.int .u16 0) := by rw [Lib.cell_of_heap hrr]; rfl
    have g9 : w2.frozen? ⟨w.heap.size + 1, 9, none⟩ = false := Lib.frozen_of_heap hrr 9
    have r10 : w2.cell? ⟨w.heap.size + 1, 10, none⟩ = some (.int .u16 0) := by rw [Lib.cell_of_heap hrr]; rfl
    have g10 : w2.frozen? ⟨w.heap.size + 1, 10, none⟩ = false := Lib.frozen_of_heap hrr 10
    have r11 : w2.cell? ⟨w.heap.size + 1, 11, none⟩ = some (.int .u16 0) := by rw [Lib.cell_of_heap hrr]; rfl
    have g11 : w2.frozen? ⟨w.heap.size + 1, 11, none⟩ = false := Lib.frozen_of_heap hrr 11
    have r12 : w2.cell? ⟨w.heap.size + 1, 12, none⟩ = some (.int .u16 0) := by rw [Lib.cell_of_heap hrr]; rfl
    have g12 : w2.frozen? ⟨w.heap.size + 1, 12, none⟩ = false := Lib.frozen_of_heap hrr 12
    have r13 : w2.cell? ⟨w.heap.size + 1, 13, none⟩ = some (.int .u16 0) := by rw [Lib.cell_of_heap hrr]; rfl
    have g13 : w2.frozen? ⟨w.heap.size + 1, 13, none⟩ = false := Lib.frozen_of_heap hrr 13
    have r14 : w2.cell? ⟨w.heap.size + 1, 14, none⟩ = some (.int .u16 0) := by rw [Lib.cell_of_heap hrr]; rfl
    have g14 : w2.frozen? ⟨w.heap.size + 1, 14, none⟩ = false := Lib.frozen_of_heap hrr 14
    have r15 : w2.cell? ⟨w.heap.size + 1, 15, none⟩ = some (.int .u16 0) := by rw [Lib.cell_of_heap hrr]; rfl
    have g15 : w2.frozen? ⟨w.heap.size + 1, 15, none⟩ = false := Lib.frozen_of_heap hrr 15
    obtain ⟨q0, q1, q2, q3, q4, q5, q6, q7, q8, q9, q10, q11, q12, q13, q14, q15⟩ := store16 w2 (w.heap.size + 1) (.string t.name) (.slice p.ea t.elems.length p.ec) (.slice p.aa t.above.length p.ac) (.slice p.wa t.wrong.length p.wc) (.int .u16 (M.know t 0 : Nat)) (.int .u16 (M.know t 1 : Nat)) (.int .u16 (M.know t 2 : Nat)) (.int .u16 (M.know t 3 : Nat)) (.int .u16 (M.know t 4 : Nat)) (.int .u16 (M.know t 5 : Nat)) (.int .u16 (M.know t 6 : Nat)) (.int .u16 (M.know t 7 : Nat)) (.int .u16 (M.know t 8 : Nat)) (.int .u16 (M.know t 9 : Nat)) (.int .u16 (M.know t 10 : Nat)) (.int .u16 (M.know t 11 : Nat)) (fun i hi => ⟨_, by rw [Lib.cell_of_heap hrr]; exact Array.getElem?_eq_getElem (show i < kn0.size from hi)⟩)
    have hBU := below16 (R := w.heap.size + 1) hBf (by omega) (.string t.name) (.slice p.ea t.elems.length p.ec) (.slice p.aa t.above.length p.ac) (.slice p.wa t.wrong.length p.wc) (.int .u16 (M.know t 0 : Nat)) (.int .u16 (M.know t 1 : Nat)) (.int .u16 (M.know t 2 : Nat)) (.int .u16 (M.know t 3 : Nat)) (.int .u16 (M.know t 4 : Nat)) (.int .u16 (M.know t 5 : Nat)) (.int .u16 (M.know t 6 : Nat)) (.int .u16 (M.know t 7 : Nat)) (.int .u16 (M.know t 8 : Nat)) (.int .u16 (M.know t 9 : Nat)) (.int .u16 (M.know t 10 : Nat)) (.int .u16 (M.know t 11 : Nat))
    clear hrr hBf hB2 d0 d1 d2 d3
    go_wp2_with fail
    exact bodyPost_ret (v := .tuple #[knV t p (M.know t), .int .i64 0]) (by simp [results, Try.results35, go_sem, q0, q1, q2, q3, q4, q5, q6, q7, q8, q9, q10, q11, q12, q13, q14, q15]) rfl (formed_yes HF.out hBU)
  · have HF := Lib.hid hf
    have hrr : w1.heap[w.heap.size + 1]? = some (.cells kn0 62 (0, 0)) := by rw [hB1.block _ (by simp)]; exact hr0.out
    have hBf := below2 HW.out hB1
    have r0 : w1.cell? ⟨w.heap.size + 1, 0, none⟩ = some (.string ⟨#[]⟩) := by rw [Lib.cell_of_heap hrr]; rfl
    have g0 : w1.frozen? ⟨w.heap.size + 1, 0, none⟩ = false := Lib.frozen_of_heap hrr 0
    have r1 : w1.cell? ⟨w.heap.size + 1, 1, none⟩ = some (.slice none 0 0) := by rw [Lib.cell_of_heap hrr]; rfl
    have g1 : w1.frozen? ⟨w.heap.size + 1, 1, none⟩ = false := Lib.frozen_of_heap hrr 1
    have r2 : w1.cell? ⟨w.heap.size + 1, 2, none⟩ = some (.slice none 0 0) := by rw [Lib.cell_of_heap hrr]; rfl
    have g2 : w1.frozen? ⟨w.heap.size + 1, 2, none⟩ = false := Lib.frozen_of_heap hrr 2
    have r3 : w1.cell? ⟨w.heap.size + 1, 3, none⟩ = some (.slice none 0 0) := by rw [Lib.cell_of_heap hrr]; rfl
    have g3 : w1.frozen? ⟨w.heap.size + 1, 3, none⟩ = false := Lib.frozen_of_heap hrr 3
    have r4 : w1.cell? ⟨w.heap.size + 1, 4, none⟩ = some (.int .u16 0) := by rw [Lib.cell_of_heap hrr]; rfl
    have g4 : w1.frozen? ⟨w.heap.size + 1, 4, none⟩ = false := Lib.frozen_of_heap hrr 4
    have r5 : w1.cell? ⟨w.heap.size + 1, 5, none⟩ = some (.int .u16 0) := by rw [Lib.cell_of_heap hrr]; rfl
    have g5 : w1.frozen? ⟨w.heap.size + 1, 5, none⟩ = false := Lib.frozen_of_heap hrr 5
    have r6 : w1.cell? ⟨w.heap.size + 1, 6, none⟩ = some (.int .u16 0) := by rw [Lib.cell_of_heap hrr]; rfl
    have g6 : w1.frozen? ⟨w.heap.size + 1, 6, none⟩ = false := Lib.frozen_of_heap hrr 6
    have r7 : w1.cell? ⟨w.heap.size + 1, 7, none⟩ = some (.int .u16 0) := by rw [Lib.cell_of_heap hrr]; rfl
    have g7 : w1.frozen? ⟨w.heap.size + 1, 7, none⟩ = false := Lib.frozen_of_heap hrr 7
    have r8 : w1.cell? ⟨w.heap.size + 1, 8, none⟩ = some (.int .u16 0) := by rw [Lib.cell_of_heap hrr]; rfl
    have g8 : w1.frozen? ⟨w.heap.size + 1, 8, none⟩ = false := Lib.frozen_of_heap hrr 8
    have r9 : w1.cell? ⟨w.heap.size + 1, 9, none⟩ = some (.int .u16 0) := by rw [Lib.cell_of_heap hrr]; rfl
    have g9 : w1.frozen? ⟨w.heap.size + 1, 9, none⟩ = false := Lib.frozen_of_heap hrr 9
    have r10 : w1.cell? ⟨w.heap.size + 1, 10, none⟩ = some (.int .u16 0) := by rw [Lib.cell_of_heap hrr]; rfl
    have g10 : w1.frozen? ⟨w.heap.size + 1, 10, none⟩ = false := Lib.frozen_of_heap hrr 10
    have r11 : w1.cell? ⟨w.heap.size + 1, 11, none⟩ = some (.int .u16 0) := by rw [Lib.cell_of_heap hrr]; rfl
    have g11 : w1.frozen? ⟨w.heap.size + 1, 11, none⟩ = false := Lib.frozen_of_heap hrr 11
    have r12 : w1.cell? ⟨w.heap.size + 1, 12, none⟩ = some (.int .u16 0) := by rw [Lib.cell_of_heap hrr]; rfl
    have g12 : w1.frozen? ⟨w.heap.size + 1, 12, none⟩ = false := Lib.frozen_of_heap hrr 12
    have r13 : w1.cell? ⟨w.heap.size + 1, 13, none⟩ = some (.int .u16 0) := by rw [Lib.cell_of_heap hrr]; rfl
    have g13 : w1.frozen? ⟨w.heap.size + 1, 13, none⟩ = false := Lib.frozen_of_heap hrr 13
    have r14 : w1.cell? ⟨w.heap.size + 1, 14, none⟩ = some (.int .u16 0) := by rw [Lib.cell_of_heap hrr]; rfl
    have g14 : w1.frozen? ⟨w.heap.size + 1, 14, none⟩ = false := Lib.frozen_of_heap hrr 14
    have r15 : w1.cell? ⟨w.heap.size + 1, 15, none⟩ = some (.int .u16 0) := by rw [Lib.cell_of_heap hrr]; rfl
    have g15 : w1.frozen? ⟨w.heap.size + 1, 15, none⟩ = false := Lib.frozen_of_heap hrr 15
    obtain ⟨q0, q1, q2, q3, q4, q5, q6, q7, q8, q9, q10, q11, q12, q13, q14, q15⟩ := store16 w1 (w.heap.size + 1) (.string ⟨#[]⟩) (.slice none 0 0) (.slice none 0 0) (.slice none 0 0) (.int .u16 0) (.int .u16 0) (.int .u16 0) (.int .u16 0) (.int .u16 0) (.int .u16 0) (.int .u16 0) (.int .u16 0) (.int .u16 0) (.int .u16 0) (.int .u16 0) (.int .u16 0) (fun i hi => ⟨_, by rw [Lib.cell_of_heap hrr]; exact Array.getElem?_eq_getElem (show i < kn0.size from hi)⟩)
    have hBU := below16 (R := w.heap.size + 1) hBf (by omega) (.string ⟨#[]⟩) (.slice none 0 0) (.slice none 0 0) (.slice none 0 0) (.int .u16 0) (.int .u16 0) (.int .u16 0) (.int .u16 0) (.int .u16 0) (.int .u16 0) (.int .u16 0) (.int .u16 0) (.int .u16 0) (.int .u16 0) (.int .u16 0) (.int .u16 0)
    clear c0 c1 c2 c3 hf hB1 hrr hBf
    go_wp2_with fail
    exact bodyPost_ret (v := .tuple #[.agg kn0, .int .i64 4]) (by simp [results, Try.results35, go_sem, q0, q1, q2, q3, q4, q5, q6, q7, q8, q9, q10, q11, q12, q13, q14, q15]) rfl (formed_no HF.out hBU)
end Go.Proofs.Ytnhnjfoboepffaa
