/- Texts of one's own, joined: OrdY. -/
import Derived.Test.YtnhnjfoboepffaaGr24
namespace Go.Proofs.Ytnhnjfoboepffaa
open Go.RowKit

namespace M
theorem brk_kind {t : Tb} (h : (brk t).1 = 0) : brk t = (0, 0, 0) := by
  unfold brk at h ⊢
  split at h
  · simp at h
  · split at h
    · simp at h
    · split at h
      · simp only at h; unfold kindM at h; split at h <;> omega
      · split at h
        · simp at h
        · split at h
          · simp at h
          · rename_i h1 _ h2 _ h3 h4 _ h5
            simp_all
end M
/-- What Prove comes to. -/
def ProvePost (t : M.Tb) (w : World) (e : Ending) (w' : World) : Prop :=
  ((¬ M.form t ∧ e = .returned (.tuple #[brkV (0, 0, 0), .int .i64 4])) ∨ (M.form t ∧ (M.brk t).1 ≠ 0 ∧ e = .returned (.tuple #[brkV (M.brk t), .int .i64 12])) ∨
    (M.form t ∧ M.brk t = (0, 0, 0) ∧ e = .returned (.tuple #[brkV (0, 0, 0), .int .i64 0]))) ∧ Below w.heap.size w w'
theorem prove_1 {t : M.Tb} {w w' : World} (h : ¬ M.form t) (hB : Below w.heap.size w w') : ProvePost t w (.returned (.tuple #[brkV (0, 0, 0), .int .i64 4])) w' := ⟨Or.inl ⟨h, rfl⟩, hB⟩
theorem prove_2 {t : M.Tb} {w w' : World} (h : M.form t) (hk : (M.brk t).1 ≠ 0) (hB : Below w.heap.size w w') : ProvePost t w (.returned (.tuple #[brkV (M.brk t), .int .i64 12])) w' := ⟨Or.inr (Or.inl ⟨h, hk, rfl⟩), hB⟩
theorem prove_3 {t : M.Tb} {w w' : World} (h : M.form t) (hk : M.brk t = (0, 0, 0)) (hB : Below w.heap.size w w') : ProvePost t w (.returned (.tuple #[brkV (0, 0, 0), .int .i64 0])) w' := ⟨Or.inr (Or.inr ⟨h, hk, rfl⟩), hB⟩

set_option maxHeartbeats 8000000 in
set_option maxRecDepth 100000 in
theorem refProve_any (t : M.Tb) (p : Tp) (w : World) (hs : t.name.size ≤ maxLen) (hes : ∀ s, s ∈ t.elems → s.size ≤ maxLen) (hal : ∀ l, l ∈ t.above → l.length ≤ 1000000) (ht : TbIn w t p) :
    Calls Try.prog 34 #[tbV t p] w (ProvePost t w) := by
  have hBB : Below w.heap.size w ((w.alloc (.cells (tbA t p) 26)).alloc (.cells br0 45)) := belowA (below1 _ _) _
  have HT := Lib.hid (ht.below hBB)
  have HX := Lib.hid ((tbBox (t := t) (p := p) (box_new w (tbA t p) 26)).below (below1 _ (.cells br0 45)))
  have HZ := Lib.hid (z3_of (box_last w (.cells (tbA t p) 26) br0 45))
  have HC := Lib.hid (refCheck_any t p ((w.alloc (.cells (tbA t p) 26)).alloc (.cells br0 45)) hs hes hal (ht.below hBB))
  have HBB := Lib.hid hBB
  clear ht hBB hs hes hal
  obtain ⟨x0, x1, x2, x3⟩ := HX.out
  go_enter Try.func34, Try.ntmps34
  go_wp2_with fail
  refine HC.out.mono ?_
  clear x0 x1 x2 x3
  rintro e w1 ⟨⟨hf, rfl⟩ | ⟨hf, rfl⟩, hB1⟩
  · have HF := Lib.hid hf
    have HT1 := Lib.hid (HT.out.below hB1)
    have hBw := below2 HBB.out hB1
    have HZ1 := Lib.hid (HZ.out.below hB1 (by simp))
    have hw1 := hB1.size
    simp only [World.size_alloc] at hw1
    obtain ⟨x0, x1, x2, x3⟩ := HX.out.below hB1
    clear hf hB1
    go_wp2_with fail
    refine (refBreak_any t p _ HT1.out HF.out).mono ?_
    rintro e w2 ⟨rfl, hB2⟩
    have hBw2 := below2 hBw hB2
    have hw2 := hB2.size
    clear x0 x1 x2 x3
    have HZ2 := Lib.hid ((HZ1.out.below hB2 (by omega)).below (below1 w2 (.cells #[.int .u8 (M.brk t).1, .int .i64 (M.brk t).2.1, .int .i64 (M.brk t).2.2] 45)) (by omega))
    have hBw3 := belowA hBw2 (.cells #[.int .u8 (M.brk t).1, .int .i64 (M.brk t).2.1, .int .i64 (M.brk t).2.2] 45)
    clear hB2
    obtain ⟨r0, r1, r2, g0, g1, g2⟩ := HZ2.out
    by_cases hk : (M.brk t).1 = 0
    · have hb0 := M.brk_kind hk
      have k1 : (((M.brk t).1 : Int) == 0) = true := by rw [hk]; rfl
      have k2 : (((M.brk t).1 : Int) != 0) = false := by rw [hk]; rfl
      have HK := Lib.hid hb0
      clear hk hb0
      obtain ⟨q0, q1, q2⟩ := set3_at _ (w.heap.size + 1) (.int .u8 0) (.int .i64 0) (.int .i64 0) _ _ _ r0 r1 r2
      have hBU := below_set3 (R := w.heap.size + 1) hBw3 (by omega) (.int .u8 0) (.int .i64 0) (.int .i64 0)
      go_wp2_with fail
      exact bodyPost_ret (v := .tuple #[brkV (0, 0, 0), .int .i64 0]) (by simp [results, Try.results34, go_sem, q0, q1, q2]) rfl (prove_3 HF.out HK.out hBU)
    · have k1 : (((M.brk t).1 : Int) == 0) = false := by rw [beq_eq_false_iff_ne]; omega
      have k2 : (((M.brk t).1 : Int) != 0) = true := by rw [bne_iff_ne]; omega
      have HK := Lib.hid hk
      clear hk
      obtain ⟨q0, q1, q2⟩ := set3_at _ (w.heap.size + 1) (.int .u8 (M.brk t).1) (.int .i64 (M.brk t).2.1) (.int .i64 (M.brk t).2.2) _ _ _ r0 r1 r2
      have hBU := below_set3 (R := w.heap.size + 1) hBw3 (by omega) (.int .u8 (M.brk t).1) (.int .i64 (M.brk t).2.1) (.int .i64 (M.brk t).2.2)
      go_wp2_with fail
      exact bodyPost_ret (v := .tuple #[brkV (M.brk t), .int .i64 12]) (by simp [results, Try.results34, go_sem, q0, q1, q2]) rfl (prove_2 HF.out HK.out hBU)
  · have HF := Lib.hid hf
    have hBw := below2 HBB.out hB1
    have hw1 := hB1.size
    simp only [World.size_alloc] at hw1
    obtain ⟨r0, r1, r2, g0, g1, g2⟩ := HZ.out.below hB1 (by simp)
    obtain ⟨q0, q1, q2⟩ := set3_at _ (w.heap.size + 1) (.int .u8 0) (.int .i64 0) (.int .i64 0) _ _ _ r0 r1 r2
    have hBU := below_set3 (R := w.heap.size + 1) hBw (by omega) (.int .u8 0) (.int .i64 0) (.int .i64 0)
    clear hf hB1
    go_wp2_with fail
    exact bodyPost_ret (v := .tuple #[brkV (0, 0, 0), .int .i64 4]) (by simp [results, Try.results34, go_sem, q0, q1, q2]) rfl (prove_1 HF.out hBU)

/-- Whether a table is a lattice. -/
def M.lat (t : M.Tb) : Prop := M.form t ∧ M.brk t = (0, 0, 0)
/-- The error of a table that must be a lattice. -/
def LatPost (t : M.Tb) (w : World) (e : Ending) (w' : World) : Prop :=
  ((¬ M.form t ∧ e = .returned (.int .i64 4)) ∨ (M.form t ∧ (M.brk t).1 ≠ 0 ∧ e = .returned (.int .i64 12)) ∨ (M.lat t ∧ e = .returned (.int .i64 0))) ∧ Below w.heap.size w w'
theorem lat_1 {t : M.Tb} {w w' : World} (h : ¬ M.form t) (hB : Below w.heap.size w w') : LatPost t w (.returned (.int .i64 4)) w' := ⟨Or.inl ⟨h, rfl⟩, hB⟩
theorem lat_2 {t : M.Tb} {w w' : World} (h : M.form t) (hk : (M.brk t).1 ≠ 0) (hB : Below w.heap.size w w') : LatPost t w (.returned (.int .i64 12)) w' := ⟨Or.inr (Or.inl ⟨h, hk, rfl⟩), hB⟩
theorem lat_3 {t : M.Tb} {w w' : World} (h : M.lat t) (hB : Below w.heap.size w w') : LatPost t w (.returned (.int .i64 0)) w' := ⟨Or.inr (Or.inr ⟨h, rfl⟩), hB⟩

set_option maxHeartbeats 4000000 in
set_option maxRecDepth 100000 in
theorem refIsLattice_any (t : M.Tb) (p : Tp) (w : World) (hs : t.name.size ≤ maxLen) (hes : ∀ s, s ∈ t.elems → s.size ≤ maxLen) (hal : ∀ l, l ∈ t.above → l.length ≤ 1000000) (ht : TbIn w t p) :
    Calls Try.prog 15 #[tbV t p] w (LatPost t w) := by
  have HC := Lib.hid (refProve_any t p (w.alloc (.cells (tbA t p) 26)) hs hes hal (ht.below (below1 _ _)))
  obtain ⟨x0, x1, x2, x3⟩ := tbBox (t := t) (p := p) (box_new w (tbA t p) 26)
  clear ht hs hes hal
  go_enter Try.func15, Try.ntmps15
  go_wp2_with fail
  refine HC.out.mono ?_
  clear x0 x1 x2 x3
  rintro e w1 ⟨⟨hf, rfl⟩ | ⟨hf, hk, rfl⟩ | ⟨hf, hk, rfl⟩, hB1⟩
  · have HF := Lib.hid hf
    have hB := below2 (below1 w (.cells (tbA t p) 26)) hB1
    clear hf hB1
    go_wp2_with fail
    go_ret
    exact lat_1 HF.out (belowA hB _)
  · have HF := Lib.hid hf
    have HK := Lib.hid hk
    have hB := below2 (below1 w (.cells (tbA t p) 26)) hB1
    clear hf hk hB1
    go_wp2_with fail
    go_ret
    exact lat_2 HF.out HK.out (belowA hB _)
  · have HF := Lib.hid hf
    have HK := Lib.hid hk
    have hB := below2 (below1 w (.cells (tbA t p) 26)) hB1
    clear hf hk hB1
    go_wp2_with fail
    go_ret
    exact lat_3 ⟨HF.out, HK.out⟩ (belowA hB _)
end Go.Proofs.Ytnhnjfoboepffaa
