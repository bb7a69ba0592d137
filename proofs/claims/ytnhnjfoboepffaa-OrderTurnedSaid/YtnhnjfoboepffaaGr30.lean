/- Texts of one's own, joined: OrdAb. -/
import Derived.Test.YtnhnjfoboepffaaGr28
import Derived.Test.YtnhnjfoboepffaaGr25
namespace Go.Proofs.Ytnhnjfoboepffaa
open Go.RowKit

set_option maxHeartbeats 4000000 in
set_option maxRecDepth 100000 in
theorem isLattice_any (t : M.Tb) (p : Tp) (w : World) (ht : TbIn w t p) (hf : M.form t) :
    Calls Try.prog 50 #[knV t p (M.know t)] w fun e w' => e = .returned (.bool (decide ((M.brk t).1 = 0))) ∧ Below w.heap.size w w' := by
  have HC := Lib.hid (breakOf_any t p (w.alloc (.cells (knA t p (M.know t)) 62)) (ht.below (below1 _ _)) hf)
  have hfd : ∀ W : World, (Instr.field 45 (brkV (M.brk t)) 0).run Try.prog W = .ok (.int .u8 (M.brk t).1) W := fun _ => by kernel_rfl
  clear ht hf
  go_enter Try.func50, Try.ntmps50
  go_wp2_with fail
  refine HC.out.mono ?_
  rintro e w1 ⟨rfl, hB1⟩
  have hB := below2 (below1 w (.cells (knA t p (M.know t)) 62)) hB1
  have HR := Lib.hid (show (((M.brk t).1 : Int) == 0) = decide ((M.brk t).1 = 0) from by rw [Bool.eq_iff_iff, beq_iff_eq, decide_eq_true_eq]; omega)
  go_wp2_with fail
  go_ret
  exact ⟨ret_bool (by first | exact HR.out | (rw [← HR.out]; rfl) | simp), hB⟩

set_option maxHeartbeats 8000000 in
set_option maxRecDepth 100000 in
theorem prove_any (t : M.Tb) (p : Tp) (w : World) (hal : ∀ l, l ∈ t.above → l.length ≤ 1000000) (ht : TbIn w t p) :
    Calls Try.prog 20 #[tbV t p] w (ProvePost t w) := by
  have hBB : Below w.heap.size w ((w.alloc (.cells (tbA t p) 26)).alloc (.cells br0 45)) := belowA (below1 _ _) _
  have HT := Lib.hid (ht.below hBB)
  have HX := Lib.hid ((tbBox (t := t) (p := p) (box_new w (tbA t p) 26)).below (below1 _ (.cells br0 45)))
  have HZ := Lib.hid (z3_of (box_last w (.cells (tbA t p) 26) br0 45))
  have HC := Lib.hid (formed_any t p ((w.alloc (.cells (tbA t p) 26)).alloc (.cells br0 45)) hal (ht.below hBB))
  have HBB := Lib.hid hBB
  clear ht hBB hal
  obtain ⟨x0, x1, x2, x3⟩ := HX.out
  go_enter Try.func20, Try.ntmps20
  go_wp2_with fail
  refine HC.out.mono ?_
  clear x0 x1 x2 x3
  rintro e w1 ⟨⟨hf, rfl⟩ | ⟨hf, rfl⟩, hB1⟩
  · have HF := Lib.hid hf
    have HT1 := Lib.hid (HT.out.below hB1)
    have hBw := below2 HBB.out hB1
    have HZ1 := Lib.hid (HZ.out.below hB1 (by simp))
    have hw1 := hB1.size
    simp only [World.size_alloc] at hw1
    clear hf hB1
    go_wp2_with fail
    refine (breakOf_any t p _ (HT1.out.below (below1 _ _)) HF.out).mono ?_
    rintro e w2 ⟨rfl, hB2⟩
    have hB2' := below2 (below1 w1 (.cells (knA t p (M.know t)) 62)) hB2
    have hBw2 := below2 hBw hB2'
    have hw2 := hB2'.size
    have HZ2 := Lib.hid ((HZ1.out.below hB2' (by omega)).below (below1 w2 (.cells #[.int .u8 (M.brk t).1, .int .i64 (M.brk t).2.1, .int .i64 (M.brk t).2.2] 45)) (by omega))
    have hBw3 := belowA hBw2 (.cells #[.int .u8 (M.brk t).1, .int .i64 (M.brk t).2.1, .int .i64 (M.brk t).2.2] 45)
    clear hB2 hB2'
    obtain ⟨r0, r1, r2, g0, g1, g2⟩ := HZ2.out
    by_cases hk : (M.brk t).1 = 0
    · have hb0 := M.brk_kind hk
      have k1 : (((M.brk t).1 : Int) == 0) = true := by rw [hk]; rfl
      have k2 : (((M.brk t).1 : Int) != 0) = false := by rw [hk]; rfl
      have HK := Lib.hid hb0
      clear hk hb0
      obtain ⟨q0, q1, q2⟩ := set3_at _ (w.heap.size + 1) (.int .u8 0) (.int .i64 0) (.int .i64 0) _ _ _ r0 r1 r2
      have hBU := below_set3 (R := w.heap.size + 1) hBw3 (by omega) (.int .u8 0) (.int .i64 0) (.int .i64 0)
      go_wp2_with fail
      exact bodyPost_ret (v := .tuple #[brkV (0, 0, 0), .int .i64 0]) (by simp [results, Try.results20, go_sem, q0, q1, q2]) rfl (prove_3 HF.out HK.out hBU)
    · have k1 : (((M.brk t).1 : Int) == 0) = false := by rw [beq_eq_false_iff_ne]; omega
      have k2 : (((M.brk t).1 : Int) != 0) = true := by rw [bne_iff_ne]; omega
      have HK := Lib.hid hk
      clear hk
      obtain ⟨q0, q1, q2⟩ := set3_at _ (w.heap.size + 1) (.int .u8 (M.brk t).1) (.int .i64 (M.brk t).2.1) (.int .i64 (M.brk t).2.2) _ _ _ r0 r1 r2
      have hBU := below_set3 (R := w.heap.size + 1) hBw3 (by omega) (.int .u8 (M.brk t).1) (.int .i64 (M.brk t).2.1) (.int .i64 (M.brk t).2.2)
      go_wp2_with fail
      exact bodyPost_ret (v := .tuple #[brkV (M.brk t), .int .i64 12]) (by simp [results, Try.results20, go_sem, q0, q1, q2]) rfl (prove_2 HF.out HK.out hBU)
  · have HF := Lib.hid hf
    have hBw := belowA (below2 HBB.out hB1) (.cells kn0 62)
    have hw1 := hB1.size
    simp only [World.size_alloc] at hw1
    obtain ⟨r0, r1, r2, g0, g1, g2⟩ := (HZ.out.below hB1 (by simp)).below (below1 w1 (.cells kn0 62)) (by omega)
    obtain ⟨q0, q1, q2⟩ := set3_at _ (w.heap.size + 1) (.int .u8 0) (.int .i64 0) (.int .i64 0) _ _ _ r0 r1 r2
    have hBU := below_set3 (R := w.heap.size + 1) hBw (by omega) (.int .u8 0) (.int .i64 0) (.int .i64 0)
    clear hf hB1
    go_wp2_with fail
    exact bodyPost_ret (v := .tuple #[brkV (0, 0, 0), .int .i64 4]) (by simp [results, Try.results20, go_sem, q0, q1, q2]) rfl (prove_1 HF.out hBU)

end Go.Proofs.Ytnhnjfoboepffaa
