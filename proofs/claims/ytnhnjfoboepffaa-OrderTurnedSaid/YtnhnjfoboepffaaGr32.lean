/- Texts of one's own, joined: OrdAe. -/
import Derived.Test.YtnhnjfoboepffaaGr30
import Derived.Test.YtnhnjfoboepffaaGr27
import Derived.Test.YtnhnjfoboepffaaGr1
namespace Go.Proofs.Ytnhnjfoboepffaa
open Go.RowKit

theorem knInfo : (Try.prog.info? 62).map (fun i => i.size) = some 16 := by kernel_rfl
theorem knAgg (w : World) : (isAgg 62).run Try.prog w = .ok true w := by kernel_rfl
theorem one16 (t : M.Tb) (p : Tp) (r : Nat → Nat) : ∀ v ∈ (knA t p r).toList, v.oneCell' = true := by
  intro v hv
  simp only [List.mem_cons, List.not_mem_nil, or_false] at hv
  rcases hv with rfl | rfl | rfl | rfl | rfl | rfl | rfl | rfl | rfl | rfl | rfl | rfl | rfl | rfl | rfl | rfl <;> rfl
/-- The cells of a known table in its block. -/
theorem kn_cells {W : World} {B : Nat} {t : M.Tb} {p : Tp} {r : Nat → Nat} {T : TypeId} (h : W.heap[B]? = some (.cells (knA t p r) T (0, 0))) :
    W.cell? ⟨B, 0, none⟩ = some (.string t.name) ∧ W.cell? ⟨B, 1, none⟩ = some (.slice p.ea t.elems.length p.ec) ∧ W.cell? ⟨B, 2, none⟩ = some (.slice p.aa t.above.length p.ac) ∧ W.cell? ⟨B, 3, none⟩ = some (.slice p.wa t.wrong.length p.wc) ∧
    W.cell? ⟨B, 4, none⟩ = some (.int .u16 (r 0 : Nat)) ∧ W.cell? ⟨B, 5, none⟩ = some (.int .u16 (r 1 : Nat)) ∧ W.cell? ⟨B, 6, none⟩ = some (.int .u16 (r 2 : Nat)) ∧ W.cell? ⟨B, 7, none⟩ = some (.int .u16 (r 3 : Nat)) ∧ W.cell? ⟨B, 8, none⟩ = some (.int .u16 (r 4 : Nat)) ∧ W.cell? ⟨B, 9, none⟩ = some (.int .u16 (r 5 : Nat)) ∧ W.cell? ⟨B, 10, none⟩ = some (.int .u16 (r 6 : Nat)) ∧ W.cell? ⟨B, 11, none⟩ = some (.int .u16 (r 7 : Nat)) ∧ W.cell? ⟨B, 12, none⟩ = some (.int .u16 (r 8 : Nat)) ∧ W.cell? ⟨B, 13, none⟩ = some (.int .u16 (r 9 : Nat)) ∧ W.cell? ⟨B, 14, none⟩ = some (.int .u16 (r 10 : Nat)) ∧ W.cell? ⟨B, 15, none⟩ = some (.int .u16 (r 11 : Nat)) := by
  refine ⟨?_, ?_, ?_, ?_, ?_, ?_, ?_, ?_, ?_, ?_, ?_, ?_, ?_, ?_, ?_, ?_⟩ <;> (rw [Lib.cell_of_heap h]; rfl)

set_option maxHeartbeats 8000000 in
set_option maxRecDepth 100000 in
theorem proved_c3 (t : M.Tb) (p : Tp) (w : World) (hfm : M.form t) (hn : (M.brk t).1 = 0) (hal : ∀ l, l ∈ t.above → l.length ≤ 1000000) (ht : TbIn w t p) : Calls Try.prog 28 #[tbV t p] w (ProvedPost t p w) := by
  obtain ⟨ik, hik, hks⟩ := Option.map_eq_some_iff.1 knInfo
  have HIK := Lib.hid hik
  have HKS := Lib.hid hks
  have HW := Lib.hid (belowA (below1 w (.cells (tbA t p) 26)) (.cells kn0 62))
  have HC := Lib.hid (formed_any t p ((w.alloc (.cells (tbA t p) 26)).alloc (.cells kn0 62)) hal (ht.below HW.out))
  have HT := Lib.hid ht
  have hb0 := (tbBox (t := t) (p := p) (box_new w (tbA t p) 26)).below (below1 _ (.cells kn0 62))
  have hr0 := Lib.hid (box_last w (.cells (tbA t p) 26) kn0 62)
  have HN := Lib.hid hn
  obtain ⟨c0, c1, c2, c3⟩ := hb0
  clear ht hal hik hks hn
  go_enter Try.func28, Try.ntmps28
  go_wp2_with fail
  refine HC.out.mono ?_
  rintro e w1 ⟨⟨hf, rfl⟩ | ⟨hf, rfl⟩, hB1⟩
  · have HF := Lib.hid hf
    have hrr : w1.heap[w.heap.size + 1]? = some (.cells kn0 62 (0, 0)) := by rw [hB1.block _ (by simp)]; exact hr0.out
    have hB := below2 HW.out hB1
    have hz : w.heap.size + 1 < w1.heap.size := by have := hB1.size; simp at this; omega
    have HT1 := Lib.hid (HT.out.below hB)
    have HRR := Lib.hid hrr
    have HKN := Lib.hid (box_new w1 (knA t p (M.know t)) 62)
    clear c0 c1 c2 c3 hf hB1 hrr
    go_wp2_with fail
    refine (isLattice_any t p _ (HT1.out.below (below1 _ _)) HF.out).mono ?_
    rintro e w2 ⟨rfl, hB2⟩
    have hB2' := below2 (below1 w1 (.cells (knA t p (M.know t)) 62)) hB2
    have HR2 := Lib.hid (show w2.heap[w.heap.size + 1]? = some (.cells kn0 62 (0, 0)) from by rw [hB2'.block _ hz]; exact HRR.out)
    have HK2 := Lib.hid (show w2.heap[w1.heap.size]? = some (.cells (knA t p (M.know t)) 62 (0, 0)) from by rw [hB2.block _ (by simp)]; exact HKN.out)
    have hBf := below2 hB hB2'
    have hz2 : w.heap.size + 1 < w2.heap.size := Nat.lt_of_lt_of_le hz hB2'.size
    rw [decide_eq_true HN.out]
    clear hB2 hB2'
    go_wp2_with (first
      | (refine wpList_load_row _ rfl 62 _ rfl ik HIK.out (knAgg _) w1.heap.size (knA t p (M.know t)) 62 rfl HK2.out HKS.out ?_)
      | (refine wpList_store_row _ rfl 62 _ _ rfl rfl ik HIK.out (w.heap.size + 1) kn0 (knA t p (M.know t)) 62 rfl rfl HR2.out rfl HKS.out (one16 t p _) ?_; intro w3 h3 hg3; have H3 := Lib.hid h3; clear h3))
    obtain ⟨q0, q1, q2, q3, q4, q5, q6, q7, q8, q9, q10, q11, q12, q13, q14, q15⟩ := kn_cells H3.out
    have hBU : Below w.heap.size w w3 := hBf.grown hg3 hBf.size (fun k e => by cases e; omega)
    exact bodyPost_ret (v := .tuple #[knV t p (M.know t), .int .i64 0]) (by simp [results, Try.results28, go_sem, q0, q1, q2, q3, q4, q5, q6, q7, q8, q9, q10, q11, q12, q13, q14, q15]) rfl (proved_3 ⟨HF.out, M.brk_kind HN.out⟩ hBU)
  · exact absurd hfm hf
end Go.Proofs.Ytnhnjfoboepffaa
