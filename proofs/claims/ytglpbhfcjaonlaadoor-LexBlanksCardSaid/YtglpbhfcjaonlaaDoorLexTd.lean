/- DERIVED. The walk of the statement on edits that are taken back. -/
import Derived.Test.YtglpbhfcjaonlaaDoorLexTd0
namespace Go.Proofs.YtglpbhfcjaonlaaDoor
open Go.RowKit Go.WideMaps Go.Maps Go.Shelf

theorem fields_ed : Tryd.prog.underlying 39 = some (.struct (Tryd.prog.fieldsOf 39)) := by kernel_rfl
theorem stood_ed : Tryd.prog.stoodInHeld 39 = false := by kernel_rfl
namespace M
def eqEd (a b : Ed) : Bool := decide (a.from_ = b.from_ ∧ a.to_ = b.to_ ∧ a.put.data.toList = b.put.data.toList)
theorem eqEd_self (a : Ed) : eqEd a a = true := by unfold eqEd; simp
end M
set_option maxHeartbeats 1000000 in
set_option maxRecDepth 100000 in
theorem eqEd_run (x y : M.Ed) (w : World) : (Op.equalIn 10000 39 (edV x) (edV y)).run Tryd.prog w = .ok (M.eqEd x y) w := by
  have u3 := Tryd.underlying3
  have a3 := Tryd.isAgg3
  have z3 := Tryd.sizeOf3
  have u9 := Tryd.underlying9
  have a9 := Tryd.isAgg9
  have z9 := Tryd.sizeOf9
  rw [show (10000 : Nat) = 9999 + 1 from rfl, run_equalIn_agg w 9999 39 _ _ fields_ed stood_ed]
  simp only [Program.fieldsOf, Tryd.underlying39]
  go_simp
  unfold M.eqEd
  rw [← ByteArray.toList_eq x.put, ← ByteArray.toList_eq y.put]
  by_cases h1 : x.from_ = y.from_ <;> by_cases h2 : x.put.toList = y.put.toList <;> by_cases h3 : x.to_ = y.to_ <;> simp [h1, h2, h3]

/-- The cells of a box. -/
theorem box1 {w w1 : World} {x : M.Ed} {t1 : TypeId} (hB : Below (w.alloc (.cells #[.int .i64 x.from_, .int .i64 x.to_, .string x.put] t1)).heap.size (w.alloc (.cells #[.int .i64 x.from_, .int .i64 x.to_, .string x.put] t1)) w1) :
    (w1.cell? ⟨w.heap.size, 0, none⟩ = some (.int .i64 x.from_) ∧ w1.cell? ⟨w.heap.size, 1, none⟩ = some (.int .i64 x.to_) ∧ w1.cell? ⟨w.heap.size, 2, none⟩ = some (.string x.put)) ∧ Below w.heap.size w w1 ∧ w.heap.size < w1.heap.size := by
  have e0 : w1.heap[w.heap.size]? = some (.cells #[.int .i64 x.from_, .int .i64 x.to_, .string x.put] t1 (0, 0)) := by
    rw [hB.block _ (by simp)]; exact (MapKept.heap_alloc w _).1
  exact ⟨⟨by rw [Lib.cell_of_heap e0]; rfl, by rw [Lib.cell_of_heap e0]; rfl, by rw [Lib.cell_of_heap e0]; rfl⟩, (below1 w _).trans (hB.mono (by simp)), by have := hB.size; simp at this; omega⟩

set_option maxHeartbeats 1000000 in
set_option maxRecDepth 100000 in
theorem lexUndone_no (s : ByteArray) (x : M.Ed) (w : World) (hw : Ready w) (hs : s.size ≤ maxLen) (hp : x.put.size ≤ 140737488355328) (hE : M.appE s x ≠ 0) :
    Calls Tryd.prog 11 #[.string s, edV x] w fun e w' => e = .returned (.bool true) ∧ Below w.heap.size w w' := by
  obtain ⟨c, hc⟩ : ∃ c, M.appE s x = c := ⟨_, rfl⟩
  rw [hc] at hE
  have h3 : ((c : Int) == 0) = false := by rw [beq_eq_false_iff_ne]; omega
  have h4 : ((c : Int) != 0) = true := by rw [bne_iff_ne]; omega
  have HC := Lib.hid hc
  have HW := Lib.hid hw
  clear hc hw
  go_enter Tryd.func11, Tryd.ntmps11
  go_wp2_with fail
  refine (Apply_any s x _ hs hp).mono ?_
  rintro e w1 ⟨rfl, hB1⟩
  rw [HC.out]
  generalize M.applyT s x = t
  obtain ⟨⟨x0, x1, x2⟩, hBw, hlt⟩ := box1 hB1
  clear hB1
  go_wp2_with fail
  refine (awake_any _ (HW.out.below hBw)).mono ?_
  rintro e w2 ⟨rfl, hB2⟩
  go_wp2_with fail
  go_ret
  exact ⟨rfl, below2 hBw hB2⟩

set_option maxHeartbeats 2000000 in
set_option maxRecDepth 100000 in
theorem lexUndone_yes (s : ByteArray) (x : M.Ed) (w : World) (hw : Ready w) (hE : M.appE s x = 0) :
    Calls Tryd.prog 11 #[.string s, edV x] w fun e w' => e = .returned (.bool true) ∧ Below w.heap.size w w' := by
  obtain ⟨hf, hx, hf2⟩ := M.appE_ok hE
  have hsm : s.size ≤ 2500 := by rw [← M.size_list]; exact M.fault_small s.data.toList hf
  have htm : (M.after s x).size ≤ 2500 := by rw [← M.size_list]; exact M.fault_small _ hf2
  have hau := M.after_size s x hx
  have hpm : x.put.size ≤ 2500 := by have := hx.1; have := hx.2.2; omega
  have hT : M.applyT s x = M.after s x := by unfold M.applyT; rw [if_pos hE]
  obtain ⟨b1, b2, b3, b4⟩ := M.undo_back s x hE
  have hT2 : M.applyT (M.after s x) (M.undo s x) = s := by unfold M.applyT; rw [if_pos b3, b2]
  have hym : (M.undo s x).put.size ≤ 2500 := by
    have := M.after_size _ _ b1
    rw [b2] at this
    have := b1.1; have := b1.2.2; omega
  obtain ⟨t, ht⟩ : ∃ t, M.after s x = t := ⟨_, rfl⟩
  obtain ⟨y, hy⟩ : ∃ y, M.undo s x = y := ⟨_, rfl⟩
  rw [ht] at hT htm
  rw [ht, hy] at b3 b4 hT2
  rw [hy] at hym
  have HE := Lib.hid hE
  have HT := Lib.hid hT
  have HT2 := Lib.hid hT2
  have HY := Lib.hid hy
  have HE2 := Lib.hid b3
  have HY2 := Lib.hid b4
  have HW := Lib.hid hw
  have hq := fun W => eqEd_run x x W
  rw [M.eqEd_self] at hq
  have hc1 : decide (s.size ≤ 3000) = true := by simp; omega
  have hc2 : decide (x.put.size ≤ 3000) = true := by simp; omega
  clear hE hT hT2 hy b1 b2 b3 b4 ht hf hf2 hx hw hau
  go_enter Tryd.func11, Tryd.ntmps11
  go_wp2_with fail
  refine (Apply_any s x _ (by unfold maxLen; omega) (by omega)).mono ?_
  rintro e w1 ⟨rfl, hB1⟩
  rw [HE.out, HT.out]
  obtain ⟨⟨x0, x1, x2⟩, hBw, hlt⟩ := box1 hB1
  clear hB1
  go_wp2_with fail
  refine (short_any s w1).mono ?_
  rintro e w2 ⟨rfl, hB2⟩
  rw [hc1]
  replace x0 := cell_below x0 hB2
  replace x1 := cell_below x1 hB2
  replace x2 := cell_below x2 hB2
  replace hBw := below2 hBw hB2
  replace hlt := Nat.lt_of_lt_of_le hlt hB2.size
  clear hB2
  go_wp2_with fail
  refine (short_any x.put w2).mono ?_
  rintro e w3 ⟨rfl, hB2⟩
  rw [hc2]
  replace x0 := cell_below x0 hB2
  replace x1 := cell_below x1 hB2
  replace x2 := cell_below x2 hB2
  replace hBw := below2 hBw hB2
  replace hlt := Nat.lt_of_lt_of_le hlt hB2.size
  clear hB2
  go_wp2_with fail
  refine (Undo_any s x w3 (by unfold maxLen; omega) (by omega)).mono ?_
  rintro e w4 ⟨rfl, hB2⟩
  rw [HE.out, HY.out]
  replace x0 := cell_below x0 hB2
  replace x1 := cell_below x1 hB2
  replace x2 := cell_below x2 hB2
  replace hBw := below2 hBw hB2
  replace hlt := Nat.lt_of_lt_of_le hlt hB2.size
  clear hB2
  go_wp2_with fail
  refine (Apply_any t y _ (by unfold maxLen; omega) (by omega)).mono ?_
  rintro e w5 ⟨rfl, hB2⟩
  rw [HE2.out, HT2.out]
  obtain ⟨⟨y0, y1, y2⟩, hBy, hlty⟩ := box1 hB2
  clear hB2
  replace x0 := cell_below x0 hBy
  replace x1 := cell_below x1 hBy
  replace x2 := cell_below x2 hBy
  replace hBw := below2 hBw hBy
  replace hlt := Nat.lt_of_lt_of_le hlt hBy.size
  clear hBy
  go_wp2_with fail
  refine (Undo_any t y w5 (by unfold maxLen; omega) (by omega)).mono ?_
  rintro e w6 ⟨rfl, hB2⟩
  rw [HE2.out, HY2.out]
  replace x0 := cell_below x0 hB2
  replace x1 := cell_below x1 hB2
  replace x2 := cell_below x2 hB2
  replace hBw := below2 hBw hB2
  replace hlt := Nat.lt_of_lt_of_le hlt hB2.size
  clear hB2 y0 y1 y2
  go_wp2_with fail
  refine (awake_any _ (HW.out.below (belowA hBw _))).mono ?_
  rintro e w7 ⟨rfl, hB2⟩
  go_wp2_with fail
  go_ret
  exact ⟨rfl, below2 (belowA hBw _) hB2⟩

theorem lexUndone_any (s : ByteArray) (x : M.Ed) (w : World) (hw : Ready w) (hs : s.size ≤ maxLen) (hp : x.put.size ≤ 140737488355328) :
    Calls Tryd.prog 11 #[.string s, edV x] w fun e w' => e = .returned (.bool true) ∧ Below w.heap.size w w' := by
  by_cases h : M.appE s x = 0
  · exact lexUndone_yes s x w hw h
  · exact lexUndone_no s x w hw hs hp h

end Go.Proofs.YtglpbhfcjaonlaaDoor
