/- DERIVED. The walk of the statement on Diff. -/
import Derived.Test.YtglpbhfcjaonlaaDoorLexTk
namespace Go.Proofs.YtglpbhfcjaonlaaDoor
open Go.RowKit Go.WideMaps Go.Maps Go.Shelf

set_option maxHeartbeats 1000000 in
set_option maxRecDepth 100000 in
theorem refDiff_any (a b : ByteArray) (w : World) (ha : a.size ≤ maxLen) (hb : b.size ≤ maxLen) :
    Calls Tryd.prog 31 #[.string a, .string b] w fun e w' => e = .returned (.tuple #[edV (M.diff a b).1, .int .i64 (M.diff a b).2]) ∧ Below w.heap.size w w' := by
  have FA := Lib.hid (fun W => refCheck_any a W ha)
  have FB := Lib.hid (fun W => refCheck_any b W hb)
  obtain ⟨pa, ca, fa⟩ : ∃ p c, M.fault a.data.toList = (p, c) := ⟨_, _, rfl⟩
  obtain ⟨pb, cb, fb⟩ : ∃ p c, M.fault b.data.toList = (p, c) := ⟨_, _, rfl⟩
  by_cases h1 : ca = 0
  · by_cases h2 : cb = 0
    · exact refDiff_ok a b w (by rw [← M.size_list]; exact M.fault_small _ (by rw [fa]; exact h1)) (by rw [← M.size_list]; exact M.fault_small _ (by rw [fb]; exact h2)) (by rw [fa]; exact h1) (by rw [fb]; exact h2)
    · subst h1
      have hres : M.diff a b = (⟨0, 0, ⟨#[]⟩⟩, cb) := by unfold M.diff; rw [if_neg (by rw [fa]; simp), if_pos (by rw [fb]; exact h2), fb]
      have HRES := Lib.hid hres
      have HA := Lib.hid fa
      have HBB := Lib.hid fb
      have h3 : ((cb : Int) == 0) = false := by rw [beq_eq_false_iff_ne]; omega
      have h4 : ((cb : Int) != 0) = true := by rw [bne_iff_ne]; omega
      clear hres fa fb
      go_enter Tryd.func31, Tryd.ntmps31
      go_wp2_with fail
      refine (FA.out _).mono ?_
      rintro e w1 ⟨rfl, hB1⟩
      rw [HA.out]
      go_wp2_with fail
      refine (FB.out _).mono ?_
      rintro e w2 ⟨rfl, hB2⟩
      rw [HBB.out]
      have hW2 : Below (w.heap.size + 1) (w.alloc (.cells #[.int .i64 0, .int .i64 0, .string ⟨#[]⟩] 39)) w2 := (hB1.mono (by simp)).trans (hB2.mono (by have := hB1.size; simpa using this))
      clear hB1 hB2
      have e4 : w2.heap[w.heap.size]? = some (.cells #[.int .i64 0, .int .i64 0, .string ⟨#[]⟩] 39 (0, 0)) := by rw [hW2.block _ (by omega)]; exact (MapKept.heap_alloc w _).1
      have q0 : w2.cell? ⟨w.heap.size, 0, none⟩ = some (.int .i64 0) := by rw [Lib.cell_of_heap e4]; rfl
      have q1 : w2.cell? ⟨w.heap.size, 1, none⟩ = some (.int .i64 0) := by rw [Lib.cell_of_heap e4]; rfl
      have q2 : w2.cell? ⟨w.heap.size, 2, none⟩ = some (.string ⟨#[]⟩) := by rw [Lib.cell_of_heap e4]; rfl
      have f0 : w2.frozen? ⟨w.heap.size, 0, none⟩ = false := Lib.frozen_of_heap e4 0
      have f1 : w2.frozen? ⟨w.heap.size, 1, none⟩ = false := Lib.frozen_of_heap e4 1
      have f2 : w2.frozen? ⟨w.heap.size, 2, none⟩ = false := Lib.frozen_of_heap e4 2
      have hBw : Below w.heap.size w w2 := (below1 w _).trans (hW2.mono (by omega))
      clear e4 hW2
      go_wp2_with fail
      refine bodyPost_ret (v := .tuple #[.agg #[.int .i64 0, .int .i64 0, .string ⟨#[]⟩], .int .i64 cb]) (by simp [results, Tryd.results31, go_sem, q0, q1, q2]) rfl ⟨by rw [HRES.out], below3 hBw _ (Nat.le_refl _) _ _ _⟩
  · have hres : M.diff a b = (⟨0, 0, ⟨#[]⟩⟩, ca) := by unfold M.diff; rw [if_pos (by rw [fa]; exact h1), fa]
    have HRES := Lib.hid hres
    have HA := Lib.hid fa
    have h3 : ((ca : Int) == 0) = false := by rw [beq_eq_false_iff_ne]; omega
    have h4 : ((ca : Int) != 0) = true := by rw [bne_iff_ne]; omega
    clear hres fa fb
    go_enter Tryd.func31, Tryd.ntmps31
    go_wp2_with fail
    refine (FA.out _).mono ?_
    rintro e w1 ⟨rfl, hB1⟩
    rw [HA.out]
    have hB1' : Below (w.heap.size + 1) (w.alloc (.cells #[.int .i64 0, .int .i64 0, .string ⟨#[]⟩] 39)) w1 := hB1.mono (by simp)
    clear hB1
    have e4 : w1.heap[w.heap.size]? = some (.cells #[.int .i64 0, .int .i64 0, .string ⟨#[]⟩] 39 (0, 0)) := by rw [hB1'.block _ (by omega)]; exact (MapKept.heap_alloc w _).1
    have q0 : w1.cell? ⟨w.heap.size, 0, none⟩ = some (.int .i64 0) := by rw [Lib.cell_of_heap e4]; rfl
    have q1 : w1.cell? ⟨w.heap.size, 1, none⟩ = some (.int .i64 0) := by rw [Lib.cell_of_heap e4]; rfl
    have q2 : w1.cell? ⟨w.heap.size, 2, none⟩ = some (.string ⟨#[]⟩) := by rw [Lib.cell_of_heap e4]; rfl
    have f0 : w1.frozen? ⟨w.heap.size, 0, none⟩ = false := Lib.frozen_of_heap e4 0
    have f1 : w1.frozen? ⟨w.heap.size, 1, none⟩ = false := Lib.frozen_of_heap e4 1
    have f2 : w1.frozen? ⟨w.heap.size, 2, none⟩ = false := Lib.frozen_of_heap e4 2
    have hBw : Below w.heap.size w w1 := (below1 w _).trans (hB1'.mono (by omega))
    clear e4 hB1'
    go_wp2_with fail
    refine bodyPost_ret (v := .tuple #[.agg #[.int .i64 0, .int .i64 0, .string ⟨#[]⟩], .int .i64 ca]) (by simp [results, Tryd.results31, go_sem, q0, q1, q2]) rfl ⟨by rw [HRES.out], below3 hBw _ (Nat.le_refl _) _ _ _⟩

set_option maxHeartbeats 1000000 in
set_option maxRecDepth 100000 in
theorem lexDiffs_n1 (a b : ByteArray) (w : World) (hw : Ready w) (hc1 : decide (a.size ≤ 3000) = false) :
    Calls Tryd.prog 6 #[.string a, .string b] w fun e w' => e = .returned (.bool true) ∧ Below w.heap.size w w' := by
  have HW := Lib.hid hw
  clear hw
  go_enter Tryd.func6, Tryd.ntmps6
  go_wp2_with fail
  refine (short_any a _).mono ?_
  rintro e w1 ⟨rfl, hBw⟩
  rw [hc1]
  go_wp2_with fail
  refine (awake_any _ (HW.out.below hBw)).mono ?_
  rintro e w8 ⟨rfl, hB2⟩
  go_wp2_with fail
  go_ret
  exact ⟨rfl, below2 hBw hB2⟩

set_option maxHeartbeats 1000000 in
set_option maxRecDepth 100000 in
theorem lexDiffs_n2 (a b : ByteArray) (w : World) (hw : Ready w) (hc1 : decide (a.size ≤ 3000) = true) (hc2 : decide (b.size ≤ 3000) = false) :
    Calls Tryd.prog 6 #[.string a, .string b] w fun e w' => e = .returned (.bool true) ∧ Below w.heap.size w w' := by
  have HW := Lib.hid hw
  clear hw
  go_enter Tryd.func6, Tryd.ntmps6
  go_wp2_with fail
  refine (short_any a _).mono ?_
  rintro e w1 ⟨rfl, hBw⟩
  rw [hc1]
  go_wp2_with fail
  refine (short_any b _).mono ?_
  rintro e w2 ⟨rfl, hB2⟩
  rw [hc2]
  replace hBw := below2 hBw hB2
  clear hB2
  go_wp2_with fail
  refine (awake_any _ (HW.out.below hBw)).mono ?_
  rintro e w8 ⟨rfl, hB2⟩
  go_wp2_with fail
  go_ret
  exact ⟨rfl, below2 hBw hB2⟩

set_option maxHeartbeats 1000000 in
set_option maxRecDepth 100000 in
theorem lexDiffs_yes (a b : ByteArray) (w : World) (hw : Ready w) (hc1 : decide (a.size ≤ 3000) = true) (hc2 : decide (b.size ≤ 3000) = true) :
    Calls Tryd.prog 6 #[.string a, .string b] w fun e w' => e = .returned (.bool true) ∧ Below w.heap.size w w' := by
  have HW := Lib.hid hw
  clear hw
  have k1 := of_decide_eq_true hc1
  have k2 := of_decide_eq_true hc2
  have HA := Lib.hid fun W => diff_any a b W (by unfold maxLen; omega) (by unfold maxLen; omega)
  have HR := Lib.hid fun W => refDiff_any a b W (by unfold maxLen; omega) (by unfold maxLen; omega)
  obtain ⟨z, c, hz⟩ : ∃ z c, M.diff a b = (z, c) := ⟨_, _, rfl⟩
  have HZ := Lib.hid hz
  have hq := fun W => eqEd_run z z W
  rw [M.eqEd_self] at hq
  clear hz k1 k2
  go_enter Tryd.func6, Tryd.ntmps6
  go_wp2_with fail
  refine (short_any a _).mono ?_
  rintro e w1 ⟨rfl, hBw⟩
  rw [hc1]
  go_wp2_with fail
  refine (short_any b _).mono ?_
  rintro e w2 ⟨rfl, hB2⟩
  rw [hc2]
  replace hBw := below2 hBw hB2
  clear hB2
  go_wp2_with fail
  refine (HA.out _).mono ?_
  rintro e w3 ⟨rfl, hB2⟩
  rw [HZ.out]
  replace hBw := below2 hBw hB2
  clear hB2
  dsimp only
  go_wp2_with fail
  refine (HR.out _).mono ?_
  rintro e w4 ⟨rfl, hB2⟩
  rw [HZ.out]
  obtain ⟨⟨z0, z1, z2⟩, hBz, hltz⟩ := box1 hB2
  clear hB2
  replace hBw := below2 hBw hBz
  clear hBz
  dsimp only
  go_wp2_with fail
  refine (awake_any _ (HW.out.below (belowA hBw _))).mono ?_
  rintro e w8 ⟨rfl, hB2⟩
  go_wp2_with fail
  go_ret
  exact ⟨rfl, below2 (belowA hBw _) hB2⟩

theorem lexDiffs_any (a b : ByteArray) (w : World) (hw : Ready w) :
    Calls Tryd.prog 6 #[.string a, .string b] w fun e w' => e = .returned (.bool true) ∧ Below w.heap.size w w' := by
  by_cases h1 : a.size ≤ 3000
  · by_cases h2 : b.size ≤ 3000
    · exact lexDiffs_yes a b w hw (decide_eq_true h1) (decide_eq_true h2)
    · exact lexDiffs_n2 a b w hw (decide_eq_true h1) (decide_eq_false h2)
  · exact lexDiffs_n1 a b w hw (decide_eq_false h1)

end Go.Proofs.YtglpbhfcjaonlaaDoor
