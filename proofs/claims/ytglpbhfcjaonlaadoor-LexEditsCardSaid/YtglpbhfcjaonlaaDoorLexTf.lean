/- DERIVED. The walk of the statement on edits. -/
import Derived.Test.YtglpbhfcjaonlaaDoorLexTe
namespace Go.Proofs.YtglpbhfcjaonlaaDoor
open Go.RowKit Go.WideMaps Go.Maps Go.Shelf

set_option maxHeartbeats 1000000 in
set_option maxRecDepth 100000 in
theorem lexEdits_no (s : ByteArray) (x : M.Ed) (w : World) (hw : Ready w) (h : ¬ (s.size ≤ 3000 ∧ x.put.size ≤ 3000)) :
    Calls Tryd.prog 5 #[.string s, edV x] w fun e w' => e = .returned (.bool true) ∧ Below w.heap.size w w' := by
  have HW := Lib.hid hw
  clear hw
  by_cases h1 : s.size ≤ 3000
  · have hc1 : decide (s.size ≤ 3000) = true := decide_eq_true h1
    have hc2 : decide (x.put.size ≤ 3000) = false := decide_eq_false (fun q => h ⟨h1, q⟩)
    clear h
    go_enter Tryd.func5, Tryd.ntmps5
    go_wp2_with fail
    refine (short_any s _).mono ?_
    rintro e w1 ⟨rfl, hB1⟩
    rw [hc1]
    obtain ⟨⟨x0, x1, x2⟩, hBw, hlt⟩ := box1 hB1
    clear hB1
    go_wp2_with fail
    refine (short_any x.put _).mono ?_
    rintro e w2 ⟨rfl, hB2⟩
    rw [hc2]
    replace hBw := below2 hBw hB2
    clear hB2
    go_wp2_with fail
    refine (awake_any _ (HW.out.below hBw)).mono ?_
    rintro e w3 ⟨rfl, hB2⟩
    go_wp2_with fail
    go_ret
    exact ⟨rfl, below2 hBw hB2⟩
  · have hc1 : decide (s.size ≤ 3000) = false := decide_eq_false h1
    clear h
    go_enter Tryd.func5, Tryd.ntmps5
    go_wp2_with fail
    refine (short_any s _).mono ?_
    rintro e w1 ⟨rfl, hB1⟩
    rw [hc1]
    have hBw := below2 (below1 w _) hB1
    clear hB1
    go_wp2_with fail
    refine (awake_any _ (HW.out.below hBw)).mono ?_
    rintro e w3 ⟨rfl, hB2⟩
    go_wp2_with fail
    go_ret
    exact ⟨rfl, below2 hBw hB2⟩

set_option maxHeartbeats 2000000 in
set_option maxRecDepth 100000 in
theorem lexEdits_yes (s : ByteArray) (x : M.Ed) (w : World) (hw : Ready w) (h1 : s.size ≤ 3000) (h2 : x.put.size ≤ 3000) :
    Calls Tryd.prog 5 #[.string s, edV x] w fun e w' => e = .returned (.bool true) ∧ Below w.heap.size w w' := by
  have HW := Lib.hid hw
  clear hw
  have hc1 : decide (s.size ≤ 3000) = true := decide_eq_true h1
  have hc2 : decide (x.put.size ≤ 3000) = true := decide_eq_true h2
  have hs3 : s.size ≤ maxLen := by unfold maxLen; omega
  have hp3 : x.put.size ≤ 140737488355328 := by omega
  obtain ⟨t, ht⟩ : ∃ t, M.applyT s x = t := ⟨_, rfl⟩
  obtain ⟨c, hc⟩ : ∃ c, M.appE s x = c := ⟨_, rfl⟩
  obtain ⟨y, hy⟩ : ∃ y, M.undo s x = y := ⟨_, rfl⟩
  have hq := fun W => eqEd_run y y W
  rw [M.eqEd_self] at hq
  have HT := Lib.hid ht
  have HC := Lib.hid hc
  have HY := Lib.hid hy
  clear ht hc hy h1 h2
  go_enter Tryd.func5, Tryd.ntmps5
  go_wp2_with fail
  refine (short_any s _).mono ?_
  rintro e w1 ⟨rfl, hB1⟩
  rw [hc1]
  obtain ⟨⟨x0, x1, x2⟩, hBw, hlt⟩ := box1 hB1
  clear hB1
  go_wp2_with fail
  refine (short_any x.put _).mono ?_
  rintro e w2 ⟨rfl, hB2⟩
  rw [hc2]
  replace x0 := cell_below x0 hB2
  replace x1 := cell_below x1 hB2
  replace x2 := cell_below x2 hB2
  replace hBw := below2 hBw hB2
  replace hlt := Nat.lt_of_lt_of_le hlt hB2.size
  clear hB2
  go_wp2_with fail
  refine (Apply_any s x _ hs3 hp3).mono ?_
  rintro e w3 ⟨rfl, hB2⟩
  rw [HT.out, HC.out]
  replace x0 := cell_below x0 hB2
  replace x1 := cell_below x1 hB2
  replace x2 := cell_below x2 hB2
  replace hBw := below2 hBw hB2
  replace hlt := Nat.lt_of_lt_of_le hlt hB2.size
  clear hB2
  go_wp2_with fail
  refine (Undo_any s x _ hs3 hp3).mono ?_
  rintro e w4 ⟨rfl, hB2⟩
  rw [HY.out, HC.out]
  replace x0 := cell_below x0 hB2
  replace x1 := cell_below x1 hB2
  replace x2 := cell_below x2 hB2
  replace hBw := below2 hBw hB2
  replace hlt := Nat.lt_of_lt_of_le hlt hB2.size
  clear hB2
  go_wp2_with fail
  refine (refApply_any s x _ hs3 hp3).mono ?_
  rintro e w5 ⟨rfl, hB2⟩
  rw [HT.out, HC.out]
  obtain ⟨⟨y0, y1, y2⟩, hBy, hlty⟩ := box1 hB2
  clear hB2
  replace x0 := cell_below x0 hBy
  replace x1 := cell_below x1 hBy
  replace x2 := cell_below x2 hBy
  replace hBw := below2 hBw hBy
  replace hlt := Nat.lt_of_lt_of_le hlt hBy.size
  clear hBy
  go_wp2_with fail
  refine (refUndo_any s x _ hs3 hp3).mono ?_
  rintro e w6 ⟨rfl, hB2⟩
  rw [HY.out, HC.out]
  replace y0 := cell_below y0 hB2
  replace y1 := cell_below y1 hB2
  replace y2 := cell_below y2 hB2
  replace hBw := below2 hBw hB2
  replace hlty := Nat.lt_of_lt_of_le hlty hB2.size
  clear hB2 x0 x1 x2 hlt
  go_wp2_with fail
  refine (awake_any _ (HW.out.below (belowA hBw _))).mono ?_
  rintro e w7 ⟨rfl, hB2⟩
  go_wp2_with fail
  go_ret
  exact ⟨rfl, below2 (belowA hBw _) hB2⟩

theorem lexEdits_any (s : ByteArray) (x : M.Ed) (w : World) (hw : Ready w) :
    Calls Tryd.prog 5 #[.string s, edV x] w fun e w' => e = .returned (.bool true) ∧ Below w.heap.size w w' := by
  by_cases h : s.size ≤ 3000 ∧ x.put.size ≤ 3000
  · exact lexEdits_yes s x w hw h.1 h.2
  · exact lexEdits_no s x w hw h

end Go.Proofs.YtglpbhfcjaonlaaDoor
