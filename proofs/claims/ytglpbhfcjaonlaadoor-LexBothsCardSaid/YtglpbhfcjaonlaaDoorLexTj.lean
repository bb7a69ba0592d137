/- DERIVED. The walk of the statement on Both. -/
import Derived.Test.YtglpbhfcjaonlaaDoorLexTi
namespace Go.Proofs.YtglpbhfcjaonlaaDoor
open Go.RowKit Go.WideMaps Go.Maps Go.Shelf

set_option maxHeartbeats 1000000 in
set_option maxRecDepth 100000 in
theorem lexBoths_n1 (s : ByteArray) (x y : M.Ed) (w : World) (hw : Ready w) (hc1 : decide (s.size ≤ 3000) = false) :
    Calls Tryd.prog 7 #[.string s, edV x, edV y] w fun e w' => e = .returned (.bool true) ∧ Below w.heap.size w w' := by
  have HW := Lib.hid hw
  clear hw
  go_enter Tryd.func7, Tryd.ntmps7
  go_wp2_with fail
  refine (short_any s _).mono ?_
  rintro e w1 ⟨rfl, hB1⟩
  rw [hc1]
  obtain ⟨x0, x1, x2, hr, hBw, hz⟩ := box_cells hB1
  obtain ⟨⟨y0, y1, y2⟩, _⟩ := res3 hr
  have hlt : w.heap.size < w1.heap.size := by omega
  have hlt1 : w.heap.size + 1 < w1.heap.size := by omega
  clear hB1 hr hz
  go_wp2_with fail
  refine (awake_any _ (HW.out.below hBw)).mono ?_
  rintro e w8 ⟨rfl, hB2⟩
  go_wp2_with fail
  go_ret
  exact ⟨rfl, below2 hBw hB2⟩

set_option maxHeartbeats 1000000 in
set_option maxRecDepth 100000 in
theorem lexBoths_n2 (s : ByteArray) (x y : M.Ed) (w : World) (hw : Ready w) (hc1 : decide (s.size ≤ 3000) = true) (hc2 : decide (x.put.size ≤ 3000) = false) :
    Calls Tryd.prog 7 #[.string s, edV x, edV y] w fun e w' => e = .returned (.bool true) ∧ Below w.heap.size w w' := by
  have HW := Lib.hid hw
  clear hw
  go_enter Tryd.func7, Tryd.ntmps7
  go_wp2_with fail
  refine (short_any s _).mono ?_
  rintro e w1 ⟨rfl, hB1⟩
  rw [hc1]
  obtain ⟨x0, x1, x2, hr, hBw, hz⟩ := box_cells hB1
  obtain ⟨⟨y0, y1, y2⟩, _⟩ := res3 hr
  have hlt : w.heap.size < w1.heap.size := by omega
  have hlt1 : w.heap.size + 1 < w1.heap.size := by omega
  clear hB1 hr hz
  go_wp2_with fail
  refine (short_any x.put w1).mono ?_
  rintro e w2 ⟨rfl, hB2⟩
  rw [hc2]
  replace x0 := cell_below x0 hB2
  replace x1 := cell_below x1 hB2
  replace x2 := cell_below x2 hB2
  replace y0 := cell_below y0 hB2
  replace y1 := cell_below y1 hB2
  replace y2 := cell_below y2 hB2
  replace hBw := below2 hBw hB2
  replace hlt := Nat.lt_of_lt_of_le hlt hB2.size
  replace hlt1 := Nat.lt_of_lt_of_le hlt1 hB2.size
  clear hB2
  go_wp2_with fail
  refine (awake_any _ (HW.out.below hBw)).mono ?_
  rintro e w8 ⟨rfl, hB2⟩
  go_wp2_with fail
  go_ret
  exact ⟨rfl, below2 hBw hB2⟩

set_option maxHeartbeats 1000000 in
set_option maxRecDepth 100000 in
theorem lexBoths_n3 (s : ByteArray) (x y : M.Ed) (w : World) (hw : Ready w) (hc1 : decide (s.size ≤ 3000) = true) (hc2 : decide (x.put.size ≤ 3000) = true) (hc3 : decide (y.put.size ≤ 3000) = false) :
    Calls Tryd.prog 7 #[.string s, edV x, edV y] w fun e w' => e = .returned (.bool true) ∧ Below w.heap.size w w' := by
  have HW := Lib.hid hw
  clear hw
  go_enter Tryd.func7, Tryd.ntmps7
  go_wp2_with fail
  refine (short_any s _).mono ?_
  rintro e w1 ⟨rfl, hB1⟩
  rw [hc1]
  obtain ⟨x0, x1, x2, hr, hBw, hz⟩ := box_cells hB1
  obtain ⟨⟨y0, y1, y2⟩, _⟩ := res3 hr
  have hlt : w.heap.size < w1.heap.size := by omega
  have hlt1 : w.heap.size + 1 < w1.heap.size := by omega
  clear hB1 hr hz
  go_wp2_with fail
  refine (short_any x.put w1).mono ?_
  rintro e w2 ⟨rfl, hB2⟩
  rw [hc2]
  replace x0 := cell_below x0 hB2
  replace x1 := cell_below x1 hB2
  replace x2 := cell_below x2 hB2
  replace y0 := cell_below y0 hB2
  replace y1 := cell_below y1 hB2
  replace y2 := cell_below y2 hB2
  replace hBw := below2 hBw hB2
  replace hlt := Nat.lt_of_lt_of_le hlt hB2.size
  replace hlt1 := Nat.lt_of_lt_of_le hlt1 hB2.size
  clear hB2
  go_wp2_with fail
  refine (short_any y.put w2).mono ?_
  rintro e w3 ⟨rfl, hB2⟩
  rw [hc3]
  replace x0 := cell_below x0 hB2
  replace x1 := cell_below x1 hB2
  replace x2 := cell_below x2 hB2
  replace y0 := cell_below y0 hB2
  replace y1 := cell_below y1 hB2
  replace y2 := cell_below y2 hB2
  replace hBw := below2 hBw hB2
  replace hlt := Nat.lt_of_lt_of_le hlt hB2.size
  replace hlt1 := Nat.lt_of_lt_of_le hlt1 hB2.size
  clear hB2
  go_wp2_with fail
  refine (awake_any _ (HW.out.below hBw)).mono ?_
  rintro e w8 ⟨rfl, hB2⟩
  go_wp2_with fail
  go_ret
  exact ⟨rfl, below2 hBw hB2⟩

set_option maxHeartbeats 1000000 in
set_option maxRecDepth 100000 in
theorem lexBoths_yes (s : ByteArray) (x y : M.Ed) (w : World) (hw : Ready w) (hc1 : decide (s.size ≤ 3000) = true) (hc2 : decide (x.put.size ≤ 3000) = true) (hc3 : decide (y.put.size ≤ 3000) = true) :
    Calls Tryd.prog 7 #[.string s, edV x, edV y] w fun e w' => e = .returned (.bool true) ∧ Below w.heap.size w w' := by
  have HW := Lib.hid hw
  clear hw
  have k1 := of_decide_eq_true hc1
  have k2 := of_decide_eq_true hc2
  have k3 := of_decide_eq_true hc3
  have HA := Lib.hid fun W => both_any s x y W (by unfold maxLen; omega) (by omega) (by omega)
  have HR := Lib.hid fun W => refBoth_any s x y W (by unfold maxLen; omega) (by omega) (by omega)
  obtain ⟨z, hz⟩ : ∃ z, (if M.bothE s x y = 0 then M.bothV s x y else ⟨0, 0, ⟨#[]⟩⟩) = z := ⟨_, rfl⟩
  obtain ⟨c, hc⟩ : ∃ c, M.bothE s x y = c := ⟨_, rfl⟩
  have HZ := Lib.hid hz
  have HC := Lib.hid hc
  have hq := fun W => eqEd_run z z W
  rw [M.eqEd_self] at hq
  clear hz hc k1 k2 k3
  go_enter Tryd.func7, Tryd.ntmps7
  go_wp2_with fail
  refine (short_any s _).mono ?_
  rintro e w1 ⟨rfl, hB1⟩
  rw [hc1]
  obtain ⟨x0, x1, x2, hr, hBw, hz⟩ := box_cells hB1
  obtain ⟨⟨y0, y1, y2⟩, _⟩ := res3 hr
  have hlt : w.heap.size < w1.heap.size := by omega
  have hlt1 : w.heap.size + 1 < w1.heap.size := by omega
  clear hB1 hr hz
  go_wp2_with fail
  refine (short_any x.put w1).mono ?_
  rintro e w2 ⟨rfl, hB2⟩
  rw [hc2]
  replace x0 := cell_below x0 hB2
  replace x1 := cell_below x1 hB2
  replace x2 := cell_below x2 hB2
  replace y0 := cell_below y0 hB2
  replace y1 := cell_below y1 hB2
  replace y2 := cell_below y2 hB2
  replace hBw := below2 hBw hB2
  replace hlt := Nat.lt_of_lt_of_le hlt hB2.size
  replace hlt1 := Nat.lt_of_lt_of_le hlt1 hB2.size
  clear hB2
  go_wp2_with fail
  refine (short_any y.put w2).mono ?_
  rintro e w3 ⟨rfl, hB2⟩
  rw [hc3]
  replace x0 := cell_below x0 hB2
  replace x1 := cell_below x1 hB2
  replace x2 := cell_below x2 hB2
  replace y0 := cell_below y0 hB2
  replace y1 := cell_below y1 hB2
  replace y2 := cell_below y2 hB2
  replace hBw := below2 hBw hB2
  replace hlt := Nat.lt_of_lt_of_le hlt hB2.size
  replace hlt1 := Nat.lt_of_lt_of_le hlt1 hB2.size
  clear hB2
  go_wp2_with fail
  refine (HA.out _).mono ?_
  rintro e w4 ⟨rfl, hB2⟩
  rw [HZ.out, HC.out]
  replace x0 := cell_below x0 hB2
  replace x1 := cell_below x1 hB2
  replace x2 := cell_below x2 hB2
  replace y0 := cell_below y0 hB2
  replace y1 := cell_below y1 hB2
  replace y2 := cell_below y2 hB2
  replace hBw := below2 hBw hB2
  replace hlt := Nat.lt_of_lt_of_le hlt hB2.size
  replace hlt1 := Nat.lt_of_lt_of_le hlt1 hB2.size
  clear hB2
  go_wp2_with fail
  refine (HR.out _).mono ?_
  rintro e w5 ⟨rfl, hB2⟩
  rw [HZ.out, HC.out]
  obtain ⟨⟨z0, z1, z2⟩, hBz, hltz⟩ := box1 hB2
  clear hB2 x0 x1 x2 y0 y1 y2
  replace hBw := below2 hBw hBz
  clear hBz
  go_wp2_with fail
  refine (awake_any _ (HW.out.below (belowA hBw _))).mono ?_
  rintro e w8 ⟨rfl, hB2⟩
  go_wp2_with fail
  go_ret
  exact ⟨rfl, below2 (belowA hBw _) hB2⟩

theorem lexBoths_any (s : ByteArray) (x y : M.Ed) (w : World) (hw : Ready w) :
    Calls Tryd.prog 7 #[.string s, edV x, edV y] w fun e w' => e = .returned (.bool true) ∧ Below w.heap.size w w' := by
  by_cases h1 : s.size ≤ 3000
  · by_cases h2 : x.put.size ≤ 3000
    · by_cases h3 : y.put.size ≤ 3000
      · exact lexBoths_yes s x y w hw (decide_eq_true h1) (decide_eq_true h2) (decide_eq_true h3)
      · exact lexBoths_n3 s x y w hw (decide_eq_true h1) (decide_eq_true h2) (decide_eq_false h3)
    · exact lexBoths_n2 s x y w hw (decide_eq_true h1) (decide_eq_false h2)
  · exact lexBoths_n1 s x y w hw (decide_eq_false h1)

end Go.Proofs.YtglpbhfcjaonlaaDoor
