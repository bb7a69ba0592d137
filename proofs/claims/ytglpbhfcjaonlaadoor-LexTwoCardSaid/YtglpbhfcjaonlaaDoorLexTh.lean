/- DERIVED. The walk of the statement on two edits. -/
import Derived.Test.YtglpbhfcjaonlaaDoorLexTg
namespace Go.Proofs.YtglpbhfcjaonlaaDoor
open Go.RowKit Go.WideMaps Go.Maps Go.Shelf

set_option maxHeartbeats 1000000 in
set_option maxRecDepth 100000 in
theorem lexTwo_no (s : ByteArray) (x y : M.Ed) (w : World) (hw : Ready w) (hs : s.size ≤ maxLen) (hp : x.put.size ≤ 140737488355328) (hp2 : y.put.size ≤ 140737488355328) (h : ¬ (M.appE s x = 0 ∧ M.appE (M.applyT s x) y = 0)) :
    Calls Tryd.prog 12 #[.string s, edV x, edV y] w fun e w' => e = .returned (.bool true) ∧ Below w.heap.size w w' := by
  have HW := Lib.hid hw
  clear hw
  have htm : (M.applyT s x).size ≤ maxLen := by
    unfold M.applyT
    by_cases k : M.appE s x = 0
    · rw [if_pos k]
      have : (M.after s x).size ≤ 2500 := by rw [← M.size_list]; exact M.fault_small _ (M.appE_ok k).2.2
      unfold maxLen; omega
    · rw [if_neg k]; show 0 ≤ _; exact Nat.zero_le _
  obtain ⟨t, ht⟩ : ∃ t, M.applyT s x = t := ⟨_, rfl⟩
  rw [ht] at h htm
  obtain ⟨c, hc⟩ : ∃ c, M.appE s x = c := ⟨_, rfl⟩
  obtain ⟨c2, hc2⟩ : ∃ c, M.appE t y = c := ⟨_, rfl⟩
  obtain ⟨u, hu⟩ : ∃ u, M.applyT t y = u := ⟨_, rfl⟩
  rw [hc, hc2] at h
  have HT := Lib.hid ht
  have HC := Lib.hid hc
  have HC2 := Lib.hid hc2
  have HU := Lib.hid hu
  clear ht hc hc2 hu
  by_cases hz : c = 0
  · subst hz
    have h2 : c2 ≠ 0 := fun q => h ⟨rfl, q⟩
    have h3 : ((c2 : Int) == 0) = false := by rw [beq_eq_false_iff_ne]; omega
    have h4 : ((c2 : Int) != 0) = true := by rw [bne_iff_ne]; omega
    clear h
    go_enter Tryd.func12, Tryd.ntmps12
    go_wp2_with fail
    refine (Apply_any s x _ hs hp).mono ?_
    rintro e w1 ⟨rfl, hB1⟩
    rw [HT.out, HC.out]
    obtain ⟨x0, x1, x2, hr, hBw, hz⟩ := box_cells hB1
    obtain ⟨⟨y0, y1, y2⟩, _⟩ := res3 hr
    have hlt1 : w.heap.size + 1 < w1.heap.size := by omega
    clear hB1 hr
    go_wp2_with fail
    refine (Apply_any t y _ htm hp2).mono ?_
    rintro e w2 ⟨rfl, hB2⟩
    rw [HU.out, HC2.out]
    replace hBw := below2 hBw hB2
    clear hB2
    go_wp2_with fail
    refine (awake_any _ (HW.out.below hBw)).mono ?_
    rintro e w3 ⟨rfl, hB2⟩
    go_wp2_with fail
    go_ret
    exact ⟨rfl, below2 hBw hB2⟩
  · have h3 : ((c : Int) == 0) = false := by rw [beq_eq_false_iff_ne]; omega
    have h4 : ((c : Int) != 0) = true := by rw [bne_iff_ne]; omega
    clear h
    go_enter Tryd.func12, Tryd.ntmps12
    go_wp2_with fail
    refine (Apply_any s x _ hs hp).mono ?_
    rintro e w1 ⟨rfl, hB1⟩
    rw [HT.out, HC.out]
    obtain ⟨x0, x1, x2, hr, hBw, hz⟩ := box_cells hB1
    obtain ⟨⟨y0, y1, y2⟩, _⟩ := res3 hr
    have hlt1 : w.heap.size + 1 < w1.heap.size := by omega
    clear hB1 hr
    go_wp2_with fail
    refine (Apply_any t y _ htm hp2).mono ?_
    rintro e w2 ⟨rfl, hB2⟩
    rw [HU.out, HC2.out]
    replace hBw := below2 hBw hB2
    clear hB2
    go_wp2_with fail
    refine (awake_any _ (HW.out.below hBw)).mono ?_
    rintro e w3 ⟨rfl, hB2⟩
    go_wp2_with fail
    go_ret
    exact ⟨rfl, below2 hBw hB2⟩

set_option maxHeartbeats 2000000 in
set_option maxRecDepth 100000 in
theorem lexTwo_yes (s : ByteArray) (x y : M.Ed) (w : World) (hw : Ready w) (h1 : M.appE s x = 0) (h2 : M.appE (M.after s x) y = 0) :
    Calls Tryd.prog 12 #[.string s, edV x, edV y] w fun e w' => e = .returned (.bool true) ∧ Below w.heap.size w w' := by
  obtain ⟨hf, hx, hf2⟩ := M.appE_ok h1
  obtain ⟨_, hy, hf3⟩ := M.appE_ok h2
  have hsm : s.size ≤ 2500 := by rw [← M.size_list]; exact M.fault_small s.data.toList hf
  have htm : (M.after s x).size ≤ 2500 := by rw [← M.size_list]; exact M.fault_small _ hf2
  have hum : (M.after (M.after s x) y).size ≤ 2500 := by rw [← M.size_list]; exact M.fault_small _ hf3
  have hau := M.after_size s x hx
  have hau2 := M.after_size (M.after s x) y hy
  have hpm : x.put.size ≤ 2500 := by have := hx.1; have := hx.2.2; omega
  have hpm2 : y.put.size ≤ 2500 := by have := hy.1; have := hy.2.2; omega
  have hT : M.applyT s x = M.after s x := by unfold M.applyT; rw [if_pos h1]
  have hU : M.applyT (M.after s x) y = M.after (M.after s x) y := by unfold M.applyT; rw [if_pos h2]
  have hE : M.bothE s x y = 0 := by unfold M.bothE; rw [if_neg (by rw [h1]; simp), h2]
  obtain ⟨g1, g2, g3, g4, g5, _⟩ := M.both_two s x y h1 h2
  have hV : M.applyT s (M.bothV s x y) = M.after (M.after s x) y := by unfold M.applyT; rw [if_pos g3, g2]
  have hzs := M.after_size s (M.bothV s x y) g1
  rw [g2] at hzs
  have hzp : (M.bothV s x y).put.size ≤ 2500 := by have := g1.1; have := g1.2.2; omega
  have d1 : decide ((M.bothV s x y).from_ ≤ x.from_) = true := decide_eq_true g4
  have d2 : decide (x.to_ ≤ (M.bothV s x y).to_) = true := decide_eq_true g5
  have hB0 := fun W => both_any s x y W (by unfold maxLen; omega) (by omega) (by omega)
  obtain ⟨z, hz⟩ : ∃ z, M.bothV s x y = z := ⟨_, rfl⟩
  rw [hz] at g3 hV hzp d1 d2
  obtain ⟨t, ht⟩ : ∃ t, M.after s x = t := ⟨_, rfl⟩
  rw [ht] at hT hU hV h2 htm hum
  obtain ⟨u, hu⟩ : ∃ u, M.after t y = u := ⟨_, rfl⟩
  rw [hu] at hU hV hum
  have HB0 := Lib.hid hB0
  have HZ := Lib.hid hz
  have HE := Lib.hid hE
  have HT := Lib.hid hT
  have HU := Lib.hid hU
  have HV := Lib.hid hV
  have HE1 := Lib.hid h1
  have HE2 := Lib.hid h2
  have HE3 := Lib.hid g3
  have HW := Lib.hid hw
  have hc1 : decide (s.size ≤ 3000) = true := decide_eq_true (by omega)
  have hc2 : decide (x.put.size ≤ 3000) = true := decide_eq_true (by omega)
  have hc3 : decide (y.put.size ≤ 3000) = true := decide_eq_true (by omega)
  clear hB0 hz hE hT hU hV h1 h2 g1 g2 g3 g4 g5 hw hzs ht hu hf hx hf2 hy hf3 hau hau2
  go_enter Tryd.func12, Tryd.ntmps12
  go_wp2_with fail
  refine (Apply_any s x _ (by unfold maxLen; omega) (by omega)).mono ?_
  rintro e w1 ⟨rfl, hB1⟩
  rw [HE1.out, HT.out]
  obtain ⟨x0, x1, x2, hr, hBw, hz⟩ := box_cells hB1
  obtain ⟨⟨y0, y1, y2⟩, _⟩ := res3 hr
  have hlt : w.heap.size < w1.heap.size := by omega
  have hlt1 : w.heap.size + 1 < w1.heap.size := by omega
  clear hB1 hr hz
  go_wp2_with fail
  refine (Apply_any t y _ (by unfold maxLen; omega) (by omega)).mono ?_
  rintro e w2 ⟨rfl, hB2⟩
  rw [HE2.out, HU.out]
  replace x0 := cell_below x0 hB2
  replace x1 := cell_below x1 hB2
  replace x2 := cell_below x2 hB2
  replace y0 := cell_below y0 hB2
  replace y1 := cell_below y1 hB2
  replace y2 := cell_below y2 hB2
  replace hBw := below2 hBw hB2
  replace hlt := Nat.lt_of_lt_of_le hlt hB2.size
  replace hlt1 := Nat.lt_of_lt_of_le hlt1 hB2.size
  clear hB2
  go_wp2_with fail
  refine (short_any s w2).mono ?_
  rintro e w3 ⟨rfl, hB2⟩
  rw [hc1]
  replace x0 := cell_below x0 hB2
  replace x1 := cell_below x1 hB2
  replace x2 := cell_below x2 hB2
  replace y0 := cell_below y0 hB2
  replace y1 := cell_below y1 hB2
  replace y2 := cell_below y2 hB2
  replace hBw := below2 hBw hB2
  replace hlt := Nat.lt_of_lt_of_le hlt hB2.size
  replace hlt1 := Nat.lt_of_lt_of_le hlt1 hB2.size
  clear hB2
  go_wp2_with fail
  refine (short_any x.put w3).mono ?_
  rintro e w4 ⟨rfl, hB2⟩
  rw [hc2]
  replace x0 := cell_below x0 hB2
  replace x1 := cell_below x1 hB2
  replace x2 := cell_below x2 hB2
  replace y0 := cell_below y0 hB2
  replace y1 := cell_below y1 hB2
  replace y2 := cell_below y2 hB2
  replace hBw := below2 hBw hB2
  replace hlt := Nat.lt_of_lt_of_le hlt hB2.size
  replace hlt1 := Nat.lt_of_lt_of_le hlt1 hB2.size
  clear hB2
  go_wp2_with fail
  refine (short_any y.put w4).mono ?_
  rintro e w5 ⟨rfl, hB2⟩
  rw [hc3]
  replace x0 := cell_below x0 hB2
  replace x1 := cell_below x1 hB2
  replace x2 := cell_below x2 hB2
  replace y0 := cell_below y0 hB2
  replace y1 := cell_below y1 hB2
  replace y2 := cell_below y2 hB2
  replace hBw := below2 hBw hB2
  replace hlt := Nat.lt_of_lt_of_le hlt hB2.size
  replace hlt1 := Nat.lt_of_lt_of_le hlt1 hB2.size
  clear hB2
  go_wp2_with fail
  refine (HB0.out w5).mono ?_
  rintro e w6 ⟨rfl, hB2⟩
  rw [HE.out, if_pos rfl, HZ.out]
  replace x0 := cell_below x0 hB2
  replace x1 := cell_below x1 hB2
  replace x2 := cell_below x2 hB2
  replace y0 := cell_below y0 hB2
  replace y1 := cell_below y1 hB2
  replace y2 := cell_below y2 hB2
  replace hBw := below2 hBw hB2
  replace hlt := Nat.lt_of_lt_of_le hlt hB2.size
  replace hlt1 := Nat.lt_of_lt_of_le hlt1 hB2.size
  clear hB2
  go_wp2_with fail
  refine (Apply_any s z _ (by unfold maxLen; omega) (by omega)).mono ?_
  rintro e w7 ⟨rfl, hB2⟩
  rw [HE3.out, HV.out]
  obtain ⟨⟨z0, z1, z2⟩, hBz, hltz⟩ := box1 hB2
  clear hB2
  replace x0 := cell_below x0 hBz
  replace x1 := cell_below x1 hBz
  replace x2 := cell_below x2 hBz
  replace y0 := cell_below y0 hBz
  replace y1 := cell_below y1 hBz
  replace y2 := cell_below y2 hBz
  replace hBw := below2 hBw hBz
  replace hlt := Nat.lt_of_lt_of_le hlt hBz.size
  replace hlt1 := Nat.lt_of_lt_of_le hlt1 hBz.size
  clear hBz
  go_wp2_with fail
  refine (awake_any _ (HW.out.below hBw)).mono ?_
  rintro e w8 ⟨rfl, hB2⟩
  go_wp2_with fail
  go_ret
  exact ⟨rfl, below2 hBw hB2⟩

theorem lexTwo_any (s : ByteArray) (x y : M.Ed) (w : World) (hw : Ready w) (hs : s.size ≤ maxLen) (hp : x.put.size ≤ 140737488355328) (hp2 : y.put.size ≤ 140737488355328) :
    Calls Tryd.prog 12 #[.string s, edV x, edV y] w fun e w' => e = .returned (.bool true) ∧ Below w.heap.size w w' := by
  by_cases h : M.appE s x = 0 ∧ M.appE (M.applyT s x) y = 0
  · have hT : M.applyT s x = M.after s x := by unfold M.applyT; rw [if_pos h.1]
    exact lexTwo_yes s x y w hw h.1 (hT ▸ h.2)
  · exact lexTwo_no s x y w hw hs hp hp2 h

end Go.Proofs.YtglpbhfcjaonlaaDoor
