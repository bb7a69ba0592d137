/- DERIVED. Contract of the document's own Both. -/
import Derived.Test.YtglpbhfcjaonlaaDoorLexTg
import Derived.Test.YtglpbhfcjaonlaaDoorLexTe
namespace Go.Proofs.YtglpbhfcjaonlaaDoor
open Go.RowKit Go.WideMaps Go.Maps Go.Shelf

set_option maxHeartbeats 1000000 in
set_option maxRecDepth 100000 in
theorem refBoth_e1 (s : ByteArray) (x y : M.Ed) (w : World) (hs : s.size ≤ maxLen) (hp : x.put.size ≤ 140737488355328) (h : M.appE s x ≠ 0) :
    Calls Tryd.prog 33 #[.string s, edV x, edV y] w (BothPost s x y w) := by
  have hE : M.bothE s x y = M.appE s x := by unfold M.bothE; rw [if_pos h]
  have hv : M.applyT s x = ⟨#[]⟩ := by unfold M.applyT; rw [if_neg h]
  obtain ⟨c, hc⟩ : ∃ c, M.appE s x = c := ⟨_, rfl⟩
  rw [hc] at h hE
  have h3 : ((c : Int) == 0) = false := by rw [beq_eq_false_iff_ne]; omega
  have h4 : ((c : Int) != 0) = true := by rw [bne_iff_ne]; omega
  have HV := Lib.hid hv
  have HE := Lib.hid hE
  have HC := Lib.hid hc
  clear hv hE hc
  go_enter Tryd.func33, Tryd.ntmps33
  go_wp2_with fail
  refine (refApply_any s x _ hs hp).mono ?_
  rintro e w1 ⟨rfl, hB1⟩
  rw [HV.out, HC.out]
  obtain ⟨_, _, hr, hBw, hz⟩ := box_three hB1
  obtain ⟨⟨q0, q1, q2⟩, f0, f1, f2⟩ := res3 hr
  have hlt : w.heap.size + 2 < w1.heap.size := by omega
  clear hB1 hr
  go_wp2_with fail
  refine bodyPost_ret (v := .tuple #[edV ⟨0, 0, ⟨#[]⟩⟩, .int .i64 c]) (by simp [results, Tryd.results33, go_sem, q0, q1, q2]) rfl ?_
  exact ⟨by rw [HE.out, if_neg h], below3 hBw _ (by omega) _ _ _⟩

set_option maxHeartbeats 1000000 in
set_option maxRecDepth 100000 in
theorem refBoth_e2 (s : ByteArray) (x y : M.Ed) (w : World) (hp : y.put.size ≤ 140737488355328) (h : M.appE s x = 0) (h2 : M.appE (M.after s x) y ≠ 0) :
    Calls Tryd.prog 33 #[.string s, edV x, edV y] w (BothPost s x y w) := by
  obtain ⟨hf, hx, hf2⟩ := M.appE_ok h
  have hsm : s.size ≤ 2500 := by rw [← M.size_list]; exact M.fault_small s.data.toList hf
  have htm : (M.after s x).size ≤ 2500 := by rw [← M.size_list]; exact M.fault_small _ hf2
  have hau := M.after_size s x hx
  have hpm : x.put.size ≤ 2500 := by have := hx.1; have := hx.2.2; omega
  have hE : M.bothE s x y = M.appE (M.after s x) y := by unfold M.bothE; rw [if_neg (by rw [h]; simp)]
  have hv : M.applyT s x = M.after s x := by unfold M.applyT; rw [if_pos h]
  have hv2 : M.applyT (M.after s x) y = ⟨#[]⟩ := by unfold M.applyT; rw [if_neg h2]
  obtain ⟨t, ht⟩ : ∃ t, M.after s x = t := ⟨_, rfl⟩
  rw [ht] at hE hv hv2 h2 htm
  obtain ⟨c, hc⟩ : ∃ c, M.appE t y = c := ⟨_, rfl⟩
  rw [hc] at h2 hE
  have h3 : ((c : Int) == 0) = false := by rw [beq_eq_false_iff_ne]; omega
  have h4 : ((c : Int) != 0) = true := by rw [bne_iff_ne]; omega
  have HV := Lib.hid hv
  have HV2 := Lib.hid hv2
  have HE := Lib.hid hE
  have HC := Lib.hid hc
  have HX := Lib.hid h
  clear hv hv2 hE hc h hf hx hf2 hau ht
  go_enter Tryd.func33, Tryd.ntmps33
  go_wp2_with fail
  refine (refApply_any s x _ (by unfold maxLen; omega) (by omega)).mono ?_
  rintro e w1 ⟨rfl, hB1⟩
  rw [HV.out, HX.out]
  obtain ⟨_, hy, hr, hBw, hz⟩ := box_three hB1
  obtain ⟨⟨y0, y1, y2⟩, _⟩ := res3 hy
  have hlt1 : w.heap.size + 1 < w1.heap.size := by omega
  have hlt2 : w.heap.size + 2 < w1.heap.size := by omega
  clear hB1 hy
  go_wp2_with fail
  refine (refApply_any t y _ (by unfold maxLen; omega) hp).mono ?_
  rintro e w2 ⟨rfl, hB2⟩
  rw [HV2.out, HC.out]
  have hr2 : w2.heap[w.heap.size + 2]? = some (.cells #[.int .i64 0, .int .i64 0, .string ⟨#[]⟩] 39 (0, 0)) := by
    rw [hB2.block _ (by omega)]; exact hr
  obtain ⟨⟨q0, q1, q2⟩, f0, f1, f2⟩ := res3 hr2
  have hz2 := hB2.size
  have hlt : w.heap.size + 2 < w2.heap.size := by omega
  have hBw2 : Below w.heap.size w w2 := below2 hBw hB2
  clear hr hr2 hB2 hBw y0 y1 y2
  go_wp2_with fail
  refine bodyPost_ret (v := .tuple #[edV ⟨0, 0, ⟨#[]⟩⟩, .int .i64 c]) (by simp [results, Tryd.results33, go_sem, q0, q1, q2]) rfl ?_
  exact ⟨by rw [HE.out, if_neg h2], below3 hBw2 _ (by omega) _ _ _⟩

set_option maxHeartbeats 2000000 in
set_option maxRecDepth 100000 in
theorem refBoth_ok (s : ByteArray) (x y : M.Ed) (w : World) (h : M.appE s x = 0) (h2 : M.appE (M.after s x) y = 0) :
    Calls Tryd.prog 33 #[.string s, edV x, edV y] w (BothPost s x y w) := by
  obtain ⟨hf, hx, hf2⟩ := M.appE_ok h
  obtain ⟨_, hy, hf3⟩ := M.appE_ok h2
  have hsm : s.size ≤ 2500 := by rw [← M.size_list]; exact M.fault_small s.data.toList hf
  have htm : (M.after s x).size ≤ 2500 := by rw [← M.size_list]; exact M.fault_small _ hf2
  have hum : (M.after (M.after s x) y).size ≤ 2500 := by rw [← M.size_list]; exact M.fault_small _ hf3
  have hau := M.after_size s x hx
  have hau2 := M.after_size (M.after s x) y hy
  have hpm : x.put.size ≤ 2500 := by have := hx.1; have := hx.2.2; omega
  have hpm2 : y.put.size ≤ 2500 := by have := hy.1; have := hy.2.2; omega
  have hE : M.bothE s x y = 0 := by unfold M.bothE; rw [if_neg (by rw [h]; simp), h2]
  have hv : M.applyT s x = M.after s x := by unfold M.applyT; rw [if_pos h]
  have hv2 : M.applyT (M.after s x) y = M.after (M.after s x) y := by unfold M.applyT; rw [if_pos h2]
  obtain ⟨_, _, _, _, g5, f, e, g1, g2, g3, g4⟩ := M.both_two s x y h h2
  have hz0 : M.bothV s x y = ⟨f, (M.bothV s x y).to_, (M.after (M.after s x) y).extract f e⟩ := by
    have k : M.bothV s x y = ⟨min x.from_ y.from_, (M.bothV s x y).to_, (M.after (M.after s x) y).extract (min x.from_ y.from_).toNat (((M.after (M.after s x) y).size : Int) - ((s.size : Int) - (M.bothV s x y).to_)).toNat⟩ := rfl
    rw [g1, g2, Int.toNat_natCast, Int.toNat_natCast] at k
    exact k
  have hto : (M.bothV s x y).to_ = M.backP x (((M.after s x).size : Int) - (s.size : Int)) y.to_ := rfl
  obtain ⟨o, ho⟩ : ∃ o, (M.bothV s x y).to_ = o := ⟨_, rfl⟩
  rw [ho] at hto g2 hz0
  obtain ⟨t, ht⟩ : ∃ t, M.after s x = t := ⟨_, rfl⟩
  rw [ht] at hv hv2 h2 htm hum hz0 hto g2 g4 hau hau2 hy
  obtain ⟨u, hu⟩ : ∃ u, M.after t y = u := ⟨_, rfl⟩
  rw [hu] at hv2 hum hz0 g2 g4 hau2
  have b1 : 0 ≤ x.from_ := hx.1
  have b2 : x.from_ ≤ 2500 := by have := hx.2.1; have := hx.2.2; omega
  have b3 : 0 ≤ y.from_ := hy.1
  have b4 : y.from_ ≤ 2500 := by have := hy.2.1; have := hy.2.2; omega
  have HV := Lib.hid hv
  have HV2 := Lib.hid hv2
  have HE := Lib.hid hE
  have HX := Lib.hid h
  have HY := Lib.hid h2
  have HZ := Lib.hid hz0
  have m1 : 0 ≤ y.to_ := by have := hy.1; have := hy.2.1; omega
  have m2 : y.to_ ≤ 2500 := by have := hy.2.2; omega
  have m3 : 0 ≤ x.to_ := by have := hx.1; have := hx.2.1; omega
  have m4 : x.to_ ≤ 2500 := by have := hx.2.2; omega
  rw [ho] at g5
  have HTO := Lib.hid hto
  have o1 : (u.size : Int) - ((s.size : Int) - o) = (e : Int) := g2
  have o2 : -9223372036854775808 ≤ (s.size : Int) - o := by omega
  have o3 : (s.size : Int) - o ≤ 9223372036854775807 := by omega
  have o4 : f ≤ e := g3
  have o5 : e ≤ u.size := g4
  clear hv hv2 hE h h2 hf hx hf2 hau ht hu hz0 g2 g3 g4 hy hf3 hau2 hto ho
  go_enter Tryd.func33, Tryd.ntmps33
  go_wp2_with fail
  refine (refApply_any s x _ (by unfold maxLen; omega) (by omega)).mono ?_
  rintro _ w1 ⟨rfl, hB1⟩
  rw [HV.out, HX.out]
  obtain ⟨hx, hy, hr, hBw, hz⟩ := box_three hB1
  obtain ⟨⟨x0, x1, x2⟩, _⟩ := res3 hx
  obtain ⟨⟨y0, y1, y2⟩, _⟩ := res3 hy
  have hlt0 : w.heap.size < w1.heap.size := by omega
  have hlt1 : w.heap.size + 1 < w1.heap.size := by omega
  have hlt2 : w.heap.size + 2 < w1.heap.size := by omega
  clear hB1 hy hx
  go_wp2_with fail
  refine (refApply_any t y _ (by unfold maxLen; omega) (by omega)).mono ?_
  rintro _ w2 ⟨rfl, hB2⟩
  rw [HV2.out, HY.out]
  have hr2 : w2.heap[w.heap.size + 2]? = some (.cells #[.int .i64 0, .int .i64 0, .string ⟨#[]⟩] 39 (0, 0)) := by
    rw [hB2.block _ (by omega)]; exact hr
  obtain ⟨⟨q0, q1, q2⟩, f0, f1, f2⟩ := res3 hr2
  replace x0 := cell_below x0 hB2
  replace x1 := cell_below x1 hB2
  replace x2 := cell_below x2 hB2
  replace y0 := cell_below y0 hB2
  replace y1 := cell_below y1 hB2
  replace y2 := cell_below y2 hB2
  replace hlt0 := Nat.lt_of_lt_of_le hlt0 hB2.size
  replace hlt1 := Nat.lt_of_lt_of_le hlt1 hB2.size
  replace hlt2 := Nat.lt_of_lt_of_le hlt2 hB2.size
  have hBw2 : Below w.heap.size w w2 := below2 hBw hB2
  have o6 : (f : Int) ≤ (e : Int) := by omega
  have o7 : (e : Int) ≤ (u.size : Int) := by omega
  clear hr hr2 hB2 hBw hz
  by_cases hd : x.from_ + x.put.size ≤ y.to_
  · have d1 : decide (x.from_ + (x.put.size : Int) ≤ y.to_) = true := by simpa using hd
    have ho : o = (s.size : Int) - ((t.size : Int) - y.to_) := by have := HTO.out; unfold M.backP at this; rw [if_pos hd] at this; omega
    have o8 : max x.to_ ((s.size : Int) - ((t.size : Int) - y.to_)) = o := by omega
    clear ho
    go_wp2_with fail
    obtain ⟨r0, r1, r2⟩ := set3_cells q0 q1 q2 hlt2 (.int .i64 f) (.int .i64 o) (.string (u.extract f e)) (.cells #[.int .i64 f, .int .i64 o, .string (u.extract f e)] 39)
    refine bodyPost_ret (v := .tuple #[edV ⟨f, o, u.extract f e⟩, .int .i64 0]) (by simp [results, Tryd.results33, go_sem, r0, r1, r2]) rfl ?_
    exact ⟨by rw [HE.out, if_pos rfl, HZ.out]; rfl, belowA (below3 hBw2 _ (by omega) _ _ _) _⟩
  · have d1 : decide (x.from_ + (x.put.size : Int) ≤ y.to_) = false := by simpa using hd
    have ho : x.to_ = o := by have := HTO.out; unfold M.backP at this; rw [if_neg hd] at this; omega
    rw [ho] at x1 m3 m4
    go_wp2_with fail
    obtain ⟨r0, r1, r2⟩ := set3_cells q0 q1 q2 hlt2 (.int .i64 f) (.int .i64 o) (.string (u.extract f e)) (.cells #[.int .i64 f, .int .i64 o, .string (u.extract f e)] 39)
    refine bodyPost_ret (v := .tuple #[edV ⟨f, o, u.extract f e⟩, .int .i64 0]) (by simp [results, Tryd.results33, go_sem, r0, r1, r2]) rfl ?_
    exact ⟨by rw [HE.out, if_pos rfl, HZ.out]; rfl, belowA (below3 hBw2 _ (by omega) _ _ _) _⟩

theorem refBoth_any (s : ByteArray) (x y : M.Ed) (w : World) (hs : s.size ≤ maxLen) (hp : x.put.size ≤ 140737488355328) (hp2 : y.put.size ≤ 140737488355328) :
    Calls Tryd.prog 33 #[.string s, edV x, edV y] w (BothPost s x y w) := by
  by_cases h : M.appE s x = 0
  · by_cases h2 : M.appE (M.after s x) y = 0
    · exact refBoth_ok s x y w h h2
    · exact refBoth_e2 s x y w hp2 h h2
  · exact refBoth_e1 s x y w hs hp h

end Go.Proofs.YtglpbhfcjaonlaaDoor
