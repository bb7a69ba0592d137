/- DERIVED. Contracts of layer 1: back, Both. -/
import Derived.Test.YtglpbhfcjaonlaaDoorLexTg0
import Derived.Test.YtglpbhfcjaonlaaDoorLexTd
namespace Go.Proofs.YtglpbhfcjaonlaaDoor
open Go.RowKit Go.WideMaps Go.Maps Go.Shelf

set_option maxHeartbeats 1000000 in
set_option maxRecDepth 100000 in
theorem back_any (s t : ByteArray) (x : M.Ed) (a : Int) (w : World) (hs : s.size ≤ 1000000) (ht : t.size ≤ 1000000) (hp : x.put.size ≤ 1000000) (hf1 : 0 ≤ x.from_) (hf2 : x.from_ ≤ 1000000) (ha1 : 0 ≤ a) (ha2 : a ≤ 1000000) :
    Calls Tryd.prog 51 #[edtV x s t, .int .i64 a] w fun e w' => e = .returned (.int .i64 (M.backP x ((t.size : Int) - (s.size : Int)) a)) ∧ Below w.heap.size w w' := by
  have HSH := Lib.hid fun W => shift_any s t x W (by unfold maxLen; omega) (by unfold maxLen; omega)
  by_cases h : x.from_ + x.put.size ≤ a
  · have d1 : decide (x.from_ + (x.put.size : Int) ≤ a) = true := by simpa using h
    have hres : M.backP x ((t.size : Int) - (s.size : Int)) a = a - ((t.size : Int) - (s.size : Int)) := by unfold M.backP; rw [if_pos h]
    have HRES := Lib.hid hres
    clear hres
    go_enter Tryd.func51, Tryd.ntmps51
    go_wp2_with fail
    refine (HSH.out _).mono ?_
    rintro e w1 ⟨rfl, hB1⟩
    have hBw := below2 (below1 w _) hB1
    clear hB1
    go_wp2_with fail
    go_ret
    exact ⟨by rw [HRES.out]; rfl, hBw⟩
  · have d1 : decide (x.from_ + (x.put.size : Int) ≤ a) = false := by simpa using h
    have hres : M.backP x ((t.size : Int) - (s.size : Int)) a = x.to_ := by unfold M.backP; rw [if_neg h]
    have HRES := Lib.hid hres
    clear hres
    go_enter Tryd.func51, Tryd.ntmps51
    go_wp2_with fail
    go_ret
    exact ⟨by rw [HRES.out]; rfl, below1 w _⟩

/-- Three blocks, laid one after the other. -/
theorem box_three {w w1 : World} {a1 a2 a3 : Array Value} {t1 t2 t3 : TypeId} (hB : Below (((w.alloc (.cells a1 t1)).alloc (.cells a2 t2)).alloc (.cells a3 t3)).heap.size (((w.alloc (.cells a1 t1)).alloc (.cells a2 t2)).alloc (.cells a3 t3)) w1) :
    w1.heap[w.heap.size]? = some (.cells a1 t1 (0, 0)) ∧ w1.heap[w.heap.size + 1]? = some (.cells a2 t2 (0, 0)) ∧ w1.heap[w.heap.size + 2]? = some (.cells a3 t3 (0, 0)) ∧ Below w.heap.size w w1 ∧ w.heap.size + 3 ≤ w1.heap.size := by
  have hz := hB.size
  simp at hz
  have e2 : (((w.alloc (.cells a1 t1)).alloc (.cells a2 t2)).alloc (.cells a3 t3)).heap[w.heap.size + 2]? = some (.cells a3 t3 (0, 0)) := by
    have := (MapKept.heap_alloc ((w.alloc (.cells a1 t1)).alloc (.cells a2 t2)) (.cells a3 t3)).1
    simpa using this
  have e1 : (((w.alloc (.cells a1 t1)).alloc (.cells a2 t2)).alloc (.cells a3 t3)).heap[w.heap.size + 1]? = some (.cells a2 t2 (0, 0)) := by
    rw [Below.heap_alloc _ _ _ (by simp)]
    have := (MapKept.heap_alloc (w.alloc (.cells a1 t1)) (.cells a2 t2)).1
    simpa using this
  have e0 : (((w.alloc (.cells a1 t1)).alloc (.cells a2 t2)).alloc (.cells a3 t3)).heap[w.heap.size]? = some (.cells a1 t1 (0, 0)) := by
    rw [Below.heap_alloc _ _ _ (by simp <;> omega), Below.heap_alloc _ _ _ (by simp)]
    exact (MapKept.heap_alloc w _).1
  refine ⟨by rw [hB.block _ (by simp; omega)]; exact e0, by rw [hB.block _ (by simp <;> omega)]; exact e1, by rw [hB.block _ (by simp)]; exact e2, (belowA (belowA (below1 w _) _) _).trans (hB.mono (by simp; omega)), by omega⟩

def BothPost (s : ByteArray) (x y : M.Ed) (w : World) (e : Ending) (w' : World) : Prop :=
  e = .returned (.tuple #[edV (if M.bothE s x y = 0 then M.bothV s x y else ⟨0, 0, ⟨#[]⟩⟩), .int .i64 (M.bothE s x y)]) ∧ Below w.heap.size w w'

set_option maxHeartbeats 1000000 in
set_option maxRecDepth 100000 in
theorem both_e1 (s : ByteArray) (x y : M.Ed) (w : World) (hs : s.size ≤ maxLen) (hp : x.put.size ≤ 140737488355328) (h : M.appE s x ≠ 0) :
    Calls Tryd.prog 32 #[.string s, edV x, edV y] w (BothPost s x y w) := by
  have hE : M.bothE s x y = M.appE s x := by unfold M.bothE; rw [if_pos h]
  have hv : appV s x = edtZ := by unfold appV; rw [if_neg h]
  obtain ⟨c, hc⟩ : ∃ c, M.appE s x = c := ⟨_, rfl⟩
  rw [hc] at h hE
  have h3 : ((c : Int) == 0) = false := by rw [beq_eq_false_iff_ne]; omega
  have h4 : ((c : Int) != 0) = true := by rw [bne_iff_ne]; omega
  have HV := Lib.hid hv
  have HE := Lib.hid hE
  have HC := Lib.hid hc
  clear hv hE hc
  go_enter Tryd.func32, Tryd.ntmps32
  go_wp2_with fail
  refine (apply_any s x _ hs hp).mono ?_
  rintro e w1 ⟨rfl, hB1⟩
  rw [HV.out, HC.out]
  obtain ⟨_, _, hr, hBw, hz⟩ := box_three hB1
  obtain ⟨⟨q0, q1, q2⟩, f0, f1, f2⟩ := res3 hr
  have hlt : w.heap.size + 2 < w1.heap.size := by omega
  clear hB1 hr
  unfold edtZ
  go_wp2_with fail
  obtain ⟨r0, r1, r2⟩ := set3_cells q0 q1 q2 hlt (.int .i64 0) (.int .i64 0) (.string ⟨#[]⟩) (.cells #[.int .i64 0, .int .i64 0, .string ⟨#[]⟩, .string ⟨#[]⟩, .string ⟨#[]⟩] 75)
  refine bodyPost_ret (v := .tuple #[edV ⟨0, 0, ⟨#[]⟩⟩, .int .i64 c]) (by simp [results, Tryd.results32, go_sem, r0, r1, r2]) rfl ?_
  exact ⟨by rw [HE.out, if_neg h], belowA (below3 hBw _ (by omega) _ _ _) _⟩

set_option maxHeartbeats 1000000 in
set_option maxRecDepth 100000 in
theorem both_e2 (s : ByteArray) (x y : M.Ed) (w : World) (hp : y.put.size ≤ 140737488355328) (h : M.appE s x = 0) (h2 : M.appE (M.after s x) y ≠ 0) :
    Calls Tryd.prog 32 #[.string s, edV x, edV y] w (BothPost s x y w) := by
  obtain ⟨hf, hx, hf2⟩ := M.appE_ok h
  have hsm : s.size ≤ 2500 := by rw [← M.size_list]; exact M.fault_small s.data.toList hf
  have htm : (M.after s x).size ≤ 2500 := by rw [← M.size_list]; exact M.fault_small _ hf2
  have hau := M.after_size s x hx
  have hpm : x.put.size ≤ 2500 := by have := hx.1; have := hx.2.2; omega
  have hE : M.bothE s x y = M.appE (M.after s x) y := by unfold M.bothE; rw [if_neg (by rw [h]; simp)]
  have hv : appV s x = edtV x s (M.after s x) := by unfold appV; rw [if_pos h]
  have hv2 : appV (M.after s x) y = edtZ := by unfold appV; rw [if_neg h2]
  obtain ⟨t, ht⟩ : ∃ t, M.after s x = t := ⟨_, rfl⟩
  rw [ht] at hE hv hv2 h2 htm
  obtain ⟨c, hc⟩ : ∃ c, M.appE t y = c := ⟨_, rfl⟩
  rw [hc] at h2 hE
  have h3 : ((c : Int) == 0) = false := by rw [beq_eq_false_iff_ne]; omega
  have h4 : ((c : Int) != 0) = true := by rw [bne_iff_ne]; omega
  have HV := Lib.hid hv
  have HV2 := Lib.hid hv2
  have HE := Lib.hid hE
  have HC := Lib.hid hc
  have HX := Lib.hid h
  clear hv hv2 hE hc h hf hx hf2 hau ht
  go_enter Tryd.func32, Tryd.ntmps32
  go_wp2_with fail
  refine (apply_any s x _ (by unfold maxLen; omega) (by omega)).mono ?_
  rintro e w1 ⟨rfl, hB1⟩
  rw [HV.out, HX.out]
  obtain ⟨_, hy, hr, hBw, hz⟩ := box_three hB1
  obtain ⟨⟨y0, y1, y2⟩, _⟩ := res3 hy
  have hlt1 : w.heap.size + 1 < w1.heap.size := by omega
  have hlt2 : w.heap.size + 2 < w1.heap.size := by omega
  clear hB1 hy
  go_wp2_with fail
  refine (apply_any t y _ (by unfold maxLen; omega) hp).mono ?_
  rintro e w2 ⟨rfl, hB2⟩
  rw [HV2.out, HC.out]
  have hr2 : w2.heap[w.heap.size + 2]? = some (.cells #[.int .i64 0, .int .i64 0, .string ⟨#[]⟩] 39 (0, 0)) := by
    rw [hB2.block _ (by simp; omega), Below.heap_alloc _ _ _ (by omega)]; exact hr
  obtain ⟨⟨q0, q1, q2⟩, f0, f1, f2⟩ := res3 hr2
  have hz2 : w1.heap.size + 1 ≤ w2.heap.size := by have := hB2.size; simp at this; omega
  have hlt : w.heap.size + 2 < w2.heap.size := by omega
  have hBw2 : Below w.heap.size w w2 := (belowA hBw _).trans (hB2.mono (by simp; omega))
  clear hr hr2 hB2 hBw y0 y1 y2
  unfold edtZ
  go_wp2_with fail
  obtain ⟨r0, r1, r2⟩ := set3_cells q0 q1 q2 hlt (.int .i64 0) (.int .i64 0) (.string ⟨#[]⟩) (.cells #[.int .i64 0, .int .i64 0, .string ⟨#[]⟩, .string ⟨#[]⟩, .string ⟨#[]⟩] 75)
  refine bodyPost_ret (v := .tuple #[edV ⟨0, 0, ⟨#[]⟩⟩, .int .i64 c]) (by simp [results, Tryd.results32, go_sem, r0, r1, r2]) rfl ?_
  exact ⟨by rw [HE.out, if_neg h2], belowA (below3 hBw2 _ (by omega) _ _ _) _⟩

set_option maxHeartbeats 2000000 in
set_option maxRecDepth 100000 in
theorem both_ok (s : ByteArray) (x y : M.Ed) (w : World) (h : M.appE s x = 0) (h2 : M.appE (M.after s x) y = 0) :
    Calls Tryd.prog 32 #[.string s, edV x, edV y] w (BothPost s x y w) := by
  obtain ⟨hf, hx, hf2⟩ := M.appE_ok h
  obtain ⟨_, hy, hf3⟩ := M.appE_ok h2
  have hsm : s.size ≤ 2500 := by rw [← M.size_list]; exact M.fault_small s.data.toList hf
  have htm : (M.after s x).size ≤ 2500 := by rw [← M.size_list]; exact M.fault_small _ hf2
  have hum : (M.after (M.after s x) y).size ≤ 2500 := by rw [← M.size_list]; exact M.fault_small _ hf3
  have hau := M.after_size s x hx
  have hau2 := M.after_size (M.after s x) y hy
  have hpm : x.put.size ≤ 2500 := by have := hx.1; have := hx.2.2; omega
  have hpm2 : y.put.size ≤ 2500 := by have := hy.1; have := hy.2.2; omega
  have hE : M.bothE s x y = 0 := by unfold M.bothE; rw [if_neg (by rw [h]; simp), h2]
  have hv : appV s x = edtV x s (M.after s x) := by unfold appV; rw [if_pos h]
  have hv2 : appV (M.after s x) y = edtV y (M.after s x) (M.after (M.after s x) y) := by unfold appV; rw [if_pos h2]
  obtain ⟨_, _, _, _, _, f, e, g1, g2, g3, g4⟩ := M.both_two s x y h h2
  have hz0 : M.bothV s x y = ⟨f, (M.bothV s x y).to_, (M.after (M.after s x) y).extract f e⟩ := by
    have k : M.bothV s x y = ⟨min x.from_ y.from_, (M.bothV s x y).to_, (M.after (M.after s x) y).extract (min x.from_ y.from_).toNat (((M.after (M.after s x) y).size : Int) - ((s.size : Int) - (M.bothV s x y).to_)).toNat⟩ := rfl
    rw [g1, g2, Int.toNat_natCast, Int.toNat_natCast] at k
    exact k
  have hto : (M.bothV s x y).to_ = M.backP x (((M.after s x).size : Int) - (s.size : Int)) y.to_ := rfl
  obtain ⟨o, ho⟩ : ∃ o, (M.bothV s x y).to_ = o := ⟨_, rfl⟩
  rw [ho] at hto g2 hz0
  obtain ⟨t, ht⟩ : ∃ t, M.after s x = t := ⟨_, rfl⟩
  rw [ht] at hv hv2 h2 htm hum hz0 hto g2 g4 hau hau2 hy
  obtain ⟨u, hu⟩ : ∃ u, M.after t y = u := ⟨_, rfl⟩
  rw [hu] at hv2 hum hz0 g2 g4 hau2
  have hbk := fun W => back_any s t x y.to_ W (by omega) (by omega) (by omega) hx.1 (by have := hx.2.1; have := hx.2.2; omega) (by have := hy.1; have := hy.2.1; omega) (by have := hy.2.2; omega)
  rw [← hto] at hbk
  have b1 : 0 ≤ x.from_ := hx.1
  have b2 : x.from_ ≤ 2500 := by have := hx.2.1; have := hx.2.2; omega
  have b3 : 0 ≤ y.from_ := hy.1
  have b4 : y.from_ ≤ 2500 := by have := hy.2.1; have := hy.2.2; omega
  have HV := Lib.hid hv
  have HV2 := Lib.hid hv2
  have HE := Lib.hid hE
  have HX := Lib.hid h
  have HY := Lib.hid h2
  have HBK := Lib.hid hbk
  have HZ := Lib.hid hz0
  have G1 := Lib.hid g1
  have o1 : (u.size : Int) - ((s.size : Int) - o) = (e : Int) := g2
  have o2 : -9223372036854775808 ≤ (s.size : Int) - o := by omega
  have o3 : (s.size : Int) - o ≤ 9223372036854775807 := by omega
  have o4 : f ≤ e := g3
  have o5 : e ≤ u.size := g4
  clear hv hv2 hE h h2 hf hx hf2 hau ht hu hbk hz0 g1 g2 g3 g4 hy hf3 hau2 hto ho
  go_enter Tryd.func32, Tryd.ntmps32
  go_wp2_with fail
  refine (apply_any s x _ (by unfold maxLen; omega) (by omega)).mono ?_
  rintro _ w1 ⟨rfl, hB1⟩
  rw [HV.out, HX.out]
  obtain ⟨_, hy, hr, hBw, hz⟩ := box_three hB1
  obtain ⟨⟨y0, y1, y2⟩, _⟩ := res3 hy
  have hlt1 : w.heap.size + 1 < w1.heap.size := by omega
  have hlt2 : w.heap.size + 2 < w1.heap.size := by omega
  clear hB1 hy
  go_wp2_with fail
  refine (apply_any t y _ (by unfold maxLen; omega) (by omega)).mono ?_
  rintro _ w2 ⟨rfl, hB2⟩
  rw [HV2.out, HY.out]
  have hr2 : w2.heap[w.heap.size + 2]? = some (.cells #[.int .i64 0, .int .i64 0, .string ⟨#[]⟩] 39 (0, 0)) := by
    rw [hB2.block _ (by simp; omega), Below.heap_alloc _ _ _ (by omega)]; exact hr
  have e1 : w2.heap[w1.heap.size]? = some (.cells #[.int .i64 x.from_, .int .i64 x.to_, .string x.put, .string s, .string t] 75 (0, 0)) := by
    rw [hB2.block _ (by simp)]; exact (MapKept.heap_alloc w1 _).1
  obtain ⟨⟨E0, E1, E2, E3, E4⟩, _⟩ := ap_res e1
  have hz2 : w1.heap.size + 1 ≤ w2.heap.size := by have := hB2.size; simp at this; omega
  have hlt : w.heap.size + 2 < w2.heap.size := by omega
  have hlte : w1.heap.size < w2.heap.size := by omega
  have hBw2 : Below w.heap.size w w2 := (belowA hBw _).trans (hB2.mono (by simp; omega))
  clear hr hB2 hBw y0 y1 y2 e1
  go_wp2_with fail
  refine (HBK.out _).mono ?_
  rintro _ w3 ⟨rfl, hB3⟩
  rw [G1.out]
  have hr3 : w3.heap[w.heap.size + 2]? = some (.cells #[.int .i64 0, .int .i64 0, .string ⟨#[]⟩] 39 (0, 0)) := by
    rw [hB3.block _ (by simp; omega), Below.heap_alloc _ _ _ (by omega)]; exact hr2
  have e3 : w3.heap[w2.heap.size]? = some (.cells #[.int .i64 y.from_, .int .i64 y.to_, .string y.put, .string t, .string u] 75 (0, 0)) := by
    rw [hB3.block _ (by simp)]; exact (MapKept.heap_alloc w2 _).1
  obtain ⟨⟨Y0, Y1, Y2, Y3, Y4⟩, _⟩ := ap_res e3
  obtain ⟨⟨q0, q1, q2⟩, f0, f1, f2⟩ := res3 hr3
  have hz3 : w2.heap.size + 1 ≤ w3.heap.size := by have := hB3.size; simp at this; omega
  have hlt3 : w.heap.size + 2 < w3.heap.size := by omega
  have hlte3 : w2.heap.size < w3.heap.size := by omega
  have hBw3 : Below w.heap.size w w3 := (belowA hBw2 _).trans (hB3.mono (by simp; omega))
  clear hr2 hr3 e3 hB3 hBw2 E0 E1 E2 E3 E4 hlt hlte hlt1 hlt2 hz hz2 hz3
  have o6 : (f : Int) ≤ (e : Int) := by omega
  have o7 : (e : Int) ≤ (u.size : Int) := by omega
  go_wp2_with fail
  refine bodyPost_ret (v := .tuple #[edV ⟨f, o, u.extract f e⟩, .int .i64 0]) (by simp [results, Tryd.results32, go_sem, q0, q1, q2]) rfl ?_
  exact ⟨by rw [HE.out, if_pos rfl, HZ.out]; rfl, below3 hBw3 _ (by omega) _ _ _⟩

theorem both_any (s : ByteArray) (x y : M.Ed) (w : World) (hs : s.size ≤ maxLen) (hp : x.put.size ≤ 140737488355328) (hp2 : y.put.size ≤ 140737488355328) :
    Calls Tryd.prog 32 #[.string s, edV x, edV y] w (BothPost s x y w) := by
  by_cases h : M.appE s x = 0
  · by_cases h2 : M.appE (M.after s x) y = 0
    · exact both_ok s x y w h h2
    · exact both_e2 s x y w hp2 h h2
  · exact both_e1 s x y w hs hp h

end Go.Proofs.YtglpbhfcjaonlaaDoor
