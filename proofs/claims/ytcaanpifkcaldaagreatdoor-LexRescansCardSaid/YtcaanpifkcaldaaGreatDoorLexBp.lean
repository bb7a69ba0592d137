/- DERIVED. Contract of the document's own Rescan, where it ends early. -/
import Derived.Test.YtcaanpifkcaldaaGreatDoorLexBh
import Derived.Test.YtcaanpifkcaldaaGreatDoorLexBi
import Derived.Test.YtcaanpifkcaldaaGreatDoorLexTe1
import Derived.IntWalk
namespace Go.Proofs.YtcaanpifkcaldaaGreatDoor
open Go.RowKit Go.WideMaps Go.Maps Go.Shelf

set_option maxHeartbeats 2000000 in
set_option maxRecDepth 100000 in
theorem refRescan_e1 (s : ByteArray) (x : M.Ed) (w : World) (hs : s.size ≤ maxLen) (h : (M.scan s.data.toList).2.2 ≠ 0) :
    Calls Tryz.prog 20 #[.string s, edV x] w (RePost (M.rescan s x) w) := by
  obtain ⟨l, p, c, hsc⟩ : ∃ l p c, M.scan s.data.toList = (l, p, c) := ⟨_, _, _, rfl⟩
  rw [hsc] at h
  dsimp only at h
  have hres : M.rescan s x = (⟨0, 0, []⟩, p, c) := by unfold M.rescan; rw [if_pos (by rw [hsc]; exact h), hsc]
  have HRES := Lib.hid hres
  have HS := Lib.hid hsc
  have h3 : ((c : Int) == 0) = false := by rw [beq_eq_false_iff_ne]; omega
  have h4 : ((c : Int) != 0) = true := by rw [bne_iff_ne]; omega
  clear hres hsc
  go_enter Tryz.func20, Tryz.ntmps20
  go_wp2_with fail
  refine (refScan_any s _ hs).mono ?_
  rintro e w1 ⟨a1, c1, rfl, _, _, _, hB1⟩
  rw [HS.out]
  obtain ⟨_, _, _, hr, hBw, hz⟩ := re_cells hB1
  obtain ⟨⟨q0, q1, q2⟩, f0, f1, f2⟩ := re_res hr
  clear hB1 hr
  dsimp only
  go_wp2_with fail
  refine bodyPost_ret (v := .tuple #[.agg #[.int .i64 0, .int .i64 0, .slice none 0 0], .int .i64 p, .int .i64 c]) (by simp [results, Tryz.results20, go_sem, q0, q1, q2]) rfl ?_
  exact rePost_none p c HRES.out (below3 hBw _ (by omega) _ _ _)

set_option maxHeartbeats 2000000 in
set_option maxRecDepth 100000 in
theorem refRescan_e2 (s : ByteArray) (x : M.Ed) (w : World) (h : (M.scan s.data.toList).2.2 = 0) (hx : ¬ M.isEdit s x) :
    Calls Tryz.prog 20 #[.string s, edV x] w (RePost (M.rescan s x) w) := by
  have hsm : s.size ≤ 2500 := by rw [← M.size_list]; exact (M.scan_fine s.data.toList).2.2 h
  obtain ⟨l, p, c, hsc⟩ : ∃ l p c, M.scan s.data.toList = (l, p, c) := ⟨_, _, _, rfl⟩
  have hres : M.rescan s x = (⟨0, 0, []⟩, 0, 3) := by unfold M.rescan; rw [if_neg (by rw [h]; simp), if_pos hx]
  rw [hsc] at h
  dsimp only at h
  subst h
  have hd : decide (M.isEdit s x) = false := decide_eq_false hx
  have HRES := Lib.hid hres
  have HS := Lib.hid hsc
  have HD := Lib.hid hd
  clear hres hsc hd hx
  go_enter Tryz.func20, Tryz.ntmps20
  go_wp2_with fail
  refine (refScan_any s _ (by unfold maxLen; omega)).mono ?_
  rintro e w1 ⟨a1, c1, rfl, _, _, _, hB1⟩
  rw [HS.out]
  obtain ⟨x0, x1, x2, hr, hBw, hz⟩ := re_cells hB1
  have hlt : w.heap.size < w1.heap.size := by omega
  clear hB1
  dsimp only
  go_wp2_with fail
  refine (refIsEdit_any s x _ (by unfold maxLen; omega)).mono ?_
  rintro e w2 ⟨rfl, hB2⟩
  rw [HD.out]
  have hr2 := (hB2.block (w.heap.size + 1) (by omega)).trans hr
  obtain ⟨⟨q0, q1, q2⟩, f0, f1, f2⟩ := re_res hr2
  have hBw2 := below2 hBw hB2
  clear hB2 hr hr2
  go_wp2_with fail
  refine bodyPost_ret (v := .tuple #[.agg #[.int .i64 0, .int .i64 0, .slice none 0 0], .int .i64 0, .int .i64 3]) (by simp [results, Tryz.results20, go_sem, q0, q1, q2]) rfl ?_
  exact rePost_none 0 3 HRES.out (below3 hBw2 _ (by omega) _ _ _)

/-- The cells of the two boxes of Rescan, later on. -/
structure ReBox (w : World) (x : M.Ed) (t : TypeId) (W : World) : Prop where
  c0 : W.cell? ⟨w.heap.size, 0, none⟩ = some (.int .i64 x.from_)
  c1 : W.cell? ⟨w.heap.size, 1, none⟩ = some (.int .i64 x.to_)
  c2 : W.cell? ⟨w.heap.size, 2, none⟩ = some (.string x.put)
  hr : W.heap[w.heap.size + 1]? = some (.cells #[.int .i64 0, .int .i64 0, .slice none 0 0] t (0, 0))
  bw : Below w.heap.size w W
  hz : w.heap.size + 2 ≤ W.heap.size
theorem ReBox.below {w : World} {x : M.Ed} {t : TypeId} {W W' : World} (h : ReBox w x t W) (hB : Below W.heap.size W W') : ReBox w x t W' :=
  ⟨cell_below h.c0 hB, cell_below h.c1 hB, cell_below h.c2 hB, (hB.block _ (by have := h.hz; omega)).trans h.hr, below2 h.bw hB, Nat.le_trans h.hz hB.size⟩

theorem ReBox.drewN {w : World} {x : M.Ed} {t : TypeId} {W : World} (h : ReBox w x t W) (n : Nat) : ReBox w x t (W.drewN n) := ⟨h.c0, h.c1, h.c2, h.hr, belowN h.bw n, h.hz⟩

set_option maxHeartbeats 2000000 in
set_option maxRecDepth 100000 in
theorem refRescan_e3 (s : ByteArray) (x : M.Ed) (w : World) (hp : x.put.size ≤ 1000000) (h : (M.scan s.data.toList).2.2 = 0) (hx : M.isEdit s x) (h2 : (M.scan (M.after s x).data.toList).2.2 ≠ 0) :
    Calls Tryz.prog 20 #[.string s, edV x] w (RePost (M.rescan s x) w) := by
  have hsm : s.size ≤ 2500 := by rw [← M.size_list]; exact (M.scan_fine s.data.toList).2.2 h
  obtain ⟨l, p, c, hsc⟩ : ∃ l p c, M.scan s.data.toList = (l, p, c) := ⟨_, _, _, rfl⟩
  obtain ⟨l2, p2, c2, hsc2⟩ : ∃ l p c, M.scan (M.after s x).data.toList = (l, p, c) := ⟨_, _, _, rfl⟩
  have hres : M.rescan s x = (⟨0, 0, []⟩, p2, c2) := by
    unfold M.rescan
    rw [if_neg (by rw [h]; simp), if_neg (by simpa using hx), if_pos h2, hsc2]
  rw [hsc] at h
  dsimp only at h
  subst h
  rw [hsc2] at h2
  dsimp only at h2
  have hau := M.after_size s x hx
  have hd : decide (M.isEdit s x) = true := decide_eq_true hx
  have hus : (M.after s x).size ≤ maxLen := by have := hx.1; have := hx.2.1; have := hx.2.2; unfold maxLen; omega
  have haf : M.after s x = s.extract 0 x.from_.toNat ++ x.put ++ s.extract x.to_.toNat s.size := rfl
  obtain ⟨u, hu⟩ : ∃ u, M.after s x = u := ⟨_, rfl⟩
  rw [hu] at haf hsc2 hus
  have HRES := Lib.hid hres
  have HS := Lib.hid hsc
  have HS2 := Lib.hid hsc2
  have HD := Lib.hid hd
  have HU := Lib.hid haf
  have HUS := Lib.hid hus
  obtain ⟨i1, i2, i3⟩ := hx
  obtain ⟨xf, xt, xp⟩ := x
  dsimp only at i1 i2 i3 hp HU
  obtain ⟨a, rfl⟩ := Int.eq_ofNat_of_zero_le i1
  obtain ⟨b, rfl⟩ := Int.eq_ofNat_of_zero_le (Int.le_trans i1 i2)
  have k1 : a ≤ s.size := by omega
  have k2 : b ≤ s.size := by omega
  have k3 : a ≤ b := by omega
  have k4 : ¬ 9223372036854775807 < a + xp.size := by omega
  have k5 : ¬ 9223372036854775807 < a + xp.size + (s.size - b) := by omega
  have h3 : ((c2 : Int) == 0) = false := by rw [beq_eq_false_iff_ne]; omega
  have h4 : ((c2 : Int) != 0) = true := by rw [bne_iff_ne]; omega
  have hu2 : s.extract 0 a ++ xp ++ s.extract b s.size = u := by rw [HU.out]; simp
  have HU2 := Lib.hid hu2
  clear hres hsc hsc2 hd haf hus hu hau hu2
  go_enter Tryz.func20, Tryz.ntmps20
  go_wp2_with fail
  refine (refScan_any s _ (by unfold maxLen; omega)).mono ?_
  rintro e w1 ⟨a1, c1, rfl, _, _, _, hB1⟩
  rw [HS.out]
  obtain ⟨x0, x1, x2, hr, hBw, hz⟩ := re_cells (x := ⟨a, b, xp⟩) hB1
  have RB : ReBox w ⟨a, b, xp⟩ _ w1 := ⟨x0, x1, x2, hr, hBw, hz⟩
  have hlt : w.heap.size < w1.heap.size := by omega
  clear hB1 hr hBw
  dsimp only at x0 x1 x2 ⊢
  go_wp2_with fail
  refine (refIsEdit_any s ⟨a, b, xp⟩ _ (by unfold maxLen; omega)).mono ?_
  rintro e w2 ⟨rfl, hB2⟩
  rw [HD.out]
  replace RB := RB.below hB2
  have y0 := RB.c0
  have y1 := RB.c1
  have y2 := RB.c2
  have hz2 := RB.hz
  have hlt2 : w.heap.size < w2.heap.size := by omega
  clear hB2 x0 x1 x2 hlt hz
  dsimp only at y0 y1 y2
  go_wp2_with fail
  go_quiet (fail)
  go_wp2_with fail
  rw [HU2.out]
  refine (refScan_any u _ HUS.out).mono ?_
  rintro e w3 ⟨a3, c3, rfl, _, _, _, hB3⟩
  rw [HS2.out]
  have RB3 := (RB.drewN nq).below hB3
  obtain ⟨⟨q0, q1, q2⟩, f0, f1, f2⟩ := re_res RB3.hr
  have hz3 := RB3.hz
  have HRB := Lib.hid RB3
  clear hB3 RB RB3 y0 y1 y2 hz2 hlt2
  dsimp only
  go_wp2_with fail
  refine bodyPost_ret (v := .tuple #[.agg #[.int .i64 0, .int .i64 0, .slice none 0 0], .int .i64 p2, .int .i64 c2]) (by simp [results, Tryz.results20, go_sem, q0, q1, q2]) rfl ?_
  exact rePost_none p2 c2 HRES.out (below3 HRB.out.bw _ (by omega) _ _ _)
end Go.Proofs.YtcaanpifkcaldaaGreatDoor
