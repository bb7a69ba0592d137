/- DERIVED. Contract of layer 1: Rescan. -/
import Derived.Test.YtamdcloahkacnaaGreatDoorLexRb
namespace Go.Proofs.YtamdcloahkacnaaGreatDoor
open Go.RowKit Go.WideMaps Go.Maps Go.Shelf

/-- What Rescan comes to. -/
def RePost (r : M.Ch × Nat × Nat) (w : World) (e : Ending) (w' : World) : Prop :=
  ∃ a c, e = .returned (.tuple #[.agg #[.int .i64 r.1.head, .int .i64 r.1.tail, .slice a r.1.new.length c], .int .i64 r.2.1, .int .i64 r.2.2]) ∧ LxSl w' a r.1.new ∧ Below w.heap.size w w'
theorem rePost_none {w w' : World} {r : M.Ch × Nat × Nat} (k e : Nat) (h : r = (⟨0, 0, []⟩, k, e)) (hb : Below w.heap.size w w') : RePost r w (.returned (.tuple #[.agg #[.int .i64 0, .int .i64 0, .slice none 0 0], .int .i64 k, .int .i64 e])) w' :=
  ⟨none, 0, by rw [h]; rfl, by rw [h]; exact Or.inl rfl, hb⟩

/-- What Rescan comes to, a list that is nil having no room. -/
def RePostN (r : M.Ch × Nat × Nat) (w : World) (e : Ending) (w' : World) : Prop :=
  ∃ a c, e = .returned (.tuple #[.agg #[.int .i64 r.1.head, .int .i64 r.1.tail, .slice a r.1.new.length c], .int .i64 r.2.1, .int .i64 r.2.2]) ∧ (a = none → c = 0) ∧ LxSl w' a r.1.new ∧ Below w.heap.size w w'
theorem RePostN.weak {r : M.Ch × Nat × Nat} {w : World} {e : Ending} {w' : World} (h : RePostN r w e w') : RePost r w e w' := by
  obtain ⟨a, c, h1, _, h2, h3⟩ := h
  exact ⟨a, c, h1, h2, h3⟩
theorem rePostN_none {w w' : World} {r : M.Ch × Nat × Nat} (k e : Nat) (h : r = (⟨0, 0, []⟩, k, e)) (hb : Below w.heap.size w w') : RePostN r w (.returned (.tuple #[.agg #[.int .i64 0, .int .i64 0, .slice none 0 0], .int .i64 k, .int .i64 e])) w' :=
  ⟨none, 0, by rw [h]; rfl, fun _ => rfl, by rw [h]; exact Or.inl rfl, hb⟩

/-- The cells of the two boxes of Rescan. -/
theorem re_cells {w w1 : World} {x : M.Ed} {t1 t2 : TypeId} (hB : Below ((w.alloc (.cells #[.int .i64 x.from_, .int .i64 x.to_, .string x.put] t1)).alloc (.cells #[.int .i64 0, .int .i64 0, .slice none 0 0] t2)).heap.size ((w.alloc (.cells #[.int .i64 x.from_, .int .i64 x.to_, .string x.put] t1)).alloc (.cells #[.int .i64 0, .int .i64 0, .slice none 0 0] t2)) w1) :
    w1.cell? ⟨w.heap.size, 0, none⟩ = some (.int .i64 x.from_) ∧ w1.cell? ⟨w.heap.size, 1, none⟩ = some (.int .i64 x.to_) ∧ w1.cell? ⟨w.heap.size, 2, none⟩ = some (.string x.put) ∧
    w1.heap[w.heap.size + 1]? = some (.cells #[.int .i64 0, .int .i64 0, .slice none 0 0] t2 (0, 0)) ∧ Below w.heap.size w w1 ∧ w.heap.size + 2 ≤ w1.heap.size := by
  have hz := hB.size
  simp at hz
  have e0 : w1.heap[w.heap.size]? = some (.cells #[.int .i64 x.from_, .int .i64 x.to_, .string x.put] t1 (0, 0)) := by
    rw [hB.block _ (by simp; omega), Below.heap_alloc _ _ _ (by simp)]; exact (MapKept.heap_alloc w _).1
  refine ⟨by rw [Lib.cell_of_heap e0]; rfl, by rw [Lib.cell_of_heap e0]; rfl, by rw [Lib.cell_of_heap e0]; rfl, ?_, (belowA (below1 w _) _).trans (hB.mono (by simp; omega)), by omega⟩
  rw [hB.block _ (by simp)]
  have := (MapKept.heap_alloc (w.alloc (.cells #[.int .i64 x.from_, .int .i64 x.to_, .string x.put] t1)) (.cells #[.int .i64 0, .int .i64 0, .slice none 0 0] t2)).1
  simpa using this
theorem re_res {w1 : World} {n : Nat} {t : TypeId} (h : w1.heap[n]? = some (.cells #[.int .i64 0, .int .i64 0, .slice none 0 0] t (0, 0))) :
    (w1.cell? ⟨n, 0, none⟩ = some (.int .i64 0) ∧ w1.cell? ⟨n, 1, none⟩ = some (.int .i64 0) ∧ w1.cell? ⟨n, 2, none⟩ = some (.slice none 0 0)) ∧ (w1.frozen? ⟨n, 0, none⟩ = false ∧ w1.frozen? ⟨n, 1, none⟩ = false ∧ w1.frozen? ⟨n, 2, none⟩ = false) :=
  ⟨⟨by rw [Lib.cell_of_heap h]; rfl, by rw [Lib.cell_of_heap h]; rfl, by rw [Lib.cell_of_heap h]; rfl⟩, Lib.frozen_of_heap h 0, Lib.frozen_of_heap h 1, Lib.frozen_of_heap h 2⟩

theorem set3_cells {w : World} {n : Nat} {x y z : Value} (q0 : w.cell? ⟨n, 0, none⟩ = some x) (q1 : w.cell? ⟨n, 1, none⟩ = some y) (q2 : w.cell? ⟨n, 2, none⟩ = some z) (hlt : n < w.heap.size) (a b c : Value) (o : Obj) :
    ((((w.setCell ⟨n, 0, none⟩ a).setCell ⟨n, 1, none⟩ b).setCell ⟨n, 2, none⟩ c).alloc o).cell? ⟨n, 0, none⟩ = some a ∧
    ((((w.setCell ⟨n, 0, none⟩ a).setCell ⟨n, 1, none⟩ b).setCell ⟨n, 2, none⟩ c).alloc o).cell? ⟨n, 1, none⟩ = some b ∧
    ((((w.setCell ⟨n, 0, none⟩ a).setCell ⟨n, 1, none⟩ b).setCell ⟨n, 2, none⟩ c).alloc o).cell? ⟨n, 2, none⟩ = some c := by
  refine ⟨?_, ?_, ?_⟩ <;> rw [World.cell?_alloc_lt _ _ _ (by simpa using hlt)] <;> simp [go_sem, q0, q1, q2]

set_option maxHeartbeats 2000000 in
set_option maxRecDepth 100000 in
theorem rescan_e1 (s : ByteArray) (x : M.Ed) (w : World) (hw : Ready w) (hs : s.size ≤ maxLen) (h : (M.scan s.data.toList).2.2 ≠ 0) :
    Calls Tryz.prog 11 #[.string s, edV x] w (RePostN (M.rescan s x) w) := by
  obtain ⟨l, p, c, hsc⟩ : ∃ l p c, M.scan s.data.toList = (l, p, c) := ⟨_, _, _, rfl⟩
  rw [hsc] at h
  dsimp only at h
  have hres : M.rescan s x = (⟨0, 0, []⟩, p, c) := by unfold M.rescan; rw [if_pos (by rw [hsc]; exact h), hsc]
  have HRES := Lib.hid hres
  have HS := Lib.hid hsc
  have HW := Lib.hid hw
  have h3 : ((c : Int) == 0) = false := by rw [beq_eq_false_iff_ne]; omega
  have h4 : ((c : Int) != 0) = true := by rw [bne_iff_ne]; omega
  clear hres hsc hw
  go_enter Tryz.func11, Tryz.ntmps11
  go_wp2_with fail
  refine (scan_any s _ (HW.out.below (belowA (below1 w _) _)) hs).mono ?_
  rintro e w1 ⟨a1, c1, rfl, _, _, _, hB1⟩
  rw [HS.out]
  obtain ⟨_, _, _, hr, hBw, hz⟩ := re_cells hB1
  obtain ⟨⟨q0, q1, q2⟩, f0, f1, f2⟩ := re_res hr
  clear hB1 hr
  dsimp only
  go_wp2_with fail
  refine bodyPost_ret (v := .tuple #[.agg #[.int .i64 0, .int .i64 0, .slice none 0 0], .int .i64 p, .int .i64 c]) (by simp [results, Tryz.results11, go_sem, q0, q1, q2]) rfl ?_
  exact rePostN_none p c HRES.out (below3 hBw _ (by omega) _ _ _)


set_option maxHeartbeats 2000000 in
set_option maxRecDepth 100000 in
theorem rescan_e2 (s : ByteArray) (x : M.Ed) (w : World) (hw : Ready w) (hp : x.put.size ≤ 140737488355328) (h : (M.scan s.data.toList).2.2 = 0) (hx : ¬ M.isEdit s x) :
    Calls Tryz.prog 11 #[.string s, edV x] w (RePostN (M.rescan s x) w) := by
  have hsm : s.size ≤ 2500 := by rw [← M.size_list]; exact (M.scan_fine s.data.toList).2.2 h
  obtain ⟨l, p, c, hsc⟩ : ∃ l p c, M.scan s.data.toList = (l, p, c) := ⟨_, _, _, rfl⟩
  have hres : M.rescan s x = (⟨0, 0, []⟩, 0, 3) := by unfold M.rescan; rw [if_neg (by rw [h]; simp), if_pos hx]
  rw [hsc] at h
  dsimp only at h
  subst h
  have hed : edtRes s x = .tuple #[edtV ⟨0, 0, ⟨#[]⟩⟩ ⟨#[]⟩ ⟨#[]⟩, .bool false] := by unfold edtRes; rw [if_neg hx]
  have HED := Lib.hid hed
  have HRES := Lib.hid hres
  have HS := Lib.hid hsc
  have HW := Lib.hid hw
  clear hres hsc hw hed hx
  go_enter Tryz.func11, Tryz.ntmps11
  go_wp2_with fail
  refine (scan_any s _ (HW.out.below (belowA (below1 w _) _)) (by unfold maxLen; omega)).mono ?_
  rintro e w1 ⟨a1, c1, rfl, _, _, _, hB1⟩
  rw [HS.out]
  obtain ⟨x0, x1, x2, hr, hBw, hz⟩ := re_cells hB1
  clear hB1
  dsimp only
  go_wp2_with fail
  refine (edit_any s x w1 (by omega) hp).mono ?_
  rintro e w2 ⟨rfl, hB2⟩
  rw [HED.out]
  have hr2 := (hB2.block (w.heap.size + 1) (by omega)).trans hr
  obtain ⟨⟨q0, q1, q2⟩, f0, f1, f2⟩ := re_res hr2
  have hBw2 := below2 hBw hB2
  have hz2 : w.heap.size + 2 ≤ w2.heap.size := by have := hB2.size; omega
  have hlt : w.heap.size + 1 < w2.heap.size := by omega
  have hlt0 : w.heap.size < w2.heap.size := by omega
  clear hr hr2 hB2 hBw
  go_wp2_with fail
  obtain ⟨r0, r1, r2⟩ := set3_cells q0 q1 q2 hlt (.int .i64 0) (.int .i64 0) (.slice none 0 0) (.cells #[.int .i64 0, .int .i64 0, .string ⟨#[]⟩, .string ⟨#[]⟩, .string ⟨#[]⟩] 50)
  refine bodyPost_ret (v := .tuple #[.agg #[.int .i64 0, .int .i64 0, .slice none 0 0], .int .i64 0, .int .i64 3]) (by simp [results, Tryz.results11, go_sem, r0, r1, r2]) rfl ?_
  exact rePostN_none 0 3 HRES.out (belowA (below3 hBw2 _ (by omega) _ _ _) _)

set_option maxHeartbeats 2000000 in
set_option maxRecDepth 100000 in
theorem rescan_e3 (s : ByteArray) (x : M.Ed) (w : World) (hw : Ready w) (hp : x.put.size ≤ 140737488355328) (h : (M.scan s.data.toList).2.2 = 0) (hx : M.isEdit s x) (h2 : (M.scan (M.after s x).data.toList).2.2 ≠ 0) :
    Calls Tryz.prog 11 #[.string s, edV x] w (RePostN (M.rescan s x) w) := by
  have hsm : s.size ≤ 2500 := by rw [← M.size_list]; exact (M.scan_fine s.data.toList).2.2 h
  have hau := M.after_size s x hx
  have hres : M.rescan s x = (⟨0, 0, []⟩, (M.scan (M.after s x).data.toList).2.1, (M.scan (M.after s x).data.toList).2.2) := by
    unfold M.rescan; rw [if_neg (by rw [h]; simp), if_neg (by simpa using hx), if_pos h2]
  have hed : edtRes s x = .tuple #[edtV x s (M.after s x), .bool true] := by unfold edtRes; rw [if_pos hx]
  obtain ⟨u, hu⟩ : ∃ u, M.after s x = u := ⟨_, rfl⟩
  rw [hu] at hres hed hau h2
  obtain ⟨l, p, c, hsc⟩ : ∃ l p c, M.scan s.data.toList = (l, p, c) := ⟨_, _, _, rfl⟩
  obtain ⟨l2, p2, c2, hsc2⟩ : ∃ l p c, M.scan u.data.toList = (l, p, c) := ⟨_, _, _, rfl⟩
  rw [hsc] at h
  rw [hsc2] at h2 hres
  dsimp only at h h2 hres
  subst h
  have hus : u.size ≤ 140737488360000 := by have := hx.1; have := hx.2.1; have := hx.2.2; omega
  have h3 : ((c2 : Int) == 0) = false := by rw [beq_eq_false_iff_ne]; omega
  have h4 : ((c2 : Int) != 0) = true := by rw [bne_iff_ne]; omega
  have HED := Lib.hid hed
  have HRES := Lib.hid hres
  have HS := Lib.hid hsc
  have HS2 := Lib.hid hsc2
  have HW := Lib.hid hw
  clear hres hsc hsc2 hw hed hx hau hu
  go_enter Tryz.func11, Tryz.ntmps11
  go_wp2_with fail
  refine (scan_any s _ (HW.out.below (belowA (below1 w _) _)) (by unfold maxLen; omega)).mono ?_
  rintro e w1 ⟨a1, k1, rfl, _, _, _, hB1⟩
  rw [HS.out]
  obtain ⟨x0, x1, x2, hr, hBw, hz⟩ := re_cells hB1
  clear hB1
  dsimp only
  go_wp2_with fail
  refine (edit_any s x w1 (by omega) (by omega)).mono ?_
  rintro e w2 ⟨rfl, hB2⟩
  rw [HED.out]
  have hr2 := (hB2.block (w.heap.size + 1) (by omega)).trans hr
  have hBw2 := below2 hBw hB2
  have hz2 : w.heap.size + 2 ≤ w2.heap.size := by have := hB2.size; omega
  have hlt : w.heap.size + 1 < w2.heap.size := by omega
  have hlt0 : w.heap.size < w2.heap.size := by omega
  clear hr hB2 hBw
  go_wp2_with fail
  refine (scan_any u _ (HW.out.below (belowA hBw2 _)) (by unfold maxLen; omega)).mono ?_
  rintro e w3 ⟨a3, k3, rfl, _, _, _, hB3⟩
  rw [HS2.out]
  have hz3 : w2.heap.size + 1 ≤ w3.heap.size := by have := hB3.size; simp at this; omega
  have hr3 : w3.heap[w.heap.size + 1]? = some (.cells #[.int .i64 0, .int .i64 0, .slice none 0 0] 26 (0, 0)) := by
    rw [hB3.block _ (by simp; omega), Below.heap_alloc _ _ _ (by omega)]; exact hr2
  obtain ⟨⟨q0, q1, q2⟩, f0, f1, f2⟩ := re_res hr3
  have hlt3 : w.heap.size + 1 < w3.heap.size := by omega
  have hBw3 : Below w.heap.size w w3 := (belowA hBw2 _).trans (hB3.mono (by simp; omega))
  clear hr2 hr3 hB3
  dsimp only
  go_wp2_with fail
  refine bodyPost_ret (v := .tuple #[.agg #[.int .i64 0, .int .i64 0, .slice none 0 0], .int .i64 p2, .int .i64 c2]) (by simp [results, Tryz.results11, go_sem, q0, q1, q2]) rfl ?_
  exact rePostN_none p2 c2 HRES.out (below3 hBw3 _ (by omega) _ _ _)

end Go.Proofs.YtamdcloahkacnaaGreatDoor
