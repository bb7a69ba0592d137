/- DERIVED. The walk of the statement on how tokens change. -/
import Derived.Test.YtcaanpifkcaldaaGreatDoorLexBq
namespace Go.Proofs.YtcaanpifkcaldaaGreatDoor
open Go.RowKit Go.WideMaps Go.Maps Go.Shelf

/-- The cells of a box that holds an edit. -/
theorem boxE {w w1 : World} {x : M.Ed} {t1 : TypeId} (hB : Below (w.alloc (.cells #[.int .i64 x.from_, .int .i64 x.to_, .string x.put] t1)).heap.size (w.alloc (.cells #[.int .i64 x.from_, .int .i64 x.to_, .string x.put] t1)) w1) :
    (w1.cell? ⟨w.heap.size, 0, none⟩ = some (.int .i64 x.from_) ∧ w1.cell? ⟨w.heap.size, 1, none⟩ = some (.int .i64 x.to_) ∧ w1.cell? ⟨w.heap.size, 2, none⟩ = some (.string x.put)) ∧ Below w.heap.size w w1 ∧ w.heap.size < w1.heap.size := by
  have e0 : w1.heap[w.heap.size]? = some (.cells #[.int .i64 x.from_, .int .i64 x.to_, .string x.put] t1 (0, 0)) := by
    rw [hB.block _ (by simp)]; exact (MapKept.heap_alloc w _).1
  exact ⟨⟨by rw [Lib.cell_of_heap e0]; rfl, by rw [Lib.cell_of_heap e0]; rfl, by rw [Lib.cell_of_heap e0]; rfl⟩, (below1 w _).trans (hB.mono (by simp)), by have := hB.size; simp at this; omega⟩
theorem refRescan_any (s : ByteArray) (x : M.Ed) (w : World) (hs : s.size ≤ maxLen) (hp : x.put.size ≤ 1000000) :
    Calls Tryz.prog 20 #[.string s, edV x] w (RePost (M.rescan s x) w) := by
  by_cases h : (M.scan s.data.toList).2.2 = 0
  · by_cases hx : M.isEdit s x
    · by_cases h2 : (M.scan (M.after s x).data.toList).2.2 = 0
      · exact refRescan_ok s x w hp h hx h2
      · exact refRescan_e3 s x w hp h hx h2
    · exact refRescan_e2 s x w h hx
  · exact refRescan_e1 s x w hs h

set_option maxHeartbeats 1000000 in
set_option maxRecDepth 100000 in
theorem sameChange_any (h t : Nat) (l : List M.Lx) (a a' : Option Addr) (c c' : Nat) (w : World) (hl : l.length ≤ 1000000) (ho : LxSl w a l) (hn : LxSl w a' l) :
    Calls Tryz.prog 21 #[.agg #[.int .i64 h, .int .i64 t, .slice a l.length c], .agg #[.int .i64 h, .int .i64 t, .slice a' l.length c']] w fun e w' => e = .returned (.bool true) ∧ Below w.heap.size w w' := by
  have hsame := (M.sameLx_iff l l).2 rfl
  have HSAME := Lib.hid hsame
  have HO := Lib.hid ho
  have HN := Lib.hid hn
  have b1 : ((h : Int) == (h : Int)) = true := beq_self_eq_true _
  have b2 : ((t : Int) == (t : Int)) = true := beq_self_eq_true _
  clear hsame ho hn
  go_enter Tryz.func21, Tryz.ntmps21
  go_wp2_with fail
  refine (sameTokens_any a a' c c' l l _ hl hl ((HO.out.below (below1 _ _)).below (below1 _ _)) ((HN.out.below (below1 _ _)).below (below1 _ _))).mono ?_
  rintro e w1 ⟨rfl, hB⟩
  rw [HSAME.out]
  go_wp2_with fail
  go_ret
  exact ⟨rfl, below2 (belowA (below1 w _) _) hB⟩

set_option maxHeartbeats 2000000 in
set_option maxRecDepth 100000 in
theorem lexRescans_any (s : ByteArray) (x : M.Ed) (w : World) (hw : Ready w) (_hs : s.size ≤ maxLen) (_hp : x.put.size ≤ 140737488355328) :
    Calls Tryz.prog 6 #[.string s, edV x] w fun e w' => e = .returned (.bool true) ∧ Below w.heap.size w w' := by
  have HW := Lib.hid hw
  clear hw
  by_cases h1 : s.size ≤ 3000
  · have d1 : decide (s.size ≤ 3000) = true := decide_eq_true h1
    by_cases h2 : x.put.size ≤ 3000
    · have d2 : decide (x.put.size ≤ 3000) = true := decide_eq_true h2
      obtain ⟨⟨hd, tl, nw⟩, p, c, hr⟩ : ∃ ch p c, M.rescan s x = (ch, p, c) := ⟨_, _, _, rfl⟩
      have hnl : nw.length ≤ 1000000 := by
        have h3 : nw = (M.rescan s x).1.new := by rw [hr]
        have h4 := (M.scan_fine (M.after s x).data.toList).2.1
        rw [h3]
        unfold M.rescan
        split
        · simp
        · split
          · simp
          · split
            · simp
            · simp only [List.length_drop, List.length_take]; omega
      have HR := Lib.hid hr
      have D1 := Lib.hid d1
      have D2 := Lib.hid d2
      clear d1 d2 hr
      go_enter Tryz.func6, Tryz.ntmps6
      go_wp2_with fail
      refine (short_any s _).mono ?_
      rintro e w1 ⟨rfl, hB1⟩
      rw [D1.out]
      obtain ⟨⟨x0, x1, x2⟩, hBw, hlt⟩ := boxE hB1
      clear hB1
      go_wp2_with fail
      refine (short_any x.put _).mono ?_
      rintro e w2 ⟨rfl, hB2⟩
      rw [D2.out]
      replace x0 := cell_below x0 hB2
      replace x1 := cell_below x1 hB2
      replace x2 := cell_below x2 hB2
      replace hBw := below2 hBw hB2
      replace hlt := Nat.lt_of_lt_of_le hlt hB2.size
      clear hB2
      go_wp2_with fail
      refine (rescan_any s x _ (HW.out.below hBw) (by omega) (by omega)).mono ?_
      rintro e w3 ⟨a3, c3, rfl, hs3, hB2⟩
      rw [HR.out] at hs3 ⊢
      dsimp only at hs3 ⊢
      replace x0 := cell_below x0 hB2
      replace x1 := cell_below x1 hB2
      replace x2 := cell_below x2 hB2
      replace hBw := below2 hBw hB2
      replace hlt := Nat.lt_of_lt_of_le hlt hB2.size
      have HL3 := Lib.hid hs3
      clear hB2 hs3
      go_wp2_with fail
      refine (refRescan_any s x _ (by unfold maxLen; omega) (by omega)).mono ?_
      rintro e w4 ⟨a4, c4, rfl, hs4, hB2⟩
      rw [HR.out] at hs4 ⊢
      dsimp only at hs4 ⊢
      have HM4 := Lib.hid hs4
      have HL4 := Lib.hid ((HL3.out.below (below1 _ _)).below hB2)
      have hr4 := (hB2.block w3.heap.size (by simp)).trans (MapKept.heap_alloc w3 _).1
      have m0 : w4.cell? ⟨w3.heap.size, 0, none⟩ = some (.int .i64 hd) := by rw [Lib.cell_of_heap hr4]; rfl
      have m1 : w4.cell? ⟨w3.heap.size, 1, none⟩ = some (.int .i64 tl) := by rw [Lib.cell_of_heap hr4]; rfl
      have m2 : w4.cell? ⟨w3.heap.size, 2, none⟩ = some (.slice a3 nw.length c3) := by rw [Lib.cell_of_heap hr4]; rfl
      have hlt4 : w3.heap.size < w4.heap.size := by have := hB2.size; simp at this; omega
      replace hBw := below2 (belowA hBw _) hB2
      clear hB2 hs4 hr4 x0 x1 x2
      go_wp2_with fail
      refine (sameChange_any hd tl nw a3 a4 c3 c4 _ hnl (HL4.out.below (below1 _ _)) (HM4.out.below (below1 _ _))).mono ?_
      rintro e w5 ⟨rfl, hB2⟩
      replace hBw := below2 (belowA hBw _) hB2
      clear hB2
      go_wp2_with fail
      refine (awake_any _ (HW.out.below hBw)).mono ?_
      rintro e w8 ⟨rfl, hB2⟩
      go_wp2_with fail
      go_ret
      exact ⟨rfl, below2 hBw hB2⟩
    · have d2 : decide (x.put.size ≤ 3000) = false := decide_eq_false h2
      have D1 := Lib.hid d1
      have D2 := Lib.hid d2
      clear d1 d2
      go_enter Tryz.func6, Tryz.ntmps6
      go_wp2_with fail
      refine (short_any s _).mono ?_
      rintro e w1 ⟨rfl, hB1⟩
      rw [D1.out]
      obtain ⟨⟨x0, x1, x2⟩, hBw, hlt⟩ := boxE hB1
      clear hB1
      go_wp2_with fail
      refine (short_any x.put _).mono ?_
      rintro e w2 ⟨rfl, hB2⟩
      rw [D2.out]
      replace hBw := below2 hBw hB2
      clear hB2
      go_wp2_with fail
      refine (awake_any _ (HW.out.below hBw)).mono ?_
      rintro e w8 ⟨rfl, hB2⟩
      go_wp2_with fail
      go_ret
      exact ⟨rfl, below2 hBw hB2⟩
  · have d1 : decide (s.size ≤ 3000) = false := decide_eq_false h1
    have D1 := Lib.hid d1
    clear d1
    go_enter Tryz.func6, Tryz.ntmps6
    go_wp2_with fail
    refine (short_any s _).mono ?_
    rintro e w1 ⟨rfl, hB1⟩
    rw [D1.out]
    obtain ⟨_, hBw, hlt⟩ := boxE hB1
    clear hB1
    go_wp2_with fail
    refine (awake_any _ (HW.out.below hBw)).mono ?_
    rintro e w8 ⟨rfl, hB2⟩
    go_wp2_with fail
    go_ret
    exact ⟨rfl, below2 hBw hB2⟩
end Go.Proofs.YtcaanpifkcaldaaGreatDoor
