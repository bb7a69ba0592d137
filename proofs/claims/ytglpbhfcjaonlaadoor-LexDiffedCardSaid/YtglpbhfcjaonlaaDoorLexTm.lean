/- DERIVED. The walk of the statement on least edits. -/
import Derived.Test.YtglpbhfcjaonlaaDoorLexTm0
namespace Go.Proofs.YtglpbhfcjaonlaaDoor
open Go.RowKit Go.WideMaps Go.Maps Go.Shelf

set_option maxHeartbeats 1000000 in
set_option maxRecDepth 100000 in
theorem lexDiffed_e (a b : ByteArray) (w : World) (hw : Ready w) (ha : a.size ≤ maxLen) (hb : b.size ≤ maxLen) (h : (M.diff a b).2 ≠ 0) :
    Calls Tryd.prog 10 #[.string a, .string b] w fun e w' => e = .returned (.bool true) ∧ Below w.heap.size w w' := by
  obtain ⟨z, c, hz⟩ : ∃ z c, M.diff a b = (z, c) := ⟨_, _, rfl⟩
  rw [hz] at h
  dsimp only at h
  have h3 : ((c : Int) == 0) = false := by rw [beq_eq_false_iff_ne]; omega
  have h4 : ((c : Int) != 0) = true := by rw [bne_iff_ne]; omega
  have HZ := Lib.hid hz
  have HW := Lib.hid hw
  clear hz hw
  go_enter Tryd.func10, Tryd.ntmps10
  go_wp2_with fail
  refine (diff_any a b _ ha hb).mono ?_
  rintro e w1 ⟨rfl, hBw⟩
  rw [HZ.out]
  dsimp only
  go_wp2_with fail
  refine (awake_any _ (HW.out.below (belowA hBw _))).mono ?_
  rintro e w8 ⟨rfl, hB2⟩
  go_wp2_with fail
  go_ret
  exact ⟨rfl, below2 (belowA hBw _) hB2⟩

set_option maxHeartbeats 1000000 in
set_option maxRecDepth 100000 in
theorem lexDiffed_l (a b : ByteArray) (w : World) (hw : Ready w) (ha : a.size ≤ 2500) (hb : b.size ≤ 2500) (h : (M.diff a b).2 = 0) (hl : ¬ (a.size ≤ 60 ∧ b.size ≤ 60)) :
    Calls Tryd.prog 10 #[.string a, .string b] w fun e w' => e = .returned (.bool true) ∧ Below w.heap.size w w' := by
  obtain ⟨z, c, hz⟩ : ∃ z c, M.diff a b = (z, c) := ⟨_, _, rfl⟩
  rw [hz] at h
  dsimp only at h
  subst h
  have HZ := Lib.hid hz
  have HW := Lib.hid hw
  clear hz hw
  by_cases h1 : a.size ≤ 60
  · have d1 : decide ((60 : Int) < (a.size : Int)) = false := by simp; omega
    have d2 : decide ((60 : Int) < (b.size : Int)) = true := by simp; omega
    clear hl
    go_enter Tryd.func10, Tryd.ntmps10
    go_wp2_with fail
    refine (diff_any a b _ (by unfold maxLen; omega) (by unfold maxLen; omega)).mono ?_
    rintro e w1 ⟨rfl, hBw⟩
    rw [HZ.out]
    dsimp only
    go_wp2_with fail
    refine (awake_any _ (HW.out.below (belowA hBw _))).mono ?_
    rintro e w8 ⟨rfl, hB2⟩
    go_wp2_with fail
    go_ret
    exact ⟨rfl, below2 (belowA hBw _) hB2⟩
  · have d1 : decide ((60 : Int) < (a.size : Int)) = true := by simp; omega
    clear hl
    go_enter Tryd.func10, Tryd.ntmps10
    go_wp2_with fail
    refine (diff_any a b _ (by unfold maxLen; omega) (by unfold maxLen; omega)).mono ?_
    rintro e w1 ⟨rfl, hBw⟩
    rw [HZ.out]
    dsimp only
    go_wp2_with fail
    refine (awake_any _ (HW.out.below (belowA hBw _))).mono ?_
    rintro e w8 ⟨rfl, hB2⟩
    go_wp2_with fail
    go_ret
    exact ⟨rfl, below2 (belowA hBw _) hB2⟩

set_option maxHeartbeats 2000000 in
set_option maxRecDepth 100000 in
theorem lexDiffed_s (a b : ByteArray) (w : World) (hw : Ready w) (ha : a.size ≤ 60) (hb : b.size ≤ 60) (h : (M.diff a b).2 = 0) :
    Calls Tryd.prog 10 #[.string a, .string b] w fun e w' => e = .returned (.bool true) ∧ Below w.heap.size w w' := by
  obtain ⟨_, _, g1, g2, p, n, g3, g4, g5, g6⟩ := M.diff_least a b h
  obtain ⟨z, c, hz⟩ : ∃ z c, M.diff a b = (z, c) := ⟨_, _, rfl⟩
  rw [hz] at h g1 g2 g5
  dsimp only at h g1 g2 g5
  subst h
  have HZ := Lib.hid hz
  have HW := Lib.hid hw
  have HE := Lib.hid g1
  have HT := Lib.hid g2
  have HM := Lib.hid g6
  have hzs : z.put.size = b.size - n - p := by rw [g5]; show (b.extract p (b.size - n)).size = _; rw [ByteArray.size_extract]; omega
  have hz0 : z.from_ = p := by rw [g5]
  have hz1 : z.to_ = ((a.size - n : Nat) : Int) := by rw [g5]
  have hzm : z.put.size ≤ 140737488355328 := by omega
  have zb0 : 0 ≤ z.from_ := by omega
  have zb1 : z.from_ ≤ 60 := by omega
  have zb2 : 0 ≤ z.to_ := by omega
  have zb3 : z.to_ ≤ 60 := by omega
  have zb4 : z.put.size ≤ 60 := by omega
  have HZ0 := Lib.hid hz0
  have HZ1 := Lib.hid hz1
  have HZS := Lib.hid hzs
  have d1 : decide ((60 : Int) < (a.size : Int)) = false := by simp; omega
  have d2 : decide ((60 : Int) < (b.size : Int)) = false := by simp; omega
  clear hz hw g1 g2 g5 g6 hz0 hz1 hzs
  go_enter Tryd.func10, Tryd.ntmps10
  go_wp2_with fail
  refine (diff_any a b _ (by unfold maxLen; omega) (by unfold maxLen; omega)).mono ?_
  rintro e w1 ⟨rfl, hBw⟩
  rw [HZ.out]
  dsimp only
  go_wp2_with fail
  refine (Apply_any a z _ (by unfold maxLen; omega) hzm).mono ?_
  rintro e w2 ⟨rfl, hB2⟩
  rw [HE.out, HT.out]
  obtain ⟨⟨z0, z1, z2⟩, hBz, hltz⟩ := box1 hB2
  clear hB2
  replace hBw := below2 hBw hBz
  clear hBz
  go_wp2_with fail
  go_loopw [9, 10] (fun i _ wr => ∃ i1 : Nat, i1 ≤ a.size + 1 ∧ i = .int .i64 i1 ∧ Below w2.heap.size w2 wr) (fun i _ _ => a.size + 1 - (intOf i).toNat)
  case atStart => exact ⟨0, by omega, rfl, Below.refl _ _⟩
  case round =>
    rename_i wr
    obtain ⟨i, hi, rfl, hB⟩ := hrel
    by_cases c1 : i ≤ a.size
    · have e1 : decide ((i : Int) ≤ (a.size : Int)) = true := by simp; omega
      by_cases c2 : i ≤ b.size
      · have e2 : decide ((i : Int) ≤ (b.size : Int)) = true := by simp; omega
        by_cases c3 : (a.extract 0 i).toList = (b.extract 0 i).toList
        · have e3 : ((a.extract 0 i).toList == (b.extract 0 i).toList) = true := by simpa using c3
          go_wp2_with fail
          go_quiet (fail)
          go_wp2_with fail
          go_loopw [10] (fun k wr => ∃ k1 : Nat, k1 ≤ a.size + 1 ∧ k = .int .i64 k1 ∧ Below w2.heap.size w2 wr) (fun k _ => a.size + 1 - (intOf k).toNat)
          case atStart => exact ⟨0, by omega, rfl, belowN hB _⟩
          case round =>
            clear hB
            rename_i wr
            obtain ⟨k, hk, rfl, hB⟩ := hrel
            have j1 : (a.size : Int) - (k : Int) = ((a.size - k : Nat) : Int) ∨ a.size < k := by omega
            by_cases b1 : i + k ≤ a.size
            · have f1 : decide ((i : Int) + (k : Int) ≤ (a.size : Int)) = true := by simp; omega
              by_cases b2 : i + k ≤ b.size
              · have f2 : decide ((i : Int) + (k : Int) ≤ (b.size : Int)) = true := by simp; omega
                clear j1
                have j1 : (a.size : Int) - (k : Int) = ((a.size - k : Nat) : Int) := by omega
                have j2 : (b.size : Int) - (k : Int) = ((b.size - k : Nat) : Int) := by omega
                have j3 : a.size - k ≤ a.size := by omega
                have j4 : b.size - k ≤ b.size := by omega
                by_cases b3 : (a.extract (a.size - k) a.size).toList = (b.extract (b.size - k) b.size).toList
                · have f3 : ((a.extract (a.size - k) a.size).toList == (b.extract (b.size - k) b.size).toList) = true := by simpa using b3
                  have hle : i + k ≤ p + n := by
                    refine HM.out i k b1 b2 ?_ ?_
                    · have := c3
                      rw [ByteArray.toList_eq, ByteArray.toList_eq, M.ext_list, M.ext_list] at this
                      simpa using this
                    · have := b3
                      rw [ByteArray.toList_eq, ByteArray.toList_eq, M.ext_list, M.ext_list, List.take_of_length_le (by rw [List.length_drop, M.size_list]; omega), List.take_of_length_le (by rw [List.length_drop, M.size_list]; omega)] at this
                      exact this
                  have f4 : decide ((a.size : Int) - (i : Int) - (k : Int) + (b.size : Int) - (i : Int) - (k : Int) < z.to_ - z.from_ + (z.put.size : Int)) = false := by
                    rw [decide_eq_false_iff_not, HZ0.out, HZ1.out, HZS.out]; omega
                  have Z0 := cell_below z0 hB
                  have Z1 := cell_below z1 hB
                  have Z2 := cell_below z2 hB
                  have hltr := Nat.lt_of_lt_of_le hltz hB.size
                  go_wp2_with fail
                  go_quiet (fail)
                  go_wp2_with fail
                  exact ⟨⟨k + 1, by omega, by simp, belowN hB _⟩, by simp [intOf]; omega⟩
                · have f3 : ((a.extract (a.size - k) a.size).toList == (b.extract (b.size - k) b.size).toList) = false := by simpa using b3
                  go_wp2_with fail
                  go_quiet (fail)
                  go_wp2_with fail
                  exact ⟨⟨i + 1, by omega, by simp, belowN hB _⟩, by simp [intOf]; omega⟩
              · have f2 : decide ((i : Int) + (k : Int) ≤ (b.size : Int)) = false := by simp; omega
                clear j1
                go_wp2_with fail
                go_quiet (fail)
                go_wp2_with fail
                exact ⟨⟨i + 1, by omega, by simp, belowN hB _⟩, by simp [intOf]; omega⟩
            · have f1 : decide ((i : Int) + (k : Int) ≤ (a.size : Int)) = false := by simp; omega
              clear j1
              go_wp2_with fail
              go_quiet (fail)
              go_wp2_with fail
              exact ⟨⟨i + 1, by omega, by simp, belowN hB _⟩, by simp [intOf]; omega⟩
        · have e3 : ((a.extract 0 i).toList == (b.extract 0 i).toList) = false := by simpa using c3
          go_wp2_with fail
          go_quiet (fail)
          go_wp2_with fail
          refine (awake_any _ (HW.out.below (below2 hBw (belowN hB _)))).mono ?_
          rintro e w8 ⟨rfl, hB2⟩
          go_wp2_with fail
          go_ret
          exact ⟨rfl, below2 (below2 hBw (belowN hB _)) hB2⟩
      · have e2 : decide ((i : Int) ≤ (b.size : Int)) = false := by simp; omega
        go_wp2_with fail
        go_quiet (fail)
        go_wp2_with fail
        refine (awake_any _ (HW.out.below (below2 hBw (belowN hB _)))).mono ?_
        rintro e w8 ⟨rfl, hB2⟩
        go_wp2_with fail
        go_ret
        exact ⟨rfl, below2 (below2 hBw (belowN hB _)) hB2⟩
    · have e1 : decide ((i : Int) ≤ (a.size : Int)) = false := by simp; omega
      go_wp2_with fail
      go_quiet (fail)
      go_wp2_with fail
      refine (awake_any _ (HW.out.below (below2 hBw (belowN hB _)))).mono ?_
      rintro e w8 ⟨rfl, hB2⟩
      go_wp2_with fail
      go_ret
      exact ⟨rfl, below2 (below2 hBw (belowN hB _)) hB2⟩

theorem lexDiffed_any (a b : ByteArray) (w : World) (hw : Ready w) (ha : a.size ≤ maxLen) (hb : b.size ≤ maxLen) :
    Calls Tryd.prog 10 #[.string a, .string b] w fun e w' => e = .returned (.bool true) ∧ Below w.heap.size w w' := by
  by_cases h : (M.diff a b).2 = 0
  · obtain ⟨fa, fb, _⟩ := M.diff_least a b h
    have h1 : a.size ≤ 2500 := by rw [← M.size_list]; exact M.fault_small _ fa
    have h2 : b.size ≤ 2500 := by rw [← M.size_list]; exact M.fault_small _ fb
    by_cases hl : a.size ≤ 60 ∧ b.size ≤ 60
    · exact lexDiffed_s a b w hw hl.1 hl.2 h
    · exact lexDiffed_l a b w hw h1 h2 h hl
  · exact lexDiffed_e a b w hw ha hb h

end Go.Proofs.YtglpbhfcjaonlaaDoor
