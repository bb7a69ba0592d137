/- DERIVED. The walk of the statement on signs. -/
import Derived.Test.YtglpbhfcjaonlaaDoorLexSb
namespace Go.Proofs.YtglpbhfcjaonlaaDoor
open Go.RowKit Go.WideMaps Go.Maps Go.Shelf
namespace M
def sgOk (g : List UInt8) : Bool := decide (kind g = (4, 0)) && decide ((scan (g ++ [32, 49])).2.2 = 0) && decide ((scan (g ++ [32, 49])).1.length = 2) && decide (((scan (g ++ [32, 49])).1[0]?.map fun x => x.text.data.toList) = some g) && decide (g.length ≤ 10)
theorem sg_all : signs.all sgOk = true := by kernel_rfl
def kwOk (g : List UInt8) : Bool := decide (kind g = (3, 0)) && decide (kind (g ++ [49]) = (1, 0)) && decide (g.length ≤ 10)
theorem kw_all : kwords.all kwOk = true := by kernel_rfl
theorem sg_at (i : Nat) (h : i < signs.length) : kind signs[i] = (4, 0) ∧ (∃ x y p, scan (signs[i] ++ [32, 49]) = ([x, y], p, 0) ∧ x.text = str signs[i]) ∧ signs[i].length ≤ 10 := by
  have := List.all_eq_true.1 sg_all signs[i] (List.getElem_mem h)
  unfold sgOk at this
  simp only [Bool.and_eq_true, decide_eq_true_eq] at this
  obtain ⟨⟨⟨⟨h1, h2⟩, h3⟩, h4⟩, h5⟩ := this
  refine ⟨h1, ?_, h5⟩
  generalize signs[i] = g at h1 h2 h3 h4 h5 ⊢
  obtain ⟨l, p, e, hs⟩ : ∃ l p e, scan (g ++ [32, 49]) = (l, p, e) := ⟨_, _, _, rfl⟩
  rw [hs] at h2 h3 h4
  dsimp only at h2 h3 h4
  subst h2
  match l, h3, h4, hs with
  | [x, y], _, h4, hs =>
    refine ⟨x, y, p, hs, ?_⟩
    have h6 : x.text.data.toList = g := by simpa using h4
    rw [← h6, list_str]
theorem kw_at (i : Nat) (h : i < kwords.length) : kind kwords[i] = (3, 0) ∧ kind (kwords[i] ++ [49]) = (1, 0) ∧ kwords[i].length ≤ 10 := by
  have := List.all_eq_true.1 kw_all kwords[i] (List.getElem_mem h)
  unfold kwOk at this
  simp only [Bool.and_eq_true, decide_eq_true_eq] at this
  exact ⟨this.1.1, this.1.2, this.2⟩
theorem app_list (g : List UInt8) (d : Array UInt8) : (str g ++ ⟨d⟩).data.toList = g ++ d.toList := by
  rw [ByteArray.data_append, Array.toList_append]; rfl
theorem app_size (g : List UInt8) (d : Array UInt8) : (str g ++ ⟨d⟩).size = g.length + d.size := by rw [ByteArray.size_append, str_size]; rfl
theorem kx1 : kind [49, 48, 48, 48, 48, 48, 48, 48, 48, 49] = (0, 4) := by kernel_rfl
theorem kx2 : kind [48, 48] = (0, 4) := by kernel_rfl
theorem kx3 : kind [97, 98, 99, 100, 101, 102, 103, 104, 105, 106, 107, 108, 109] = (0, 4) := by kernel_rfl
theorem kx4 : kind [97, 98, 99, 100, 101, 102, 103, 104, 105, 106, 107, 108] = (1, 0) := by kernel_rfl
theorem kx5 : kind [49, 48, 48, 48, 48, 48, 48, 48, 48, 48] = (2, 0) := by kernel_rfl
theorem kx6 : kind [95] = (0, 4) := by kernel_rfl
end M

theorem scan_sg (g : List UInt8) (d : Array UInt8) (r : List M.Lx × Nat × Nat) (hd : d.toList = [32, 49]) (h : M.scan (g ++ [32, 49]) = r) (w : World) (hw : Ready w) (hg : g.length ≤ 10) : Calls Tryd.prog 34 #[.string (M.str g ++ ⟨d⟩)] w (TokPost r w) := by
  have hl : d.size = 2 := by rw [← Array.length_toList, hd]; rfl
  have := scan_any (M.str g ++ ⟨d⟩) w hw (by rw [M.app_size, hl]; unfold maxLen; omega)
  rw [M.app_list, hd, h] at this
  exact this
theorem kind_kw (g : List UInt8) (d : Array UInt8) (r : Int × Nat) (hd : d.toList = [49]) (h : M.kind (g ++ [49]) = r) (w : World) (hw : Ready w) (hg : g.length ≤ 10) : Calls Tryd.prog 40 #[.string (M.str g ++ ⟨d⟩)] w fun e w' => e = .returned (.tuple #[.int .u8 r.1, .int .i64 r.2]) ∧ Below w.heap.size w w' := by
  have hl : d.size = 1 := by rw [← Array.length_toList, hd]; rfl
  have := kindF_any (M.str g ++ ⟨d⟩) w hw (by rw [M.app_size, hl]; omega)
  rw [M.app_list, hd, h] at this
  exact this
theorem kind_c (d : Array UInt8) (l : List UInt8) (r : Int × Nat) (hd : d.toList = l) (hl : l.length ≤ 100) (h : M.kind l = r) (w : World) (hw : Ready w) : Calls Tryd.prog 40 #[.string ⟨d⟩] w fun e w' => e = .returned (.tuple #[.int .u8 r.1, .int .i64 r.2]) ∧ Below w.heap.size w w' := by
  have := kindF_any ⟨d⟩ w hw (by show d.size ≤ _; rw [← Array.length_toList, hd]; omega)
  rw [show (ByteArray.mk d).data.toList = l from hd, h] at this
  exact this

set_option maxHeartbeats 1000000 in
set_option maxRecDepth 100000 in
theorem lexSigns_any (w : World) (hw : Ready w) : Calls Tryd.prog 14 #[] w fun e w' => e = .returned (.bool true) ∧ Below w.heap.size w w' := by
  have HW := Lib.hid hw
  clear hw
  go_enter Tryd.func14, Tryd.ntmps14
  go_wp2_with fail
  refine (signs_any _).mono ?_
  rintro e w1 ⟨rfl, hs1, hB1⟩
  have hz1 := hs1.1
  have HS1 := Lib.hid hs1
  clear hs1
  go_wp2_with fail
  refine (keywords_any _).mono ?_
  rintro e w2 ⟨rfl, hs2, hB2⟩
  have HS2 := Lib.hid (HS1.out.below hB2)
  have HK2 := Lib.hid hs2
  have hBw2 := below2 hB1 hB2
  clear hs2 hB1 hB2
  go_wp2_with fail
  go_loopw [3, 4, 5, 6, 7, 8] (fun i _ _ _ _ _ wr => ∃ k : Nat, k ≤ 22 ∧ i = .int .i64 k ∧ Hid (StrsAt wr w.heap.size M.signs) ∧ Hid (StrsAt wr w1.heap.size M.kwords) ∧ Below w.heap.size w wr) (fun i _ _ _ _ _ _ => 22 - (intOf i).toNat)
  case atStart => exact ⟨0, by omega, rfl, HS2, HK2, hBw2⟩
  case round =>
    rename_i wr
    obtain ⟨k, hk, rfl, HS, HK, hB⟩ := hrel
    clear HS1 HS2 HK2 hBw2
    by_cases hlt : k < 22
    · have hlt' : k < M.signs.length := hlt
      obtain ⟨F1, ⟨x0, y0, p0, hsc, hx0⟩, F5⟩ := M.sg_at k hlt'
      have c0 := HS.out.2 k hlt'
      generalize M.signs[k] = g at F1 hsc hx0 F5 c0
      have hb0 := HS.out.1
      have q1 : (k : Int) < 22 := by omega
      have q2 : (0 : Int) ≤ (k : Int) := by omega
      have HSC := Lib.hid hsc
      have HX0 := Lib.hid hx0
      clear hsc hx0
      go_wp2_with fail
      refine (kindF_any (M.str g) wr (HW.out.below hB) (by rw [M.str_size]; omega)).mono ?_
      rintro e w3 ⟨rfl, hB3⟩
      rw [M.str_list, F1]
      replace c0 := cell_below c0 hB3
      replace hb0 := Nat.lt_of_lt_of_le hb0 hB3.size
      dsimp only
      have hcat : ¬ 9223372036854775807 < (M.str g).size + 2 := by rw [M.str_size]; omega
      go_wp2_with fail
      refine (scan_sg g _ _ ?_ HSC.out w3 (HW.out.below (below2 hB hB3)) F5).mono ?_
      · rfl
      rintro e w4 ⟨a4, k4, rfl, hk4, _, hs4, hB4⟩
      dsimp only at hk4 hs4 ⊢
      obtain ⟨b4, o4, rfl, ha4⟩ := hs4.at (k := 0) (by simp)
      have c1 : w4.cell? ⟨b4, o4 + 1, none⟩ = some (.string (M.str g)) := by have := ha4.c1 0 (by simp); rw [← HX0.out]; simpa using this
      have hb4 := ha4.lt
      simp only [List.length_cons, List.length_nil, Nat.zero_add, Nat.reduceAdd] at hk4 ⊢
      replace c0 := cell_below c0 hB4
      replace hb0 := Nat.lt_of_lt_of_le hb0 hB4.size
      clear ha4 hs4 hcat
      go_wp2_with fail
      go_quiet (fail)
      go_wp2_with fail
      have hB5 := below2 hB3 hB4
      exact ⟨⟨k + 1, by omega, by simp, Lib.hid (HS.out.below (belowN hB5 _)), Lib.hid (HK.out.below (belowN hB5 _)), belowN (below2 hB hB5) _⟩, by simp [intOf]; omega⟩
    · have hk22 : k = 22 := by omega
      subst hk22
      clear hlt HS
      go_wp2_with fail
      go_loopw [9, 10, 11, 12, 13] (fun i _ _ _ _ wr => ∃ k : Nat, k ≤ 28 ∧ i = .int .i64 k ∧ Hid (StrsAt wr w1.heap.size M.kwords) ∧ Below w.heap.size w wr) (fun i _ _ _ _ _ => 28 - (intOf i).toNat)
      case atStart => exact ⟨0, by omega, rfl, HK, hB⟩
      case round =>
        clear hB HK
        rename_i wr
        obtain ⟨k, hk, rfl, HK, hB⟩ := hrel
        by_cases hlt : k < 28
        · have hlt' : k < M.kwords.length := hlt
          obtain ⟨F1, F2, F3⟩ := M.kw_at k hlt'
          have c0 := HK.out.2 k hlt'
          generalize M.kwords[k] = g at F1 F2 F3 c0
          have hb0 := HK.out.1
          have q1 : (k : Int) < 28 := by omega
          have q2 : (0 : Int) ≤ (k : Int) := by omega
          go_wp2_with fail
          refine (kindF_any (M.str g) wr (HW.out.below hB) (by rw [M.str_size]; omega)).mono ?_
          rintro e w3 ⟨rfl, hB3⟩
          rw [M.str_list, F1]
          replace c0 := cell_below c0 hB3
          replace hb0 := Nat.lt_of_lt_of_le hb0 hB3.size
          dsimp only
          have hcat : ¬ 9223372036854775807 < (M.str g).size + 1 := by rw [M.str_size]; omega
          go_wp2_with fail
          refine (kind_kw g _ _ ?_ F2 w3 (HW.out.below (below2 hB hB3)) F3).mono ?_
          · rfl
          rintro e w4 ⟨rfl, hB4⟩
          dsimp only
          go_wp2_with fail
          have hB5 := below2 hB3 hB4
          exact ⟨⟨k + 1, by omega, by simp, Lib.hid (HK.out.below hB5), below2 hB hB5⟩, by simp [intOf]; omega⟩
        · have hk28 : k = 28 := by omega
          subst hk28
          clear hlt HK
          go_wp2_with fail
          refine (kind_c _ _ _ ?_ ?_ M.kx1 _ (HW.out.below hB)).mono ?_
          · rfl
          · decide
          rintro e v1 ⟨rfl, hC⟩
          replace hB := below2 hB hC
          clear hC
          dsimp only
          go_wp2_with fail
          refine (kind_c _ _ _ ?_ ?_ M.kx2 _ (HW.out.below hB)).mono ?_
          · rfl
          · decide
          rintro e v2 ⟨rfl, hC⟩
          replace hB := below2 hB hC
          clear hC
          dsimp only
          go_wp2_with fail
          refine (kind_c _ _ _ ?_ ?_ M.kx3 _ (HW.out.below hB)).mono ?_
          · rfl
          · decide
          rintro e v3 ⟨rfl, hC⟩
          replace hB := below2 hB hC
          clear hC
          dsimp only
          go_wp2_with fail
          refine (kind_c _ _ _ ?_ ?_ M.kx4 _ (HW.out.below hB)).mono ?_
          · rfl
          · decide
          rintro e v4 ⟨rfl, hC⟩
          replace hB := below2 hB hC
          clear hC
          dsimp only
          go_wp2_with fail
          refine (kind_c _ _ _ ?_ ?_ M.kx5 _ (HW.out.below hB)).mono ?_
          · rfl
          · decide
          rintro e v5 ⟨rfl, hC⟩
          replace hB := below2 hB hC
          clear hC
          dsimp only
          go_wp2_with fail
          refine (kind_c _ _ _ ?_ ?_ M.kx6 _ (HW.out.below hB)).mono ?_
          · rfl
          · decide
          rintro e v6 ⟨rfl, hC⟩
          replace hB := below2 hB hC
          clear hC
          dsimp only
          go_wp2_with fail
          refine (awake_any _ (HW.out.below hB)).mono ?_
          rintro e v7 ⟨rfl, hC⟩
          replace hB := below2 hB hC
          clear hC
          go_wp2_with fail
          go_ret
          exact ⟨rfl, hB⟩

end Go.Proofs.YtglpbhfcjaonlaaDoor
