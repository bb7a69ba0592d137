/- DERIVED. The walk of the statement on bare texts. -/
import Derived.Test.YtcaanpifkcaldaaDoorLexBi
import Derived.IntWalk
namespace Go.Proofs.YtcaanpifkcaldaaDoor
open Go.RowKit Go.WideMaps Go.Maps Go.Shelf

theorem erase_str (T : ByteArray) (i : Nat) : (T.extract 0 i ++ T.extract (i + 1) T.size).data.toList = T.data.toList.eraseIdx i := by
  rw [ByteArray.data_append, Array.toList_append, sub_list, sub_list, List.eraseIdx_eq_take_drop_succ, List.drop_zero, List.take_of_length_le (i := T.size) (by rw [M.size_list]; exact Nat.le_refl _)]

set_option maxHeartbeats 1000000 in
set_option maxRecDepth 100000 in
theorem lexAgain_no (s : ByteArray) (w : World) (hw : Ready w) (hs : s.size ≤ maxLen) (h : (M.scan s.data.toList).2.2 ≠ 0 ∨ 300 < s.size) :
    Calls Tryd.prog 5 #[.string s] w fun e w' => e = .returned (.bool true) ∧ Below w.heap.size w w' := by
  have HW := Lib.hid hw
  obtain ⟨l, p, c, hr⟩ : ∃ l p c, M.scan s.data.toList = (l, p, c) := ⟨_, _, _, rfl⟩
  rw [hr] at h
  dsimp only at h
  have HR := Lib.hid hr
  clear hr hw
  by_cases hc : c = 0
  · subst hc
    have h300 : 300 < s.size := by omega
    clear h
    go_enter Tryd.func5, Tryd.ntmps5
    go_wp2_with fail
    refine (scan_any s _ HW.out hs).mono ?_
    rintro e w1 ⟨a1, k1, rfl, _, _, _, hB1⟩
    rw [HR.out]
    dsimp only
    go_wp2_with fail
    refine (awake_any _ (HW.out.below hB1)).mono ?_
    rintro e w8 ⟨rfl, hB2⟩
    go_wp2_with fail
    go_ret
    exact ⟨rfl, below2 hB1 hB2⟩
  · have h3 : ((c : Int) == 0) = false := by rw [beq_eq_false_iff_ne]; omega
    have h4 : ((c : Int) != 0) = true := by rw [bne_iff_ne]; omega
    clear h
    go_enter Tryd.func5, Tryd.ntmps5
    go_wp2_with fail
    refine (scan_any s _ HW.out hs).mono ?_
    rintro e w1 ⟨a1, k1, rfl, _, _, _, hB1⟩
    rw [HR.out]
    dsimp only
    go_wp2_with fail
    refine (awake_any _ (HW.out.below hB1)).mono ?_
    rintro e w8 ⟨rfl, hB2⟩
    go_wp2_with fail
    go_ret
    exact ⟨rfl, below2 hB1 hB2⟩

set_option maxHeartbeats 2000000 in
set_option maxRecDepth 100000 in
theorem lexAgain_yes (s : ByteArray) (w : World) (hw : Ready w) (h : (M.scan s.data.toList).2.2 = 0) (h300 : s.size ≤ 300) :
    Calls Tryd.prog 5 #[.string s] w fun e w' => e = .returned (.bool true) ∧ Below w.heap.size w w' := by
  have HW := Lib.hid hw
  obtain ⟨l, p, c, hr⟩ : ∃ l p c, M.scan s.data.toList = (l, p, c) := ⟨_, _, _, rfl⟩
  rw [hr] at h
  dsimp only at h
  subst h
  obtain ⟨hjoin, hble, hll, h25, hsc2, hall⟩ := M.again_ok s.data.toList l p hr
  have hcut := M.again_cut l hall
  have hfine := (M.scan_fine s.data.toList).1
  rw [hr] at hfine
  dsimp only at hfine
  rw [M.size_list] at hble hll h25
  obtain ⟨T, hT⟩ : ∃ T, M.str (M.bareR none l) = T := ⟨_, rfl⟩
  have hTl : M.bareR none l = T.data.toList := by rw [← hT, M.str_list]
  have hTz : T.size ≤ s.size := by rw [← hT, M.str_size]; exact hble
  rw [hT] at hjoin
  rw [hTl] at hsc2 hcut
  obtain ⟨m, hm⟩ : ∃ m, M.placed 0 none l = m := ⟨_, rfl⟩
  have hal : M.alikeB l m = true := by rw [← hm]; exact decide_eq_true (M.placed_alike l 0 none).symm
  have hml : m.length = l.length := by
    have := congrArg List.length (M.placed_alike l 0 none)
    unfold M.alikeK at this
    rw [List.length_map, List.length_map, hm] at this
    exact this
  rw [hm] at hsc2
  have htx : ∀ x, x ∈ l → x.text.size ≤ 1000000 := fun x hx => by have := (hfine x hx).2.2.1; omega
  have HJ := Lib.hid hjoin
  have HSC2 := Lib.hid hsc2
  have HCUT := Lib.hid hcut
  have HAL := Lib.hid hal
  have HTX := Lib.hid htx
  have HR := Lib.hid hr
  have HML := Lib.hid hml
  have d1 : decide ((s.size : Int) < (l.length : Int)) = false := decide_eq_false (by omega)
  have d1' : decide (s.size < l.length) = false := decide_eq_false (by omega)
  have d2 : decide (s.size < T.size) = false := decide_eq_false (by omega)
  have hs : s.size ≤ maxLen := by unfold maxLen; omega
  have hTm : T.size ≤ maxLen := by unfold maxLen; omega
  clear hr hw hjoin hble hsc2 hall hcut hfine hT hTl hm hal htx hml
  go_enter Tryd.func5, Tryd.ntmps5
  go_wp2_with fail
  refine (scan_any s _ HW.out hs).mono ?_
  rintro e w1 ⟨a1, k1, rfl, _, hn1, hs1, hB1⟩
  rw [HR.out] at hs1 ⊢
  dsimp only at hs1 ⊢
  have HL1 := Lib.hid hs1
  clear hs1
  go_wp2_with (at_builtin; refine app_lx rfl _ _ rfl w1.heap.size (.slice none 0 0) [] rfl (own_nil w1) a1 k1 l l.length rfl rfl hn1 HL1.out ?c1 (Nat.le_refl _) ?_)
  case c1 => simp; omega
  intro v2 w2 hown hgrow
  obtain ⟨a2, k2, rfl, _, _, hl2⟩ := own_lx hown
  have hB2 : Below w1.heap.size w1 w2 := (Below.refl _ _).grown hgrow (Nat.le_refl _) (fun j hj => by cases hj)
  have HL2 := Lib.hid hl2
  replace HL1 := Lib.hid (HL1.out.below hB2)
  replace hB1 := below2 hB1 hB2
  clear hown hgrow hB2 hl2
  go_wp2_with fail
  refine (join_any a2 k2 l _ (HW.out.below hB1) HL2.out HTX.out).mono ?_
  rintro e w3 ⟨rfl, hB2⟩
  rw [HJ.out]
  dsimp only
  replace HL1 := Lib.hid (HL1.out.below hB2)
  replace hB1 := below2 hB1 hB2
  clear hB2
  go_wp2_with fail
  refine (scan_any T _ (HW.out.below hB1) hTm).mono ?_
  rintro e w4 ⟨a4, k4, rfl, _, _, hs4, hB2⟩
  rw [HSC2.out] at hs4 ⊢
  dsimp only at hs4 ⊢
  replace HL1 := Lib.hid (HL1.out.below hB2)
  replace hB1 := below2 hB1 hB2
  have HL4 := Lib.hid hs4
  clear hB2 hs4
  go_wp2_with fail
  refine (alike_lx a1 a4 k1 k4 l m _ (by omega) HL1.out HL4.out).mono ?_
  rintro e w5 ⟨rfl, hB2⟩
  rw [HAL.out]
  replace HL1 := Lib.hid (HL1.out.below hB2)
  replace hB1 := below2 hB1 hB2
  clear hB2
  go_wp2_with fail
  go_loopw [11] (fun i wr => ∃ k : Nat, k ≤ T.size ∧ i = .int .i64 k ∧ Below w5.heap.size w5 wr) (fun i _ => T.size - (intOf i).toNat)
  case atStart => exact ⟨0, by omega, rfl, Below.refl _ _⟩
  case round =>
    rename_i wr
    obtain ⟨i, hi, rfl, hB⟩ := hrel
    by_cases hlt : i < T.size
    · by_cases h32 : T[i] = 32
      · have e1 : ((T[i].toNat : Int) == 32) = true := by rw [h32]; rfl
        have e2 : ((T[i].toNat : Int) != 32) = false := by rw [h32]; rfl
        have h32' : T.data.toList[i]? = some 32 := by
          have hil : i < T.data.toList.length := by rw [M.size_list]; exact hlt
          rw [List.getElem?_eq_getElem hil, ← h32]; rfl
        have hcut := HCUT.out i h32'
        obtain ⟨U, hU⟩ : ∃ U, T.extract 0 i ++ T.extract (i + 1) T.size = U := ⟨_, rfl⟩
        have hUl := erase_str T i
        rw [hU] at hUl
        rw [← hUl] at hcut
        have hUz : U.size ≤ 2500 := by
          rw [← hU, ByteArray.size_append, ByteArray.size_extract, ByteArray.size_extract]; omega
        obtain ⟨n, q, d, hn⟩ : ∃ n q d, M.scan U.data.toList = (n, q, d) := ⟨_, _, _, rfl⟩
        have hnl : n.length ≤ 900 := by have := (M.scan_fine U.data.toList).2.1; rw [hn] at this; exact this
        have hcut2 : d = 0 → M.alikeB l n = false := by
          intro hd
          subst hd
          exact decide_eq_false fun e => hcut n q hn e.symm
        have HC2 := Lib.hid hcut2
        have HN := Lib.hid hn
        have HU := Lib.hid hU
        have HLr := Lib.hid (HL1.out.below hB)
        have HWr := Lib.hid (HW.out.below (below2 hB1 hB))
        have hUm : U.size ≤ maxLen := by unfold maxLen; omega
        have hw1 : IntKind.i64.wrap ((i : Int) + 1) = (i : Int) + 1 := IntWalk.i64_in _ (by omega)
        have hw2 : ((i : Int) + 1).toNat = i + 1 := by omega
        have hw3 : (0 : Int) ≤ (i : Int) + 1 := by omega
        have hw5 : (i : Int) + 1 ≤ (T.size : Int) := by omega
        have hw6 : i + 1 ≤ T.size := by omega
        have hw4 : ¬ 9223372036854775807 < (T.extract 0 i).size + (T.extract (i + 1) T.size).size := by rw [ByteArray.size_extract, ByteArray.size_extract]; omega
        have hadd : ∀ W, (Op.stringOp .add (T.extract 0 i) (T.extract (i + 1) T.size)).run Tryd.prog W = .ok (.string (T.extract 0 i ++ T.extract (i + 1) T.size)) W :=
          fun W => run_string_add_sum W _ _ (by rw [ByteArray.size_extract, ByteArray.size_extract]; omega)
        clear h32 h32' hcut hU hUl hn hcut2
        have HC : Hid (∀ W', Below wr.heap.size wr W' → Calls Tryd.prog 18 #[.string (T.extract 0 i ++ T.extract (i + 1) T.size)] W' (TokPost (n, q, d) W')) :=
          Lib.hid fun W' h => by have := scan_any U W' (HWr.out.below h) hUm; rw [HN.out] at this; rw [HU.out]; exact this
        go_wp2_with fail
        have hD : Below wr.heap.size wr wr.drew := (Below.refl _ _).drew
        go_region_held3 (fun W' => Below wr.heap.size wr W') (first | go_keep | exact hSS)
          (first | (go_at_call 18; refine (HC.out _ (by assumption)).mono ?_; rintro e w6 ⟨a6, k6, rfl, _, _, hs6, hB6⟩; have hSS := below2 ‹Below wr.heap.size wr _› hB6))
        have HL6 := Lib.hid (HLr.out.below hSS)
        have HM6 := Lib.hid hs6
        have hBall := below2 hB hSS
        clear hs6 hB6 hD HC hw1 hw2 hw4
        by_cases hd : d = 0
        · have ha := HC2.out hd
          have HA := Lib.hid ha
          subst hd
          clear ha
          go_wp2_with fail
          refine (alike_lx a1 a6 k1 k6 l n _ (by omega) HL6.out HM6.out).mono ?_
          rintro e w7 ⟨rfl, hB7⟩
          rw [HA.out]
          go_wp2_with fail
          exact ⟨⟨i + 1, by omega, by simp, below2 hBall hB7⟩, by simp [intOf]; omega⟩
        · have h3 : ((d : Int) == 0) = false := by rw [beq_eq_false_iff_ne]; omega
          have h4 : ((d : Int) != 0) = true := by rw [bne_iff_ne]; omega
          clear hd
          go_wp2_with fail
          exact ⟨⟨i + 1, by omega, by simp, hBall⟩, by simp [intOf]; omega⟩
      · have hne : ¬ T[i].toNat = 32 := fun q => h32 (UInt8.toNat_inj.1 (by rw [q]; rfl))
        have e1 : ((T[i].toNat : Int) == 32) = false := by rw [beq_eq_false_iff_ne]; omega
        have e2 : ((T[i].toNat : Int) != 32) = true := by rw [bne_iff_ne]; omega
        clear h32 hne
        go_wp2_with fail
        exact ⟨⟨i + 1, by omega, by simp, hB⟩, by simp [intOf]; omega⟩
    · have hnl : ¬ (i : Int) < (T.size : Int) := by omega
      go_wp2_with fail
      refine (awake_any _ (HW.out.below (below2 hB1 hB))).mono ?_
      rintro e w8 ⟨rfl, hB2⟩
      go_wp2_with fail
      go_ret
      exact ⟨rfl, below2 (below2 hB1 hB) hB2⟩

theorem lexAgain_any (s : ByteArray) (w : World) (hw : Ready w) (hs : s.size ≤ maxLen) :
    Calls Tryd.prog 5 #[.string s] w fun e w' => e = .returned (.bool true) ∧ Below w.heap.size w w' := by
  by_cases h : (M.scan s.data.toList).2.2 = 0
  · by_cases h3 : s.size ≤ 300
    · exact lexAgain_yes s w hw h h3
    · exact lexAgain_no s w hw hs (Or.inr (by omega))
  · exact lexAgain_no s w hw hs (Or.inl h)
end Go.Proofs.YtcaanpifkcaldaaDoor
