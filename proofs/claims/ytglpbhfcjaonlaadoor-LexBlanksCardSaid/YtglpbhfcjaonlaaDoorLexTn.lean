/- DERIVED. Contract of layer 1: Blank; the walk of the statement on blanked comments. -/
import Derived.Test.YtglpbhfcjaonlaaDoorLexTn0
namespace Go.Proofs.YtglpbhfcjaonlaaDoor
open Go.RowKit Go.WideMaps Go.Maps Go.Shelf

set_option maxHeartbeats 1000000 in
set_option maxRecDepth 100000 in
theorem blank_no (s : ByteArray) (w : World) (hs : s.size ≤ maxLen) (h : (M.fault s.data.toList).2 ≠ 0) :
    Calls Tryd.prog 22 #[.string s] w fun e w' => e = .returned (.tuple #[.string ⟨#[]⟩, .int .i64 (M.fault s.data.toList).1, .int .i64 (M.fault s.data.toList).2]) ∧ Below w.heap.size w w' := by
  obtain ⟨p, c, hf⟩ : ∃ p c, M.fault s.data.toList = (p, c) := ⟨_, _, rfl⟩
  rw [hf] at h
  dsimp only at h
  have h3 : ((c : Int) == 0) = false := by rw [beq_eq_false_iff_ne]; omega
  have h4 : ((c : Int) != 0) = true := by rw [bne_iff_ne]; omega
  have HF := Lib.hid hf
  clear hf
  go_enter Tryd.func22, Tryd.ntmps22
  go_wp2_with fail
  refine (fault_any s _ hs).mono ?_
  rintro e w1 ⟨rfl, hB1⟩
  rw [HF.out]
  dsimp only
  go_wp2_with fail
  refine bodyPost_ret (v := .tuple #[.string ⟨#[]⟩, .int .i64 p, .int .i64 c]) (by simp [results, Tryd.results22, go_sem]) rfl ⟨?_, hB1⟩
  rw [HF.out]

set_option maxHeartbeats 1000000 in
set_option maxRecDepth 100000 in
theorem blank_yes (s : ByteArray) (w : World) (h : (M.fault s.data.toList).2 = 0) :
    Calls Tryd.prog 22 #[.string s] w fun e w' => e = .returned (.tuple #[.string (M.str (M.blank s.data.toList)), .int .i64 0, .int .i64 0]) ∧ Below w.heap.size w w' := by
  have hsm : s.size ≤ 2500 := by rw [← M.size_list]; exact M.fault_small s.data.toList h
  obtain ⟨p, c, hf⟩ : ∃ p c, M.fault s.data.toList = (p, c) := ⟨_, _, rfl⟩
  rw [hf] at h
  dsimp only at h
  subst h
  have HF := Lib.hid hf
  clear hf
  obtain ⟨t, ht⟩ : ∃ t, M.str (M.blank s.data.toList) = t := ⟨_, rfl⟩
  have HT := Lib.hid ht
  rw [ht]
  clear ht
  go_enter Tryd.func22, Tryd.ntmps22
  go_wp2_with fail
  refine (fault_any s _ (by unfold maxLen; omega)).mono ?_
  rintro e w1 ⟨rfl, hB1⟩
  rw [HF.out]
  dsimp only
  go_wp2_with fail
  refine (blanked_any s _ (by omega)).mono ?_
  rintro e w2 ⟨rfl, hB2⟩
  rw [HT.out]
  go_wp2_with fail
  refine bodyPost_ret (v := .tuple #[.string t, .int .i64 0, .int .i64 0]) (by simp [results, Tryd.results22, go_sem]) rfl ⟨rfl, below2 hB1 hB2⟩

set_option maxHeartbeats 1000000 in
set_option maxRecDepth 100000 in
theorem lexBlanks_no (s : ByteArray) (w : World) (hw : Ready w) (hs : s.size ≤ maxLen) (h : (M.fault s.data.toList).2 ≠ 0) :
    Calls Tryd.prog 9 #[.string s] w fun e w' => e = .returned (.bool true) ∧ Below w.heap.size w w' := by
  have HB := Lib.hid fun W => blank_no s W hs h
  obtain ⟨p, c, hf⟩ : ∃ p c, M.fault s.data.toList = (p, c) := ⟨_, _, rfl⟩
  rw [hf] at h
  dsimp only at h
  have h3 : ((c : Int) == 0) = false := by rw [beq_eq_false_iff_ne]; omega
  have h4 : ((c : Int) != 0) = true := by rw [bne_iff_ne]; omega
  have HF := Lib.hid hf
  have HW := Lib.hid hw
  clear hf hw
  go_enter Tryd.func9, Tryd.ntmps9
  go_wp2_with fail
  refine (HB.out _).mono ?_
  rintro e w1 ⟨rfl, hB1⟩
  rw [HF.out]
  dsimp only
  go_wp2_with fail
  refine (awake_any _ (HW.out.below hB1)).mono ?_
  rintro e w8 ⟨rfl, hB2⟩
  go_wp2_with fail
  go_ret
  exact ⟨rfl, below2 hB1 hB2⟩

set_option maxHeartbeats 2000000 in
set_option maxRecDepth 100000 in
theorem lexBlanks_yes (s : ByteArray) (w : World) (hw : Ready w) (h : (M.fault s.data.toList).2 = 0) :
    Calls Tryd.prog 9 #[.string s] w fun e w' => e = .returned (.bool true) ∧ Below w.heap.size w w' := by
  have hsm : s.size ≤ 2500 := by rw [← M.size_list]; exact M.fault_small s.data.toList h
  have HB := Lib.hid fun W => blank_yes s W h
  obtain ⟨t, ht⟩ : ∃ t, M.str (M.blank s.data.toList) = t := ⟨_, rfl⟩
  have htl : t.data.toList = M.blank s.data.toList := by rw [← ht]; rfl
  have hts : t.size = s.size := by rw [← M.size_list, htl, M.blank_len, M.size_list]
  have hsc : M.scan t.data.toList = M.scan s.data.toList := by
    rw [htl]
    unfold M.scan
    rw [M.fault_blank _ h, if_pos rfl, if_pos h, M.blank_blank]
  have hat : ∀ i, (h1 : i < s.size) → (h2 : i < t.size) → (t[i] = s[i] ∧ s[i] ≠ 37) ∨ (t[i] = 32 ∧ s[i] ≠ 10 ∧ t[i] ≠ s[i]) := by
    intro i h1 h2
    have k1 : i < (M.blank s.data.toList).length := by rw [M.blank_len, M.size_list]; exact h1
    have e1 : t[i] = (M.blank s.data.toList)[i]'k1 := by
      have : t.data.toList[i]'(by rw [M.size_list]; exact h2) = (M.blank s.data.toList)[i]'k1 := by simp only [htl]
      exact this
    rcases M.blank_at s.data.toList i k1 (by rw [M.size_list]; exact h1) with ⟨q1, q2⟩ | ⟨q1, q2⟩
    · have q3 : s[i] ≠ 10 := q2
      by_cases hc : t[i] = s[i]
      · refine Or.inl ⟨hc, ?_⟩
        rw [← hc, e1, q1]; decide
      · exact Or.inr ⟨e1.trans q1, q3, hc⟩
    · exact Or.inl ⟨e1.trans q1, q2⟩
  obtain ⟨l, p, c, hr⟩ : ∃ l p c, M.scan s.data.toList = (l, p, c) := ⟨_, _, _, rfl⟩
  have hll : l.length ≤ 900 := by have := (M.scan_fine s.data.toList).2.1; rw [hr] at this; exact this
  rw [hr] at hsc
  have hsame := (M.sameLx_iff l l).2 rfl
  have d1 : ((s.size : Int) == (t.size : Int)) = true := by rw [hts]; exact beq_self_eq_true _
  have d2 : ((s.size : Int) != (t.size : Int)) = false := by rw [hts]; exact bne_self_eq_false _
  have d3 : decide (s.size ≤ 3000) = true := decide_eq_true (by omega)
  have HT := Lib.hid ht
  have HTS := Lib.hid hts
  have HR := Lib.hid hr
  have HSC := Lib.hid hsc
  have HAT := Lib.hid hat
  have HSAME := Lib.hid hsame
  have HW := Lib.hid hw
  have htm : t.size ≤ 2500 := by omega
  clear ht htl hts hr hsc hat hsame hw h
  go_enter Tryd.func9, Tryd.ntmps9
  go_wp2_with fail
  refine (HB.out _).mono ?_
  rintro e w1 ⟨rfl, hBw⟩
  rw [HT.out]
  go_wp2_with fail
  refine (short_any s _).mono ?_
  rintro e w2 ⟨rfl, hB2⟩
  rw [d3]
  replace hBw := below2 hBw hB2
  clear hB2
  go_wp2_with fail
  refine (scan_any s _ (HW.out.below hBw) (by unfold maxLen; omega)).mono ?_
  rintro e w3 ⟨a1, k1, rfl, _, _, hs1, hB2⟩
  rw [HR.out] at hs1 ⊢
  dsimp only at hs1 ⊢
  replace hBw := below2 hBw hB2
  have HL1 := Lib.hid hs1
  clear hB2 hs1
  go_wp2_with fail
  refine (scan_any t _ (HW.out.below hBw) (by unfold maxLen; omega)).mono ?_
  rintro e w4 ⟨a2, k2, rfl, _, _, hs2, hB2⟩
  rw [HSC.out] at hs2 ⊢
  dsimp only at hs2 ⊢
  replace hBw := below2 hBw hB2
  have HL2 := Lib.hid (HL1.out.below hB2)
  have HM2 := Lib.hid hs2
  clear hB2 hs2
  go_wp2_with fail
  refine (sameTokens_any a1 a2 k1 k2 l l _ (by omega) (by omega) HL2.out HM2.out).mono ?_
  rintro e w5 ⟨rfl, hB2⟩
  rw [HSAME.out]
  replace hBw := below2 hBw hB2
  clear hB2
  go_wp2_with fail
  go_loopw [12] (fun i wr => ∃ k : Nat, k ≤ s.size ∧ i = .int .i64 k ∧ Below w5.heap.size w5 wr) (fun i _ => s.size - (intOf i).toNat)
  case atStart => exact ⟨0, by omega, rfl, Below.refl _ _⟩
  case round =>
    rename_i wr
    obtain ⟨i, hi, rfl, hB⟩ := hrel
    by_cases hlt : i < s.size
    · have hlt2 : i < t.size := by rw [HTS.out]; exact hlt
      obtain ⟨c, hc⟩ : ∃ c, s[i]'hlt = c := ⟨_, rfl⟩
      obtain ⟨d, hd⟩ : ∃ d, t[i]'hlt2 = d := ⟨_, rfl⟩
      have hA := HAT.out i hlt hlt2
      rw [hc, hd] at hA
      rcases hA with ⟨rfl, h37⟩ | ⟨h32, h10, hne⟩
      · have n37 : d.toNat ≠ 37 := fun q => h37 (UInt8.toNat_inj.1 q)
        have e2 : (((d.toNat : Nat) : Int) == 37) = false := by rw [beq_eq_false_iff_ne]; omega
        by_cases g10 : d.toNat = 10
        · have e1 : (((d.toNat : Nat) : Int) == 10) = true := by rw [g10]; rfl
          go_wp2_with fail
          go_quiet (fail)
          go_wp2_with fail
          exact ⟨⟨i + 1, by omega, by simp, belowN hB _⟩, by simp [intOf]; omega⟩
        · have e1 : (((d.toNat : Nat) : Int) == 10) = false := by rw [beq_eq_false_iff_ne]; omega
          go_wp2_with fail
          go_quiet (fail)
          go_wp2_with fail
          exact ⟨⟨i + 1, by omega, by simp, belowN hB _⟩, by simp [intOf]; omega⟩
      · have n32 : d.toNat = 32 := by rw [h32]; rfl
        have n10 : c.toNat ≠ 10 := fun q => h10 (UInt8.toNat_inj.1 q)
        have nne : d.toNat ≠ c.toNat := fun q => hne (UInt8.toNat_inj.1 q)
        clear h32
        have e1 : (((c.toNat : Nat) : Int) == 10) = false := by rw [beq_eq_false_iff_ne]; omega
        have e2 : (((d.toNat : Nat) : Int) == 10) = false := by rw [beq_eq_false_iff_ne]; omega
        have e3 : (((d.toNat : Nat) : Int) == 37) = false := by rw [beq_eq_false_iff_ne]; omega
        have e4 : (((d.toNat : Nat) : Int) == ((c.toNat : Nat) : Int)) = false := by rw [beq_eq_false_iff_ne]; omega
        have e5 : (((d.toNat : Nat) : Int) != ((c.toNat : Nat) : Int)) = true := by rw [bne_iff_ne]; omega
        have e6 : (((d.toNat : Nat) : Int) == 32) = true := by rw [n32]; rfl
        have e7 : (((d.toNat : Nat) : Int) != 32) = false := by rw [n32]; rfl
        clear n32
        go_wp2_with fail
        go_quiet (fail)
        go_wp2_with fail
        exact ⟨⟨i + 1, by omega, by simp, belowN hB _⟩, by simp [intOf]; omega⟩
    · have hnl : ¬ (i : Int) < (s.size : Int) := by omega
      go_wp2_with fail
      refine (awake_any _ (HW.out.below (below2 hBw hB))).mono ?_
      rintro e w8 ⟨rfl, hB2⟩
      go_wp2_with fail
      go_ret
      exact ⟨rfl, below2 (below2 hBw hB) hB2⟩

theorem lexBlanks_any (s : ByteArray) (w : World) (hw : Ready w) (hs : s.size ≤ maxLen) :
    Calls Tryd.prog 9 #[.string s] w fun e w' => e = .returned (.bool true) ∧ Below w.heap.size w w' := by
  by_cases h : (M.fault s.data.toList).2 = 0
  · exact lexBlanks_yes s w hw h
  · exact lexBlanks_no s w hw hs h

end Go.Proofs.YtglpbhfcjaonlaaDoor
