/- DERIVED. Contract of the document's own Kind; the walk of the statement on kinds. -/
import Derived.Test.YtcaanpifkcaldaaGreatDoorLexBf
namespace Go.Proofs.YtcaanpifkcaldaaGreatDoor
open Go.RowKit Go.WideMaps Go.Maps Go.Shelf

namespace M
theorem kindOf_eq (t : List UInt8) (h : t ≠ []) : kindOf t = if tokKind t 0 = 0 ∨ tokText t 0 ≠ t then 0 else (tokKind t 0 : Int) := by
  unfold kindOf token
  rw [if_neg h]
  by_cases hk : tokKind t 0 = 0
  · rw [if_pos hk, if_pos (Or.inl hk)]
  · rw [if_neg hk]
    dsimp only
    rw [str_list]
    by_cases ht : tokText t 0 = t
    · rw [if_pos ht, if_neg (by simp [hk, ht])]
    · rw [if_neg ht, if_pos (Or.inr ht)]
theorem kind_eq (t : List UInt8) (h : t ≠ []) : kind t = if tokKind t 0 = 0 ∨ tokText t 0 ≠ t then (0, 4) else ((tokKind t 0 : Int), 0) := by
  unfold kind
  rw [kindOf_eq t h]
  by_cases hc : tokKind t 0 = 0 ∨ tokText t 0 ≠ t
  · rw [if_pos hc, if_pos hc, if_pos rfl]
  · rw [if_neg hc, if_neg hc, if_neg (by omega)]
theorem kind_first (c : UInt8) (r : List UInt8) (h : c = 32 ∨ c = 10 ∨ c = 37) : tokKind (c :: r) 0 = 0 := by
  have g2 : (c :: r).getD 0 0 = c := rfl
  have hs : sign (c :: r) = [] := by
    rcases h with rfl | rfl | rfl <;> simp [sign, signs, List.isPrefixOf]
  have hc : cls c ≠ 1 ∧ cls c ≠ 2 := by rcases h with rfl | rfl | rfl <;> decide
  have ht : tokText (c :: r) 0 = [] := by
    unfold tokText
    rw [g2]
    split
    · rename_i e; exact absurd e hc.1
    · rename_i e; exact absurd e hc.2
    · exact hs
  unfold tokKind
  rw [g2, ht]
  split
  · rename_i e; exact absurd e hc.1
  · rename_i e; exact absurd e hc.2
  · rfl
end M

theorem rTok0_any (s : ByteArray) (w : World) (hs : s.size ≤ 281474976710656) (hk : 0 < s.size) :
    Calls Tryz.prog 32 #[.string s, .int .i64 0] w fun e w' => e = .returned (lxV (rTok s.data.toList 0)) ∧ Below w.heap.size w w' := rTok_any s 0 w hs hk
theorem refKind_first (s : ByteArray) (h : s.data.toList = [] ∨ ∃ h : 0 < s.size, s[0] = 32 ∨ s[0] = 10 ∨ s[0] = 37) : M.kind s.data.toList = (0, 4) := by
  rcases h with h | ⟨h0, h⟩
  · rw [h]; rfl
  · cases s with
    | mk d =>
      cases d with
      | mk l =>
        cases l with
        | nil => exact absurd h0 (Nat.lt_irrefl 0)
        | cons c r =>
          show M.kind (c :: r) = (0, 4)
          rw [M.kind_eq _ (by simp), if_pos (Or.inl (M.kind_first c r h))]

set_option maxHeartbeats 1000000 in
set_option maxRecDepth 100000 in
theorem refKind_any (s : ByteArray) (w : World) (hs : s.size ≤ 281474976710656) :
    Calls Tryz.prog 15 #[.string s] w fun e w' => e = .returned (.tuple #[.int .u8 (M.kind s.data.toList).1, .int .i64 (M.kind s.data.toList).2]) ∧ Below w.heap.size w w' := by
  by_cases h0 : s.size = 0
  · have hl : s.data.toList = [] := by rw [← List.length_eq_zero_iff, M.size_list]; exact h0
    have hk := refKind_first s (Or.inl hl)
    have n1 : s.toList = [] := by rw [ByteArray.toList_eq]; exact hl
    have HK := Lib.hid hk
    clear hk hl
    go_enter Tryz.func15, Tryz.ntmps15
    go_wp2_with fail
    refine bodyPost_ret (v := .tuple #[.int .u8 0, .int .i64 4]) (by simp [results, Tryz.results15, go_sem]) rfl ⟨by rw [HK.out]; rfl, Below.refl _ _⟩
  · have hp : 0 < s.size := by omega
    have hne : s.data.toList ≠ [] := by rw [← List.length_pos_iff, M.size_list]; exact hp
    have n1 : s.toList ≠ [] := by rw [ByteArray.toList_eq]; exact hne
    have n2 : s.toList.isEmpty = false := by rw [List.isEmpty_eq_false_iff]; exact n1
    obtain ⟨c, hc⟩ : ∃ c, s[0] = c := ⟨_, rfl⟩
    by_cases hf : c = 32 ∨ c = 10 ∨ c = 37
    · have hk := refKind_first s (Or.inr ⟨hp, by rw [hc]; exact hf⟩)
      have HK := Lib.hid hk
      have HC := Lib.hid hc
      clear hk hne hc
      rcases hf with hf | hf | hf
      · have e1 : (s[0].toNat : Int) = 32 := by rw [HC.out, hf]; rfl
        clear hf
        go_enter Tryz.func15, Tryz.ntmps15
        go_wp2_with fail
        refine bodyPost_ret (v := .tuple #[.int .u8 0, .int .i64 4]) (by simp [results, Tryz.results15, go_sem]) rfl ⟨by rw [HK.out]; rfl, Below.refl _ _⟩
      · have e1 : (s[0].toNat : Int) = 10 := by rw [HC.out, hf]; rfl
        clear hf
        go_enter Tryz.func15, Tryz.ntmps15
        go_wp2_with fail
        refine bodyPost_ret (v := .tuple #[.int .u8 0, .int .i64 4]) (by simp [results, Tryz.results15, go_sem]) rfl ⟨by rw [HK.out]; rfl, Below.refl _ _⟩
      · have e1 : (s[0].toNat : Int) = 37 := by rw [HC.out, hf]; rfl
        clear hf
        go_enter Tryz.func15, Tryz.ntmps15
        go_wp2_with fail
        refine bodyPost_ret (v := .tuple #[.int .u8 0, .int .i64 4]) (by simp [results, Tryz.results15, go_sem]) rfl ⟨by rw [HK.out]; rfl, Below.refl _ _⟩
    · have hk := M.kind_eq s.data.toList hne
      have g1 : c.toNat ≠ 32 := fun q => hf (Or.inl (UInt8.toNat_inj.1 q))
      have g2 : c.toNat ≠ 10 := fun q => hf (Or.inr (Or.inl (UInt8.toNat_inj.1 q)))
      have g3 : c.toNat ≠ 37 := fun q => hf (Or.inr (Or.inr (UInt8.toNat_inj.1 q)))
      have b1 : ((s[0].toNat : Int) == 32) = false := by rw [beq_eq_false_iff_ne, hc]; omega
      have b2 : ((s[0].toNat : Int) == 10) = false := by rw [beq_eq_false_iff_ne, hc]; omega
      have b3 : ((s[0].toNat : Int) == 37) = false := by rw [beq_eq_false_iff_ne, hc]; omega
      have a1 : ¬ (s[0].toNat : Int) = 32 := by rw [hc]; omega
      have a2 : ¬ (s[0].toNat : Int) = 10 := by rw [hc]; omega
      have a3 : ¬ (s[0].toNat : Int) = 37 := by rw [hc]; omega
      obtain ⟨kk, hkk⟩ : ∃ kk, M.tokKind s.data.toList 0 = kk := ⟨_, rfl⟩
      obtain ⟨tt, htt⟩ : ∃ tt, M.str (M.tokText s.data.toList 0) = tt := ⟨_, rfl⟩
      have hrt : rTok s.data.toList 0 = ⟨kk, tt, 0⟩ := by unfold rTok; rw [hkk, htt]; rfl
      have htl : (tt.toList == s.toList) = decide (M.tokText s.data.toList 0 = s.data.toList) := by rw [str_ne, ← htt, M.str_list]
      rw [hkk] at hk
      have HK := Lib.hid hk
      have HRT := Lib.hid hrt
      by_cases hq : M.tokText s.data.toList 0 = s.data.toList
      · rw [decide_eq_true hq] at htl
        by_cases hz : kk = 0
        · clear hk hrt hkk htt hq hc hne hf
          subst hz
          have HT := Lib.hid htl
          clear htl
          go_enter Tryz.func15, Tryz.ntmps15
          go_wp2_with fail
          refine (rTok0_any s _ hs hp).mono ?_
          rintro e w1 ⟨rfl, hB⟩
          rw [HRT.out]
          go_wp2_with fail
          refine bodyPost_ret (v := .tuple #[.int .u8 0, .int .i64 4]) (by simp [results, Tryz.results15, go_sem]) rfl ⟨by rw [HK.out]; simp, belowA hB _⟩
        · have hz1 : ((kk : Int) == 0) = false := by rw [beq_eq_false_iff_ne]; omega
          have hz2 : ¬ (kk : Int) = 0 := by omega
          have hv : (M.kind s.data.toList) = ((kk : Int), 0) := by rw [HK.out, if_neg (by simp [hz, hq])]
          have HV := Lib.hid hv
          have htn : (tt.toList != s.toList) = false := by rw [bne, htl]; rfl
          have hte : tt.toList = s.toList := by simpa using htl
          clear hk hrt hkk htt hq hc hne hf hv htn htl
          go_enter Tryz.func15, Tryz.ntmps15
          go_wp2_with fail
          refine (rTok0_any s _ hs hp).mono ?_
          rintro e w1 ⟨rfl, hB⟩
          rw [HRT.out]
          go_wp2_with fail
          refine bodyPost_ret (v := .tuple #[.int .u8 kk, .int .i64 0]) (by simp [results, Tryz.results15, go_sem]) rfl ⟨by rw [HV.out]; rfl, belowA hB _⟩
      · rw [decide_eq_false hq] at htl
        have hv : (M.kind s.data.toList) = (0, 4) := by rw [HK.out, if_pos (Or.inr hq)]
        have HV := Lib.hid hv
        have hte : ¬ tt.toList = s.toList := by simpa using htl
        by_cases hz : kk = 0
        · clear hk hrt hkk htt hq hc hne hf hv htl hte
          subst hz
          go_enter Tryz.func15, Tryz.ntmps15
          go_wp2_with fail
          refine (rTok0_any s _ hs hp).mono ?_
          rintro e w1 ⟨rfl, hB⟩
          rw [HRT.out]
          go_wp2_with fail
          refine bodyPost_ret (v := .tuple #[.int .u8 0, .int .i64 4]) (by simp [results, Tryz.results15, go_sem]) rfl ⟨by rw [HV.out]; rfl, belowA hB _⟩
        · have hz1 : ((kk : Int) == 0) = false := by rw [beq_eq_false_iff_ne]; omega
          have hz2 : ¬ (kk : Int) = 0 := by omega
          clear hk hrt hkk htt hq hc hne hf hv
          go_enter Tryz.func15, Tryz.ntmps15
          go_wp2_with fail
          refine (rTok0_any s _ hs hp).mono ?_
          rintro e w1 ⟨rfl, hB⟩
          rw [HRT.out]
          go_wp2_with fail
          refine bodyPost_ret (v := .tuple #[.int .u8 0, .int .i64 4]) (by simp [results, Tryz.results15, go_sem]) rfl ⟨by rw [HV.out]; rfl, belowA hB _⟩

set_option maxHeartbeats 1000000 in
set_option maxRecDepth 100000 in
theorem lexKinds_any (s : ByteArray) (w : World) (hw : Ready w) (_hs : s.size ≤ maxLen) :
    Calls Tryz.prog 4 #[.string s] w fun e w' => e = .returned (.bool true) ∧ Below w.heap.size w w' := by
  have HW := Lib.hid hw
  clear hw
  by_cases hs : s.size ≤ 3000
  · have d1 : decide (s.size ≤ 3000) = true := decide_eq_true hs
    have D1 := Lib.hid d1
    obtain ⟨⟨a, b⟩, hk⟩ : ∃ x, M.kind s.data.toList = x := ⟨_, rfl⟩
    have HK := Lib.hid hk
    clear hk d1
    go_enter Tryz.func4, Tryz.ntmps4
    go_wp2_with fail
    refine (short_any s _).mono ?_
    rintro e w1 ⟨rfl, hB1⟩
    rw [D1.out]
    go_wp2_with fail
    refine (kindF_any s _ (HW.out.below hB1) (by omega)).mono ?_
    rintro e w2 ⟨rfl, hB2⟩
    rw [HK.out]
    dsimp only
    replace hB1 := below2 hB1 hB2
    clear hB2
    go_wp2_with fail
    refine (refKind_any s _ (by omega)).mono ?_
    rintro e w3 ⟨rfl, hB2⟩
    rw [HK.out]
    dsimp only
    replace hB1 := below2 hB1 hB2
    clear hB2
    go_wp2_with fail
    refine (awake_any _ (HW.out.below hB1)).mono ?_
    rintro e w8 ⟨rfl, hB2⟩
    go_wp2_with fail
    go_ret
    exact ⟨rfl, below2 hB1 hB2⟩
  · have d1 : decide (s.size ≤ 3000) = false := decide_eq_false hs
    have D1 := Lib.hid d1
    clear d1
    go_enter Tryz.func4, Tryz.ntmps4
    go_wp2_with fail
    refine (short_any s _).mono ?_
    rintro e w1 ⟨rfl, hB1⟩
    rw [D1.out]
    go_wp2_with fail
    refine (awake_any _ (HW.out.below hB1)).mono ?_
    rintro e w8 ⟨rfl, hB2⟩
    go_wp2_with fail
    go_ret
    exact ⟨rfl, below2 hB1 hB2⟩
end Go.Proofs.YtcaanpifkcaldaaGreatDoor
