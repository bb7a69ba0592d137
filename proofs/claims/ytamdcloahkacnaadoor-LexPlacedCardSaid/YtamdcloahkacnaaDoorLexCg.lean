/- DERIVED. The walk of the statement on places and their lines and columns. -/
import Derived.Test.YtamdcloahkacnaaDoorLexCe
import Derived.Test.YtamdcloahkacnaaDoorLexBn
import Derived.Test.YtamdcloahkacnaaDoorLexSb
namespace Go.Proofs.YtamdcloahkacnaaDoor
open Go.RowKit Go.WideMaps Go.Maps Go.Shelf

theorem commentsR_any (s : ByteArray) (w : World) (hs : s.size ≤ maxLen) : Calls Tryd.prog 11 #[.string s] w (CmPost (M.commentsR s.data.toList) w) := by
  by_cases h : (M.fault s.data.toList).2 = 0
  · exact lexComments_yes s w h
  · exact lexComments_no s w hs h

set_option maxHeartbeats 4000000 in
set_option maxRecDepth 100000 in
theorem lexPlaced_any (s : ByteArray) (w : World) (hw : Ready w) (hs : s.size ≤ maxLen) :
    Calls Tryd.prog 4 #[.string s] w fun e w' => e = .returned (.bool true) ∧ Below w.heap.size w w' := by
  by_cases h : (M.fault s.data.toList).2 = 0
  · have hcr : M.commentsR s.data.toList = (M.comments s.data.toList, 0, 0) := by unfold M.commentsR; rw [if_pos h]
    have hlm : (M.comments s.data.toList).length ≤ (M.comments s.data.toList).length := Nat.le_refl _
    have hwr : ∀ k : Nat, k ≤ s.size → M.whereR s k = (M.lc s.data.toList k, 0) := fun k hk => by
      unfold M.whereR
      rw [if_neg (by rw [h]; simp), if_neg (by omega), Int.toNat_natCast]
    have har : ∀ k : Nat, k ≤ s.size → M.atR s (M.lc s.data.toList k) = (k, 0) := fun k hk => M.atR_yes s _ h k hk rfl
    obtain ⟨cm, hcm⟩ : ∃ cm, M.comments s.data.toList = cm := ⟨_, rfl⟩
    rw [hcm] at hcr
    have HCR := Lib.hid hcr
    have HWR := Lib.hid hwr
    have HAR := Lib.hid har
    have HW := Lib.hid hw
    clear hcr hwr har hw hcm hlm h
    by_cases h4 : 400 < s.size
    · have d1 : decide ((400 : Int) < (s.size : Int)) = true := decide_eq_true (by omega)
      go_enter Tryd.func4, Tryd.ntmps4
      go_wp2_with fail
      refine (commentsR_any s _ hs).mono ?_
      rintro e w1 ⟨a1, c1, rfl, _, _, hB⟩
      rw [HCR.out]
      dsimp only
      go_wp2_with fail
      refine (awake_any _ (HW.out.below hB)).mono ?_
      rintro e w8 ⟨rfl, hB2⟩
      go_wp2_with fail
      go_ret
      exact ⟨rfl, below2 hB hB2⟩
    · have d1 : decide ((400 : Int) < (s.size : Int)) = false := decide_eq_false (by omega)
      have h5 : s.size ≤ 400 := by omega
      clear h4
      go_enter Tryd.func4, Tryd.ntmps4
      go_wp2_with fail
      refine (commentsR_any s _ hs).mono ?_
      rintro e w1 ⟨a1, c1, rfl, _, _, hB⟩
      rw [HCR.out]
      dsimp only
      go_wp2_with fail
      go_loopw [6, 7, 8] (fun u v i wr => ∃ (k : Nat) (ln b : Int), k ≤ s.size + 1 ∧ i = .int .i64 k ∧ u = .int .i64 ln ∧ v = .int .i64 b ∧ 0 ≤ b ∧ b ≤ k ∧ 1 ≤ ln ∧ ln ≤ k + 1 ∧ Hid (k ≤ s.size → M.lc s.data.toList k = (ln, (k : Int) - b + 1)) ∧ Below w.heap.size w wr) (fun _ _ i _ => s.size + 1 - (intOf i).toNat)
      case atStart => exact ⟨0, 1, 0, by omega, rfl, rfl, rfl, by omega, by omega, by omega, by omega, Lib.hid (fun _ => M.lc_zero _), hB⟩
      case round =>
        rename_i wr
        obtain ⟨k, ln, b, hk, rfl, rfl, rfl, b1, b2, b3, b4, HL, hBr⟩ := hrel
        by_cases hks : k ≤ s.size
        · have hl := HL.out hks
          have hw1 := HWR.out k hks
          have ha1 := HAR.out k hks
          rw [hl] at hw1 ha1
          have n1 : (k : Int) ≤ (s.size : Int) := by omega
          have m1 : (ln != ln) = false := bne_self_eq_false _
          have m2 : ((k : Int) != (k : Int)) = false := bne_self_eq_false _
          have m3 : (((k : Int) - b + 1) != ((k : Int) - b + 1)) = false := bne_self_eq_false _
          have HW1 := Lib.hid hw1
          have HA1 := Lib.hid ha1
          have HLK := Lib.hid hl
          clear hw1 ha1 hl
          by_cases hkl : k < s.size
          · have n2 : (k : Int) < (s.size : Int) := by omega
            have hsucc := M.lc_succ s.data.toList k (by rw [M.size_list]; exact hkl)
            obtain ⟨ch, hch⟩ : ∃ ch, s[k]'hkl = ch := ⟨_, rfl⟩
            have hst : s.data.toList[k]'(by rw [M.size_list]; exact hkl) = ch := hch
            rw [hst, HLK.out] at hsucc
            by_cases h10 : ch.toNat = 10
            · have e1 : (((ch.toNat : Nat) : Int) == 10) = true := by rw [h10]; rfl
              have hsp : M.lc s.data.toList (k + 1) = (ln + 1, ((k + 1 : Nat) : Int) - ((k : Int) + 1) + 1) := by
                rw [hsucc]; unfold M.step; rw [if_pos (UInt8.toNat_inj.1 h10)]
                have : ((k + 1 : Nat) : Int) - ((k : Int) + 1) + 1 = 1 := by omega
                rw [this]
              have HSP := Lib.hid hsp
              clear hsp hst hsucc
              go_wp2_with fail
              refine (where_any s k wr hs).mono ?_
              rintro e w2 ⟨rfl, hB2⟩
              rw [HW1.out]
              have hB3 := below2 hBr hB2
              clear hB2
              dsimp only
              go_wp2_with fail
              refine (at_any s (ln, (k : Int) - b + 1) _ hs).mono ?_
              rintro e w3 ⟨rfl, hB2⟩
              rw [HA1.out]
              have hr1 := (hB2.block w2.heap.size (by simp)).trans (MapKept.heap_alloc w2 _).1
              have u0 : w3.cell? ⟨w2.heap.size, 0, none⟩ = some (.int .i64 ln) := by rw [Lib.cell_of_heap hr1]; rfl
              have u1 : w3.cell? ⟨w2.heap.size, 1, none⟩ = some (.int .i64 ((k : Int) - b + 1)) := by rw [Lib.cell_of_heap hr1]; rfl
              have hB4 := below2 (belowA hB3 (.cells #[.int .i64 ln, .int .i64 ((k : Int) - b + 1)] 23)) hB2
              clear hB2 hr1
              dsimp only
              go_wp2_with fail
              exact ⟨⟨k + 1, ln + 1, (k : Int) + 1, by omega, by simp, rfl, rfl, by omega, by omega, by omega, by omega, Lib.hid (fun _ => HSP.out), hB4⟩, by simp [intOf]; omega⟩
            · have e1 : (((ch.toNat : Nat) : Int) == 10) = false := by rw [beq_eq_false_iff_ne]; omega
              have hsp : M.lc s.data.toList (k + 1) = (ln, ((k + 1 : Nat) : Int) - b + 1) := by
                rw [hsucc]; unfold M.step; rw [if_neg (fun q => h10 (by rw [q]; rfl))]
                have : ((k + 1 : Nat) : Int) - b + 1 = (k : Int) - b + 1 + 1 := by omega
                rw [this]
              have HSP := Lib.hid hsp
              clear hsp hst hsucc
              go_wp2_with fail
              refine (where_any s k wr hs).mono ?_
              rintro e w2 ⟨rfl, hB2⟩
              rw [HW1.out]
              have hB3 := below2 hBr hB2
              clear hB2
              dsimp only
              go_wp2_with fail
              refine (at_any s (ln, (k : Int) - b + 1) _ hs).mono ?_
              rintro e w3 ⟨rfl, hB2⟩
              rw [HA1.out]
              have hr1 := (hB2.block w2.heap.size (by simp)).trans (MapKept.heap_alloc w2 _).1
              have u0 : w3.cell? ⟨w2.heap.size, 0, none⟩ = some (.int .i64 ln) := by rw [Lib.cell_of_heap hr1]; rfl
              have u1 : w3.cell? ⟨w2.heap.size, 1, none⟩ = some (.int .i64 ((k : Int) - b + 1)) := by rw [Lib.cell_of_heap hr1]; rfl
              have hB4 := below2 (belowA hB3 (.cells #[.int .i64 ln, .int .i64 ((k : Int) - b + 1)] 23)) hB2
              clear hB2 hr1
              dsimp only
              go_wp2_with fail
              exact ⟨⟨k + 1, ln, b, by omega, by simp, rfl, rfl, by omega, by omega, by omega, by omega, Lib.hid (fun _ => HSP.out), hB4⟩, by simp [intOf]; omega⟩
          · obtain rfl : k = s.size := by omega
            have n2 : decide ((s.size : Int) < (s.size : Int)) = false := decide_eq_false (by omega)
            go_wp2_with fail
            refine (where_any s s.size wr hs).mono ?_
            rintro e w2 ⟨rfl, hB2⟩
            rw [HW1.out]
            have hB3 := below2 hBr hB2
            clear hB2
            dsimp only
            go_wp2_with fail
            refine (at_any s (ln, (s.size : Int) - b + 1) _ hs).mono ?_
            rintro e w3 ⟨rfl, hB2⟩
            rw [HA1.out]
            have hr1 := (hB2.block w2.heap.size (by simp)).trans (MapKept.heap_alloc w2 _).1
            have u0 : w3.cell? ⟨w2.heap.size, 0, none⟩ = some (.int .i64 ln) := by rw [Lib.cell_of_heap hr1]; rfl
            have u1 : w3.cell? ⟨w2.heap.size, 1, none⟩ = some (.int .i64 ((s.size : Int) - b + 1)) := by rw [Lib.cell_of_heap hr1]; rfl
            have hB4 := below2 (belowA hB3 (.cells #[.int .i64 ln, .int .i64 ((s.size : Int) - b + 1)] 23)) hB2
            clear hB2 hr1
            dsimp only
            go_wp2_with fail
            exact ⟨⟨s.size + 1, ln, b, by omega, by simp, rfl, rfl, by omega, by omega, by omega, by omega, Lib.hid (fun q => by omega), hB4⟩, by simp [intOf] <;> omega⟩
        · have n1 : ¬ (k : Int) ≤ (s.size : Int) := by omega
          go_wp2_with fail
          refine (awake_any _ (HW.out.below hBr)).mono ?_
          rintro e w8 ⟨rfl, hB2⟩
          go_wp2_with fail
          go_ret
          exact ⟨rfl, below2 hBr hB2⟩
  · have hcr : M.commentsR s.data.toList = ([], (M.fault s.data.toList).1, (M.fault s.data.toList).2) := by unfold M.commentsR; rw [if_neg h]
    obtain ⟨p, c, hf⟩ : ∃ p c, M.fault s.data.toList = (p, c) := ⟨_, _, rfl⟩
    rw [hf] at h hcr
    dsimp only at h hcr
    have h3 : ((c : Int) == 0) = false := by rw [beq_eq_false_iff_ne]; omega
    have h4 : ((c : Int) != 0) = true := by rw [bne_iff_ne]; omega
    have HCR := Lib.hid hcr
    have HW := Lib.hid hw
    clear hcr hf hw
    go_enter Tryd.func4, Tryd.ntmps4
    go_wp2_with fail
    refine (commentsR_any s _ hs).mono ?_
    rintro e w1 ⟨a1, c1, rfl, _, _, hB⟩
    rw [HCR.out]
    dsimp only
    go_wp2_with fail
    refine (awake_any _ (HW.out.below hB)).mono ?_
    rintro e w8 ⟨rfl, hB2⟩
    go_wp2_with fail
    go_ret
    exact ⟨rfl, below2 hB hB2⟩
end Go.Proofs.YtamdcloahkacnaaDoor
