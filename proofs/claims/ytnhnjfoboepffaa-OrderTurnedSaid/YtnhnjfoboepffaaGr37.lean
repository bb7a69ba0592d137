/- Texts of one's own, joined: OrdAj. -/
import Derived.Test.YtnhnjfoboepffaaGr32
import Derived.Test.YtnhnjfoboepffaaGr26
namespace Go.Proofs.Ytnhnjfoboepffaa
open Go.RowKit

theorem of_zero (W : World) : Calls Try.prog 54 #[.slice (some ⟨W.heap.size, 0, none⟩) 1 1] (W.alloc (.cells #[.int .i64 0] 3)) fun e w' => e = .returned (.int .u16 1) ∧ W.alloc (.cells #[.int .i64 0] 3) = w' := of_new 0 W (by decide)

set_option maxHeartbeats 4000000 in
set_option maxRecDepth 100000 in
theorem height_any (t : M.Tb) (p : Tp) (w : World) (hf : M.form t) (hc : ∀ j, j < t.elems.length → M.stB t j j = false) :
    Calls Try.prog 45 #[knV t p (M.know t)] w fun e w' => (∃ k : Nat, M.isH t 0 k ∧ e = .returned (.int .i64 k)) ∧ Below w.heap.size w w' := by
  obtain ⟨ik, hik, hks⟩ := Option.map_eq_some_iff.1 knInfo
  have HIK := Lib.hid hik
  have HKS := Lib.hid hks
  have HK := Lib.hid (box_new w (knA t p (M.know t)) 62)
  have HKB := Lib.hid (knBox HK.out)
  have HKL := Lib.hid (M.know_lt hf)
  have hend := M.itN_end hf hc
  have HEND := Lib.hid hend
  have HF := Lib.hid hf
  have HCC := Lib.hid hc
  have h12 := hf.twelve
  clear hik hks hf hc hend
  obtain ⟨W0, hW0⟩ : ∃ W0, w.alloc (.cells (knA t p (M.know t)) 62) = W0 := ⟨_, rfl⟩
  have hz0 : w.heap.size + 1 = W0.heap.size := by rw [← hW0]; simp
  have hB0 : Below w.heap.size w W0 := by rw [← hW0]; exact below1 _ _
  have hB00 := Lib.hid hB0
  rw [hW0] at HK HKB
  go_enter Try.func45, Try.ntmps45
  go_upto_region 2 with fail
  clear hW0
  obtain ⟨y0, y1, y2, y3, y4, y5, y6, y7, y8, y9, y10, y11, y12, y13, y14, y15⟩ := kn_cells HK.out
  go_cut [3, 4] (fun c d wx => c = .int .i64 0 ∧ d = .int .u16 (M.itN (M.know t) 0 : Nat) ∧ Below W0.heap.size W0 wx)
  case first =>
    have HBE := Lib.hid fun W => beyond_any t p (M.know t) 1 W HKL.out (by omega)
    have hzz : w.heap.size < W0.heap.size := by omega
    go_region_with (first | (go_at_call 54; refine (of_zero W0.drew).mono ?_; rintro e w4 ⟨rfl, rfl⟩) | (go_at_call 53; refine (HBE.out _).mono ?_; rintro e w5 ⟨rfl, hB5⟩))
    all_goals
      have hBx := (belowA ((Below.refl W0.heap.size W0).drew) (.cells #[.int .i64 0] 3)).trans (hB5.mono (by simp))
      go_wp2_with fail
      go_meet
      exact ⟨rfl, rfl, hBx⟩
  case rest =>
    obtain ⟨rfl, rfl, hB⟩ := hcut
    clear y0 y1 y2 y3 y4 y5 y6 y7 y8 y9 y10 y11 y12 y13 y14 y15
    go_wp2_with fail
    go_loopw [3, 4] (fun c s wr => ∃ k : Nat, k ≤ t.elems.length ∧ c = .int .i64 k ∧ s = .int .u16 (M.itN (M.know t) k : Nat) ∧ Hid (∀ j, j < k → M.itN (M.know t) j ≠ 0) ∧ Below W0.heap.size W0 wr) (fun c _ _ => t.elems.length - (intOf c).toNat)
    case atStart => exact ⟨0, by omega, rfl, rfl, Lib.hid (fun j hj => by omega), hB⟩
    case round =>
      clear hB
      rename World => wr
      obtain ⟨k, hk, rfl, rfl, HN, hB⟩ := hrel
      obtain ⟨y0, y1, y2, y3, y4, y5, y6, y7, y8, y9, y10, y11, y12, y13, y14, y15⟩ := kn_cells (show wr.heap[w.heap.size]? = some (.cells (knA t p (M.know t)) 62 (0, 0)) from by rw [hB.block _ (by omega)]; exact HK.out)
      by_cases h0 : M.itN (M.know t) k = 0
      · have k1 : (((M.itN (M.know t) k : Nat) : Int) == 0) = true := by rw [h0]; rfl
        have k2 : (((M.itN (M.know t) k : Nat) : Int) != 0) = false := by rw [h0]; rfl
        have HR := Lib.hid (M.isH_it HF.out HCC.out h0 HN.out)
        have hBf := hB00.out.trans (hB.mono (by omega))
        clear h0
        go_wp2_with fail
        go_ret
        exact ⟨⟨k, HR.out, rfl⟩, hBf⟩
      · have k1 : (((M.itN (M.know t) k : Nat) : Int) == 0) = false := by rw [beq_eq_false_iff_ne]; omega
        have k2 : (((M.itN (M.know t) k : Nat) : Int) != 0) = true := by rw [bne_iff_ne]; omega
        have hkn : k < t.elems.length := by
          rcases Nat.lt_or_eq_of_le hk with q | q
          · exact q
          · rw [q] at h0; exact absurd HEND.out h0
        have HN2 := Lib.hid (show ∀ j, j < k + 1 → M.itN (M.know t) j ≠ 0 from fun j hj => by
          rcases Nat.lt_succ_iff_lt_or_eq.1 hj with h | rfl
          · exact HN.out j h
          · exact h0)
        have HC := Lib.hid (beyond_any t p (M.know t) (M.itN (M.know t) k) wr HKL.out (Nat.lt_trans (M.itN_lt _ HKL.out k) (by omega)))
        clear h0
        go_wp2_with fail
        refine HC.out.mono ?_
        rintro e w3 ⟨rfl, hB3⟩
        have hB4 := below2 hB hB3
        go_wp2_with fail
        go_roundw
        case rel => exact ⟨k + 1, by omega, by go_num, rfl, HN2, hB4⟩
        case measure => simp [intOf]; omega
end Go.Proofs.Ytnhnjfoboepffaa
