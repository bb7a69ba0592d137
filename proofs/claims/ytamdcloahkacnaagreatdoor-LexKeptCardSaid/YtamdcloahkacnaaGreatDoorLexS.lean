/- DERIVED. Contract of layer 1: Scan. -/
import Derived.Test.YtamdcloahkacnaaGreatDoorLexR
namespace Go.Proofs.YtamdcloahkacnaaGreatDoor
open Go.RowKit Go.WideMaps Go.Maps Go.Shelf

namespace M
theorem fault_small (s : List UInt8) (h : (fault s).2 = 0) : s.length ≤ 2500 := by
  unfold fault at h
  split at h
  · cases h
  · omega
theorem blank_len (s : List UInt8) : (blank s).length = s.length := blankBy_len _ _
/-- The tokens of a text, or the place of its first error, and this error. -/
def scan (s : List UInt8) : List Lx × Nat × Nat := if (fault s).2 = 0 then tokens (blank s) else ([], (fault s).1, (fault s).2)
end M

set_option maxHeartbeats 1000000 in
set_option maxRecDepth 100000 in
theorem scan_any (s : ByteArray) (w : World) (hw : Ready w) (hs : s.size ≤ maxLen) :
    Calls Tryz.prog 12 #[.string s] w (TokPost (M.scan s.data.toList) w) := by
  have HW := Lib.hid hw
  clear hw
  obtain ⟨p, c, hf⟩ : ∃ p c, M.fault s.data.toList = (p, c) := ⟨_, _, rfl⟩
  have HFC := Lib.hid (fault_any s w hs)
  by_cases h0 : c = 0
  · subst h0
    have hsm : s.size ≤ 2500 := by rw [← M.size_list]; exact M.fault_small _ (by rw [hf])
    have hres : M.scan s.data.toList = M.tokens (M.str (M.blank s.data.toList)).data.toList := by unfold M.scan; rw [if_pos (by rw [hf]), M.str_list]
    have HRES := Lib.hid hres
    have HF := Lib.hid hf
    clear hf hres
    have hbl : (M.str (M.blank s.data.toList)).size ≤ 1000000 := by rw [M.str_size, M.blank_len, M.size_list]; omega
    have HBL := Lib.hid hbl
    clear hbl
    go_enter Tryz.func12, Tryz.ntmps12
    go_wp2_with fail
    refine HFC.out.mono ?_
    rintro e w1 ⟨rfl, hB1⟩
    rw [HF.out]
    dsimp only
    go_wp2_with fail
    refine (newReader_any _).mono ?_
    rintro e w2 ⟨bm, bs, rfl, hr2, hB2⟩
    have HR := Lib.hid hr2
    clear hr2
    go_wp2_with fail
    refine (blanked_any s _ (by omega)).mono ?_
    rintro e w3 ⟨rfl, hB3⟩
    go_wp2_with fail
    refine (tokens_any bm bs _ _ (HR.out.below hB3) (HW.out.below (below2 (below2 hB1 hB2) hB3)) HBL.out).mono ?_
    rintro e w4 ⟨a4, c4, rfl, hle, hnc, hl4, hB4⟩
    rw [← HRES.out] at hl4 hle ⊢
    have HL4 := Lib.hid hl4
    have HLE := Lib.hid hle
    have HNC := Lib.hid hnc
    clear hl4 hle hnc
    go_wp2_with fail
    go_ret3
    exact ⟨a4, c4, rfl, HLE.out, HNC.out, HL4.out, below2 (below2 (below2 hB1 hB2) hB3) hB4⟩
  · have hres : M.scan s.data.toList = ([], p, c) := by unfold M.scan; rw [if_neg (by rw [hf]; exact h0), hf]
    have HRES := Lib.hid hres
    have HF := Lib.hid hf
    have h1 : ((c : Int) == 0) = false := by rw [beq_eq_false_iff_ne]; omega
    have h2 : ((c : Int) != 0) = true := by rw [bne_iff_ne]; omega
    clear hf hres
    go_enter Tryz.func12, Tryz.ntmps12
    go_wp2_with fail
    refine HFC.out.mono ?_
    rintro e w1 ⟨rfl, hB1⟩
    rw [HF.out]
    dsimp only
    go_wp2_with fail
    go_ret3
    exact tokPost_none p c HRES.out hB1

end Go.Proofs.YtamdcloahkacnaaGreatDoor
