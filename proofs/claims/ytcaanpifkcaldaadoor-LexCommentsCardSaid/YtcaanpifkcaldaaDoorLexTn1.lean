/- DERIVED. Contract of layer 1: Blank. -/
import Derived.Test.YtcaanpifkcaldaaDoorLexTn0
import Derived.Test.YtcaanpifkcaldaaDoorLexSb
namespace Go.Proofs.YtcaanpifkcaldaaDoor
open Go.RowKit Go.WideMaps Go.Maps Go.Shelf

set_option maxHeartbeats 1000000 in
set_option maxRecDepth 100000 in
theorem blank_no (s : ByteArray) (w : World) (hs : s.size ≤ maxLen) (h : (M.fault s.data.toList).2 ≠ 0) :
    Calls Tryd.prog 14 #[.string s] w fun e w' => e = .returned (.tuple #[.string ⟨#[]⟩, .int .i64 (M.fault s.data.toList).1, .int .i64 (M.fault s.data.toList).2]) ∧ Below w.heap.size w w' := by
  obtain ⟨p, c, hf⟩ : ∃ p c, M.fault s.data.toList = (p, c) := ⟨_, _, rfl⟩
  rw [hf] at h
  dsimp only at h
  have h3 : ((c : Int) == 0) = false := by rw [beq_eq_false_iff_ne]; omega
  have h4 : ((c : Int) != 0) = true := by rw [bne_iff_ne]; omega
  have HF := Lib.hid hf
  clear hf
  go_enter Tryd.func14, Tryd.ntmps14
  go_wp2_with fail
  refine (fault_any s _ hs).mono ?_
  rintro e w1 ⟨rfl, hB1⟩
  rw [HF.out]
  dsimp only
  go_wp2_with fail
  refine bodyPost_ret (v := .tuple #[.string ⟨#[]⟩, .int .i64 p, .int .i64 c]) (by simp [results, Tryd.results14, go_sem]) rfl ⟨?_, hB1⟩
  rw [HF.out]

set_option maxHeartbeats 1000000 in
set_option maxRecDepth 100000 in
theorem blank_yes (s : ByteArray) (w : World) (h : (M.fault s.data.toList).2 = 0) :
    Calls Tryd.prog 14 #[.string s] w fun e w' => e = .returned (.tuple #[.string (M.str (M.blank s.data.toList)), .int .i64 0, .int .i64 0]) ∧ Below w.heap.size w w' := by
  have hsm : s.size ≤ 2500 := by rw [← M.size_list]; exact M.fault_small s.data.toList h
  obtain ⟨p, c, hf⟩ : ∃ p c, M.fault s.data.toList = (p, c) := ⟨_, _, rfl⟩
  rw [hf] at h
  dsimp only at h
  subst h
  have HF := Lib.hid hf
  clear hf
  obtain ⟨t, ht⟩ : ∃ t, M.str (M.blank s.data.toList) = t := ⟨_, rfl⟩
  have HT := Lib.hid ht
  rw [ht]
  clear ht
  go_enter Tryd.func14, Tryd.ntmps14
  go_wp2_with fail
  refine (fault_any s _ (by unfold maxLen; omega)).mono ?_
  rintro e w1 ⟨rfl, hB1⟩
  rw [HF.out]
  dsimp only
  go_wp2_with fail
  refine (blanked_any s _ (by omega)).mono ?_
  rintro e w2 ⟨rfl, hB2⟩
  rw [HT.out]
  go_wp2_with fail
  refine bodyPost_ret (v := .tuple #[.string t, .int .i64 0, .int .i64 0]) (by simp [results, Tryd.results14, go_sem]) rfl ⟨rfl, below2 hB1 hB2⟩

end Go.Proofs.YtcaanpifkcaldaaDoor
