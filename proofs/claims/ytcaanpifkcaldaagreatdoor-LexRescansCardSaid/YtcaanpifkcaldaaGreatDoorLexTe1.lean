/- DERIVED. Contract of the document's own IsEdit. -/
import Derived.Test.YtcaanpifkcaldaaGreatDoorLexTe0
import Derived.Test.YtcaanpifkcaldaaGreatDoorLexW
namespace Go.Proofs.YtcaanpifkcaldaaGreatDoor
open Go.RowKit Go.WideMaps Go.Maps Go.Shelf

set_option maxHeartbeats 1000000 in
set_option maxRecDepth 100000 in
theorem refIsEdit_any (s : ByteArray) (x : M.Ed) (w : World) (_hs : s.size ≤ maxLen) :
    Calls Tryz.prog 41 #[.string s, edV x] w fun e w' => e = .returned (.bool (decide (M.isEdit s x))) ∧ Below w.heap.size w w' := by
  by_cases h1 : 0 ≤ x.from_
  · have d1 : decide ((0 : Int) ≤ x.from_) = true := by simpa using h1
    by_cases h2 : x.from_ ≤ x.to_
    · have d2 : decide (x.from_ ≤ x.to_) = true := by simpa using h2
      by_cases h3 : x.to_ ≤ s.size
      · have d3 : decide (x.to_ ≤ (s.size : Int)) = true := by simpa using h3
        go_enter Tryz.func41, Tryz.ntmps41
        go_wp2_with fail
        go_ret
        exact ⟨ret_bool (by unfold M.isEdit; simp [h1, h2, h3]), below1 _ _⟩
      · have d3 : decide (x.to_ ≤ (s.size : Int)) = false := by simpa using h3
        go_enter Tryz.func41, Tryz.ntmps41
        go_wp2_with fail
        go_ret
        exact ⟨ret_bool (decide_eq_false (fun q : M.isEdit s x => by have := q.1; have := q.2.1; have := q.2.2; omega)).symm, below1 _ _⟩
    · have d2 : decide (x.from_ ≤ x.to_) = false := by simpa using h2
      go_enter Tryz.func41, Tryz.ntmps41
      go_wp2_with fail
      go_ret
      exact ⟨ret_bool (decide_eq_false (fun q : M.isEdit s x => by have := q.1; have := q.2.1; have := q.2.2; omega)).symm, below1 _ _⟩
  · have d1 : decide ((0 : Int) ≤ x.from_) = false := by simpa using h1
    go_enter Tryz.func41, Tryz.ntmps41
    go_wp2_with fail
    go_ret
    exact ⟨ret_bool (decide_eq_false (fun q : M.isEdit s x => by have := q.1; have := q.2.1; have := q.2.2; omega)).symm, below1 _ _⟩

end Go.Proofs.YtcaanpifkcaldaaGreatDoor
