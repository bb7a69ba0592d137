/- DERIVED. Contract of layer 1: Diff at any two texts. -/
import Derived.Test.YtamdcloahkacnaaGreatDoorLexU
namespace Go.Proofs.YtamdcloahkacnaaGreatDoor
open Go.RowKit Go.WideMaps Go.Maps Go.Shelf

set_option maxHeartbeats 1000000 in
set_option maxRecDepth 100000 in
theorem diff_any (a b : ByteArray) (w : World) (ha : a.size ≤ maxLen) (hb : b.size ≤ maxLen) :
    Calls Tryz.prog 15 #[.string a, .string b] w fun e w' => e = .returned (.tuple #[edV (M.diff a b).1, .int .i64 (M.diff a b).2]) ∧ Below w.heap.size w w' := by
  have FA := Lib.hid (fun W => fault_any a W ha)
  have FB := Lib.hid (fun W => fault_any b W hb)
  obtain ⟨pa, ca, fa⟩ : ∃ p c, M.fault a.data.toList = (p, c) := ⟨_, _, rfl⟩
  obtain ⟨pb, cb, fb⟩ : ∃ p c, M.fault b.data.toList = (p, c) := ⟨_, _, rfl⟩
  by_cases h1 : ca = 0
  · by_cases h2 : cb = 0
    · exact diff_ok a b w (by rw [← M.size_list]; exact M.fault_small _ (by rw [fa]; exact h1)) (by rw [← M.size_list]; exact M.fault_small _ (by rw [fb]; exact h2)) (by rw [fa]; exact h1) (by rw [fb]; exact h2)
    · subst h1
      have hres : M.diff a b = (⟨0, 0, ⟨#[]⟩⟩, cb) := by unfold M.diff; rw [if_neg (by rw [fa]; simp), if_pos (by rw [fb]; exact h2), fb]
      have HRES := Lib.hid hres
      have HA := Lib.hid fa
      have HBB := Lib.hid fb
      have h3 : ((cb : Int) == 0) = false := by rw [beq_eq_false_iff_ne]; omega
      have h4 : ((cb : Int) != 0) = true := by rw [bne_iff_ne]; omega
      clear hres fa fb
      go_enter Tryz.func15, Tryz.ntmps15
      go_wp2_with fail
      refine (FA.out _).mono ?_
      rintro e w1 ⟨rfl, hB1⟩
      rw [HA.out]
      go_wp2_with fail
      refine (FB.out _).mono ?_
      rintro e w2 ⟨rfl, hB2⟩
      rw [HBB.out]
      have hW2 : Below (w.heap.size + 1) (w.alloc (.cells #[.int .i64 0, .int .i64 0, .string ⟨#[]⟩] 24)) w2 := (hB1.mono (by simp)).trans (hB2.mono (by have := hB1.size; simpa using this))
      clear hB1 hB2
      have e4 : w2.heap[w.heap.size]? = some (.cells #[.int .i64 0, .int .i64 0, .string ⟨#[]⟩] 24 (0, 0)) := by rw [hW2.block _ (by omega)]; exact (MapKept.heap_alloc w _).1
      have q0 : w2.cell? ⟨w.heap.size, 0, none⟩ = some (.int .i64 0) := by rw [Lib.cell_of_heap e4]; rfl
      have q1 : w2.cell? ⟨w.heap.size, 1, none⟩ = some (.int .i64 0) := by rw [Lib.cell_of_heap e4]; rfl
      have q2 : w2.cell? ⟨w.heap.size, 2, none⟩ = some (.string ⟨#[]⟩) := by rw [Lib.cell_of_heap e4]; rfl
      have f0 : w2.frozen? ⟨w.heap.size, 0, none⟩ = false := Lib.frozen_of_heap e4 0
      have f1 : w2.frozen? ⟨w.heap.size, 1, none⟩ = false := Lib.frozen_of_heap e4 1
      have f2 : w2.frozen? ⟨w.heap.size, 2, none⟩ = false := Lib.frozen_of_heap e4 2
      have hBw : Below w.heap.size w w2 := (below1 w _).trans (hW2.mono (by omega))
      clear e4 hW2
      go_wp2_with fail
      refine bodyPost_ret (v := .tuple #[.agg #[.int .i64 0, .int .i64 0, .string ⟨#[]⟩], .int .i64 cb]) (by simp [results, Tryz.results15, go_sem, q0, q1, q2]) rfl ⟨by rw [HRES.out], below3 hBw _ (Nat.le_refl _) _ _ _⟩
  · have hres : M.diff a b = (⟨0, 0, ⟨#[]⟩⟩, ca) := by unfold M.diff; rw [if_pos (by rw [fa]; exact h1), fa]
    have HRES := Lib.hid hres
    have HA := Lib.hid fa
    have h3 : ((ca : Int) == 0) = false := by rw [beq_eq_false_iff_ne]; omega
    have h4 : ((ca : Int) != 0) = true := by rw [bne_iff_ne]; omega
    clear hres fa fb
    go_enter Tryz.func15, Tryz.ntmps15
    go_wp2_with fail
    refine (FA.out _).mono ?_
    rintro e w1 ⟨rfl, hB1⟩
    rw [HA.out]
    have hB1' : Below (w.heap.size + 1) (w.alloc (.cells #[.int .i64 0, .int .i64 0, .string ⟨#[]⟩] 24)) w1 := hB1.mono (by simp)
    clear hB1
    have e4 : w1.heap[w.heap.size]? = some (.cells #[.int .i64 0, .int .i64 0, .string ⟨#[]⟩] 24 (0, 0)) := by rw [hB1'.block _ (by omega)]; exact (MapKept.heap_alloc w _).1
    have q0 : w1.cell? ⟨w.heap.size, 0, none⟩ = some (.int .i64 0) := by rw [Lib.cell_of_heap e4]; rfl
    have q1 : w1.cell? ⟨w.heap.size, 1, none⟩ = some (.int .i64 0) := by rw [Lib.cell_of_heap e4]; rfl
    have q2 : w1.cell? ⟨w.heap.size, 2, none⟩ = some (.string ⟨#[]⟩) := by rw [Lib.cell_of_heap e4]; rfl
    have f0 : w1.frozen? ⟨w.heap.size, 0, none⟩ = false := Lib.frozen_of_heap e4 0
    have f1 : w1.frozen? ⟨w.heap.size, 1, none⟩ = false := Lib.frozen_of_heap e4 1
    have f2 : w1.frozen? ⟨w.heap.size, 2, none⟩ = false := Lib.frozen_of_heap e4 2
    have hBw : Below w.heap.size w w1 := (below1 w _).trans (hB1'.mono (by omega))
    clear e4 hB1'
    go_wp2_with fail
    refine bodyPost_ret (v := .tuple #[.agg #[.int .i64 0, .int .i64 0, .string ⟨#[]⟩], .int .i64 ca]) (by simp [results, Tryz.results15, go_sem, q0, q1, q2]) rfl ⟨by rw [HRES.out], below3 hBw _ (Nat.le_refl _) _ _ _⟩

end Go.Proofs.YtamdcloahkacnaaGreatDoor
