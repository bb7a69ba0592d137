/- DERIVED. Contracts of layer 1: Apply, Undo. -/
import Derived.Test.YtamdcloahkacnaaGreatDoorLexTb
namespace Go.Proofs.YtamdcloahkacnaaGreatDoor
open Go.RowKit Go.WideMaps Go.Maps Go.Shelf

namespace M
def appX (s : ByteArray) (x : Ed) : Ed := if appE s x = 0 then x else ⟨0, 0, ⟨#[]⟩⟩
def appS (s : ByteArray) (x : Ed) : ByteArray := if appE s x = 0 then s else ⟨#[]⟩
def applyT (s : ByteArray) (x : Ed) : ByteArray := if appE s x = 0 then after s x else ⟨#[]⟩
def undo (s : ByteArray) (x : Ed) : Ed := if appE s x = 0 then ⟨x.from_, x.from_ + x.put.size, s.extract x.from_.toNat x.to_.toNat⟩ else ⟨0, 0, ⟨#[]⟩⟩
theorem appE_ok {s : ByteArray} {x : Ed} (h : appE s x = 0) : (fault s.data.toList).2 = 0 ∧ isEdit s x ∧ (fault (after s x).data.toList).2 = 0 := by
  unfold appE at h
  by_cases h1 : (fault s.data.toList).2 = 0
  · rw [if_neg (by rw [h1]; simp)] at h
    by_cases h2 : isEdit s x
    · rw [if_neg (by simpa using h2)] at h
      exact ⟨h1, h2, h⟩
    · rw [if_pos h2] at h; cases h
  · rw [if_pos h1] at h; exact absurd h h1
end M
/-- The cells of two boxes. -/
theorem box_cells {w w1 : World} {x : M.Ed} {t1 t2 : TypeId} {arr : Array Value} (hB : Below ((w.alloc (.cells #[.int .i64 x.from_, .int .i64 x.to_, .string x.put] t1)).alloc (.cells arr t2)).heap.size ((w.alloc (.cells #[.int .i64 x.from_, .int .i64 x.to_, .string x.put] t1)).alloc (.cells arr t2)) w1) :
    w1.cell? ⟨w.heap.size, 0, none⟩ = some (.int .i64 x.from_) ∧ w1.cell? ⟨w.heap.size, 1, none⟩ = some (.int .i64 x.to_) ∧ w1.cell? ⟨w.heap.size, 2, none⟩ = some (.string x.put) ∧
    w1.heap[w.heap.size + 1]? = some (.cells arr t2 (0, 0)) ∧ Below w.heap.size w w1 ∧ w.heap.size + 2 ≤ w1.heap.size := by
  have hz := hB.size
  simp at hz
  have e0 : w1.heap[w.heap.size]? = some (.cells #[.int .i64 x.from_, .int .i64 x.to_, .string x.put] t1 (0, 0)) := by
    rw [hB.block _ (by simp; omega), Below.heap_alloc _ _ _ (by simp)]; exact (MapKept.heap_alloc w _).1
  refine ⟨by rw [Lib.cell_of_heap e0]; rfl, by rw [Lib.cell_of_heap e0]; rfl, by rw [Lib.cell_of_heap e0]; rfl, ?_, (belowA (below1 w _) _).trans (hB.mono (by simp; omega)), by omega⟩
  rw [hB.block _ (by simp)]
  have := (MapKept.heap_alloc (w.alloc (.cells #[.int .i64 x.from_, .int .i64 x.to_, .string x.put] t1)) (.cells arr t2)).1
  simpa using this
theorem res3 {w1 : World} {n : Nat} {t : TypeId} {a b c : Value} (h : w1.heap[n]? = some (.cells #[a, b, c] t (0, 0))) :
    (w1.cell? ⟨n, 0, none⟩ = some a ∧ w1.cell? ⟨n, 1, none⟩ = some b ∧ w1.cell? ⟨n, 2, none⟩ = some c) ∧ (w1.frozen? ⟨n, 0, none⟩ = false ∧ w1.frozen? ⟨n, 1, none⟩ = false ∧ w1.frozen? ⟨n, 2, none⟩ = false) :=
  ⟨⟨by rw [Lib.cell_of_heap h]; rfl, by rw [Lib.cell_of_heap h]; rfl, by rw [Lib.cell_of_heap h]; rfl⟩, Lib.frozen_of_heap h 0, Lib.frozen_of_heap h 1, Lib.frozen_of_heap h 2⟩
theorem appV_eq (s : ByteArray) (x : M.Ed) : appV s x = edtV (M.appX s x) (M.appS s x) (M.applyT s x) := by
  unfold appV M.appX M.appS M.applyT
  by_cases h : M.appE s x = 0
  · simp only [if_pos h]
  · simp only [if_neg h]; rfl

set_option maxHeartbeats 1000000 in
set_option maxRecDepth 100000 in
theorem Apply_any (s : ByteArray) (x : M.Ed) (w : World) (hs : s.size ≤ maxLen) (hp : x.put.size ≤ 140737488355328) :
    Calls Tryz.prog 13 #[.string s, edV x] w fun e w' => e = .returned (.tuple #[.string (M.applyT s x), .int .i64 (M.appE s x)]) ∧ Below w.heap.size w w' := by
  have HV := Lib.hid (appV_eq s x)
  have HA := Lib.hid fun W => apply_any s x W hs hp
  generalize M.appX s x = y at HV
  generalize M.appS s x = d at HV
  generalize M.applyT s x = u at HV ⊢
  clear hs hp
  go_enter Tryz.func13, Tryz.ntmps13
  go_wp2_with fail
  refine (HA.out _).mono ?_
  rintro e w1 ⟨rfl, hB1⟩
  rw [HV.out]
  have hz : w.heap.size < w1.heap.size := by have := hB1.size; simp at this; omega
  have hBw := below2 (below1 w _) hB1
  clear hB1
  go_wp2_with fail
  go_ret2
  exact ⟨rfl, belowA hBw _⟩

end Go.Proofs.YtamdcloahkacnaaGreatDoor
