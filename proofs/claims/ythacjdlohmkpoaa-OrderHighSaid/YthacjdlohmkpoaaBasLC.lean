/- DERIVED. Numbers in a block of the call's own. -/
import Derived.Test.YthacjdlohmkpoaaGr1
import Derived.Test.YthacjdlohmkpoaaGr5
namespace Go.Proofs.Ythacjdlohmkpoaa
open Go.RowKit

/-- Numbers as they lie in a block that may be written. -/
def NmB (w : World) (B n : Nat) (f : Nat → Nat) : Prop := ∀ i, i < n → w.cell? ⟨B, i, none⟩ = some (.int .i64 (f i : Nat)) ∧ w.frozen? ⟨B, i, none⟩ = false
theorem NmB.below {w w' : World} {B n : Nat} {f : Nat → Nat} (h : NmB w B n f) (base : Nat) (hb : B < base) (hB : Below base w w') : NmB w' B n f :=
  fun i hi => ⟨(hB.cell (p := ⟨B, i, none⟩) hb).trans (h i hi).1, (hB.frozen (p := ⟨B, i, none⟩) hb).trans (h i hi).2⟩
theorem NmB.set {w : World} {B n : Nat} {f : Nat → Nat} (h : NmB w B n f) (y v : Nat) : NmB (w.setCell ⟨B, y, none⟩ (.int .i64 (v : Nat))) B n (fun i => if i = y then v else f i) := by
  intro i hi
  refine ⟨?_, by rw [World.frozen?_setCell]; exact (h i hi).2⟩
  by_cases e : i = y
  · subst e
    rw [World.cell?_setCell_same' _ _ _ (by rw [(h i hi).1]; rfl)]
    simp only [if_true]
  · rw [World.cell?_setCell_other _ _ _ _ (by intro q; have := congrArg Addr.off q; simp at this; omega)]
    simp only [if_neg e]
    exact (h i hi).1
abbrev nmsA (n : Nat) : Array Value := madeCells #[.int .i64 0] n
theorem nmsA_at (n i : Nat) (h : i < n) : (nmsA n)[i]? = some (.int .i64 0) := by
  unfold nmsA madeCells
  have h2 : i < ((Array.range n).map fun x => (#[Value.int .i64 0] : Array Value)[x % 1]!).size := by simp; omega
  show ((Array.range n).map fun x => (#[Value.int .i64 0] : Array Value)[x % 1]!)[i]? = _
  rw [Array.getElem?_eq_getElem h2]
  simp [Nat.mod_one]
theorem make_ints (n : Nat) (hn : n ≤ 1000000) (W : World) : (Instr.makeSlice 36 (.int .i64 n) (.int .i64 n)).run Try.prog W = .ok (.slice (some ⟨W.heap.size, 0, none⟩) n n) (W.alloc (.cells (nmsA n) 3)) := by
  obtain ⟨i0, hi, hz0, hz1, hz2⟩ := info_parts intInfo
  have h := run_make (P := Try.prog) W 36 3 i0 (.int .i64 0) Try.underlying36 hi hz0 .i64 .i64 (n : Int) (n : Int) (by omega) (Int.le_refl _) (by rw [hz2]; omega) (by omega)
  rw [hz1, Int.toNat_natCast, Nat.mul_one] at h
  exact h
theorem nmB_new (W : World) (n : Nat) : NmB (W.alloc (.cells (nmsA n) 3)) W.heap.size n (fun _ => 0) := by
  intro i hi
  have h := box_new W (nmsA n) 3
  refine ⟨?_, Lib.frozen_of_heap h i⟩
  rw [Lib.cell_of_heap h]; exact nmsA_at n i hi
/-- A byte that comes in. -/
abbrev bytV (x : Fin 256) : Value := .int .u8 ((x.val : Nat) : Int)
end Go.Proofs.Ythacjdlohmkpoaa
