/- Texts of one's own, joined: OrdY. -/
import Derived.Test.YtmgbdeomloklnaaGr11
namespace Go.Proofs.Ytmgbdeomloklnaa
open Go.RowKit

namespace M
theorem brk_kind {t : Tb} (h : (brk t).1 = 0) : brk t = (0, 0, 0) := by
  unfold brk at h ⊢
  split at h
  · simp at h
  · split at h
    · simp at h
    · split at h
      · simp only at h; unfold kindM at h; split at h <;> omega
      · split at h
        · simp at h
        · split at h
          · simp at h
          · rename_i h1 _ h2 _ h3 h4 _ h5
            simp_all
end M
/-- What Prove comes to. -/
def ProvePost (t : M.Tb) (w : World) (e : Ending) (w' : World) : Prop :=
  ((¬ M.form t ∧ e = .returned (.tuple #[brkV (0, 0, 0), .int .i64 4])) ∨ (M.form t ∧ (M.brk t).1 ≠ 0 ∧ e = .returned (.tuple #[brkV (M.brk t), .int .i64 12])) ∨
    (M.form t ∧ M.brk t = (0, 0, 0) ∧ e = .returned (.tuple #[brkV (0, 0, 0), .int .i64 0]))) ∧ Below w.heap.size w w'
theorem prove_1 {t : M.Tb} {w w' : World} (h : ¬ M.form t) (hB : Below w.heap.size w w') : ProvePost t w (.returned (.tuple #[brkV (0, 0, 0), .int .i64 4])) w' := ⟨Or.inl ⟨h, rfl⟩, hB⟩
theorem prove_2 {t : M.Tb} {w w' : World} (h : M.form t) (hk : (M.brk t).1 ≠ 0) (hB : Below w.heap.size w w') : ProvePost t w (.returned (.tuple #[brkV (M.brk t), .int .i64 12])) w' := ⟨Or.inr (Or.inl ⟨h, hk, rfl⟩), hB⟩
theorem prove_3 {t : M.Tb} {w w' : World} (h : M.form t) (hk : M.brk t = (0, 0, 0)) (hB : Below w.heap.size w w') : ProvePost t w (.returned (.tuple #[brkV (0, 0, 0), .int .i64 0])) w' := ⟨Or.inr (Or.inr ⟨h, hk, rfl⟩), hB⟩

/-- Whether a table is a lattice. -/
def M.lat (t : M.Tb) : Prop := M.form t ∧ M.brk t = (0, 0, 0)
/-- The error of a table that must be a lattice. -/
def LatPost (t : M.Tb) (w : World) (e : Ending) (w' : World) : Prop :=
  ((¬ M.form t ∧ e = .returned (.int .i64 4)) ∨ (M.form t ∧ (M.brk t).1 ≠ 0 ∧ e = .returned (.int .i64 12)) ∨ (M.lat t ∧ e = .returned (.int .i64 0))) ∧ Below w.heap.size w w'
theorem lat_1 {t : M.Tb} {w w' : World} (h : ¬ M.form t) (hB : Below w.heap.size w w') : LatPost t w (.returned (.int .i64 4)) w' := ⟨Or.inl ⟨h, rfl⟩, hB⟩
theorem lat_2 {t : M.Tb} {w w' : World} (h : M.form t) (hk : (M.brk t).1 ≠ 0) (hB : Below w.heap.size w w') : LatPost t w (.returned (.int .i64 12)) w' := ⟨Or.inr (Or.inl ⟨h, hk, rfl⟩), hB⟩
theorem lat_3 {t : M.Tb} {w w' : World} (h : M.lat t) (hB : Below w.heap.size w w') : LatPost t w (.returned (.int .i64 0)) w' := ⟨Or.inr (Or.inr ⟨h, rfl⟩), hB⟩

end Go.Proofs.Ytmgbdeomloklnaa
