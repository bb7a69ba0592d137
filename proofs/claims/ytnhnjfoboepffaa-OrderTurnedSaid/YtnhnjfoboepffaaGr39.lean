/- Texts of one's own, joined: OrdAm. -/
import Derived.Test.YtnhnjfoboepffaaGr36
import Derived.Test.YtnhnjfoboepffaaGr37
namespace Go.Proofs.Ytnhnjfoboepffaa
open Go.RowKit

/-- What Height comes to. -/
def HeightPost (t : M.Tb) (w : World) (e : Ending) (w' : World) : Prop :=
  ((¬ M.form t ∧ e = .returned (.tuple #[.int .i64 0, .int .i64 4])) ∨ (M.form t ∧ (M.brk t).1 ≠ 0 ∧ e = .returned (.tuple #[.int .i64 0, .int .i64 12])) ∨
    (M.lat t ∧ ∃ k : Nat, M.isH t 0 k ∧ e = .returned (.tuple #[.int .i64 k, .int .i64 0]))) ∧ Below w.heap.size w w'
theorem hp_1 {t : M.Tb} {w w' : World} (h : ¬ M.form t) (hB : Below w.heap.size w w') : HeightPost t w (.returned (.tuple #[.int .i64 0, .int .i64 4])) w' := ⟨Or.inl ⟨h, rfl⟩, hB⟩
theorem hp_2 {t : M.Tb} {w w' : World} (h : M.form t) (hk : (M.brk t).1 ≠ 0) (hB : Below w.heap.size w w') : HeightPost t w (.returned (.tuple #[.int .i64 0, .int .i64 12])) w' := ⟨Or.inr (Or.inl ⟨h, hk, rfl⟩), hB⟩
theorem hp_3 {t : M.Tb} {w w' : World} (h : M.lat t) {k : Nat} (hk : M.isH t 0 k) (hB : Below w.heap.size w w') : HeightPost t w (.returned (.tuple #[.int .i64 k, .int .i64 0])) w' := ⟨Or.inr (Or.inr ⟨h, k, hk, rfl⟩), hB⟩

set_option maxHeartbeats 8000000 in
set_option maxRecDepth 100000 in
theorem heightX_any (t : M.Tb) (p : Tp) (w : World) (hal : ∀ l, l ∈ t.above → l.length ≤ 1000000) (ht : TbIn w t p) : Calls Try.prog 25 #[tbV t p] w (HeightPost t w) := by
  obtain ⟨ik, hik, hks⟩ := Option.map_eq_some_iff.1 knInfo
  have HIK := Lib.hid hik
  have HKS := Lib.hid hks
  have HC := Lib.hid (proved_any t p (w.alloc (.cells (tbA t p) 26)) hal (ht.below (below1 _ _)))
  obtain ⟨c0, c1, c2, c3⟩ := tbBox (t := t) (p := p) (box_new w (tbA t p) 26)
  clear ht hik hks hal
  go_enter Try.func25, Try.ntmps25
  go_wp2_with fail
  refine HC.out.mono ?_
  rintro e w1 ⟨⟨hf, rfl⟩ | ⟨hf, hk, rfl⟩ | ⟨hf, rfl⟩, hB1⟩
  · have HF := Lib.hid hf
    have hB := below2 (below1 w (.cells (tbA t p) 26)) hB1
    clear hf hB1 c0 c1 c2 c3
    go_wp2_with fail
    go_ret2
    exact hp_1 HF.out (belowA hB _)
  · have HF := Lib.hid hf
    have HK := Lib.hid hk
    have hB := below2 (below1 w (.cells (tbA t p) 26)) hB1
    clear hf hk hB1 c0 c1 c2 c3
    go_wp2_with fail
    go_ret2
    exact hp_2 HF.out HK.out (belowA hB _)
  · have HF := Lib.hid hf
    have HG := Lib.hid (M.lat_good hf)
    have hB := below2 (below1 w (.cells (tbA t p) 26)) hB1
    clear hf hB1 c0 c1 c2 c3
    have HKN := Lib.hid (box_new w1 (knA t p (M.know t)) 62)
    go_wp2_with (refine wpList_load_row _ rfl 62 _ rfl ik HIK.out (knAgg _) w1.heap.size (knA t p (M.know t)) 62 rfl HKN.out HKS.out ?_)
    refine (height_any t p _ HG.out.form HG.out.nb.cyc).mono ?_
    rintro e w2 ⟨⟨k, hk, rfl⟩, hB2⟩
    have HK := Lib.hid hk
    have hBf := below2 (belowA hB _) hB2
    clear hk hB2
    go_wp2_with fail
    go_ret2
    exact hp_3 HF.out HK.out hBf
end Go.Proofs.Ytnhnjfoboepffaa
