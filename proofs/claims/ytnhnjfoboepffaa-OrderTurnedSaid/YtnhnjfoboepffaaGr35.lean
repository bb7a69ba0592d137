/- Texts of one's own, joined: OrdAf, OrdAg. -/
import Derived.Test.YtnhnjfoboepffaaGr34
import Derived.Test.YtnhnjfoboepffaaGr32
namespace Go.Proofs.Ytnhnjfoboepffaa
open Go.RowKit

theorem proved_any (t : M.Tb) (p : Tp) (w : World) (hal : ∀ l, l ∈ t.above → l.length ≤ 1000000) (ht : TbIn w t p) : Calls Try.prog 28 #[tbV t p] w (ProvedPost t p w) := by
  by_cases hf : M.form t
  · by_cases hk : (M.brk t).1 = 0
    · exact proved_c3 t p w hf hk hal ht
    · exact proved_c2 t p w hf hk hal ht
  · exact proved_c1 t p w hf hal ht
end Go.Proofs.Ytnhnjfoboepffaa

namespace Go.Proofs.Ytnhnjfoboepffaa
open Go.RowKit

namespace M
/-- The join of two elements. -/
def jnD (t : Tb) (a b : Nat) : Nat := (jn t a b).getD 0
theorem joinM_fst {t : Tb} (hf : form t) {a b : Nat} (ha : a < t.elems.length) (hb : b < t.elems.length) : (joinM (know t) t.elems.length a b).1 = (jnD t a b : Int) := by
  rw [joinM_jn hf ha hb]
  unfold jnD
  cases jn t a b <;> rfl
end M
/-- What Join comes to. -/
def JoinPost (t : M.Tb) (a b : Int) (w : World) (e : Ending) (w' : World) : Prop :=
  ((¬ M.form t ∧ e = .returned (.tuple #[.int .i64 0, .int .i64 4])) ∨ (M.form t ∧ (M.brk t).1 ≠ 0 ∧ e = .returned (.tuple #[.int .i64 0, .int .i64 12])) ∨
    (M.lat t ∧ (M.inB t.elems.length a && M.inB t.elems.length b) = false ∧ e = .returned (.tuple #[.int .i64 0, .int .i64 7])) ∨
    (M.lat t ∧ (M.inB t.elems.length a && M.inB t.elems.length b) = true ∧ e = .returned (.tuple #[.int .i64 (M.jnD t a.toNat b.toNat : Nat), .int .i64 0]))) ∧ Below w.heap.size w w'
theorem jp_1 {t : M.Tb} {a b : Int} {w w' : World} (h : ¬ M.form t) (hB : Below w.heap.size w w') : JoinPost t a b w (.returned (.tuple #[.int .i64 0, .int .i64 4])) w' := ⟨Or.inl ⟨h, rfl⟩, hB⟩
theorem jp_2 {t : M.Tb} {a b : Int} {w w' : World} (h : M.form t) (hk : (M.brk t).1 ≠ 0) (hB : Below w.heap.size w w') : JoinPost t a b w (.returned (.tuple #[.int .i64 0, .int .i64 12])) w' := ⟨Or.inr (Or.inl ⟨h, hk, rfl⟩), hB⟩
theorem jp_3 {t : M.Tb} {a b : Int} {w w' : World} (h : M.lat t) (hin : (M.inB t.elems.length a && M.inB t.elems.length b) = false) (hB : Below w.heap.size w w') : JoinPost t a b w (.returned (.tuple #[.int .i64 0, .int .i64 7])) w' := ⟨Or.inr (Or.inr (Or.inl ⟨h, hin, rfl⟩)), hB⟩
theorem jp_4 {t : M.Tb} {a b : Int} {w w' : World} (h : M.lat t) (hin : (M.inB t.elems.length a && M.inB t.elems.length b) = true) (hB : Below w.heap.size w w') : JoinPost t a b w (.returned (.tuple #[.int .i64 (M.jnD t a.toNat b.toNat : Nat), .int .i64 0])) w' := ⟨Or.inr (Or.inr (Or.inr ⟨h, hin, rfl⟩)), hB⟩
theorem all2 (n : Nat) (a b : Int) : M.allN (fun i => M.inB n ([a, b].getD i 0)) [a, b].length = (M.inB n a && M.inB n b) := by unfold M.allN; simp [List.range_succ]

set_option maxHeartbeats 8000000 in
set_option maxRecDepth 100000 in
theorem joinX_any (t : M.Tb) (p : Tp) (a b : Int) (w : World) (hal : ∀ l, l ∈ t.above → l.length ≤ 1000000) (ht : TbIn w t p) : Calls Try.prog 22 #[tbV t p, .int .i64 a, .int .i64 b] w (JoinPost t a b w) := by
  obtain ⟨ik, hik, hks⟩ := Option.map_eq_some_iff.1 knInfo
  have HIK := Lib.hid hik
  have HKS := Lib.hid hks
  have HC := Lib.hid (proved_any t p (w.alloc (.cells (tbA t p) 26)) hal (ht.below (below1 _ _)))
  obtain ⟨c0, c1, c2, c3⟩ := tbBox (t := t) (p := p) (box_new w (tbA t p) 26)
  clear ht hik hks hal
  go_enter Try.func22, Try.ntmps22
  go_wp2_with fail
  refine HC.out.mono ?_
  rintro e w1 ⟨⟨hf, rfl⟩ | ⟨hf, hk, rfl⟩ | ⟨hf, rfl⟩, hB1⟩
  · have HF := Lib.hid hf
    have hB := below2 (below1 w (.cells (tbA t p) 26)) hB1
    clear hf hB1 c0 c1 c2 c3
    go_wp2_with fail
    go_ret2
    exact jp_1 HF.out (belowA hB _)
  · have HF := Lib.hid hf
    have HK := Lib.hid hk
    have hB := below2 (below1 w (.cells (tbA t p) 26)) hB1
    clear hf hk hB1 c0 c1 c2 c3
    go_wp2_with fail
    go_ret2
    exact jp_2 HF.out HK.out (belowA hB _)
  · have HF := Lib.hid hf
    have hB := below2 (below1 w (.cells (tbA t p) 26)) hB1
    clear hf hB1 c0 c1 c2 c3
    have HKN := Lib.hid (box_new w1 (knA t p (M.know t)) 62)
    have HKL := Lib.hid (M.know_lt HF.out.1)
    have hn12 : t.elems.length ≤ 12 := HF.out.1.twelve
    go_wp2_with (refine wpList_load_row _ rfl 62 _ rfl ik HIK.out (knAgg _) w1.heap.size (knA t p (M.know t)) 62 rfl HKN.out HKS.out ?_)
    refine (hasAll_any t p (M.know t) (some ⟨w1.heap.size + 1, 0, none⟩) 2 [a, b] _ (by show 2 ≤ 1000000; omega) (Or.inr ⟨w1.heap.size + 1, 0, rfl, by simp, fun i hi => by
        rw [World.cell?_alloc_at _ _ _ _ (by simp)]
        have h2 : i < 2 := hi
        match i, h2 with
        | 0, _ => rfl
        | 1, _ => rfl⟩)).mono ?_
    rintro e w2 ⟨rfl, hB2⟩
    rw [all2]
    have HK2 := Lib.hid (show w2.heap[w1.heap.size]? = some (.cells (knA t p (M.know t)) 62 (0, 0)) from by rw [hB2.block _ (by simp; omega), Below.heap_alloc _ _ _ (by simp)]; exact HKN.out)
    have hBf := below2 (belowA (belowA hB _) _) hB2
    clear hB hB2
    cases hin : (M.inB t.elems.length a && M.inB t.elems.length b) with
    | false =>
      have HIN := Lib.hid hin
      clear hin
      go_wp2_with fail
      go_ret2
      exact jp_3 HF.out HIN.out hBf
    | true =>
      have HIN := Lib.hid hin
      unfold M.inB at hin
      simp only [Bool.and_eq_true, decide_eq_true_eq] at hin
      obtain ⟨k, rfl⟩ : ∃ k : Nat, a = k := ⟨a.toNat, by omega⟩
      obtain ⟨j, rfl⟩ : ∃ j : Nat, b = j := ⟨b.toNat, by omega⟩
      have HJ := Lib.hid (M.joinM_fst HF.out.1 (show k < t.elems.length by omega) (show j < t.elems.length by omega))
      have hk12 : k < 12 := by omega
      have hj12 : j < 12 := by omega
      clear hin
      go_wp2_with (refine wpList_load_row _ rfl 62 _ rfl ik HIK.out (knAgg _) w1.heap.size (knA t p (M.know t)) 62 rfl HK2.out HKS.out ?_)
      refine (join_any t p (M.know t) k j _ HKL.out hn12 hk12 hj12).mono ?_
      rintro e w3 ⟨rfl, hB3⟩
      rw [HJ.out]
      have hB4 := below2 hBf hB3
      clear hB3
      go_wp2_with fail
      go_ret2
      exact jp_4 HF.out HIN.out hB4
end Go.Proofs.Ytnhnjfoboepffaa
