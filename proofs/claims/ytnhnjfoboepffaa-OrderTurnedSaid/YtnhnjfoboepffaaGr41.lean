/- Texts of one's own, joined: OrdAo. -/
import Derived.Test.YtnhnjfoboepffaaGr40
namespace Go.Proofs.Ytnhnjfoboepffaa
open Go.RowKit

/-- What Parts comes to. -/
def PartsPost (t : M.Tb) (a : Int) (w : World) (e : Ending) (w' : World) : Prop :=
  ((¬ M.form t ∧ e = .returned (.tuple #[.slice none 0 0, .int .i64 4])) ∨ (M.form t ∧ (M.brk t).1 ≠ 0 ∧ e = .returned (.tuple #[.slice none 0 0, .int .i64 12])) ∨
    (M.lat t ∧ M.inB t.elems.length a = false ∧ e = .returned (.tuple #[.slice none 0 0, .int .i64 7])) ∨
    (M.lat t ∧ M.inB t.elems.length a = true ∧ ∃ la c, e = .returned (.tuple #[.slice la (M.listN (M.prt t a.toNat) 12).length c, .int .i64 0]) ∧ (la = none → c = 0) ∧ (M.listN (M.prt t a.toNat) 12).length ≤ c ∧ IntSl w' la (M.listN (M.prt t a.toNat) 12))) ∧ Below w.heap.size w w'
theorem pp_1 {t : M.Tb} {a : Int} {w w' : World} (h : ¬ M.form t) (hB : Below w.heap.size w w') : PartsPost t a w (.returned (.tuple #[.slice none 0 0, .int .i64 4])) w' := ⟨Or.inl ⟨h, rfl⟩, hB⟩
theorem pp_2 {t : M.Tb} {a : Int} {w w' : World} (h : M.form t) (hk : (M.brk t).1 ≠ 0) (hB : Below w.heap.size w w') : PartsPost t a w (.returned (.tuple #[.slice none 0 0, .int .i64 12])) w' := ⟨Or.inr (Or.inl ⟨h, hk, rfl⟩), hB⟩
theorem pp_3 {t : M.Tb} {a : Int} {w w' : World} (h : M.lat t) (hin : M.inB t.elems.length a = false) (hB : Below w.heap.size w w') : PartsPost t a w (.returned (.tuple #[.slice none 0 0, .int .i64 7])) w' := ⟨Or.inr (Or.inr (Or.inl ⟨h, hin, rfl⟩)), hB⟩
theorem pp_4 {t : M.Tb} {a : Int} {w w' : World} {la : Option Addr} {c : Nat} (h : M.lat t) (hin : M.inB t.elems.length a = true) (h1 : la = none → c = 0) (h2 : (M.listN (M.prt t a.toNat) 12).length ≤ c) (h3 : IntSl w' la (M.listN (M.prt t a.toNat) 12)) (hB : Below w.heap.size w w') :
    PartsPost t a w (.returned (.tuple #[.slice la (M.listN (M.prt t a.toNat) 12).length c, .int .i64 0])) w' := ⟨Or.inr (Or.inr (Or.inr ⟨h, hin, la, c, rfl, h1, h2, h3⟩)), hB⟩
theorem all1 (n : Nat) (a : Int) : M.allN (fun i => M.inB n ([a].getD i 0)) [a].length = M.inB n a := by unfold M.allN; simp [List.range_succ]

set_option maxHeartbeats 8000000 in
set_option maxRecDepth 100000 in
theorem partsX_any (t : M.Tb) (p : Tp) (a : Int) (w : World) (hal : ∀ l, l ∈ t.above → l.length ≤ 1000000) (ht : TbIn w t p) : Calls Try.prog 26 #[tbV t p, .int .i64 a] w (PartsPost t a w) := by
  obtain ⟨ik, hik, hks⟩ := Option.map_eq_some_iff.1 knInfo
  have HIK := Lib.hid hik
  have HKS := Lib.hid hks
  have HC := Lib.hid (proved_any t p (w.alloc (.cells (tbA t p) 26)) hal (ht.below (below1 _ _)))
  obtain ⟨c0, c1, c2, c3⟩ := tbBox (t := t) (p := p) (box_new w (tbA t p) 26)
  clear ht hik hks hal
  go_enter Try.func26, Try.ntmps26
  go_wp2_with fail
  refine HC.out.mono ?_
  rintro e w1 ⟨⟨hf, rfl⟩ | ⟨hf, hk, rfl⟩ | ⟨hf, rfl⟩, hB1⟩
  · have HF := Lib.hid hf
    have hB := below2 (below1 w (.cells (tbA t p) 26)) hB1
    clear hf hB1 c0 c1 c2 c3
    go_wp2_with fail
    go_ret2
    exact pp_1 HF.out (belowA hB _)
  · have HF := Lib.hid hf
    have HK := Lib.hid hk
    have hB := below2 (below1 w (.cells (tbA t p) 26)) hB1
    clear hf hk hB1 c0 c1 c2 c3
    go_wp2_with fail
    go_ret2
    exact pp_2 HF.out HK.out (belowA hB _)
  · have HF := Lib.hid hf
    have hB := below2 (below1 w (.cells (tbA t p) 26)) hB1
    clear hf hB1 c0 c1 c2 c3
    have HKN := Lib.hid (box_new w1 (knA t p (M.know t)) 62)
    go_wp2_with (refine wpList_load_row _ rfl 62 _ rfl ik HIK.out (knAgg _) w1.heap.size (knA t p (M.know t)) 62 rfl HKN.out HKS.out ?_)
    refine (hasAll_any t p (M.know t) (some ⟨w1.heap.size + 1, 0, none⟩) 1 [a] _ (by show 1 ≤ 1000000; omega) (Or.inr ⟨w1.heap.size + 1, 0, rfl, by simp, fun i hi => by
        have : i = 0 := by simpa using hi
        subst this
        rw [World.cell?_alloc_at _ _ _ _ (by simp)]; rfl⟩)).mono ?_
    rintro e w2 ⟨rfl, hB2⟩
    rw [all1]
    have HK2 := Lib.hid (show w2.heap[w1.heap.size]? = some (.cells (knA t p (M.know t)) 62 (0, 0)) from by rw [hB2.block _ (by simp; omega), Below.heap_alloc _ _ _ (by simp)]; exact HKN.out)
    have hBf := below2 (belowA (belowA hB _) _) hB2
    clear hB hB2
    cases hin : M.inB t.elems.length a with
    | false =>
      have HIN := Lib.hid hin
      clear hin
      go_wp2_with fail
      go_ret2
      exact pp_3 HF.out HIN.out hBf
    | true =>
      have HIN := Lib.hid hin
      unfold M.inB at hin
      simp only [Bool.and_eq_true, decide_eq_true_eq] at hin
      obtain ⟨k, rfl⟩ : ∃ k : Nat, a = k := ⟨a.toNat, by omega⟩
      have hk12 : k < t.elems.length := by omega
      clear hin
      go_wp2_with (refine wpList_load_row _ rfl 62 _ rfl ik HIK.out (knAgg _) w1.heap.size (knA t p (M.know t)) 62 rfl HK2.out HKS.out ?_)
      refine (parts_any t p k _ HF.out.1 hk12).mono ?_
      rintro e w3 ⟨rfl, hB3⟩
      have hB4 := below2 hBf hB3
      clear hB3
      go_wp2_with fail
      refine (list_any (M.prt t k) _ (Nat.lt_trans (M.prt_lt t k) (by omega))).mono ?_
      rintro e w4 ⟨la, c, rfl, h1, h2, h3, hB5⟩
      have H1 := Lib.hid h1
      have H2 := Lib.hid h2
      have H3 := Lib.hid h3
      have hB6 := below2 hB4 hB5
      clear h1 h2 h3 hB5
      go_wp2_with fail
      go_ret2
      exact pp_4 HF.out HIN.out H1.out H2.out H3.out hB6
end Go.Proofs.Ytnhnjfoboepffaa
