/- DERIVED. Contract of the document's own Where. -/
import Derived.Test.YtamdcloahkacnaaDoorLexTe0
import Derived.Test.YtamdcloahkacnaaDoorLexTn0
namespace Go.Proofs.YtamdcloahkacnaaDoor
open Go.RowKit Go.WideMaps Go.Maps Go.Shelf
namespace M
def step (w : Int × Int) (c : UInt8) : Int × Int := if c = 10 then (w.1 + 1, 1) else (w.1, w.2 + 1)
/-- Line and column of a place. -/
def lc (s : List UInt8) (n : Nat) : Int × Int := (s.take n).foldl step (1, 1)
theorem lc_zero (s : List UInt8) : lc s 0 = (1, 1) := rfl
theorem lc_succ (s : List UInt8) (n : Nat) (h : n < s.length) : lc s (n + 1) = step (lc s n) s[n] := by
  unfold lc; rw [List.take_succ_eq_append_getElem h, List.foldl_append]; rfl
theorem lc_bound (s : List UInt8) : ∀ n, n ≤ s.length → 1 ≤ (lc s n).1 ∧ (lc s n).1 ≤ n + 1 ∧ 1 ≤ (lc s n).2 ∧ (lc s n).2 ≤ n + 1 := by
  intro n
  induction n with
  | zero => intro _; rw [lc_zero]; decide
  | succ n ih =>
    intro h
    obtain ⟨a, b, c, d⟩ := ih (by omega)
    rw [lc_succ s n (by omega)]
    unfold step
    split
    · dsimp only; omega
    · dsimp only; omega
def whereR (s : ByteArray) (a : Int) : (Int × Int) × Nat :=
  if (fault s.data.toList).2 ≠ 0 then ((0, 0), (fault s.data.toList).2) else if a < 0 ∨ (s.size : Int) < a then ((0, 0), 3) else (lc s.data.toList a.toNat, 0)
end M
abbrev whV (w : Int × Int) : Value := .agg #[.int .i64 w.1, .int .i64 w.2]

set_option maxHeartbeats 1000000 in
set_option maxRecDepth 100000 in
theorem refWhere_ok (s : ByteArray) (n : Nat) (w : World) (h : (M.fault s.data.toList).2 = 0) (hn : n ≤ s.size) :
    Calls Tryd.prog 9 #[.string s, .int .i64 n] w fun e w' => e = .returned (.tuple #[whV (M.lc s.data.toList n), .int .i64 0]) ∧ Below w.heap.size w w' := by
  have hsm : s.size ≤ 2500 := by rw [← M.size_list]; exact M.fault_small s.data.toList h
  obtain ⟨p, c, hf⟩ : ∃ p c, M.fault s.data.toList = (p, c) := ⟨_, _, rfl⟩
  rw [hf] at h
  dsimp only at h
  subst h
  have HF := Lib.hid hf
  clear hf
  have d1 : decide ((n : Int) < 0) = false := by simp
  have d2 : decide ((s.size : Int) < (n : Int)) = false := by simp; omega
  have hls := M.size_list s
  go_enter Tryd.func9, Tryd.ntmps9
  go_wp2_with fail
  refine (refCheck_any s _ (by unfold maxLen; omega)).mono ?_
  rintro e w1 ⟨rfl, hB1⟩
  rw [HF.out]
  have hr : w1.heap[w.heap.size]? = some (.cells #[.int .i64 0, .int .i64 0] 23 (0, 0)) := by rw [hB1.block _ (by simp)]; exact (MapKept.heap_alloc w _).1
  have hBw : Below w.heap.size w w1 := below2 (below1 w _) hB1
  have hlt : w.heap.size < w1.heap.size := by have := hB1.size; simp at this; omega
  have q0 : w1.cell? ⟨w.heap.size, 0, none⟩ = some (.int .i64 0) := by rw [Lib.cell_of_heap hr]; rfl
  have q1 : w1.cell? ⟨w.heap.size, 1, none⟩ = some (.int .i64 0) := by rw [Lib.cell_of_heap hr]; rfl
  have f0 := Lib.frozen_of_heap hr 0
  have f1 := Lib.frozen_of_heap hr 1
  clear hr hB1
  dsimp only
  go_wp2_with fail
  go_loopw [9] (fun i wr => ∃ k : Nat, k ≤ n ∧ i = .int .i64 k ∧ wr.cell? ⟨w1.heap.size, 0, none⟩ = some (.int .i64 (M.lc s.data.toList k).1) ∧ wr.cell? ⟨w1.heap.size, 1, none⟩ = some (.int .i64 (M.lc s.data.toList k).2) ∧ wr.frozen? ⟨w1.heap.size, 0, none⟩ = false ∧ wr.frozen? ⟨w1.heap.size, 1, none⟩ = false ∧ w1.heap.size < wr.heap.size ∧ Below w1.heap.size w1 wr) (fun i _ => n - (intOf i).toNat)
  case atStart =>
    refine ⟨0, by omega, rfl, ?_, ?_, ?_, ?_, by simp, below1 w1 _⟩
    · rw [World.cell?_alloc_new]; rfl
    · rw [World.cell?_alloc_new]; rfl
    · exact World.frozen?_alloc_new _ _ _ _
    · exact World.frozen?_alloc_new _ _ _ _
  case round =>
    rename_i wr
    obtain ⟨k, hk, rfl, x0, x1, g0, g1, hb, hB⟩ := hrel
    by_cases hkn : k < n
    · have hks : k < s.size := by omega
      obtain ⟨b1, b2, b3, b4⟩ := M.lc_bound s.data.toList k (by omega)
      have hsucc := M.lc_succ s.data.toList k (by omega)
      obtain ⟨c, hc⟩ : ∃ c, s[k]'hks = c := ⟨_, rfl⟩
      have hc2 : s.data.toList[k]'(by omega) = c := hc
      rw [hc2] at hsucc
      obtain ⟨⟨l, cl⟩, hlc⟩ : ∃ x, M.lc s.data.toList k = x := ⟨_, rfl⟩
      rw [hlc] at x0 x1 b1 b2 b3 b4 hsucc
      dsimp only at x0 x1 b1 b2 b3 b4
      have HSUCC := Lib.hid hsucc
      clear hsucc hlc hc2
      by_cases h10 : c.toNat = 10
      · have e1 : (((c.toNat : Nat) : Int) == 10) = true := by rw [h10]; rfl
        have hst : M.step (l, cl) c = (l + 1, 1) := by unfold M.step; rw [if_pos (UInt8.toNat_inj.1 h10)]
        go_wp2_with fail
        refine ⟨⟨k + 1, by omega, by simp, ?_, ?_, ?_, ?_, ?_, ?_⟩, by simp [intOf]; omega⟩
        · rw [HSUCC.out, hst]; simp [go_sem, x0]
        · rw [HSUCC.out, hst]; simp [go_sem, x1]
        · simp [g0]
        · simp [g1]
        · simpa using hb
        · exact ((hB.setCell (p := ⟨w1.heap.size, 1, none⟩) (Nat.le_refl _) _).setCell (p := ⟨w1.heap.size, 0, none⟩) (Nat.le_refl _) _).setCell (p := ⟨w1.heap.size, 1, none⟩) (Nat.le_refl _) _
      · have e1 : (((c.toNat : Nat) : Int) == 10) = false := by rw [beq_eq_false_iff_ne]; omega
        have hst : M.step (l, cl) c = (l, cl + 1) := by unfold M.step; rw [if_neg (fun q => h10 (by rw [q]; rfl))]
        go_wp2_with fail
        refine ⟨⟨k + 1, by omega, by simp, ?_, ?_, ?_, ?_, ?_, ?_⟩, by simp [intOf]; omega⟩
        · rw [HSUCC.out, hst]; simp [go_sem, x0]
        · rw [HSUCC.out, hst]; simp [go_sem, x1]
        · simp [g0]
        · simp [g1]
        · simpa using hb
        · exact hB.setCell (p := ⟨w1.heap.size, 1, none⟩) (Nat.le_refl _) _
    · have hkk : k = n := by omega
      subst hkk
      have y0 := cell_below q0 hB
      have y1 := cell_below q1 hB
      have z0 := ((bcell hB).2 w.heap.size 0 hlt).trans f0
      have z1 := ((bcell hB).2 w.heap.size 1 hlt).trans f1
      have hlt2 := Nat.lt_of_lt_of_le hlt hB.size
      go_wp2_with fail
      refine bodyPost_ret (v := .tuple #[whV (M.lc s.data.toList k), .int .i64 0]) (by simp [results, Tryd.results9, go_sem, y0, y1]) rfl ⟨rfl, ?_⟩
      exact ((below2 hBw hB).setCell (p := ⟨w.heap.size, 0, none⟩) (Nat.le_refl _) _).setCell (p := ⟨w.heap.size, 1, none⟩) (Nat.le_refl _) _

set_option maxHeartbeats 1000000 in
set_option maxRecDepth 100000 in
theorem refWhere_e1 (s : ByteArray) (a : Int) (w : World) (hs : s.size ≤ maxLen) (h : (M.fault s.data.toList).2 ≠ 0) :
    Calls Tryd.prog 9 #[.string s, .int .i64 a] w fun e w' => e = .returned (.tuple #[whV (0, 0), .int .i64 (M.fault s.data.toList).2]) ∧ Below w.heap.size w w' := by
  obtain ⟨p, c, hf⟩ : ∃ p c, M.fault s.data.toList = (p, c) := ⟨_, _, rfl⟩
  rw [hf] at h
  dsimp only at h
  have h3 : ((c : Int) == 0) = false := by rw [beq_eq_false_iff_ne]; omega
  have h4 : ((c : Int) != 0) = true := by rw [bne_iff_ne]; omega
  have HF := Lib.hid hf
  clear hf
  go_enter Tryd.func9, Tryd.ntmps9
  go_wp2_with fail
  refine (refCheck_any s _ hs).mono ?_
  rintro e w1 ⟨rfl, hB1⟩
  rw [HF.out]
  have hr : w1.heap[w.heap.size]? = some (.cells #[.int .i64 0, .int .i64 0] 23 (0, 0)) := by rw [hB1.block _ (by simp)]; exact (MapKept.heap_alloc w _).1
  have hBw : Below w.heap.size w w1 := below2 (below1 w _) hB1
  have hlt : w.heap.size < w1.heap.size := by have := hB1.size; simp at this; omega
  have q0 : w1.cell? ⟨w.heap.size, 0, none⟩ = some (.int .i64 0) := by rw [Lib.cell_of_heap hr]; rfl
  have q1 : w1.cell? ⟨w.heap.size, 1, none⟩ = some (.int .i64 0) := by rw [Lib.cell_of_heap hr]; rfl
  have f0 := Lib.frozen_of_heap hr 0
  have f1 := Lib.frozen_of_heap hr 1
  clear hr hB1
  dsimp only
  go_wp2_with fail
  refine bodyPost_ret (v := .tuple #[whV (0, 0), .int .i64 c]) (by simp [results, Tryd.results9, go_sem, q0, q1]) rfl ⟨by rw [HF.out], ?_⟩
  exact (hBw.setCell (p := ⟨w.heap.size, 0, none⟩) (Nat.le_refl _) _).setCell (p := ⟨w.heap.size, 1, none⟩) (Nat.le_refl _) _

set_option maxHeartbeats 1000000 in
set_option maxRecDepth 100000 in
theorem refWhere_e2 (s : ByteArray) (a : Int) (w : World) (h : (M.fault s.data.toList).2 = 0) (ha : a < 0 ∨ (s.size : Int) < a) :
    Calls Tryd.prog 9 #[.string s, .int .i64 a] w fun e w' => e = .returned (.tuple #[whV (0, 0), .int .i64 3]) ∧ Below w.heap.size w w' := by
  have hsm : s.size ≤ 2500 := by rw [← M.size_list]; exact M.fault_small s.data.toList h
  obtain ⟨p, c, hf⟩ : ∃ p c, M.fault s.data.toList = (p, c) := ⟨_, _, rfl⟩
  rw [hf] at h
  dsimp only at h
  subst h
  have HF := Lib.hid hf
  have hs : s.size ≤ maxLen := by unfold maxLen; omega
  clear hf
  by_cases h1 : a < 0
  · have d1 : decide (a < 0) = true := decide_eq_true h1
    clear ha
    go_enter Tryd.func9, Tryd.ntmps9
    go_wp2_with fail
    refine (refCheck_any s _ hs).mono ?_
    rintro e w1 ⟨rfl, hB1⟩
    rw [HF.out]
    have hr : w1.heap[w.heap.size]? = some (.cells #[.int .i64 0, .int .i64 0] 23 (0, 0)) := by rw [hB1.block _ (by simp)]; exact (MapKept.heap_alloc w _).1
    have hBw : Below w.heap.size w w1 := below2 (below1 w _) hB1
    have hlt : w.heap.size < w1.heap.size := by have := hB1.size; simp at this; omega
    have q0 : w1.cell? ⟨w.heap.size, 0, none⟩ = some (.int .i64 0) := by rw [Lib.cell_of_heap hr]; rfl
    have q1 : w1.cell? ⟨w.heap.size, 1, none⟩ = some (.int .i64 0) := by rw [Lib.cell_of_heap hr]; rfl
    have f0 := Lib.frozen_of_heap hr 0
    have f1 := Lib.frozen_of_heap hr 1
    clear hr hB1
    dsimp only
    go_wp2_with fail
    refine bodyPost_ret (v := .tuple #[whV (0, 0), .int .i64 3]) (by simp [results, Tryd.results9, go_sem, q0, q1]) rfl ⟨rfl, ?_⟩
    exact (hBw.setCell (p := ⟨w.heap.size, 0, none⟩) (Nat.le_refl _) _).setCell (p := ⟨w.heap.size, 1, none⟩) (Nat.le_refl _) _
  · have d1 : decide (a < 0) = false := decide_eq_false h1
    have d2 : decide ((s.size : Int) < a) = true := decide_eq_true (by omega)
    clear ha
    go_enter Tryd.func9, Tryd.ntmps9
    go_wp2_with fail
    refine (refCheck_any s _ hs).mono ?_
    rintro e w1 ⟨rfl, hB1⟩
    rw [HF.out]
    have hr : w1.heap[w.heap.size]? = some (.cells #[.int .i64 0, .int .i64 0] 23 (0, 0)) := by rw [hB1.block _ (by simp)]; exact (MapKept.heap_alloc w _).1
    have hBw : Below w.heap.size w w1 := below2 (below1 w _) hB1
    have hlt : w.heap.size < w1.heap.size := by have := hB1.size; simp at this; omega
    have q0 : w1.cell? ⟨w.heap.size, 0, none⟩ = some (.int .i64 0) := by rw [Lib.cell_of_heap hr]; rfl
    have q1 : w1.cell? ⟨w.heap.size, 1, none⟩ = some (.int .i64 0) := by rw [Lib.cell_of_heap hr]; rfl
    have f0 := Lib.frozen_of_heap hr 0
    have f1 := Lib.frozen_of_heap hr 1
    clear hr hB1
    dsimp only
    go_wp2_with fail
    refine bodyPost_ret (v := .tuple #[whV (0, 0), .int .i64 3]) (by simp [results, Tryd.results9, go_sem, q0, q1]) rfl ⟨rfl, ?_⟩
    exact (hBw.setCell (p := ⟨w.heap.size, 0, none⟩) (Nat.le_refl _) _).setCell (p := ⟨w.heap.size, 1, none⟩) (Nat.le_refl _) _

theorem refWhere_any (s : ByteArray) (a : Int) (w : World) (hs : s.size ≤ maxLen) :
    Calls Tryd.prog 9 #[.string s, .int .i64 a] w fun e w' => e = .returned (.tuple #[whV (M.whereR s a).1, .int .i64 (M.whereR s a).2]) ∧ Below w.heap.size w w' := by
  by_cases h : (M.fault s.data.toList).2 = 0
  · by_cases ha : a < 0 ∨ (s.size : Int) < a
    · have hr : M.whereR s a = ((0, 0), 3) := by unfold M.whereR; rw [if_neg (by rw [h]; simp), if_pos ha]
      rw [hr]; exact refWhere_e2 s a w h ha
    · have hr : M.whereR s a = (M.lc s.data.toList a.toNat, 0) := by unfold M.whereR; rw [if_neg (by rw [h]; simp), if_neg ha]
      obtain ⟨n, rfl⟩ := Int.eq_ofNat_of_zero_le (show 0 ≤ a by omega)
      rw [hr]; exact refWhere_ok s n w h (by omega)
  · have hr : M.whereR s a = ((0, 0), (M.fault s.data.toList).2) := by unfold M.whereR; rw [if_pos h]
    rw [hr]; exact refWhere_e1 s a w hs h

end Go.Proofs.YtamdcloahkacnaaDoor
