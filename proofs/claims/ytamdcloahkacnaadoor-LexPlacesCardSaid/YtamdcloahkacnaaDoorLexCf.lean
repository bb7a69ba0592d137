/- DERIVED. Contract of the document's own At; the walks of the statements on places. -/
import Derived.Test.YtamdcloahkacnaaDoorLexCe
import Derived.Test.YtamdcloahkacnaaDoorLexSb
namespace Go.Proofs.YtamdcloahkacnaaDoor
open Go.RowKit Go.WideMaps Go.Maps Go.Shelf

set_option maxHeartbeats 2000000 in
set_option maxRecDepth 100000 in
theorem refAt_any (s : ByteArray) (v : Int × Int) (w : World) (hs : s.size ≤ maxLen) :
    Calls Tryd.prog 10 #[.string s, whV v] w fun e w' => e = .returned (.tuple #[.int .i64 (M.atR s v).1, .int .i64 (M.atR s v).2]) ∧ Below w.heap.size w w' := by
  by_cases h : (M.fault s.data.toList).2 = 0
  · have hsm : s.size ≤ 2500 := by rw [← M.size_list]; exact M.fault_small s.data.toList h
    have hno := M.atR_no s v h
    have hyes := M.atR_yes s v h
    have hwr : ∀ k : Nat, k ≤ s.size → M.whereR s k = (M.lc s.data.toList k, 0) := fun k hk => by
      unfold M.whereR
      rw [if_neg (by rw [h]; simp), if_neg (by omega), Int.toNat_natCast]
    obtain ⟨p, c, hf⟩ : ∃ p c, M.fault s.data.toList = (p, c) := ⟨_, _, rfl⟩
    rw [hf] at h
    dsimp only at h
    subst h
    have HF := Lib.hid hf
    have HNO := Lib.hid hno
    have HYES := Lib.hid hyes
    have HWR := Lib.hid hwr
    clear hf hno hyes hwr
    go_enter Tryd.func10, Tryd.ntmps10
    go_wp2_with fail
    refine (refCheck_any s _ hs).mono ?_
    rintro e w1 ⟨rfl, hB1⟩
    rw [HF.out]
    have hr0 := (hB1.block w.heap.size (by simp)).trans (MapKept.heap_alloc w _).1
    have hB := below2 (below1 w (.cells #[.int .i64 v.1, .int .i64 v.2] 23)) hB1
    have hz1 : w.heap.size < w1.heap.size := by have := hB1.size; simp at this; omega
    have z0 : w1.cell? ⟨w.heap.size, 0, none⟩ = some (.int .i64 v.1) := by rw [Lib.cell_of_heap hr0]; rfl
    have z1 : w1.cell? ⟨w.heap.size, 1, none⟩ = some (.int .i64 v.2) := by rw [Lib.cell_of_heap hr0]; rfl
    clear hr0 hB1
    dsimp only
    go_wp2_with fail
    go_loopw [8] (fun i wr => ∃ k : Nat, k ≤ s.size + 1 ∧ i = .int .i64 k ∧ Hid (∀ j, j < k → M.lc s.data.toList j ≠ v) ∧ Below w1.heap.size w1 wr) (fun i _ => s.size + 1 - (intOf i).toNat)
    case atStart => exact ⟨0, by omega, rfl, Lib.hid (fun j hj => by omega), Below.refl _ _⟩
    case round =>
      rename_i wr
      obtain ⟨k, hk, rfl, HA, hBr⟩ := hrel
      by_cases hks : k ≤ s.size
      · have q0 := cell_below z0 hBr
        have q1 := cell_below z1 hBr
        have hw := HWR.out k hks
        have HW := Lib.hid hw
        have n1 : (k : Int) ≤ (s.size : Int) := by omega
        have hq := fun W => eqWh_run (M.lc s.data.toList k) v W
        clear hw
        by_cases hkv : M.lc s.data.toList k = v
        · have e1 : M.eqWh (M.lc s.data.toList k) v = true := decide_eq_true hkv
          have hres := HYES.out k hks hkv
          have HRES := Lib.hid hres
          clear hres hkv
          go_wp2_with fail
          refine (refWhere_any s k wr hs).mono ?_
          rintro e w2 ⟨rfl, hB2⟩
          rw [HW.out]
          replace q0 := cell_below q0 hB2
          replace q1 := cell_below q1 hB2
          have hB3 := below2 (below2 hB hBr) hB2
          have hl2 : w.heap.size < w2.heap.size := by have := hBr.size; have := hB2.size; omega
          dsimp only
          go_wp2_with fail
          go_ret2
          exact ⟨by rw [HRES.out]; rfl, belowA hB3 _⟩
        · have e1 : M.eqWh (M.lc s.data.toList k) v = false := decide_eq_false hkv
          have HKV := Lib.hid hkv
          clear hkv
          go_wp2_with fail
          refine (refWhere_any s k wr hs).mono ?_
          rintro e w2 ⟨rfl, hB2⟩
          rw [HW.out]
          replace q0 := cell_below q0 hB2
          replace q1 := cell_below q1 hB2
          have hB3 := below2 hBr hB2
          have hl2 : w.heap.size < w2.heap.size := by have := hBr.size; have := hB2.size; omega
          dsimp only
          go_wp2_with fail
          refine ⟨⟨k + 1, by omega, by simp, Lib.hid (fun j hj => ?_), belowA hB3 _⟩, by simp [intOf]; omega⟩
          rcases Nat.lt_succ_iff_lt_or_eq.1 hj with q | rfl
          · exact HA.out j q
          · exact HKV.out
      · have n1 : ¬ (k : Int) ≤ (s.size : Int) := by omega
        have hres := HNO.out (fun j hj => HA.out j (by have := List.mem_range.1 hj; omega))
        have HRES := Lib.hid hres
        clear hres
        go_wp2_with fail
        go_ret2
        exact ⟨by rw [HRES.out]; rfl, below2 hB hBr⟩
  · have hr : M.atR s v = (0, (M.fault s.data.toList).2) := by unfold M.atR; rw [if_pos h]
    rw [hr]
    obtain ⟨p, c, hf⟩ : ∃ p c, M.fault s.data.toList = (p, c) := ⟨_, _, rfl⟩
    rw [hf] at h
    dsimp only at h
    have h3 : ((c : Int) == 0) = false := by rw [beq_eq_false_iff_ne]; omega
    have h4 : ((c : Int) != 0) = true := by rw [bne_iff_ne]; omega
    have HF := Lib.hid hf
    clear hf hr
    go_enter Tryd.func10, Tryd.ntmps10
    go_wp2_with fail
    refine (refCheck_any s _ hs).mono ?_
    rintro e w1 ⟨rfl, hB1⟩
    rw [HF.out]
    dsimp only
    go_wp2_with fail
    go_ret2
    exact ⟨by rw [HF.out]; rfl, below2 (below1 w _) hB1⟩
set_option maxHeartbeats 4000000 in
set_option maxRecDepth 100000 in
theorem lexPlaces_any (s : ByteArray) (a : Int) (v : Int × Int) (w : World) (hw : Ready w) (hs : s.size ≤ maxLen) :
    Calls Tryd.prog 3 #[.string s, .int .i64 a, whV v] w fun e w' => e = .returned (.bool true) ∧ Below w.heap.size w w' := by
  obtain ⟨ln, cl, we, hwr⟩ : ∃ ln cl we, M.whereR s a = ((ln, cl), we) := ⟨_, _, _, rfl⟩
  obtain ⟨ai, ae, har⟩ : ∃ ai ae, M.atR s v = (ai, ae) := ⟨_, _, rfl⟩
  have HWR := Lib.hid hwr
  have HAR := Lib.hid har
  have HW := Lib.hid hw
  clear hwr har hw
  by_cases h1 : 400 < s.size
  · have d1 : decide ((400 : Int) < (s.size : Int)) = true := decide_eq_true (by omega)
    by_cases h2 : s.size ≤ 2500
    · have d3 : decide ((s.size : Int) ≤ 2500) = true := decide_eq_true (by omega)
      clear h1 h2
      go_enter Tryd.func3, Tryd.ntmps3
      go_wp2_with fail
      refine (awake_any _ (HW.out.below (below1 w _))).mono ?_
      rintro e w8 ⟨rfl, hB2⟩
      go_wp2_with fail
      go_ret
      exact ⟨rfl, below2 (below1 w _) hB2⟩
    · have d3 : decide ((s.size : Int) ≤ 2500) = false := decide_eq_false (by omega)
      by_cases h3 : s.size ≤ 3000
      · have d2 : decide (s.size ≤ 3000) = true := decide_eq_true h3
        have D2 := Lib.hid d2
        clear d2 h1 h2
        go_enter Tryd.func3, Tryd.ntmps3
        go_wp2_with fail
        refine (short_any s _).mono ?_
        rintro e w1 ⟨rfl, hB1⟩
        rw [D2.out]
        have hr0 := (hB1.block w.heap.size (by simp)).trans (MapKept.heap_alloc w _).1
        have hB := below2 (below1 w (.cells #[.int .i64 v.1, .int .i64 v.2] 23)) hB1
        have hz1 : w.heap.size < w1.heap.size := by have := hB1.size; simp at this; omega
        have z0 : w1.cell? ⟨w.heap.size, 0, none⟩ = some (.int .i64 v.1) := by rw [Lib.cell_of_heap hr0]; rfl
        have z1 : w1.cell? ⟨w.heap.size, 1, none⟩ = some (.int .i64 v.2) := by rw [Lib.cell_of_heap hr0]; rfl
        clear hr0 hB1
        go_wp2_with fail
        refine (where_any s a _ hs).mono ?_
        rintro e w2 ⟨rfl, hB2⟩
        rw [HWR.out]
        replace z0 := cell_below z0 hB2
        replace z1 := cell_below z1 hB2
        replace hB := below2 hB hB2
        have hl2 : w.heap.size < w2.heap.size := by have := hB2.size; omega
        clear hB2
        dsimp only
        go_wp2_with fail
        refine (at_any s v _ hs).mono ?_
        rintro e w3 ⟨rfl, hB2⟩
        rw [HAR.out]
        have hr1 := (hB2.block w2.heap.size (by simp)).trans (MapKept.heap_alloc w2 _).1
        have u0 : w3.cell? ⟨w2.heap.size, 0, none⟩ = some (.int .i64 ln) := by rw [Lib.cell_of_heap hr1]; rfl
        have u1 : w3.cell? ⟨w2.heap.size, 1, none⟩ = some (.int .i64 cl) := by rw [Lib.cell_of_heap hr1]; rfl
        replace z0 := cell_below (cell_below z0 (below1 w2 (.cells #[.int .i64 ln, .int .i64 cl] 23))) hB2
        replace z1 := cell_below (cell_below z1 (below1 w2 (.cells #[.int .i64 ln, .int .i64 cl] 23))) hB2
        replace hB := below2 (belowA hB (.cells #[.int .i64 ln, .int .i64 cl] 23)) hB2
        have hl3 : w2.heap.size < w3.heap.size := by have := hB2.size; simp at this; omega
        clear hB2 hr1
        dsimp only
        go_wp2_with fail
        refine (refWhere_any s a _ hs).mono ?_
        rintro e w4 ⟨rfl, hB2⟩
        rw [HWR.out]
        replace u0 := cell_below u0 hB2
        replace u1 := cell_below u1 hB2
        replace z0 := cell_below z0 hB2
        replace z1 := cell_below z1 hB2
        replace hB := below2 hB hB2
        have hl4 : w2.heap.size < w4.heap.size := by have := hB2.size; omega
        have hl5 : w.heap.size < w4.heap.size := by omega
        clear hB2
        dsimp only
        go_wp2_with fail
        refine (refAt_any s v _ hs).mono ?_
        rintro e w5 ⟨rfl, hB2⟩
        rw [HAR.out]
        have hr1 := (hB2.block w4.heap.size (by simp)).trans (MapKept.heap_alloc w4 _).1
        have t0 : w5.cell? ⟨w4.heap.size, 0, none⟩ = some (.int .i64 ln) := by rw [Lib.cell_of_heap hr1]; rfl
        have t1 : w5.cell? ⟨w4.heap.size, 1, none⟩ = some (.int .i64 cl) := by rw [Lib.cell_of_heap hr1]; rfl
        replace u0 := cell_below (cell_below u0 (below1 w4 (.cells #[.int .i64 ln, .int .i64 cl] 23))) hB2
        replace u1 := cell_below (cell_below u1 (below1 w4 (.cells #[.int .i64 ln, .int .i64 cl] 23))) hB2
        replace hB := below2 (belowA hB (.cells #[.int .i64 ln, .int .i64 cl] 23)) hB2
        clear hB2 hr1 z0 z1
        have hq := fun W => eqWh_run (ln, cl) (ln, cl) W
        have e1 : M.eqWh (ln, cl) (ln, cl) = true := decide_eq_true rfl
        have b1 : ((we : Int) == (we : Int)) = true := beq_self_eq_true _
        have b2 : ((ai : Int) == (ai : Int)) = true := beq_self_eq_true _
        have b3 : ((ae : Int) == (ae : Int)) = true := beq_self_eq_true _
        dsimp only
        go_wp2_with fail
        refine (awake_any _ (HW.out.below hB)).mono ?_
        rintro e w8 ⟨rfl, hB2⟩
        go_wp2_with fail
        go_ret
        exact ⟨rfl, below2 hB hB2⟩
      · have d2 : decide (s.size ≤ 3000) = false := decide_eq_false h3
        have D2 := Lib.hid d2
        clear d2 h1 h2
        go_enter Tryd.func3, Tryd.ntmps3
        go_wp2_with fail
        refine (short_any s _).mono ?_
        rintro e w1 ⟨rfl, hB1⟩
        rw [D2.out]
        have hB := below2 (below1 w (.cells #[.int .i64 v.1, .int .i64 v.2] 23)) hB1
        clear hB1
        go_wp2_with fail
        refine (awake_any _ (HW.out.below hB)).mono ?_
        rintro e w8 ⟨rfl, hB2⟩
        go_wp2_with fail
        go_ret
        exact ⟨rfl, below2 hB hB2⟩
  · have d1 : decide ((400 : Int) < (s.size : Int)) = false := decide_eq_false (by omega)
    have d2 : decide (s.size ≤ 3000) = true := decide_eq_true (by omega)
    have D2 := Lib.hid d2
    clear d2 h1
    go_enter Tryd.func3, Tryd.ntmps3
    go_wp2_with fail
    refine (short_any s _).mono ?_
    rintro e w1 ⟨rfl, hB1⟩
    rw [D2.out]
    have hr0 := (hB1.block w.heap.size (by simp)).trans (MapKept.heap_alloc w _).1
    have hB := below2 (below1 w (.cells #[.int .i64 v.1, .int .i64 v.2] 23)) hB1
    have hz1 : w.heap.size < w1.heap.size := by have := hB1.size; simp at this; omega
    have z0 : w1.cell? ⟨w.heap.size, 0, none⟩ = some (.int .i64 v.1) := by rw [Lib.cell_of_heap hr0]; rfl
    have z1 : w1.cell? ⟨w.heap.size, 1, none⟩ = some (.int .i64 v.2) := by rw [Lib.cell_of_heap hr0]; rfl
    clear hr0 hB1
    go_wp2_with fail
    refine (where_any s a _ hs).mono ?_
    rintro e w2 ⟨rfl, hB2⟩
    rw [HWR.out]
    replace z0 := cell_below z0 hB2
    replace z1 := cell_below z1 hB2
    replace hB := below2 hB hB2
    have hl2 : w.heap.size < w2.heap.size := by have := hB2.size; omega
    clear hB2
    dsimp only
    go_wp2_with fail
    refine (at_any s v _ hs).mono ?_
    rintro e w3 ⟨rfl, hB2⟩
    rw [HAR.out]
    have hr1 := (hB2.block w2.heap.size (by simp)).trans (MapKept.heap_alloc w2 _).1
    have u0 : w3.cell? ⟨w2.heap.size, 0, none⟩ = some (.int .i64 ln) := by rw [Lib.cell_of_heap hr1]; rfl
    have u1 : w3.cell? ⟨w2.heap.size, 1, none⟩ = some (.int .i64 cl) := by rw [Lib.cell_of_heap hr1]; rfl
    replace z0 := cell_below (cell_below z0 (below1 w2 (.cells #[.int .i64 ln, .int .i64 cl] 23))) hB2
    replace z1 := cell_below (cell_below z1 (below1 w2 (.cells #[.int .i64 ln, .int .i64 cl] 23))) hB2
    replace hB := below2 (belowA hB (.cells #[.int .i64 ln, .int .i64 cl] 23)) hB2
    have hl3 : w2.heap.size < w3.heap.size := by have := hB2.size; simp at this; omega
    clear hB2 hr1
    dsimp only
    go_wp2_with fail
    refine (refWhere_any s a _ hs).mono ?_
    rintro e w4 ⟨rfl, hB2⟩
    rw [HWR.out]
    replace u0 := cell_below u0 hB2
    replace u1 := cell_below u1 hB2
    replace z0 := cell_below z0 hB2
    replace z1 := cell_below z1 hB2
    replace hB := below2 hB hB2
    have hl4 : w2.heap.size < w4.heap.size := by have := hB2.size; omega
    have hl5 : w.heap.size < w4.heap.size := by omega
    clear hB2
    dsimp only
    go_wp2_with fail
    refine (refAt_any s v _ hs).mono ?_
    rintro e w5 ⟨rfl, hB2⟩
    rw [HAR.out]
    have hr1 := (hB2.block w4.heap.size (by simp)).trans (MapKept.heap_alloc w4 _).1
    have t0 : w5.cell? ⟨w4.heap.size, 0, none⟩ = some (.int .i64 ln) := by rw [Lib.cell_of_heap hr1]; rfl
    have t1 : w5.cell? ⟨w4.heap.size, 1, none⟩ = some (.int .i64 cl) := by rw [Lib.cell_of_heap hr1]; rfl
    replace u0 := cell_below (cell_below u0 (below1 w4 (.cells #[.int .i64 ln, .int .i64 cl] 23))) hB2
    replace u1 := cell_below (cell_below u1 (below1 w4 (.cells #[.int .i64 ln, .int .i64 cl] 23))) hB2
    replace hB := below2 (belowA hB (.cells #[.int .i64 ln, .int .i64 cl] 23)) hB2
    clear hB2 hr1 z0 z1
    have hq := fun W => eqWh_run (ln, cl) (ln, cl) W
    have e1 : M.eqWh (ln, cl) (ln, cl) = true := decide_eq_true rfl
    have b1 : ((we : Int) == (we : Int)) = true := beq_self_eq_true _
    have b2 : ((ai : Int) == (ai : Int)) = true := beq_self_eq_true _
    have b3 : ((ae : Int) == (ae : Int)) = true := beq_self_eq_true _
    dsimp only
    go_wp2_with fail
    refine (awake_any _ (HW.out.below hB)).mono ?_
    rintro e w8 ⟨rfl, hB2⟩
    go_wp2_with fail
    go_ret
    exact ⟨rfl, below2 hB hB2⟩
end Go.Proofs.YtamdcloahkacnaaDoor
