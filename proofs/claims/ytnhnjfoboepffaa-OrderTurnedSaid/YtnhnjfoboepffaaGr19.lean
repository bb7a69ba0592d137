/- Texts of one's own, joined: OrdR. -/
import Derived.Test.YtnhnjfoboepffaaGr18
import Derived.Test.YtnhnjfoboepffaaGr14
namespace Go.Proofs.Ytnhnjfoboepffaa
open Go.RowKit

/-- Whether all that is above an element, of the first numbers, is as wrong as it. -/
def M.soWrong (t : M.Tb) (r : Nat → Nat) (a k : Nat) : Prop := ∀ b, b < k → (r a).testBit b = true → t.wrong.getD b false = true
/-- What wrongBreak comes to. -/
def WrongPost (t : M.Tb) (r : Nat → Nat) (w : World) (e : Ending) (w' : World) : Prop :=
  ((t.wrong.getD 0 false = true ∧ e = .returned (.agg #[.int .u8 5, .int .i64 0, .int .i64 0])) ∨
    (t.wrong.getD 0 false = false ∧ ∃ a b : Nat, a < t.elems.length ∧ b < t.elems.length ∧ t.wrong.getD a false = true ∧ (r a).testBit b = true ∧ t.wrong.getD b false = false ∧ (∀ a', a' < a → t.wrong.getD a' false = true → M.soWrong t r a' 12) ∧ M.soWrong t r a b ∧ e = .returned (.agg #[.int .u8 5, .int .i64 a, .int .i64 b])) ∨
    (t.wrong.getD 0 false = false ∧ (∀ a, a < t.elems.length → t.wrong.getD a false = true → M.soWrong t r a 12) ∧ e = .returned (.agg #[.int .u8 0, .int .i64 0, .int .i64 0]))) ∧ Below w.heap.size w w'
theorem set3_at (W : World) (R : Nat) (x y z a b c : Value) (h0 : W.cell? ⟨R, 0, none⟩ = some a) (h1 : W.cell? ⟨R, 1, none⟩ = some b) (h2 : W.cell? ⟨R, 2, none⟩ = some c) :
    (((W.setCell ⟨R, 0, none⟩ x).setCell ⟨R, 1, none⟩ y).setCell ⟨R, 2, none⟩ z).cell? ⟨R, 0, none⟩ = some x ∧ (((W.setCell ⟨R, 0, none⟩ x).setCell ⟨R, 1, none⟩ y).setCell ⟨R, 2, none⟩ z).cell? ⟨R, 1, none⟩ = some y ∧ (((W.setCell ⟨R, 0, none⟩ x).setCell ⟨R, 1, none⟩ y).setCell ⟨R, 2, none⟩ z).cell? ⟨R, 2, none⟩ = some z := by
  refine ⟨?_, ?_, ?_⟩
  · rw [set_other _ _ _ _ _ (by decide), set_other _ _ _ _ _ (by decide)]; exact set_same _ _ _ _ _ h0
  · rw [set_other _ _ _ _ _ (by decide)]; exact set_same _ _ _ _ _ (by rw [set_other _ _ _ _ _ (by decide)]; exact h1)
  · exact set_same _ _ _ _ _ (by rw [set_other _ _ _ _ _ (by decide), set_other _ _ _ _ _ (by decide)]; exact h2)
theorem below_set3 {w W : World} {R : Nat} (h : Below w.heap.size w W) (hR : w.heap.size ≤ R) (x y z : Value) : Below w.heap.size w (((W.setCell ⟨R, 0, none⟩ x).setCell ⟨R, 1, none⟩ y).setCell ⟨R, 2, none⟩ z) :=
  ((h.setCell (p := ⟨R, 0, none⟩) hR x).setCell (p := ⟨R, 1, none⟩) hR y).setCell (p := ⟨R, 2, none⟩) hR z

set_option maxHeartbeats 4000000 in
set_option maxRecDepth 100000 in
theorem wrong_first (t : M.Tb) (p : Tp) (r : Nat → Nat) (w : World) (ht : TbIn w t p) (h1 : 1 ≤ t.wrong.length) (h0 : t.wrong.getD 0 false = true) :
    Calls Try.prog 67 #[knV t p r] w (WrongPost t r w) := by
  obtain ⟨pea, pec, paa, pac, pwa, pwc⟩ := p
  have hBB : Below w.heap.size w ((w.alloc (.cells (knA t ⟨pea, pec, paa, pac, pwa, pwc⟩ r) 62)).alloc (.cells #[.int .u8 0, .int .i64 0, .int .i64 0] 45)) := belowA (below1 _ _) _
  have hk := (knBox (t := t) (p := ⟨pea, pec, paa, pac, pwa, pwc⟩) (r := r) (box_new w (knA t ⟨pea, pec, paa, pac, pwa, pwc⟩ r) 62)).below (below1 _ (.cells #[.int .u8 0, .int .i64 0, .int .i64 0] 45))
  obtain ⟨b, off, ea, ha⟩ := (ht.below hBB).ws.at h1
  dsimp only at ea
  subst ea
  have q := ha.at_ 0 h1
  rw [← getD_in t.wrong false 0 h1, h0, Nat.add_zero] at q
  have hrr := Lib.hid (box_last w (.cells (knA t ⟨pea, pec, paa, pac, some ⟨b, off, none⟩, pwc⟩ r) 62) #[.int .u8 0, .int .i64 0, .int .i64 0] 45)
  have c3 := hk.c3
  have HB := Lib.hid hBB
  have n1 : (0 : Int) < (t.wrong.length : Int) := by omega
  have H0 := Lib.hid h0
  clear hk ha ht hBB h0 hrr
  go_enter Try.func67, Try.ntmps67
  go_wp2_with fail
  exact bodyPost_ret (v := .agg #[.int .u8 5, .int .i64 0, .int .i64 0]) (by simp [results, Try.results67, go_sem]) rfl ⟨Or.inl ⟨H0.out, rfl⟩, belowA (below1 _ _) _⟩

theorem M.listN_sorted (m k : Nat) : (M.listN m k).Pairwise (· < ·) := by
  unfold M.listN
  rw [List.pairwise_map]
  exact (List.pairwise_lt_range.filter _).imp fun h => by omega
theorem M.listN_before (m k j : Nat) (hj : j < (M.listN m k).length) (b' : Nat) (h1 : (b' : Int) < (M.listN m k)[j]) (h2 : m.testBit b' = true) (h3 : b' < k) : ∃ i, ∃ h : i < (M.listN m k).length, i < j ∧ (M.listN m k)[i] = b' := by
  obtain ⟨i, hi, e⟩ := List.getElem_of_mem ((M.listN_mem m k b').2 ⟨b', rfl, h3, h2⟩)
  refine ⟨i, hi, ?_, e⟩
  have hs := List.pairwise_iff_getElem.1 (M.listN_sorted m k)
  rcases Nat.lt_or_ge i j with h | h
  · exact h
  · exfalso
    rcases Nat.lt_or_eq_of_le h with h | rfl
    · have := hs j i hj hi h; omega
    · omega

set_option maxHeartbeats 8000000 in
set_option maxRecDepth 100000 in
theorem wrong_rest (t : M.Tb) (p : Tp) (r : Nat → Nat) (w : World) (ht : TbIn w t p) (h1 : 1 ≤ t.wrong.length) (hn : t.wrong.length = t.elems.length) (h12 : t.elems.length ≤ 12) (hr : ∀ a, r a < 4096) (hin : ∀ a b, a < t.elems.length → (r a).testBit b = true → b < t.elems.length) (h0 : t.wrong.getD 0 false = false) :
    Calls Try.prog 67 #[knV t p r] w (WrongPost t r w) := by
  obtain ⟨pea, pec, paa, pac, pwa, pwc⟩ := p
  have hBB : Below w.heap.size w ((w.alloc (.cells (knA t ⟨pea, pec, paa, pac, pwa, pwc⟩ r) 62)).alloc (.cells #[.int .u8 0, .int .i64 0, .int .i64 0] 45)) := belowA (below1 _ _) _
  have hk := (knBox (t := t) (p := ⟨pea, pec, paa, pac, pwa, pwc⟩) (r := r) (box_new w (knA t ⟨pea, pec, paa, pac, pwa, pwc⟩ r) 62)).below (below1 _ (.cells #[.int .u8 0, .int .i64 0, .int .i64 0] 45))
  have hrr := Lib.hid (box_last w (.cells (knA t ⟨pea, pec, paa, pac, pwa, pwc⟩ r) 62) #[.int .u8 0, .int .i64 0, .int .i64 0] 45)
  obtain ⟨b, off, ea, ha⟩ := (ht.below hBB).ws.at h1
  dsimp only at ea
  subst ea
  have q := ha.at_ 0 h1
  rw [← getD_in t.wrong false 0 h1, h0, Nat.add_zero] at q
  have HA := Lib.hid ha
  have HK := Lib.hid hk
  have c3 := hk.c3
  have HB := Lib.hid hBB
  have n0 : (0 : Int) < (t.wrong.length : Int) := by omega
  have H0 := Lib.hid h0
  have HIN := Lib.hid hin
  have HR := Lib.hid hr
  clear hk ha ht hBB h0 hin hr
  obtain ⟨W0, hW0⟩ : ∃ W0, ((w.alloc (.cells (knA t ⟨pea, pec, paa, pac, some ⟨b, off, none⟩, pwc⟩ r) 62)).alloc (.cells #[.int .u8 0, .int .i64 0, .int .i64 0] 45)) = W0 := ⟨_, rfl⟩
  have hz0 : w.heap.size + 1 < W0.heap.size := by rw [← hW0]; simp
  rw [hW0] at HA HK c3 HB hrr q
  go_enter Try.func67, Try.ntmps67
  go_wp2_with fail
  clear hW0 c3 q
  go_loopw [17] (fun i wr => ∃ k : Nat, k ≤ t.wrong.length ∧ i = .int .i64 k ∧ Hid (∀ a', a' < k → t.wrong.getD a' false = true → M.soWrong t r a' 12) ∧ Below W0.heap.size W0 wr) (fun i _ => t.wrong.length - (intOf i).toNat)
  case atStart => exact ⟨0, by omega, rfl, Lib.hid (fun a' h => by omega), Below.refl _ _⟩
  case round =>
    rename_i wr
    obtain ⟨k, hk, rfl, HALL, hB⟩ := hrel
    by_cases hkl : k < t.wrong.length
    · have q := (HA.out.below hB).at_ k hkl
      rw [← getD_in t.wrong false k hkl] at q
      have n1 : (k : Int) < (t.wrong.length : Int) := by omega
      have n2 : (0 : Int) ≤ (k : Int) := by omega
      have n3 : (k : Int) < 12 := by omega
      cases hv : t.wrong.getD k false with
      | false =>
        rw [hv] at q
        have HN := Lib.hid (show ∀ a', a' < k + 1 → t.wrong.getD a' false = true → M.soWrong t r a' 12 from fun a' h hq => by
          rcases Nat.lt_succ_iff_lt_or_eq.1 h with h | rfl
          · exact HALL.out a' h hq
          · rw [hv] at hq; cases hq)
        clear hv
        go_wp2_with fail
        go_roundw
        case rel => exact ⟨k + 1, by omega, by go_num, HN, hB⟩
        case measure => simp [intOf]; omega
      | true =>
        rw [hv] at q
        have HV := Lib.hid hv
        have hm := (HK.out.below hB).m k (by omega)
        clear hv
        go_wp2_with fail
        refine (list_any (r k) _ (Nat.lt_trans (HR.out k) (by omega))).mono ?_
        rintro e w1 ⟨la, lc, rfl, _, _, hl, hB1⟩
        have HL := Lib.hid hl
        have hB2 := below2 hB hB1
        have hle := M.listN_le (r k) 12
        clear hl hm q hB hB1
        go_wp2_with fail
        go_loopw [30] (fun i wx => ∃ j : Nat, j ≤ (M.listN (r k) 12).length ∧ i = .int .i64 j ∧ Hid (∀ i, (h : i < (M.listN (r k) 12).length) → i < j → t.wrong.getD ((M.listN (r k) 12)[i]).toNat false = true) ∧ Below w1.heap.size w1 wx) (fun i _ => (M.listN (r k) 12).length - (intOf i).toNat)
        case atStart => exact ⟨0, by omega, rfl, Lib.hid (fun i h hi => by omega), Below.refl _ _⟩
        case round =>
          rename World => wx
          obtain ⟨j, hj, rfl, HJ, hBx⟩ := hrel
          by_cases hjl : j < (M.listN (r k) 12).length
          · obtain ⟨lb, lo, rfl, hla⟩ := (HL.out.below hBx).at hjl
            have y0 := hla.at_ j hjl
            obtain ⟨bb, hbe, hb12, hbit⟩ := (M.listN_mem (r k) 12 _).1 (List.getElem_mem hjl)
            have hbn := HIN.out k bb (by omega) hbit
            have hB3 := below2 hB2 hBx
            have y1 := (HA.out.below hB3).at_ bb (by omega)
            rw [← getD_in t.wrong false bb (by omega)] at y1
            have y3 := cell_below HK.out.c3 hB3
            have m1 : (j : Int) < ((M.listN (r k) 12).length : Int) := by omega
            have m2 : (0 : Int) ≤ (j : Int) := by omega
            have m3 : (bb : Int) < (t.wrong.length : Int) := by omega
            have m4 : (0 : Int) ≤ (bb : Int) := by omega
            have HBE := Lib.hid hbe
            rw [hbe] at y0
            cases hv : t.wrong.getD bb false with
            | true =>
              rw [hv] at y1
              have HN := Lib.hid (show ∀ i, (h : i < (M.listN (r k) 12).length) → i < j + 1 → t.wrong.getD ((M.listN (r k) 12)[i]).toNat false = true from fun i h hi => by
                rcases Nat.lt_succ_iff_lt_or_eq.1 hi with hi | rfl
                · exact HJ.out i h hi
                · rw [HBE.out, Int.toNat_natCast]; exact hv)
              clear hv hbe hla hbit
              go_wp2_with fail
              go_roundw
              case rel => exact ⟨j + 1, by omega, by go_num, HN, hBx⟩
              case measure => simp [intOf]; omega
            | false =>
              rw [hv] at y1
              have HVV := Lib.hid hv
              have HBIT := Lib.hid hbit
              have hso : M.soWrong t r k bb := fun b' h1 h2 => by
                obtain ⟨i, hi, hij, e⟩ := M.listN_before (r k) 12 j hjl b' (by rw [HBE.out]; omega) h2 (by omega)
                have := HJ.out i hi hij
                rw [e, Int.toNat_natCast] at this
                exact this
              have HSO := Lib.hid hso
              have r0 := cell_below ((Lib.cell_of_heap hrr.out 0).trans (show _ = some (Value.int .u8 0) from rfl)) hB3
              have r1 := cell_below ((Lib.cell_of_heap hrr.out 1).trans (show _ = some (Value.int .i64 0) from rfl)) hB3
              have r2 := cell_below ((Lib.cell_of_heap hrr.out 2).trans (show _ = some (Value.int .i64 0) from rfl)) hB3
              have g0 := ((bcell hB3).2 _ 0 hz0).trans (Lib.frozen_of_heap hrr.out 0)
              have g1 := ((bcell hB3).2 _ 1 hz0).trans (Lib.frozen_of_heap hrr.out 1)
              have g2 := ((bcell hB3).2 _ 2 hz0).trans (Lib.frozen_of_heap hrr.out 2)
              obtain ⟨q0, q1, q2⟩ := set3_at _ _ (.int .u8 5) (.int .i64 k) (.int .i64 bb) _ _ _ r0 r1 r2
              have hBf : Below w.heap.size w wx := HB.out.trans (hB3.mono (by omega))
              have hBU := below_set3 (R := w.heap.size + 1) hBf (by omega) (.int .u8 5) (.int .i64 k) (.int .i64 bb)
              have hkn : k < t.elems.length := by omega
              clear hv hbe hla hbit hso hBf
              go_wp2_with fail
              exact bodyPost_ret (v := .agg #[.int .u8 5, .int .i64 k, .int .i64 bb]) (by simp [results, Try.results67, go_sem, q0, q1, q2]) rfl ⟨Or.inr (Or.inl ⟨H0.out, k, bb, hkn, hbn, HV.out, HBIT.out, HVV.out, HALL.out, HSO.out, rfl⟩), hBU⟩
          · obtain rfl : j = (M.listN (r k) 12).length := by omega
            have m1 : decide (((M.listN (r k) 12).length : Int) < ((M.listN (r k) 12).length : Int)) = false := decide_eq_false (by omega)
            have HN := Lib.hid (show ∀ a', a' < k + 1 → t.wrong.getD a' false = true → M.soWrong t r a' 12 from fun a' h hq => by
              rcases Nat.lt_succ_iff_lt_or_eq.1 h with h | rfl
              · exact HALL.out a' h hq
              · intro b' hb' hbit
                obtain ⟨i, hi, e⟩ := List.getElem_of_mem ((M.listN_mem (r a') 12 b').2 ⟨b', rfl, hb', hbit⟩)
                have := HJ.out i hi hi
                rw [e, Int.toNat_natCast] at this
                exact this)
            have hB3 := below2 hB2 hBx
            go_wp2_with fail
            go_roundw
            case rel => exact ⟨k + 1, by omega, by go_num, HN, hB3⟩
            case measure => simp [intOf]; omega
    · obtain rfl : k = t.wrong.length := by omega
      have m1 : decide ((t.wrong.length : Int) < (t.wrong.length : Int)) = false := decide_eq_false (by omega)
      have r0 := cell_below ((Lib.cell_of_heap hrr.out 0).trans (show _ = some (Value.int .u8 0) from rfl)) hB
      have r1 := cell_below ((Lib.cell_of_heap hrr.out 1).trans (show _ = some (Value.int .i64 0) from rfl)) hB
      have r2 := cell_below ((Lib.cell_of_heap hrr.out 2).trans (show _ = some (Value.int .i64 0) from rfl)) hB
      have g0 := ((bcell hB).2 _ 0 hz0).trans (Lib.frozen_of_heap hrr.out 0)
      have g1 := ((bcell hB).2 _ 1 hz0).trans (Lib.frozen_of_heap hrr.out 1)
      have g2 := ((bcell hB).2 _ 2 hz0).trans (Lib.frozen_of_heap hrr.out 2)
      obtain ⟨q0, q1, q2⟩ := set3_at _ _ (.int .u8 0) (.int .i64 0) (.int .i64 0) _ _ _ r0 r1 r2
      have hBf : Below w.heap.size w wr := HB.out.trans (hB.mono (by omega))
      have hBU := below_set3 (R := w.heap.size + 1) hBf (by omega) (.int .u8 0) (.int .i64 0) (.int .i64 0)
      have HALLN := Lib.hid (show ∀ a, a < t.elems.length → t.wrong.getD a false = true → M.soWrong t r a 12 from fun a h => HALL.out a (by omega))
      clear hBf
      go_wp2_with fail
      exact bodyPost_ret (v := .agg #[.int .u8 0, .int .i64 0, .int .i64 0]) (by simp [results, Try.results67, go_sem, q0, q1, q2]) rfl ⟨Or.inr (Or.inr ⟨H0.out, HALLN.out, rfl⟩), hBU⟩

theorem wrongBreak_any (t : M.Tb) (p : Tp) (w : World) (ht : TbIn w t p) (hf : M.form t) : Calls Try.prog 67 #[knV t p (M.know t)] w (WrongPost t (M.know t) w) := by
  have h1 : 1 ≤ t.wrong.length := by rw [hf.wrong]; exact hf.one
  cases h0 : t.wrong.getD 0 false with
  | true => exact wrong_first t p _ w ht h1 h0
  | false => exact wrong_rest t p _ w ht h1 hf.wrong hf.twelve (M.know_lt hf) (fun a b ha hb => M.Ways.lt hf ha ((M.know_bit hf a b ha).1 hb)) h0
end Go.Proofs.Ytnhnjfoboepffaa
