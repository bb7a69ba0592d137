/- Texts of one's own, joined: OrdR, OrdS, OrdT, OrdZ, OrdU, BasD, OrdV. -/
import Derived.Test.YthacjdlohmkpoaaGr9
import Derived.RangeFuncNested
import Derived.RangeFuncBound
import Derived.RangeFuncCalls
import Derived.RangeFuncLeaves
import Derived.Shelf.Abstract
import Derived.Shelf.RegionOpen
import Derived.OwnWalkIn
import Derived.TacticsInMore
import Derived.LoopNIn
import Derived.LoopIn
import Derived.Test.YthacjdlohmkpoaaGr1
import Derived.Maps.AppendAt
namespace Go.Proofs.Ythacjdlohmkpoaa
open Go.RowKit

/-- Whether all that is above an element, of the first numbers, is as wrong as it. -/
def M.soWrong (t : M.Tb) (r : Nat → Nat) (a k : Nat) : Prop := ∀ b, b < k → (r a).testBit b = true → t.wrong.getD b false = true
/-- What wrongBreak comes to. -/
def WrongPost (t : M.Tb) (r : Nat → Nat) (w : World) (e : Ending) (w' : World) : Prop :=
  ((t.wrong.getD 0 false = true ∧ e = .returned (.agg #[.int .u8 5, .int .i64 0, .int .i64 0])) ∨
    (t.wrong.getD 0 false = false ∧ ∃ a b : Nat, a < t.elems.length ∧ b < t.elems.length ∧ t.wrong.getD a false = true ∧ (r a).testBit b = true ∧ t.wrong.getD b false = false ∧ (∀ a', a' < a → t.wrong.getD a' false = true → M.soWrong t r a' 12) ∧ M.soWrong t r a b ∧ e = .returned (.agg #[.int .u8 5, .int .i64 a, .int .i64 b])) ∨
    (t.wrong.getD 0 false = false ∧ (∀ a, a < t.elems.length → t.wrong.getD a false = true → M.soWrong t r a 12) ∧ e = .returned (.agg #[.int .u8 0, .int .i64 0, .int .i64 0]))) ∧ Below w.heap.size w w'
theorem set3_at (W : World) (R : Nat) (x y z a b c : Value) (h0 : W.cell? ⟨R, 0, none⟩ = some a) (h1 : W.cell? ⟨R, 1, none⟩ = some b) (h2 : W.cell? ⟨R, 2, none⟩ = some c) :
    (((W.setCell ⟨R, 0, none⟩ x).setCell ⟨R, 1, none⟩ y).setCell ⟨R, 2, none⟩ z).cell? ⟨R, 0, none⟩ = some x ∧ (((W.setCell ⟨R, 0, none⟩ x).setCell ⟨R, 1, none⟩ y).setCell ⟨R, 2, none⟩ z).cell? ⟨R, 1, none⟩ = some y ∧ (((W.setCell ⟨R, 0, none⟩ x).setCell ⟨R, 1, none⟩ y).setCell ⟨R, 2, none⟩ z).cell? ⟨R, 2, none⟩ = some z := by
  refine ⟨?_, ?_, ?_⟩
  · rw [set_other _ _ _ _ _ (by decide), set_other _ _ _ _ _ (by decide)]; exact set_same _ _ _ _ _ h0
  · rw [set_other _ _ _ _ _ (by decide)]; exact set_same _ _ _ _ _ (by rw [set_other _ _ _ _ _ (by decide)]; exact h1)
  · exact set_same _ _ _ _ _ (by rw [set_other _ _ _ _ _ (by decide), set_other _ _ _ _ _ (by decide)]; exact h2)
theorem below_set3 {w W : World} {R : Nat} (h : Below w.heap.size w W) (hR : w.heap.size ≤ R) (x y z : Value) : Below w.heap.size w (((W.setCell ⟨R, 0, none⟩ x).setCell ⟨R, 1, none⟩ y).setCell ⟨R, 2, none⟩ z) :=
  ((h.setCell (p := ⟨R, 0, none⟩) hR x).setCell (p := ⟨R, 1, none⟩) hR y).setCell (p := ⟨R, 2, none⟩) hR z

set_option maxHeartbeats 4000000 in
set_option maxRecDepth 100000 in
theorem wrong_first (t : M.Tb) (p : Tp) (r : Nat → Nat) (w : World) (ht : TbIn w t p) (h1 : 1 ≤ t.wrong.length) (h0 : t.wrong.getD 0 false = true) :
    Calls Try.prog 73 #[knV t p r] w (WrongPost t r w) := by
  obtain ⟨pea, pec, paa, pac, pwa, pwc⟩ := p
  have hBB : Below w.heap.size w ((w.alloc (.cells (knA t ⟨pea, pec, paa, pac, pwa, pwc⟩ r) 65)).alloc (.cells #[.int .u8 0, .int .i64 0, .int .i64 0] 52)) := belowA (below1 _ _) _
  have hk := (knBox (t := t) (p := ⟨pea, pec, paa, pac, pwa, pwc⟩) (r := r) (box_new w (knA t ⟨pea, pec, paa, pac, pwa, pwc⟩ r) 65)).below (below1 _ (.cells #[.int .u8 0, .int .i64 0, .int .i64 0] 52))
  obtain ⟨b, off, ea, ha⟩ := (ht.below hBB).ws.at h1
  dsimp only at ea
  subst ea
  have q := ha.at_ 0 h1
  rw [← getD_in t.wrong false 0 h1, h0, Nat.add_zero] at q
  have hrr := Lib.hid (box_last w (.cells (knA t ⟨pea, pec, paa, pac, some ⟨b, off, none⟩, pwc⟩ r) 65) #[.int .u8 0, .int .i64 0, .int .i64 0] 52)
  have c3 := hk.c3
  have HB := Lib.hid hBB
  have n1 : (0 : Int) < (t.wrong.length : Int) := by omega
  have H0 := Lib.hid h0
  clear hk ha ht hBB h0 hrr
  go_enter Try.func73, Try.ntmps73
  go_wp2_with fail
  exact bodyPost_ret (v := .agg #[.int .u8 5, .int .i64 0, .int .i64 0]) (by simp [results, Try.results73, go_sem]) rfl ⟨Or.inl ⟨H0.out, rfl⟩, belowA (below1 _ _) _⟩

theorem M.listN_sorted (m k : Nat) : (M.listN m k).Pairwise (· < ·) := by
  unfold M.listN
  rw [List.pairwise_map]
  exact (List.pairwise_lt_range.filter _).imp fun h => by omega
theorem M.listN_before (m k j : Nat) (hj : j < (M.listN m k).length) (b' : Nat) (h1 : (b' : Int) < (M.listN m k)[j]) (h2 : m.testBit b' = true) (h3 : b' < k) : ∃ i, ∃ h : i < (M.listN m k).length, i < j ∧ (M.listN m k)[i] = b' := by
  obtain ⟨i, hi, e⟩ := List.getElem_of_mem ((M.listN_mem m k b').2 ⟨b', rfl, h3, h2⟩)
  refine ⟨i, hi, ?_, e⟩
  have hs := List.pairwise_iff_getElem.1 (M.listN_sorted m k)
  rcases Nat.lt_or_ge i j with h | h
  · exact h
  · exfalso
    rcases Nat.lt_or_eq_of_le h with h | rfl
    · have := hs j i hj hi h; omega
    · omega

set_option maxHeartbeats 8000000 in
set_option maxRecDepth 100000 in
theorem wrong_rest (t : M.Tb) (p : Tp) (r : Nat → Nat) (w : World) (ht : TbIn w t p) (h1 : 1 ≤ t.wrong.length) (hn : t.wrong.length = t.elems.length) (h12 : t.elems.length ≤ 12) (hr : ∀ a, r a < 4096) (hin : ∀ a b, a < t.elems.length → (r a).testBit b = true → b < t.elems.length) (h0 : t.wrong.getD 0 false = false) :
    Calls Try.prog 73 #[knV t p r] w (WrongPost t r w) := by
  obtain ⟨pea, pec, paa, pac, pwa, pwc⟩ := p
  have hBB : Below w.heap.size w ((w.alloc (.cells (knA t ⟨pea, pec, paa, pac, pwa, pwc⟩ r) 65)).alloc (.cells #[.int .u8 0, .int .i64 0, .int .i64 0] 52)) := belowA (below1 _ _) _
  have hk := (knBox (t := t) (p := ⟨pea, pec, paa, pac, pwa, pwc⟩) (r := r) (box_new w (knA t ⟨pea, pec, paa, pac, pwa, pwc⟩ r) 65)).below (below1 _ (.cells #[.int .u8 0, .int .i64 0, .int .i64 0] 52))
  have hrr := Lib.hid (box_last w (.cells (knA t ⟨pea, pec, paa, pac, pwa, pwc⟩ r) 65) #[.int .u8 0, .int .i64 0, .int .i64 0] 52)
  obtain ⟨b, off, ea, ha⟩ := (ht.below hBB).ws.at h1
  dsimp only at ea
  subst ea
  have q := ha.at_ 0 h1
  rw [← getD_in t.wrong false 0 h1, h0, Nat.add_zero] at q
  have HA := Lib.hid ha
  have HK := Lib.hid hk
  have c3 := hk.c3
  have HB := Lib.hid hBB
  have n0 : (0 : Int) < (t.wrong.length : Int) := by omega
  have H0 := Lib.hid h0
  have HIN := Lib.hid hin
  have HR := Lib.hid hr
  clear hk ha ht hBB h0 hin hr
  obtain ⟨W0, hW0⟩ : ∃ W0, ((w.alloc (.cells (knA t ⟨pea, pec, paa, pac, some ⟨b, off, none⟩, pwc⟩ r) 65)).alloc (.cells #[.int .u8 0, .int .i64 0, .int .i64 0] 52)) = W0 := ⟨_, rfl⟩
  have hz0 : w.heap.size + 1 < W0.heap.size := by rw [← hW0]; simp
  rw [hW0] at HA HK c3 HB hrr q
  go_enter Try.func73, Try.ntmps73
  go_wp2_with fail
  clear hW0 c3 q
  go_loopw [17] (fun i wr => ∃ k : Nat, k ≤ t.wrong.length ∧ i = .int .i64 k ∧ Hid (∀ a', a' < k → t.wrong.getD a' false = true → M.soWrong t r a' 12) ∧ Below W0.heap.size W0 wr) (fun i _ => t.wrong.length - (intOf i).toNat)
  case atStart => exact ⟨0, by omega, rfl, Lib.hid (fun a' h => by omega), Below.refl _ _⟩
  case round =>
    rename_i wr
    obtain ⟨k, hk, rfl, HALL, hB⟩ := hrel
    by_cases hkl : k < t.wrong.length
    · have q := (HA.out.below hB).at_ k hkl
      rw [← getD_in t.wrong false k hkl] at q
      have n1 : (k : Int) < (t.wrong.length : Int) := by omega
      have n2 : (0 : Int) ≤ (k : Int) := by omega
      have n3 : (k : Int) < 12 := by omega
      cases hv : t.wrong.getD k false with
      | false =>
        rw [hv] at q
        have HN := Lib.hid (show ∀ a', a' < k + 1 → t.wrong.getD a' false = true → M.soWrong t r a' 12 from fun a' h hq => by
          rcases Nat.lt_succ_iff_lt_or_eq.1 h with h | rfl
          · exact HALL.out a' h hq
          · rw [hv] at hq; cases hq)
        clear hv
        go_wp2_with fail
        go_roundw
        case rel => exact ⟨k + 1, by omega, by go_num, HN, hB⟩
        case measure => simp [intOf]; omega
      | true =>
        rw [hv] at q
        have HV := Lib.hid hv
        have hm := (HK.out.below hB).m k (by omega)
        clear hv
        go_wp2_with fail
        refine (list_any (r k) _ (Nat.lt_trans (HR.out k) (by omega))).mono ?_
        rintro e w1 ⟨la, lc, rfl, _, _, hl, hB1⟩
        have HL := Lib.hid hl
        have hB2 := below2 hB hB1
        have hle := M.listN_le (r k) 12
        clear hl hm q hB hB1
        go_wp2_with fail
        go_loopw [30] (fun i wx => ∃ j : Nat, j ≤ (M.listN (r k) 12).length ∧ i = .int .i64 j ∧ Hid (∀ i, (h : i < (M.listN (r k) 12).length) → i < j → t.wrong.getD ((M.listN (r k) 12)[i]).toNat false = true) ∧ Below w1.heap.size w1 wx) (fun i _ => (M.listN (r k) 12).length - (intOf i).toNat)
        case atStart => exact ⟨0, by omega, rfl, Lib.hid (fun i h hi => by omega), Below.refl _ _⟩
        case round =>
          rename World => wx
          obtain ⟨j, hj, rfl, HJ, hBx⟩ := hrel
          by_cases hjl : j < (M.listN (r k) 12).length
          · obtain ⟨lb, lo, rfl, hla⟩ := (HL.out.below hBx).at hjl
            have y0 := hla.at_ j hjl
            obtain ⟨bb, hbe, hb12, hbit⟩ := (M.listN_mem (r k) 12 _).1 (List.getElem_mem hjl)
            have hbn := HIN.out k bb (by omega) hbit
            have hB3 := below2 hB2 hBx
            have y1 := (HA.out.below hB3).at_ bb (by omega)
            rw [← getD_in t.wrong false bb (by omega)] at y1
            have y3 := cell_below HK.out.c3 hB3
            have m1 : (j : Int) < ((M.listN (r k) 12).length : Int) := by omega
            have m2 : (0 : Int) ≤ (j : Int) := by omega
            have m3 : (bb : Int) < (t.wrong.length : Int) := by omega
            have m4 : (0 : Int) ≤ (bb : Int) := by omega
            have HBE := Lib.hid hbe
            rw [hbe] at y0
            cases hv : t.wrong.getD bb false with
            | true =>
              rw [hv] at y1
              have HN := Lib.hid (show ∀ i, (h : i < (M.listN (r k) 12).length) → i < j + 1 → t.wrong.getD ((M.listN (r k) 12)[i]).toNat false = true from fun i h hi => by
                rcases Nat.lt_succ_iff_lt_or_eq.1 hi with hi | rfl
                · exact HJ.out i h hi
                · rw [HBE.out, Int.toNat_natCast]; exact hv)
              clear hv hbe hla hbit
              go_wp2_with fail
              go_roundw
              case rel => exact ⟨j + 1, by omega, by go_num, HN, hBx⟩
              case measure => simp [intOf]; omega
            | false =>
              rw [hv] at y1
              have HVV := Lib.hid hv
              have HBIT := Lib.hid hbit
              have hso : M.soWrong t r k bb := fun b' h1 h2 => by
                obtain ⟨i, hi, hij, e⟩ := M.listN_before (r k) 12 j hjl b' (by rw [HBE.out]; omega) h2 (by omega)
                have := HJ.out i hi hij
                rw [e, Int.toNat_natCast] at this
                exact this
              have HSO := Lib.hid hso
              have r0 := cell_below ((Lib.cell_of_heap hrr.out 0).trans (show _ = some (Value.int .u8 0) from rfl)) hB3
              have r1 := cell_below ((Lib.cell_of_heap hrr.out 1).trans (show _ = some (Value.int .i64 0) from rfl)) hB3
              have r2 := cell_below ((Lib.cell_of_heap hrr.out 2).trans (show _ = some (Value.int .i64 0) from rfl)) hB3
              have g0 := ((bcell hB3).2 _ 0 hz0).trans (Lib.frozen_of_heap hrr.out 0)
              have g1 := ((bcell hB3).2 _ 1 hz0).trans (Lib.frozen_of_heap hrr.out 1)
              have g2 := ((bcell hB3).2 _ 2 hz0).trans (Lib.frozen_of_heap hrr.out 2)
              obtain ⟨q0, q1, q2⟩ := set3_at _ _ (.int .u8 5) (.int .i64 k) (.int .i64 bb) _ _ _ r0 r1 r2
              have hBf : Below w.heap.size w wx := HB.out.trans (hB3.mono (by omega))
              have hBU := below_set3 (R := w.heap.size + 1) hBf (by omega) (.int .u8 5) (.int .i64 k) (.int .i64 bb)
              have hkn : k < t.elems.length := by omega
              clear hv hbe hla hbit hso hBf
              go_wp2_with fail
              exact bodyPost_ret (v := .agg #[.int .u8 5, .int .i64 k, .int .i64 bb]) (by simp [results, Try.results73, go_sem, q0, q1, q2]) rfl ⟨Or.inr (Or.inl ⟨H0.out, k, bb, hkn, hbn, HV.out, HBIT.out, HVV.out, HALL.out, HSO.out, rfl⟩), hBU⟩
          · obtain rfl : j = (M.listN (r k) 12).length := by omega
            have m1 : decide (((M.listN (r k) 12).length : Int) < ((M.listN (r k) 12).length : Int)) = false := decide_eq_false (by omega)
            have HN := Lib.hid (show ∀ a', a' < k + 1 → t.wrong.getD a' false = true → M.soWrong t r a' 12 from fun a' h hq => by
              rcases Nat.lt_succ_iff_lt_or_eq.1 h with h | rfl
              · exact HALL.out a' h hq
              · intro b' hb' hbit
                obtain ⟨i, hi, e⟩ := List.getElem_of_mem ((M.listN_mem (r a') 12 b').2 ⟨b', rfl, hb', hbit⟩)
                have := HJ.out i hi hi
                rw [e, Int.toNat_natCast] at this
                exact this)
            have hB3 := below2 hB2 hBx
            go_wp2_with fail
            go_roundw
            case rel => exact ⟨k + 1, by omega, by go_num, HN, hB3⟩
            case measure => simp [intOf]; omega
    · obtain rfl : k = t.wrong.length := by omega
      have m1 : decide ((t.wrong.length : Int) < (t.wrong.length : Int)) = false := decide_eq_false (by omega)
      have r0 := cell_below ((Lib.cell_of_heap hrr.out 0).trans (show _ = some (Value.int .u8 0) from rfl)) hB
      have r1 := cell_below ((Lib.cell_of_heap hrr.out 1).trans (show _ = some (Value.int .i64 0) from rfl)) hB
      have r2 := cell_below ((Lib.cell_of_heap hrr.out 2).trans (show _ = some (Value.int .i64 0) from rfl)) hB
      have g0 := ((bcell hB).2 _ 0 hz0).trans (Lib.frozen_of_heap hrr.out 0)
      have g1 := ((bcell hB).2 _ 1 hz0).trans (Lib.frozen_of_heap hrr.out 1)
      have g2 := ((bcell hB).2 _ 2 hz0).trans (Lib.frozen_of_heap hrr.out 2)
      obtain ⟨q0, q1, q2⟩ := set3_at _ _ (.int .u8 0) (.int .i64 0) (.int .i64 0) _ _ _ r0 r1 r2
      have hBf : Below w.heap.size w wr := HB.out.trans (hB.mono (by omega))
      have hBU := below_set3 (R := w.heap.size + 1) hBf (by omega) (.int .u8 0) (.int .i64 0) (.int .i64 0)
      have HALLN := Lib.hid (show ∀ a, a < t.elems.length → t.wrong.getD a false = true → M.soWrong t r a 12 from fun a h => HALL.out a (by omega))
      clear hBf
      go_wp2_with fail
      exact bodyPost_ret (v := .agg #[.int .u8 0, .int .i64 0, .int .i64 0]) (by simp [results, Try.results73, go_sem, q0, q1, q2]) rfl ⟨Or.inr (Or.inr ⟨H0.out, HALLN.out, rfl⟩), hBU⟩

theorem wrongBreak_any (t : M.Tb) (p : Tp) (w : World) (ht : TbIn w t p) (hf : M.form t) : Calls Try.prog 73 #[knV t p (M.know t)] w (WrongPost t (M.know t) w) := by
  have h1 : 1 ≤ t.wrong.length := by rw [hf.wrong]; exact hf.one
  cases h0 : t.wrong.getD 0 false with
  | true => exact wrong_first t p _ w ht h1 h0
  | false => exact wrong_rest t p _ w ht h1 hf.wrong hf.twelve (M.know_lt hf) (fun a b ha hb => M.Ways.lt hf ha ((M.know_bit hf a b ha).1 hb)) h0
end Go.Proofs.Ythacjdlohmkpoaa

namespace Go.Proofs.Ythacjdlohmkpoaa
namespace M
/-- One step up. -/
def up (t : Tb) (a b : Nat) : Prop := (b : Int) ∈ t.above.getD a []
/-- Steps up, one or more. -/
inductive Stp (t : Tb) : Nat → Nat → Prop
  | one {a b : Nat} : up t a b → Stp t a b
  | more {a v b : Nat} : Stp t a v → up t v b → Stp t a b
theorem Stp.ways {t : Tb} {a b : Nat} (h : Stp t a b) : Ways t a b := by
  induction h with
  | one h => exact .one (Or.inr h)
  | more _ h ih => exact .more ih (Or.inr h)
theorem Ways.stp {t : Tb} {a b : Nat} (h : Ways t a b) : b = a ∨ Stp t a b := by
  induction h with
  | one h =>
    rcases h with h | h
    · exact Or.inl h
    · exact Or.inr (.one h)
  | more h1 h ih =>
    rcases h with h | h
    · subst h; exact ih
    · rcases ih with ih | ih
      · subst ih; exact Or.inr (.one h)
      · exact Or.inr (.more ih h)
theorem Stp.trans {t : Tb} {a v b : Nat} (h1 : Stp t a v) (h2 : Stp t v b) : Stp t a b := by
  induction h2 with
  | one h => exact .more h1 h
  | more _ h ih => exact .more ih h
theorem Stp.after {t : Tb} {a v b : Nat} (h1 : Stp t a v) (h2 : Ways t v b) : Stp t a b := by
  rcases h2.stp with rfl | h
  · exact h1
  · exact h1.trans h
theorem Stp.before {t : Tb} {a v b : Nat} (h1 : Ways t a v) (h2 : Stp t v b) : Stp t a b := by
  rcases h1.stp with rfl | h
  · exact h2
  · exact h.trans h2
theorem Stp.head {t : Tb} {a b : Nat} (h : Stp t a b) : ∃ v, up t a v ∧ Ways t v b := by
  induction h with
  | one h => exact ⟨_, h, Ways.refl _ _⟩
  | more _ h ih => obtain ⟨v, h1, h2⟩ := ih; exact ⟨v, h1, .more h2 (Or.inr h)⟩
theorem up_lt {t : Tb} (hf : form t) {a b : Nat} (ha : a < t.elems.length) (h : up t a b) : b < t.elems.length := stp_lt hf ha (Or.inr h)
theorem Stp.lt {t : Tb} (hf : form t) {a b : Nat} (ha : a < t.elems.length) (h : Stp t a b) : b < t.elems.length := h.ways.lt hf ha
/-- Whether an element is below another one; whether one comes from it to the other one by one step or more. -/
def leB (t : Tb) (a b : Nat) : Bool := (know t a).testBit b
def stB (t : Tb) (a b : Nat) : Bool := (t.above.getD a []).any fun v => leB t v.toNat b
theorem leB_iff {t : Tb} (hf : form t) {a b : Nat} (ha : a < t.elems.length) : leB t a b = true ↔ Ways t a b := know_bit hf a b ha
theorem row_nat {t : Tb} (hf : form t) {a : Nat} (ha : a < t.elems.length) {x : Int} (hx : x ∈ t.above.getD a []) : ∃ v : Nat, x = v ∧ up t a v ∧ v < t.elems.length := by
  have ha' : a < t.above.length := by rw [hf.above]; exact ha
  have hx' := hx
  rw [getD_in _ _ _ ha'] at hx'
  obtain ⟨j, hj, e⟩ := List.getElem_of_mem hx'
  have h1 := hf.rows a ha' j hj
  rw [e] at h1
  have e2 : x = ((x.toNat : Nat) : Int) := by omega
  refine ⟨x.toNat, e2, ?_, by omega⟩
  unfold up
  rw [← e2]; exact hx
theorem stB_iff {t : Tb} (hf : form t) {a b : Nat} (ha : a < t.elems.length) : stB t a b = true ↔ Stp t a b := by
  unfold stB
  rw [List.any_eq_true]
  constructor
  · rintro ⟨x, hx, h⟩
    obtain ⟨v, rfl, hu, hv⟩ := row_nat hf ha hx
    rw [Int.toNat_natCast, leB_iff hf hv] at h
    exact (Stp.one hu).after h
  · intro h
    obtain ⟨v, hu, hw⟩ := h.head
    refine ⟨(v : Int), hu, ?_⟩
    rw [Int.toNat_natCast, leB_iff hf (up_lt hf ha hu)]
    exact hw
theorem stB_lt {t : Tb} (hf : form t) {a b : Nat} (ha : a < t.elems.length) (h : stB t a b = true) : b < t.elems.length := ((stB_iff hf ha).1 h).lt hf ha
theorem leB_lt {t : Tb} (hf : form t) {a b : Nat} (ha : a < t.elems.length) (h : leB t a b = true) : b < t.elems.length := ((leB_iff hf ha).1 h).lt hf ha
theorem leB_refl {t : Tb} (hf : form t) {a : Nat} (ha : a < t.elems.length) : leB t a a = true := (leB_iff hf ha).2 (Ways.refl t a)
theorem leB_trans {t : Tb} (hf : form t) {a v b : Nat} (ha : a < t.elems.length) (h1 : leB t a v = true) (h2 : leB t v b = true) : leB t a b = true :=
  (leB_iff hf ha).2 (((leB_iff hf ha).1 h1).trans ((leB_iff hf (leB_lt hf ha h1)).1 h2))
theorem leB_or {t : Tb} (hf : form t) {a b : Nat} (ha : a < t.elems.length) : leB t a b = (decide (a = b) || stB t a b) := by
  rw [Bool.eq_iff_iff, leB_iff hf ha, Bool.or_eq_true, decide_eq_true_eq, stB_iff hf ha]
  constructor
  · intro h
    rcases h.stp with h | h
    · exact Or.inl h.symm
    · exact Or.inr h
  · rintro (rfl | h)
    · exact Ways.refl t a
    · exact h.ways
/-- What is seen, and what is still to be done, when the steps from an element are gone through. -/
structure Bfs (t : Tb) (a : Nat) (S : Nat → Bool) (T : List Nat) : Prop where
  sound : ∀ x, S x = true → Stp t a x
  todo : ∀ x, x ∈ T → x = a ∨ S x = true
  shut : ∀ x, (x = a ∨ S x = true) → x ∉ T → ∀ y, up t x y → S y = true
/-- The same while one element's steps are looked at, the first ones of them done. -/
structure BfsIn (t : Tb) (a : Nat) (S : Nat → Bool) (T : List Nat) (v k : Nat) : Prop where
  sound : ∀ x, S x = true → Stp t a x
  todo : ∀ x, x ∈ T → x = a ∨ S x = true
  at_ : v = a ∨ S v = true
  shut : ∀ x, (x = a ∨ S x = true) → x ∉ T → x ≠ v → ∀ y, up t x y → S y = true
  done : ∀ j, j < k → ∀ h : j < (t.above.getD v []).length, S ((t.above.getD v [])[j]).toNat = true
theorem Bfs.start (t : Tb) (a : Nat) : Bfs t a (fun _ => false) [a] :=
  ⟨fun _ h => (by cases h), fun x hx => Or.inl (by simpa using hx), fun x hx hn => by
    rcases hx with rfl | hx
    · simp at hn
    · cases hx⟩
theorem Bfs.pop {t : Tb} {a v : Nat} {S : Nat → Bool} {T : List Nat} (h : Bfs t a S (v :: T)) : BfsIn t a S T v 0 :=
  ⟨h.sound, fun x hx => h.todo x (List.mem_cons_of_mem _ hx), h.todo v List.mem_cons_self, fun x hx hn hv => h.shut x hx (by rw [List.mem_cons]; exact fun q => q.elim hv hn), fun j hj => by omega⟩
theorem BfsIn.yes {t : Tb} {a v k : Nat} {S : Nat → Bool} {T : List Nat} (h : BfsIn t a S T v k) (hk : k < (t.above.getD v []).length) (hs : S ((t.above.getD v [])[k]).toNat = true) : BfsIn t a S T v (k + 1) :=
  ⟨h.sound, h.todo, h.at_, h.shut, fun j hj hjl => by
    rcases Nat.lt_succ_iff_lt_or_eq.1 hj with q | rfl
    · exact h.done j q hjl
    · exact hs⟩
theorem BfsIn.push {t : Tb} {a v k y : Nat} {S : Nat → Bool} {T : List Nat} (h : BfsIn t a S T v k) (hk : k < (t.above.getD v []).length) (hy : (t.above.getD v [])[k] = (y : Int)) :
    BfsIn t a (fun i => if i = y then true else S i) (T ++ [y]) v (k + 1) := by
  have hu : up t v y := by unfold up; rw [← hy]; exact List.getElem_mem _
  have hs : ∀ i, S i = true → (if i = y then true else S i) = true := fun i hi => by split <;> first | rfl | exact hi
  refine ⟨fun x hx => ?_, fun x hx => ?_, h.at_.imp id (hs v), fun x hx hn hv z hz => ?_, fun j hj hjl => ?_⟩
  · by_cases e : x = y
    · subst e
      rcases h.at_ with q | q
      · subst q; exact .one hu
      · exact .more (h.sound v q) hu
    · rw [if_neg e] at hx; exact h.sound x hx
  · rcases List.mem_append.1 hx with hx | hx
    · exact (h.todo x hx).imp id (hs x)
    · have : x = y := by simpa using hx
      right; rw [if_pos this]
  · have hxy : x ≠ y := fun e => hn (by rw [e]; simp)
    rw [if_neg hxy] at hx
    exact hs z (h.shut x hx (fun q => hn (List.mem_append_left _ q)) hv z hz)
  · rcases Nat.lt_succ_iff_lt_or_eq.1 hj with q | rfl
    · exact hs _ (h.done j q hjl)
    · rw [hy, Int.toNat_natCast, if_pos rfl]
theorem BfsIn.fin {t : Tb} {a v : Nat} {S : Nat → Bool} {T : List Nat} (h : BfsIn t a S T v (t.above.getD v []).length) : Bfs t a S T :=
  ⟨h.sound, h.todo, fun x hx hn y hy => by
    by_cases e : x = v
    · subst e
      obtain ⟨j, hj, e⟩ := List.getElem_of_mem hy
      have := h.done j hj hj
      rw [e, Int.toNat_natCast] at this
      exact this
    · exact h.shut x hx hn e y hy⟩
theorem Bfs.fin {t : Tb} {a : Nat} {S : Nat → Bool} (h : Bfs t a S []) (b : Nat) : S b = true ↔ Stp t a b := by
  refine ⟨h.sound b, fun q => ?_⟩
  induction q with
  | one q => exact h.shut _ (Or.inl rfl) (by simp) _ q
  | more _ q ih => exact h.shut _ (Or.inr ih) (by simp) _ q
/-- How many are not seen. -/
def unseen (S : Nat → Bool) (n : Nat) : Nat := ((List.range n).filter fun i => !S i).length
theorem unseen_push (S : Nat → Bool) (n y : Nat) (hy : y < n) (hs : S y = false) : unseen (fun i => if i = y then true else S i) n + 1 = unseen S n := by
  unfold unseen
  induction n with
  | zero => omega
  | succ n ih =>
    rw [List.range_succ, List.filter_append, List.filter_append, List.length_append, List.length_append]
    by_cases e : y = n
    · subst e
      have h1 : (List.range y).filter (fun i => !(if i = y then true else S i)) = (List.range y).filter (fun i => !S i) := by
        apply List.filter_congr
        intro i hi
        rw [if_neg (by have := List.mem_range.1 hi; omega)]
      rw [h1]
      simp [hs]
    · have := ih (by omega)
      have h2 : (List.filter (fun i => !(if i = y then true else S i)) [n]) = List.filter (fun i => !S i) [n] := by
        apply List.filter_congr
        intro i hi
        have : i = n := by simpa using hi
        rw [if_neg (by omega)]
      rw [h2]; omega
theorem unseen_le (S : Nat → Bool) (n : Nat) : unseen S n ≤ n := by
  unfold unseen
  exact Nat.le_trans (List.length_filter_le _ _) (by rw [List.length_range]; exact Nat.le_refl _)
end M
end Go.Proofs.Ythacjdlohmkpoaa

namespace Go.Proofs.Ythacjdlohmkpoaa
namespace M
/-- The first number below another one that is as asked. -/
def fstN (n : Nat) (p : Nat → Bool) : Option Nat := (List.range n).find? p
theorem fstN_stop {n k : Nat} {p : Nat → Bool} (hk : k < n) (hp : p k = true) (hb : ∀ j, j < k → p j = false) : fstN n p = some k := by
  unfold fstN
  rw [List.find?_eq_some_iff_getElem]
  refine ⟨hp, k, by simpa using hk, by simp, fun j hj => ?_⟩
  simp [hb j hj]
theorem fstN_all {n : Nat} {p : Nat → Bool} (h : ∀ j, j < n → p j = false) : fstN n p = none := by
  unfold fstN
  rw [List.find?_eq_none]
  intro x hx
  rw [h x (List.mem_range.1 hx)]; simp
theorem fstN_some {n k : Nat} {p : Nat → Bool} (h : fstN n p = some k) : k < n ∧ p k = true ∧ ∀ j, j < k → p j = false := by
  unfold fstN at h
  rw [List.find?_eq_some_iff_getElem] at h
  obtain ⟨hp, i, hi, e, hb⟩ := h
  simp only [List.getElem_range, List.length_range, Bool.not_eq_eq_eq_not, Bool.not_true] at e hi hb
  subst e
  exact ⟨hi, hp, hb⟩
theorem fstN_none {n : Nat} {p : Nat → Bool} (h : fstN n p = none) : ∀ j, j < n → p j = false := by
  unfold fstN at h
  rw [List.find?_eq_none] at h
  intro j hj
  have := h j (List.mem_range.2 hj)
  simpa using this
/-- The first pair of such numbers that is as asked. -/
def fst2 (n : Nat) (p : Nat → Nat → Bool) : Option (Nat × Nat) := (fstN n fun a => (fstN n (p a)).isSome).bind fun a => (fstN n (p a)).map fun b => (a, b)
theorem fst2_stop {n a b : Nat} {p : Nat → Nat → Bool} (ha : a < n) (hb : b < n) (hp : p a b = true) (h1 : ∀ a', a' < a → ∀ b', b' < n → p a' b' = false) (h2 : ∀ b', b' < b → p a b' = false) : fst2 n p = some (a, b) := by
  unfold fst2
  have e2 : fstN n (p a) = some b := fstN_stop hb hp h2
  rw [fstN_stop ha (by rw [e2]; rfl) (fun j hj => by rw [fstN_all (h1 j hj)]; rfl), Option.bind_some, e2]
  rfl
theorem fst2_all {n : Nat} {p : Nat → Nat → Bool} (h : ∀ a, a < n → ∀ b, b < n → p a b = false) : fst2 n p = none := by
  unfold fst2
  rw [fstN_all (fun j hj => by rw [fstN_all (h j hj)]; rfl)]
  rfl
theorem fst2_some {n a b : Nat} {p : Nat → Nat → Bool} (h : fst2 n p = some (a, b)) : a < n ∧ b < n ∧ p a b = true ∧ (∀ a', a' < a → ∀ b', b' < n → p a' b' = false) ∧ ∀ b', b' < b → p a b' = false := by
  unfold fst2 at h
  cases h1 : fstN n fun a => (fstN n (p a)).isSome with
  | none => rw [h1] at h; cases h
  | some c =>
    rw [h1, Option.bind_some] at h
    cases h2 : fstN n (p c) with
    | none => rw [h2] at h; cases h
    | some d =>
      rw [h2] at h
      cases h
      obtain ⟨q1, _, q3⟩ := fstN_some h1
      obtain ⟨r1, r2, r3⟩ := fstN_some h2
      refine ⟨q1, r1, r2, fun a' ha' => ?_, r3⟩
      have := q3 a' ha'
      cases h3 : fstN n (p a') with
      | none => exact fstN_none h3
      | some _ => rw [h3] at this; cases this
theorem fst2_none {n : Nat} {p : Nat → Nat → Bool} (h : fst2 n p = none) : ∀ a, a < n → ∀ b, b < n → p a b = false := by
  intro a ha
  unfold fst2 at h
  cases h1 : fstN n fun a => (fstN n (p a)).isSome with
  | none =>
    have := fstN_none h1 a ha
    cases h3 : fstN n (p a) with
    | none => exact fstN_none h3
    | some _ => rw [h3] at this; cases this
  | some c =>
    rw [h1, Option.bind_some] at h
    obtain ⟨_, q, _⟩ := fstN_some h1
    cases h2 : fstN n (p c) with
    | none => rw [h2] at q; cases q
    | some d => rw [h2] at h; cases h
/-- The elements above two, ascending; the least of some; the join. -/
def bnd (t : Tb) (a b : Nat) : List Nat := (List.range t.elems.length).filter fun c => leB t a c && leB t b c
def lst (t : Tb) (l : List Nat) : Option Nat := l.find? fun x => l.all fun y => leB t x y
def jn (t : Tb) (a b : Nat) : Option Nat := lst t (bnd t a b)
theorem mem_bnd {t : Tb} {a b c : Nat} : c ∈ bnd t a b ↔ c < t.elems.length ∧ leB t a c = true ∧ leB t b c = true := by
  unfold bnd
  simp [List.mem_filter, List.mem_range]
theorem jn_some {t : Tb} {a b c : Nat} (h : jn t a b = some c) : c < t.elems.length ∧ leB t a c = true ∧ leB t b c = true ∧ ∀ d, d < t.elems.length → leB t a d = true → leB t b d = true → leB t c d = true := by
  unfold jn lst at h
  have h1 := List.find?_some h
  have h2 := List.mem_of_find?_eq_some h
  obtain ⟨q1, q2, q3⟩ := mem_bnd.1 h2
  refine ⟨q1, q2, q3, fun d hd ha hb => ?_⟩
  rw [List.all_eq_true] at h1
  exact h1 d (mem_bnd.2 ⟨hd, ha, hb⟩)
theorem jn_none {t : Tb} {a b : Nat} (h : jn t a b = none) {c : Nat} (hc : c < t.elems.length) (h1 : leB t a c = true) (h2 : leB t b c = true) : ∃ d, d < t.elems.length ∧ leB t a d = true ∧ leB t b d = true ∧ leB t c d = false := by
  unfold jn lst at h
  rw [List.find?_eq_none] at h
  have := h c (mem_bnd.2 ⟨hc, h1, h2⟩)
  rw [Bool.not_eq_true, List.all_eq_false] at this
  obtain ⟨d, hd, hn⟩ := this
  obtain ⟨q1, q2, q3⟩ := mem_bnd.1 hd
  exact ⟨d, q1, q2, q3, by simpa using hn⟩
/-- The join is the first element above which there is just what is above both. -/
theorem know_both {t : Tb} (hf : form t) {a b c : Nat} (ha : a < t.elems.length) (hb : b < t.elems.length) (hc : c < t.elems.length) :
    know t c = know t a &&& know t b ↔ (leB t a c = true ∧ leB t b c = true ∧ ∀ d, d ∈ bnd t a b → leB t c d = true) := by
  constructor
  · intro h
    have hcc : (know t c).testBit c = true := leB_refl hf hc
    rw [h, Nat.testBit_and, Bool.and_eq_true] at hcc
    refine ⟨hcc.1, hcc.2, fun d hd => ?_⟩
    obtain ⟨_, q2, q3⟩ := mem_bnd.1 hd
    unfold leB at q2 q3 ⊢
    rw [h, Nat.testBit_and, q2, q3]; rfl
  · rintro ⟨h1, h2, h3⟩
    apply Nat.eq_of_testBit_eq
    intro d
    rw [Nat.testBit_and, Bool.eq_iff_iff, Bool.and_eq_true]
    constructor
    · intro h
      exact ⟨leB_trans hf ha h1 h, leB_trans hf hb h2 h⟩
    · rintro ⟨q1, q2⟩
      exact h3 d (mem_bnd.2 ⟨leB_lt hf ha q1, q1, q2⟩)
theorem idx_jn {t : Tb} (hf : form t) {a b : Nat} (ha : a < t.elems.length) (hb : b < t.elems.length) : idxM (know t) (know t a &&& know t b) t.elems.length 0 = match jn t a b with | some c => (c : Int) | none => -1 := by
  cases h : jn t a b with
  | none =>
    refine idxM_all _ _ _ _ fun i _ hi e => ?_
    rw [Nat.zero_add] at hi
    obtain ⟨h1, h2, h3⟩ := (know_both hf ha hb hi).1 e
    obtain ⟨d, q1, q2, q3, q4⟩ := jn_none h hi h1 h2
    have := h3 d (mem_bnd.2 ⟨q1, q2, q3⟩)
    rw [q4] at this; cases this
  | some c =>
    obtain ⟨h1, h2, h3, h4⟩ := jn_some h
    refine idxM_stop _ _ _ _ _ (Nat.zero_le _) (by omega) ((know_both hf ha hb h1).2 ⟨h2, h3, fun d hd => ?_⟩) fun i _ hi e => ?_
    · obtain ⟨q1, q2, q3⟩ := mem_bnd.1 hd
      exact h4 d q1 q2 q3
    · obtain ⟨r1, r2, r3⟩ := (know_both hf ha hb (Nat.lt_trans hi h1)).1 e
      unfold jn lst at h
      rw [List.find?_eq_some_iff_append] at h
      obtain ⟨_, l1, l2, e2, hno⟩ := h
      have hib : i ∈ bnd t a b := mem_bnd.2 ⟨Nat.lt_trans hi h1, r1, r2⟩
      have hp : (bnd t a b).Pairwise (· < ·) := by unfold bnd; exact List.pairwise_lt_range.filter _
      rw [e2] at hp
      rw [e2] at hib
      rcases List.mem_append.1 hib with q | q
      · have := hno i q
        simp only [Bool.not_eq_eq_eq_not, Bool.not_true, List.all_eq_false] at this
        obtain ⟨d, hd, hn⟩ := this
        exact hn (r3 d hd)
      · rcases List.mem_cons.1 q with q | q
        · omega
        · have := (List.pairwise_cons.1 (List.pairwise_append.1 hp).2.1).1 i q
          omega
theorem both_nil {t : Tb} (hf : form t) {a b : Nat} (ha : a < t.elems.length) : (know t a &&& know t b = 0) ↔ bnd t a b = [] := by
  constructor
  · intro h
    rw [List.eq_nil_iff_forall_not_mem]
    intro c hc
    obtain ⟨_, h1, h2⟩ := mem_bnd.1 hc
    have : (know t a &&& know t b).testBit c = true := by
      unfold leB at h1 h2
      rw [Nat.testBit_and, h1, h2]; rfl
    rw [h] at this; simp at this
  · intro h
    apply Nat.eq_of_testBit_eq
    intro c
    rw [Nat.zero_testBit]
    cases hq : (know t a &&& know t b).testBit c with
    | false => rfl
    | true =>
      rw [Nat.testBit_and, Bool.and_eq_true] at hq
      have : c ∈ bnd t a b := mem_bnd.2 ⟨leB_lt hf ha hq.1, hq.1, hq.2⟩
      rw [h] at this; simp at this
theorem jn_nil {t : Tb} {a b : Nat} (h : bnd t a b = []) : jn t a b = none := by unfold jn lst; rw [h]; rfl
/-- The kind of the break that two elements without a join are. -/
def kindM (t : Tb) (a b : Nat) : Nat := if bnd t a b = [] then 3 else 4
theorem joinM_jn {t : Tb} (hf : form t) {a b : Nat} (ha : a < t.elems.length) (hb : b < t.elems.length) : joinM (know t) t.elems.length a b = match jn t a b with | some c => ((c : Int), 0) | none => (0, kindM t a b) := by
  unfold joinM kindM
  rw [idx_jn hf ha hb]
  by_cases h : know t a &&& know t b = 0
  · rw [if_pos h]
    have h2 := (both_nil hf ha).1 h
    rw [jn_nil h2, if_pos h2]
  · rw [if_neg h]
    have h2 : ¬ bnd t a b = [] := fun q => h ((both_nil hf ha).2 q)
    cases hj : jn t a b with
    | none => simp only; rw [if_pos (by omega), if_neg h2]
    | some c => simp only; rw [if_neg (by omega)]
/-- Whether an element is wrong. -/
def wr (t : Tb) (a : Nat) : Bool := t.wrong.getD a false
/-- The break of a table: its kind, and two elements; of kind 0 if there is none. -/
def brk (t : Tb) : Nat × Nat × Nat :=
  match fstN t.elems.length fun a => stB t a a with
  | some a => (1, a, 0)
  | none =>
    match fstN t.elems.length fun a => !leB t 0 a with
    | some a => (2, a, 0)
    | none =>
      match fst2 t.elems.length fun a b => decide (a < b) && (jn t a b).isNone with
      | some (a, b) => (kindM t a b, a, b)
      | none =>
        if wr t 0 = true then (5, 0, 0)
        else match fst2 t.elems.length fun a b => wr t a && !wr t b && leB t a b with
          | some (a, b) => (5, a, b)
          | none => (0, 0, 0)
theorem brk_cycle {t : Tb} {a : Nat} (ha : a < t.elems.length) (h : stB t a a = true) (hb : ∀ j, j < a → stB t j j = false) : brk t = (1, a, 0) := by
  unfold brk; rw [fstN_stop (p := fun a => stB t a a) ha h hb]
theorem brk_base {t : Tb} {a : Nat} (h1 : ∀ j, j < t.elems.length → stB t j j = false) (ha : a < t.elems.length) (h : leB t 0 a = false) (hb : ∀ j, j < a → leB t 0 j = true) : brk t = (2, a, 0) := by
  unfold brk
  rw [fstN_all (p := fun a => stB t a a) h1]
  simp only
  rw [fstN_stop (p := fun a => !leB t 0 a) ha (by simp [h]) (fun j hj => by simp [hb j hj])]
theorem brk_pair {t : Tb} {a b : Nat} (h1 : ∀ j, j < t.elems.length → stB t j j = false) (h2 : ∀ j, j < t.elems.length → leB t 0 j = true) (hab : a < b) (hb : b < t.elems.length) (h : jn t a b = none)
    (h3 : ∀ a', a' < a → ∀ b', a' < b' → b' < t.elems.length → jn t a' b' ≠ none) (h4 : ∀ b', a < b' → b' < b → jn t a b' ≠ none) : brk t = (kindM t a b, a, b) := by
  unfold brk
  rw [fstN_all (p := fun a => stB t a a) h1]
  simp only
  rw [fstN_all (p := fun a => !leB t 0 a) (fun j hj => by simp [h2 j hj])]
  simp only
  rw [fst2_stop (a := a) (b := b) (p := fun a b => decide (a < b) && (jn t a b).isNone) (by omega) hb (by simp [hab, h]) (fun a' ha' b' hb' => by
    by_cases q : a' < b'
    · have := h3 a' ha' b' q hb'
      cases hj : jn t a' b' with
      | none => exact absurd hj this
      | some _ => simp
    · simp [q]) (fun b' hb' => by
    by_cases q : a < b'
    · have := h4 b' q hb'
      cases hj : jn t a b' with
      | none => exact absurd hj this
      | some _ => simp
    · simp [q])]
/-- Whether all pairs have joins, and nothing else breaks a table but wrong elements. -/
structure noBrk (t : Tb) : Prop where
  cyc : ∀ j, j < t.elems.length → stB t j j = false
  base : ∀ j, j < t.elems.length → leB t 0 j = true
  pair : ∀ a, a < t.elems.length → ∀ b, a < b → b < t.elems.length → jn t a b ≠ none
theorem brk_rest {t : Tb} (h : noBrk t) : brk t = if wr t 0 = true then (5, 0, 0) else match fst2 t.elems.length fun a b => wr t a && !wr t b && leB t a b with | some (a, b) => (5, a, b) | none => (0, 0, 0) := by
  rw [brk, fstN_all (p := fun a => stB t a a) h.cyc]
  simp only
  rw [fstN_all (p := fun a => !leB t 0 a) (fun j hj => by simp [h.base j hj])]
  simp only
  rw [fst2_all (p := fun a b => decide (a < b) && (jn t a b).isNone) (fun a ha b hb => by
    by_cases q : a < b
    · have := h.pair a ha b q hb
      cases hj : jn t a b with
      | none => exact absurd hj this
      | some _ => simp
    · simp [q])]
theorem brk_zero {t : Tb} (h : noBrk t) (h0 : wr t 0 = true) : brk t = (5, 0, 0) := by rw [brk_rest h, if_pos h0]
theorem brk_wrong {t : Tb} (h : noBrk t) (h0 : wr t 0 = false) {a b : Nat} (ha : a < t.elems.length) (hb : b < t.elems.length) (hw : wr t a = true) (hn : wr t b = false) (hl : leB t a b = true)
    (h1 : ∀ a', a' < a → ∀ b', b' < t.elems.length → wr t a' = true → leB t a' b' = true → wr t b' = true) (h2 : ∀ b', b' < b → leB t a b' = true → wr t b' = true) : brk t = (5, a, b) := by
  rw [brk_rest h, if_neg (by rw [h0]; simp), fst2_stop (p := fun a b => wr t a && !wr t b && leB t a b) ha hb (by simp [hw, hn, hl]) (fun a' ha' b' hb' => by
    cases e1 : wr t a' with
    | false => simp
    | true =>
      cases e2 : leB t a' b' with
      | false => simp
      | true => simp [h1 a' ha' b' hb' e1 e2]) (fun b' hb' => by
    cases e2 : leB t a b' with
    | false => simp
    | true => simp [h2 b' hb' e2])]
theorem brk_ok {t : Tb} (h : noBrk t) (h0 : wr t 0 = false) (h1 : ∀ a, a < t.elems.length → ∀ b, b < t.elems.length → wr t a = true → leB t a b = true → wr t b = true) : brk t = (0, 0, 0) := by
  rw [brk_rest h, if_neg (by rw [h0]; simp), fst2_all (p := fun a b => wr t a && !wr t b && leB t a b) (fun a' ha' b' hb' => by
    cases e1 : wr t a' with
    | false => simp
    | true =>
      cases e2 : leB t a' b' with
      | false => simp
      | true => simp [h1 a' ha' b' hb' e1 e2])]
/-- All pairs of elements in their order, the smaller number first. -/
def prs (n : Nat) : List (Nat × Nat) := (List.range n).flatMap fun a => ((List.range n).filter fun b => decide (a < b)).map fun b => (a, b)
theorem mem_prs {n : Nat} {x : Nat × Nat} : x ∈ prs n ↔ x.1 < x.2 ∧ x.2 < n := by
  obtain ⟨a, b⟩ := x
  unfold prs
  simp only [List.mem_flatMap, List.mem_map, List.mem_filter, List.mem_range, decide_eq_true_eq, Prod.mk.injEq]
  constructor
  · rintro ⟨a', h1, b', ⟨h2, h3⟩, rfl, rfl⟩; exact ⟨h3, h2⟩
  · rintro ⟨h1, h2⟩; exact ⟨a, by omega, b, ⟨h2, h1⟩, rfl, rfl⟩
def lexB (x y : Nat × Nat) : Prop := x.1 < y.1 ∨ (x.1 = y.1 ∧ x.2 < y.2)
theorem prs_sorted (n : Nat) : (prs n).Pairwise lexB := by
  unfold prs
  rw [List.pairwise_flatMap]
  refine ⟨fun a _ => ?_, ?_⟩
  · rw [List.pairwise_map]
    exact (List.pairwise_lt_range.filter _).imp fun h => Or.inr ⟨rfl, h⟩
  · exact List.pairwise_lt_range.imp fun h x hx y hy => by
      obtain ⟨_, _, rfl⟩ := List.mem_map.1 hx
      obtain ⟨_, _, rfl⟩ := List.mem_map.1 hy
      exact Or.inl h
theorem prs_before {n : Nat} {pre : List (Nat × Nat)} {x y : Nat × Nat} (h : pre ++ [x] <+: prs n) (hy : y ∈ prs n) (hl : lexB y x) : y ∈ pre := by
  obtain ⟨r, e⟩ := h
  have hs := prs_sorted n
  rw [← e] at hs hy
  rw [List.append_assoc] at hs hy
  rcases List.mem_append.1 hy with q | q
  · exact q
  · exfalso
    have h2 := (List.pairwise_append.1 hs).2.1
    rcases List.mem_cons.1 q with q | q
    · subst q
      unfold lexB at hl; omega
    · have := (List.pairwise_cons.1 h2).1 y q
      unfold lexB at hl this; omega
end M
end Go.Proofs.Ythacjdlohmkpoaa

namespace Go.Proofs.Ythacjdlohmkpoaa
open Go.RowKit Go.Shelf

namespace M
def rowTo (a q : Nat) : List (Nat × Nat) := ((List.range q).filter fun b => decide (a < b)).map fun b => (a, b)
def prsTo (n k : Nat) : List (Nat × Nat) := (List.range k).flatMap fun a => rowTo a n
theorem prsTo_all (n : Nat) : prsTo n n = prs n := rfl
theorem prsTo_next (n k : Nat) : prsTo n (k + 1) = prsTo n k ++ rowTo k n := by unfold prsTo; rw [List.range_succ, List.flatMap_append]; simp
theorem rowTo_next {a q : Nat} (h : a < q) : rowTo a (q + 1) = rowTo a q ++ [(a, q)] := by unfold rowTo; rw [List.range_succ, List.filter_append, List.map_append]; simp [h]
theorem rowTo_first (a : Nat) : rowTo a (a + 1) = [] := by
  unfold rowTo
  rw [List.map_eq_nil_iff, List.filter_eq_nil_iff]
  intro x hx
  have := List.mem_range.1 hx
  simp; omega
theorem rowTo_pre {a q n : Nat} (h : q ≤ n) : rowTo a q <+: rowTo a n := by
  induction n with
  | zero => obtain rfl : q = 0 := by omega
            exact List.prefix_refl _
  | succ n ih =>
    rcases Nat.lt_or_eq_of_le h with h | rfl
    · refine (ih (by omega)).trans ?_
      unfold rowTo
      rw [List.range_succ, List.filter_append, List.map_append]
      exact List.prefix_append _ _
    · exact List.prefix_refl _
theorem prsTo_pre {n k m : Nat} (h : k ≤ m) : prsTo n k <+: prsTo n m := by
  induction m with
  | zero => obtain rfl : k = 0 := by omega
            exact List.prefix_refl _
  | succ m ih =>
    rcases Nat.lt_or_eq_of_le h with h | rfl
    · exact (ih (by omega)).trans (by rw [prsTo_next]; exact List.prefix_append _ _)
    · exact List.prefix_refl _
theorem prs_at {n k q : Nat} (hk : k < n) (hkq : k < q) (hq : q < n) : prsTo n k ++ rowTo k q ++ [(k, q)] <+: prs n := by
  rw [List.append_assoc, ← rowTo_next hkq, ← prsTo_all]
  refine List.IsPrefix.trans ?_ (prsTo_pre (show k + 1 ≤ n by omega))
  rw [prsTo_next]
  obtain ⟨r, e⟩ := rowTo_pre (a := k) (show q + 1 ≤ n by omega)
  exact ⟨r, by rw [List.append_assoc, e]⟩
end M
/-- What a round must keep for the iterator: the block that holds the table. -/
def KeepB (b : Nat) (A B : World) : Prop := A.heap.size ≤ B.heap.size ∧ B.heap[b]? = A.heap[b]?
/-- Pairs of elements. -/
abbrev Prs (n : Nat) := { x : Nat × Nat // x.1 < x.2 ∧ x.2 < n }
abbrev prE {n : Nat} (x : Prs n) : Array Value := #[.int .i64 x.1.1, .int .i64 x.1.2]

theorem enters_pairs1 : ∀ args w, (callFunc 91 args).run Try.prog w = .ok (.enter 91 args) w := enters_of Try.func91 (by kernel_rfl) rfl

attribute [local go_sem] Oper.semAt_some

set_option maxHeartbeats 4000000 in
set_option maxRecDepth 100000 in
theorem pairs_stops (nn b : Nat) (t : M.Tb) (p : Tp) (r : Nat → Nat) (w : World) (hn : 1 ≤ nn) (h12 : t.elems.length ≤ 12) (hb : b < w.heap.size) (hk : KnBox w b t p r) :
    SeqStopsK Fence.wide nn Try.prog 91 #[.pointer (some ⟨b, 0, none⟩)] (fun x : Prs t.elems.length => prE x) (KeepB b) (fun xs => xs.map (·.1) = M.prs t.elems.length) (fun pre => pre.map (·.1) <+: M.prs t.elems.length) (M.prs t.elems.length).length w := fun l J Jx W hW hJ hJx hY h0 => by
  have hc0 := (hW.cell (p := ⟨b, 1, none⟩) hb).trans hk.c1
  have HJ0 := Lib.hid h0
  have HY := Lib.hid hY
  clear h0 hY hk
  refine callsIn_of_wp Try.func91 rfl trivial ?_ rfl
  simp only [Try.ntmps91, List.size_toArray, List.length_cons, List.length_nil, Nat.reduceAdd, Nat.reduceSub, Array.replicate_succ, Array.replicate_zero, List.push_toArray, List.append_toArray, List.nil_append, List.cons_append]
  gi_wp2_with fail
  gi_loopw [9] (fun i wr => ∃ (k : Nat) (pre : List (Prs t.elems.length)), i = .int .i64 k ∧ k ≤ t.elems.length ∧ Hid (pre.map (·.1) = M.prsTo t.elems.length k) ∧ Hid (J pre wr) ∧ wr.cell? ⟨b, 1, none⟩ = some (.slice p.ea t.elems.length p.ec)) (fun i _ => t.elems.length - (intOf i).toNat)
  case atStart => exact ⟨0, [], rfl, Nat.zero_le _, Lib.hid rfl, HJ0, hc0⟩
  case round =>
    clear hc0
    rename_i wr
    obtain ⟨k, pre, rfl, hk, HP, HJ, hc⟩ := hrel
    by_cases hkl : k < t.elems.length
    · have n1 : (k : Int) < (t.elems.length : Int) := by omega
      gi_wp2_with fail
      gi_loopw [4] (fun i wo => ∃ (q : Nat) (pre : List (Prs t.elems.length)), i = .int .i64 q ∧ k < q ∧ q ≤ t.elems.length ∧ Hid (pre.map (·.1) = M.prsTo t.elems.length k ++ M.rowTo k q) ∧ Hid (J pre wo) ∧ wo.cell? ⟨b, 1, none⟩ = some (.slice p.ea t.elems.length p.ec)) (fun i _ => t.elems.length - (intOf i).toNat)
      case atStart => exact ⟨k + 1, pre, by simp, by omega, by omega, Lib.hid (by rw [M.rowTo_first, List.append_nil]; exact HP.out), HJ, hc⟩
      case round =>
        clear hc HP HJ
        rename World => wo
        obtain ⟨q, pre, rfl, hkq, hq, HP, HJ, hc⟩ := hrel
        by_cases hql : q < t.elems.length
        · have m1 : (q : Int) < (t.elems.length : Int) := by omega
          have hpre := M.prs_at hkl hkq hql
          have hmap : (pre ++ [(⟨(k, q), hkq, hql⟩ : Prs t.elems.length)]).map (·.1) = M.prsTo t.elems.length k ++ M.rowTo k q ++ [(k, q)] := by rw [List.map_append, HP.out]; rfl
          have hlen : pre.length < (M.prs t.elems.length).length := by
            have h1 := hpre.length_le
            have h2 := congrArg List.length HP.out
            rw [List.length_map] at h2
            rw [List.length_append, ← h2] at h1
            simp at h1; omega
          have HPRE := Lib.hid hpre
          have HMAP := Lib.hid hmap
          clear hpre hmap
          obtain ⟨fn, tmps, assign, body, hy, hR⟩ := HY.out pre ⟨(k, q), hkq, hql⟩ wo HJ.out hlen
          gi_wp2_with fail
          refine hR.mono ?_
          rintro e W' (⟨rfl, hJ', hkp⟩ | ⟨rfl, hJx'⟩)
          · have hc' := (World.cell?_of_block (a := ⟨b, 1, none⟩) hkp.2).trans hc
            have HJ' := Lib.hid hJ'
            clear hJ' hc
            gi_wp2_with fail
            exact ⟨⟨q + 1, pre ++ [⟨(k, q), hkq, hql⟩], by simp, by omega, by omega, Lib.hid (by rw [HMAP.out, M.rowTo_next hkq, List.append_assoc]), HJ', hc'⟩, by simp [intOf]; omega⟩
          · have HJX := Lib.hid hJx'
            clear hJx'
            gi_wp2_with fail
            refine bodyPost_ret (results_none rfl _ _ _) rfl ?_
            exact ⟨⟨_, rfl⟩, .inr ⟨pre ++ [⟨(k, q), hkq, hql⟩], by rw [HMAP.out]; exact HPRE.out, HJX.out⟩⟩
        · obtain rfl : q = t.elems.length := by omega
          have m1 : decide ((t.elems.length : Int) < (t.elems.length : Int)) = false := decide_eq_false (by omega)
          gi_wp2_with fail
          exact ⟨⟨k + 1, pre, by simp, by omega, Lib.hid (by rw [M.prsTo_next]; exact HP.out), HJ, hc⟩, by simp [intOf]; omega⟩
    · obtain rfl : k = t.elems.length := by omega
      have m1 : decide ((t.elems.length : Int) < (t.elems.length : Int)) = false := decide_eq_false (by omega)
      gi_wp2_with fail
      go_end0
      exact ⟨⟨_, rfl⟩, .inl ⟨pre, HP.out, HJ.out⟩⟩

set_option maxHeartbeats 1000000 in
set_option maxRecDepth 100000 in
theorem pairs_any (t : M.Tb) (p : Tp) (r : Nat → Nat) (w : World) :
    Calls Try.prog 68 #[knV t p r] w fun e w' => e = .returned (.func (.func 91) #[] #[.pointer (some ⟨w.heap.size, 0, none⟩)]) ∧ w' = w.alloc (.cells (knA t p r) 65) := by
  go_enter Try.func68, Try.ntmps68
  go_wp2_with fail
  go_ret
  exact ⟨rfl, rfl⟩
end Go.Proofs.Ythacjdlohmkpoaa

namespace Go.Proofs.Ythacjdlohmkpoaa
open Go.RowKit

/-- How many marks are not set. -/
def uns (w : World) (B n : Nat) : Nat := M.unseen (fun i => isT (w.cell? ⟨B, i, none⟩)) n
theorem uns_flB {w : World} {B n : Nat} {f : Nat → Bool} (h : FlB w B n f) : uns w B n = M.unseen f n := by
  unfold uns M.unseen
  congr 1
  exact List.filter_congr fun i hi => by show (!isT (w.cell? ⟨B, i, none⟩)) = _; rw [(h i (List.mem_range.1 hi)).1]; rfl
/-- What is held between two elements whose steps are gone through. -/
structure StA (t : M.Tb) (a : Nat) (w : World) (B : Nat) (v : Value) (wr : World) (S : Nat → Bool) (T : List Nat) : Prop where
  bfs : M.Bfs t a S T
  fl : FlB wr B t.elems.length S
  few : 2 * M.unseen S t.elems.length + T.length ≤ 2 * t.elems.length + 1
  que : ∃ b off cap, v = .slice (some ⟨b, off, none⟩) T.length cap ∧ QueAt wr (B + 1) b off cap (nats T)
  big : B < wr.heap.size
structure StB (t : M.Tb) (a x : Nat) (B : Nat) (v : Value) (wr : World) (S : Nat → Bool) (T : List Nat) (k m : Nat) : Prop where
  bfs : M.BfsIn t a S T x k
  fl : FlB wr B t.elems.length S
  few : 2 * M.unseen S t.elems.length + T.length + 1 ≤ m
  que : ∃ b off cap, v = .slice (some ⟨b, off, none⟩) T.length cap ∧ QueAt wr (B + 1) b off cap (nats T)
  big : B < wr.heap.size

set_option maxHeartbeats 8000000 in
set_option maxRecDepth 100000 in
theorem steps_any (t : M.Tb) (p : Tp) (a b : Nat) (w : World) (ht : TbIn w t p) (hf : M.form t) (ha : a < t.elems.length) (hb : b < t.elems.length) :
    Calls Try.prog 38 #[tbV t p, .int .i64 a, .int .i64 b] w fun e w' => e = .returned (.bool (M.stB t a b)) ∧ Below w.heap.size w w' := by
  obtain ⟨pea, pec, paa, pac, pwa, pwc⟩ := p
  obtain ⟨i0, hi, hz0, hz1, hz2⟩ := info_parts intInfo
  have HI0 := Lib.hid hi
  have HZ0 := Lib.hid hz0
  have HZ1 := Lib.hid hz1
  have HZ2 := Lib.hid hz2
  clear hi hz0 hz1 hz2
  have h12 := hf.twelve
  have hmk := make_bools t.elems.length (by omega)
  have hnn : t.above.length = t.elems.length := hf.above
  have HNN := Lib.hid hnn
  have HT := Lib.hid ht
  have HF := Lib.hid hf
  obtain ⟨c0, c1, c2, c3⟩ := tbBox (t := t) (p := ⟨pea, pec, paa, pac, pwa, pwc⟩) (box_new w (tbA t ⟨pea, pec, paa, pac, pwa, pwc⟩) 26)
  clear c0 c3 ht hf hnn
  go_enter Try.func38, Try.ntmps38
  go_wp2_with fail
  have hB0 : Below w.heap.size w (((w.alloc (.cells (tbA t ⟨pea, pec, paa, pac, pwa, pwc⟩) 26)).alloc (.cells (blsA t.elems.length) 4)).alloc (.cells #[.int .i64 a] 3)) := belowA (belowA (below1 _ _) _) _
  have hF0 := (flB_new (w.alloc (.cells (tbA t ⟨pea, pec, paa, pac, pwa, pwc⟩) 26)) t.elems.length).below _ (by simp) (below1 _ (.cells #[.int .i64 a] 3))
  rw [World.size_alloc] at hF0
  have hS0 : StA t a w (w.heap.size + 1) (.slice (some ⟨w.heap.size + 1 + 1, 0, none⟩) 1 1) (((w.alloc (.cells (tbA t ⟨pea, pec, paa, pac, pwa, pwc⟩) 26)).alloc (.cells (blsA t.elems.length) 4)).alloc (.cells #[.int .i64 a] 3)) (fun _ => false) [a] := by
    refine ⟨M.Bfs.start t a, hF0, ?_, ⟨_, _, _, rfl, Nat.le_refl _, (by simp), fun i hi => ?_, fun i hi => ?_⟩, by simp⟩
    · have := M.unseen_le (fun _ => false) t.elems.length
      simp only [List.length_singleton]; omega
    · have : i = 0 := by simpa using hi
      subst this
      rw [World.cell?_alloc_at _ _ _ _ (by simp)]; rfl
    · have : i = 0 := by omega
      subst this
      refine ⟨by rw [World.cell?_alloc_at _ _ _ _ (by simp)]; rfl, ?_⟩
      have h := box_new ((w.alloc (.cells (tbA t ⟨pea, pec, paa, pac, pwa, pwc⟩) 26)).alloc (.cells (blsA t.elems.length) 4)) #[.int .i64 a] 3
      rw [World.size_alloc, World.size_alloc] at h
      exact Lib.frozen_of_heap h 0
  have hc2 : (((w.alloc (.cells (tbA t ⟨pea, pec, paa, pac, pwa, pwc⟩) 26)).alloc (.cells (blsA t.elems.length) 4)).alloc (.cells #[.int .i64 a] 3)).cell? ⟨w.heap.size, 2, none⟩ = some (.slice paa t.above.length pac) := by
    rw [cell_below c2 (belowA (below1 _ _) _)]
  have HS0 := Lib.hid hS0
  have HB0 := Lib.hid hB0
  have HC2 := Lib.hid hc2
  clear hF0 hS0 hB0 hc2 c1 c2 hmk
  generalize hW0 : ((w.alloc (.cells (tbA t ⟨pea, pec, paa, pac, pwa, pwc⟩) 26)).alloc (.cells (blsA t.elems.length) 4)).alloc (.cells #[.int .i64 a] 3) = W0 at *
  clear hW0
  go_loopw [8] (fun v wr => ∃ S T, Hid (StA t a w (w.heap.size + 1) v wr S T) ∧ Below (w.heap.size + 1) W0 wr) (fun v wr => 2 * uns wr (w.heap.size + 1) t.elems.length + lenV v)
  case atStart => exact ⟨_, _, HS0, Below.refl _ _⟩
  case round =>
    rename_i wr
    obtain ⟨S, T, HS, hB⟩ := hrel
    obtain ⟨qb, qo, qc, rfl, hq⟩ := HS.out.que
    have hBw : Below w.heap.size w wr := HB0.out.trans (hB.mono (by omega))
    have d2 := (hB.cell (p := ⟨w.heap.size, 2, none⟩) (by show w.heap.size < w.heap.size + 1; omega)).trans HC2.out
    cases T with
    | nil =>
      have hfin := M.Bfs.fin HS.out.bfs b
      have hres : S b = M.stB t a b := by rw [Bool.eq_iff_iff, hfin, M.stB_iff HF.out ha]
      have hcb := (HS.out.fl b hb).1
      rw [hres] at hcb
      have n1 : (b : Int) < (t.elems.length : Int) := by omega
      have n2 : (0 : Int) ≤ (b : Int) := by omega
      clear hfin hres hq d2
      go_wp2_with fail
      go_ret
      exact ⟨rfl, hBw⟩
    | cons x T =>
      have hxn : x < t.elems.length := by
        rcases HS.out.bfs.todo x List.mem_cons_self with rfl | h
        · exact ha
        · exact (HS.out.bfs.sound x h).lt HF.out ha
      have hxa : x < t.above.length := by rw [HNN.out]; exact hxn
      have hq0 := hq.at_ 0 (by simp)
      have hle := hq.le
      have hfew := HS.out.few
      rw [List.length_cons] at hfew
      have HU := Lib.hid (uns_flB HS.out.fl)
      have HBI := Lib.hid HS.out.bfs.pop
      have HFL := Lib.hid HS.out.fl
      have hbig := HS.out.big
      obtain ⟨ab, ao, ea, hat⟩ := HT.out.as_.at hxa
      dsimp only at ea
      obtain ⟨ra, rc, q2, _, _, hrow⟩ := hat.at_ x hxa
      replace q2 := cell_below q2 hBw
      have HROW := Lib.hid hrow
      have hgd : t.above.getD x [] = t.above[x] := getD_in _ _ _ hxa
      obtain ⟨row, hr⟩ : ∃ row, t.above[x] = row := ⟨_, rfl⟩
      rw [hr] at q2 HROW hgd
      have HGD := Lib.hid hgd
      rw [ea] at d2
      have e0 : (nats (x :: T))[0]'(by simp) = (x : Int) := rfl
      rw [e0, Nat.add_zero] at hq0
      rw [nats_len] at hle
      have hrl : row.length ≤ 12 := by
        have h := HF.out.rows x hxa
        rw [hr] at h
        have hall : ∀ j, (hj : j < row.length) → (j : Int) ≤ row[j] := fun j => by
          induction j with
          | zero => intro hj; exact (h 0 hj).1
          | succ j ih =>
            intro hj
            have h1 := ih (by omega)
            have h2 := (h (j + 1) hj).2.2 (by omega)
            have h3 : row[j] < row[j + 1] := h2
            omega
        rcases Nat.lt_or_ge 12 row.length with q | q
        · have h1 := hall 12 q
          have h2 := (h 12 q).2.1
          omega
        · exact q
      have hcases : (qc = 1 ∧ QueAt wr (w.heap.size + 1 + 1) qb qo 0 (nats T)) ∨ (¬ qc = 1 ∧ QueAt wr (w.heap.size + 1 + 1) qb (qo + 1) (qc - 1) (nats T)) := by
        by_cases h1 : qc = 1
        · left
          have : T = [] := by
            rw [List.length_cons] at hle
            exact List.length_eq_zero_iff.1 (by omega)
          subst this
          exact ⟨h1, hq.base_, Nat.le_refl _, fun i hi => by simp at hi, fun i hi => by omega⟩
        · exact Or.inr ⟨h1, hq.pop⟩
      have m2 : (x : Int) < (t.above.length : Int) := by omega
      have m3 : (0 : Int) ≤ (x : Int) := by omega
      have m4 : T.length + 1 ≤ qc := by simpa using hle
      obtain ⟨m, hm⟩ : ∃ m, (x :: T).length = m := ⟨_, rfl⟩
      have hmT : m = T.length + 1 := by rw [← hm, List.length_cons]
      have m5 : (0 : Int) < (m : Int) := by omega
      have m6 : (1 : Int) ≤ (m : Int) := by omega
      have d0 : decide (0 < m) = true := decide_eq_true (by omega)
      have d1 : decide ((0 : Int) < (m : Int)) = true := decide_eq_true m5
      have m7 : (m : Int) ≤ (qc : Int) := by omega
      have HMT := Lib.hid hmT
      rw [hm]
      clear hm hmT
      clear e0 hq hat hrow hgd hr hle ea
      rcases hcases with ⟨rfl, hpop⟩ | ⟨hq1, hpop⟩
      all_goals
        have HPOP := Lib.hid hpop
        clear hpop
        go_wp2_with fail
        go_quiet (fail)
        go_wp2_with fail
        go_loopw [8, 10] (fun v i wo => ∃ S' T' k, i = .int .i64 (k : Nat) ∧ k ≤ row.length ∧ Hid (StB t a x (w.heap.size + 1) v wo S' T' k (2 * M.unseen S t.elems.length + (T.length + 1))) ∧ Below (w.heap.size + 1) W0 wo) (fun _ i _ => row.length - (intOf i).toNat)
        case atStart =>
          exact ⟨S, T, 0, rfl, Nat.zero_le _, Lib.hid ⟨HBI.out, HFL.out.below (w.heap.size + 1 + 1) (by omega) (belowN (Below.refl _ _) _), by omega, ⟨qb, _, _, (by have := HMT.out; congr 1; omega), HPOP.out.below (belowN (Below.refl _ _) _)⟩, hbig⟩, belowN hB _⟩
        case round =>
          clear hq0 q2 HPOP d2
          rename World => wo
          obtain ⟨S', T', k, rfl, hk, HS2, hBo⟩ := hrel
          obtain ⟨rb, ro, rcc, rfl, hqr⟩ := HS2.out.que
          have hBow : Below w.heap.size w wo := HB0.out.trans (hBo.mono (by omega))
          by_cases hkl : k < row.length
          · obtain ⟨lb, lo, elb, hlat⟩ := HROW.out.at hkl
            have r0 := cell_below (hlat.at_ k hkl) hBow
            have hlb := hlat.lt
            subst elb
            have hmem : row[k] ∈ t.above.getD x [] := by rw [HGD.out]; exact List.getElem_mem _
            obtain ⟨y, hy, hup, hyn⟩ := M.row_nat HF.out hxn hmem
            rw [hy] at r0
            have f0 := HS2.out.fl y hyn
            have n1 : (k : Int) < (row.length : Int) := by omega
            have n2 : (0 : Int) ≤ (k : Int) := by omega
            have n3 : (y : Int) < (t.elems.length : Int) := by omega
            have n4 : (0 : Int) ≤ (y : Int) := by omega
            have hgl : (t.above.getD x []).length = row.length := by rw [HGD.out]
            have hgk : ∀ h : k < (t.above.getD x []).length, (t.above.getD x [])[k] = (y : Int) := by rw [HGD.out]; exact fun _ => hy
            have HYK := Lib.hid hgk
            have HGL := Lib.hid hgl
            have hbg := HS2.out.big
            obtain ⟨f0, g0⟩ := f0
            clear hlat hmem hy hup hgk hgl
            cases hs : S' y with
            | true =>
              rw [hs] at f0
              have HB2 := Lib.hid (HS2.out.bfs.yes (by rw [HGL.out]; exact hkl) (by rw [HYK.out, Int.toNat_natCast]; exact hs))
              clear hs hqr
              go_wp2_with fail
              go_roundw
              case rel => exact ⟨S', T', k + 1, by go_num, hkl, Lib.hid ⟨HB2.out, HS2.out.fl, HS2.out.few, HS2.out.que, HS2.out.big⟩, hBo⟩
              case measure => simp [intOf]; omega
            | false =>
              rw [hs] at f0
              have HB2 := Lib.hid (HS2.out.bfs.push (by rw [HGL.out]; exact hkl) (HYK.out _))
              have r1 : (wo.setCell ⟨w.heap.size + 1, y, none⟩ (.bool true)).cell? ⟨lb, lo + k, none⟩ = some (.int .i64 y) := by
                rw [World.cell?_setCell_other _ _ _ _ (by intro q; have := congrArg Addr.block q; simp at this; omega)]; exact r0
              have HUP := Lib.hid (M.unseen_push S' t.elems.length y hyn hs)
              have hfew2 := HS2.out.few
              have HQ := Lib.hid ((hqr.other (p := ⟨w.heap.size + 1, y, none⟩) (by show w.heap.size + 1 < w.heap.size + 1 + 1; omega) (.bool true)).below (below1 _ (.cells #[.int .i64 y] 3)))
              have HF2 := Lib.hid ((HS2.out.fl.set y true).below _ (by simp [World.setCell]; omega) (below1 _ (.cells #[.int .i64 y] 3)))
              have hB2 : Below (w.heap.size + 1) W0 ((wo.setCell ⟨w.heap.size + 1, y, none⟩ (.bool true)).alloc (.cells #[.int .i64 y] 3)) := (hBo.setCell (p := ⟨w.heap.size + 1, y, none⟩) (Nat.le_refl _) _).alloc (by simp [World.setCell]; omega) _
              have hfl : T'.length + 1 ≤ 1000000 := by omega
              have hi := HI0.out
              have hz0 := HZ0.out
              have hz1 := HZ1.out
              have hz2 := HZ2.out
              clear hs hqr
              go_wp2_with (at_builtin; refine wpList_append_que _ rfl _ _ 36 rfl 3 i0 Try.underlying36 hi hz0 hz1 hz2 (w.heap.size + 1 + 1) rb ro rcc (nats T') (congrArg (fun n => Value.slice (some ⟨rb, ro, none⟩) n rcc) (nats_len T').symm) HQ.out ?c1 ⟨wo.heap.size, 0, none⟩ 1 (y : Int) rfl ?c2 ?c3 ?_)
              case c1 => simp [World.setCell]; omega
              case c2 =>
                show World.cell? _ ⟨wo.heap.size, 0, none⟩ = _
                rw [World.cell?_alloc_at _ _ _ _ (by simp [World.setCell])]; rfl
              case c3 => rw [nats_len]; exact hfl
              intro b' off' cap' w' hq' hbl
              have HQ' := Lib.hid hq'
              have HBL := Lib.hid hbl
              clear hq' hbl hi hz0 hz1 hz2
              go_wp2_with fail
              go_roundw
              case rel =>
                refine ⟨_, T' ++ [y], k + 1, by go_num, hkl, Lib.hid ⟨HB2.out, HF2.out.below _ (by omega) HBL.out, ?_, ⟨b', off', cap', ?_, ?_⟩, ?_⟩, ?_⟩
                · have := HUP.out
                  rw [List.length_append, List.length_singleton]; omega
                · rw [List.length_append, List.length_singleton]
                · have h := HQ'.out
                  rwa [show nats T' ++ [(y : Int)] = nats (T' ++ [y]) from by simp] at h
                · have := HBL.out.size; simp [World.setCell] at this; omega
                · exact hB2.trans (HBL.out.mono (by omega))
              case measure => simp [intOf]; omega
          · obtain rfl : k = row.length := by omega
            have n1 : decide ((row.length : Int) < (row.length : Int)) = false := decide_eq_false (by omega)
            have hgl : (t.above.getD x []).length = row.length := by rw [HGD.out]
            have hbf := HS2.out.bfs
            rw [← hgl] at hbf
            have HBF := Lib.hid hbf.fin
            have hfew2 := HS2.out.few
            have HUO := Lib.hid (uns_flB HS2.out.fl)
            clear hgl hbf hqr
            go_wp2_with fail
            go_roundw
            case rel => exact ⟨S', T', Lib.hid ⟨HBF.out, HS2.out.fl, by omega, ⟨rb, ro, rcc, rfl, by obtain ⟨b', o', c', e, h⟩ := HS2.out.que; cases e; exact h⟩, HS2.out.big⟩, hBo⟩
            case measure =>
              rw [HUO.out, HU.out]
              have := HMT.out
              simp [lenV]; omega
end Go.Proofs.Ythacjdlohmkpoaa

namespace Go.Proofs.Ythacjdlohmkpoaa
open Go.RowKit

/-- Lists as they lie in memory, each one a slice of its own. -/
structure NstAt {α : Type} (f : α → Value) (w : World) (b off : Nat) (l : List (List α)) : Prop where
  lt : b < w.heap.size
  at_ : ∀ i, (h : i < l.length) → ∃ a c, w.cell? ⟨b, off + i, none⟩ = some (.slice a l[i].length c) ∧ (a = none → c = 0) ∧ l[i].length ≤ c ∧ CelSl f w a l[i]
theorem NstAt.below {α : Type} {f : α → Value} {w w' : World} {b off : Nat} {l : List (List α)} (h : NstAt f w b off l) (hB : Below w.heap.size w w') : NstAt f w' b off l :=
  ⟨Nat.lt_of_lt_of_le h.lt hB.size, fun i hi => by
    obtain ⟨a, c, h1, h2, h3, h4⟩ := h.at_ i hi
    exact ⟨a, c, cell_below h1 hB, h2, h3, h4.below hB⟩⟩
theorem NstAt.row {w : World} {b off : Nat} {l : List (List Int)} (h : NstAt (Value.int .i64) w b off l) : RowAt w b off l := ⟨h.lt, h.at_⟩
/-- A list of lists of the call's own. -/
def NestOwn {α : Type} (f : α → Value) (w : World) (base : Nat) (e : TypeId) (v : Value) (rows : List (List α)) : Prop :=
  ∃ vals, w.ownsRow base e 1 v rows.length vals ∧ ∀ i, (h : i < rows.length) → ∃ a c, vals[i]? = some (.slice a rows[i].length c) ∧ (a = none → c = 0) ∧ rows[i].length ≤ c ∧ (rows[i] = [] ∨ ∃ b off, a = some ⟨b, off, none⟩ ∧ some b ≠ v.ownBlock ∧ CelAt f w b off rows[i])
theorem NestOwn.nil {α : Type} (f : α → Value) (w : World) (base : Nat) (e : TypeId) : NestOwn f w base e (.slice none 0 0) [] := ⟨[], ⟨rfl, Or.inl ⟨rfl, rfl⟩⟩, fun i hi => by simp at hi⟩
theorem NestOwn.below {α : Type} {f : α → Value} {w w' : World} {base : Nat} {e : TypeId} {v : Value} {rows : List (List α)} (h : NestOwn f w base e v rows) (hB : Below w.heap.size w w') : NestOwn f w' base e v rows := by
  obtain ⟨vals, h1, h2⟩ := h
  refine ⟨vals, own_below h1 hB, fun i hi => ?_⟩
  obtain ⟨a, c, q1, q2, q3, q4⟩ := h2 i hi
  refine ⟨a, c, q1, q2, q3, ?_⟩
  rcases q4 with q | ⟨b, off, r1, r2, r3⟩
  · exact Or.inl q
  · exact Or.inr ⟨b, off, r1, r2, r3.below hB⟩
theorem NestOwn.slice {α : Type} {f : α → Value} {w : World} {base : Nat} {e : TypeId} {v : Value} {rows : List (List α)} (h : NestOwn f w base e v rows) : ∃ a c, v = .slice a rows.length c := by
  obtain ⟨vals, h1, _⟩ := h
  exact own_slice h1
/-- As it lies in memory. -/
theorem NestOwn.lies {α : Type} {f : α → Value} {w : World} {base : Nat} {e : TypeId} {v : Value} {rows : List (List α)} (h : NestOwn f w base e v rows) :
    (v = .slice none 0 0 ∧ rows = []) ∨ ∃ g c, v = .slice (some ⟨g, 0, none⟩) rows.length c ∧ rows.length ≤ c ∧ base ≤ g ∧ NstAt f w g 0 rows := by
  obtain ⟨vals, h1, h2⟩ := h
  rcases h1.2 with ⟨rfl, h0⟩ | ⟨g, cap, cur, rfl, hb, hg, hn, hm, hs, ht⟩
  · exact Or.inl ⟨rfl, List.length_eq_zero_iff.1 h0⟩
  · refine Or.inr ⟨g, cap, rfl, hn, hb, ?_, fun i hi => ?_⟩
    · rcases Nat.lt_or_ge g w.heap.size with h' | h'
      · exact h'
      · simp [Array.getElem?_eq_none h'] at hg
    · obtain ⟨a, c, q1, q2, q3, q4⟩ := h2 i hi
      refine ⟨a, c, ?_, q2, q3, ?_⟩
      · simp only [World.cell?, hg, Nat.zero_add]
        rw [← ht, List.getElem?_take, if_pos (by omega)] at q1
        simpa using q1
      · rcases q4 with q | ⟨b, off, r1, _, r3⟩
        · exact Or.inl q
        · exact Or.inr ⟨b, off, r1, r3⟩

theorem wpList_append_nest {α : Type} {f : α → Value} {P : Program} (w : World) {ops : Array Oper} {rest : List Oper} {o : Oper} {a : Act} {Q : Exit → Act → World → Prop}
    (hg : o.guard = none) (s x : Operand) (t : TypeId) (hop : o.op = Op.call { callee := Callee.builtin Builtin.append, args := #[s, x], argTypes := #[t, t] })
    (e : TypeId) (i : TypeInfo) (h1 : P.underlying t = some (.slice e)) (h2 : P.info? e = some i) (h3 : i.zero = some (.slice none 0 0)) (h4 : i.size = 1) (h5 : i.bytes = 24)
    (base : Nat) (v : Value) (rows : List (List α)) (hs : a.eval s = v) (hq : NestOwn f w base e v rows) (hbase : base ≤ w.heap.size)
    (ad : Addr) (c : Nat) (ra : Option Addr) (l : List α) (rc : Nat) (hx : a.eval x = .slice (some ad) 1 c) (hc : w.cell? (ad.add 0) = some (.slice ra l.length rc)) (hl : rows.length + 1 ≤ 1000000)
    (hr1 : ra = none → rc = 0) (hr2 : l.length ≤ rc) (hr3 : l = [] ∨ ∃ b off, ra = some ⟨b, off, none⟩ ∧ some b ≠ v.ownBlock ∧ CelAt f w b off l)
    (hK : ∀ g c' w', NestOwn f w' base e (.slice (some ⟨g, 0, none⟩) (rows.length + 1) c') (rows ++ [l]) → Below base w w' → wpList P ops Q rest (a.put o.dst (.slice (some ⟨g, 0, none⟩) (rows.length + 1) c')) w') : wpList P ops Q (o :: rest) a w := by
  obtain ⟨vals, hown, hrows⟩ := hq
  refine wpList_append_own_at w hg s x t hop base e i (.slice none 0 0) 1 24 h1 h2 h3 h4 h5 rfl (by decide) v rows.length vals hs hown ad 1 c [.slice ra l.length rc] hx rfl ?_ ?_ (by unfold maxLen; omega) (by omega) hbase ?_
  · intro j u hj
    match j, hj with
    | 0, hj => simp at hj; subst hj; exact hc
  · intro u hu; simp at hu; subst hu; rfl
  · intro v' w' hown' hgr _ hblk
    have hvl := hown.1
    rw [Nat.mul_one] at hvl
    rcases hown'.2 with ⟨_, h0⟩ | ⟨g, cap, cur, rfl, hbg, hg', hn, hm, hsz, ht⟩
    · omega
    refine hK g cap w' ⟨vals ++ [.slice ra l.length rc], ?_, fun i hi => ?_⟩ ?_
    · rw [List.length_append, List.length_singleton]; exact hown'
    · have hkeep : ∀ b off l', some b ≠ v.ownBlock → CelAt f w b off l' → (some b ≠ (Value.slice (some ⟨g, 0, none⟩) (rows.length + 1) cap).ownBlock ∧ CelAt f w' b off l') := by
        intro b off l' hne hat
        have hlt := hat.lt
        have hb : w'.heap[b]? = w.heap[b]? := hgr.block b hlt hne
        refine ⟨?_, Nat.lt_of_lt_of_le hlt hgr.size, fun j hj => ?_⟩
        · rcases hblk with q | q
          · rw [q]; exact hne
          · rw [q]; intro e; cases e; omega
        · rw [World.cell?_of_block (w := w) hb]; exact hat.at_ j hj
      by_cases hil : i < rows.length
      · obtain ⟨a', c2, q1, q2, q3, q4⟩ := hrows i hil
        refine ⟨a', c2, ?_, q2, ?_, ?_⟩
        · rw [List.getElem?_append_left (by omega), List.getElem_append_left hil]; exact q1
        · rw [List.getElem_append_left hil]; exact q3
        · rw [List.getElem_append_left hil]
          rcases q4 with q | ⟨b, off, r1, r2, r3⟩
          · exact Or.inl q
          · obtain ⟨k1, k2⟩ := hkeep b off _ r2 r3
            exact Or.inr ⟨b, off, r1, k1, k2⟩
      · have hie : i = rows.length := by simp at hi; omega
        subst hie
        refine ⟨ra, rc, ?_, hr1, ?_, ?_⟩
        · rw [List.getElem?_append_right (by omega), hvl]; simp
        · simpa using hr2
        · rw [List.getElem_concat_length (by rfl)]
          rcases hr3 with q | ⟨b, off, r1, r2, r3⟩
          · exact Or.inl q
          · obtain ⟨k1, k2⟩ := hkeep b off _ r2 r3
            exact Or.inr ⟨b, off, r1, k1, k2⟩
    · refine (Below.refl base w).grown hgr hbase (fun k hk => ?_)
      rcases hown.2 with ⟨rfl, _⟩ | ⟨g0, _, _, rfl, hb0, _⟩
      · cases hk
      · cases hk; exact hb0
end Go.Proofs.Ythacjdlohmkpoaa

namespace Go.Proofs.Ythacjdlohmkpoaa
open Go.RowKit

set_option maxHeartbeats 2000000 in
set_option maxRecDepth 100000 in
theorem isBelow_any (t : M.Tb) (p : Tp) (a b : Nat) (w : World) (ht : TbIn w t p) (hf : M.form t) (ha : a < t.elems.length) (hb : b < t.elems.length) :
    Calls Try.prog 108 #[tbV t p, .int .i64 a, .int .i64 b] w fun e w' => e = .returned (.bool (M.leB t a b)) ∧ Below w.heap.size w w' := by
  have HC := Lib.hid (steps_any t p a b (w.alloc (.cells (tbA t p) 26)) (ht.below (below1 _ _)) hf ha hb)
  have HL := Lib.hid (M.leB_or hf ha (b := b))
  obtain ⟨c0, c1, c2, c3⟩ := tbBox (t := t) (p := p) (box_new w (tbA t p) 26)
  clear ht
  by_cases hab : a = b
  · have k1 : ((a : Int) == (b : Int)) = true := by rw [hab]; exact beq_self_eq_true _
    have HR := Lib.hid (show M.leB t a b = true from by rw [HL.out, hab]; simp)
    clear hab
    go_enter Try.func108, Try.ntmps108
    go_wp2_with fail
    go_ret
    exact ⟨ret_bool HR.out.symm, below1 _ _⟩
  · have k1 : ((a : Int) == (b : Int)) = false := by rw [beq_eq_false_iff_ne]; omega
    have HR := Lib.hid (show M.leB t a b = M.stB t a b from by rw [HL.out, decide_eq_false hab]; rfl)
    clear hab
    go_enter Try.func108, Try.ntmps108
    go_wp2_with fail
    refine HC.out.mono ?_
    rintro e w1 ⟨rfl, hB1⟩
    have hB := below2 (below1 w (.cells (tbA t p) 26)) hB1
    go_wp2_with fail
    go_ret
    exact ⟨ret_bool HR.out.symm, hB⟩

set_option maxHeartbeats 1000000 in
set_option maxRecDepth 100000 in
theorem isElem_any (t : M.Tb) (p : Tp) (a : Int) (w : World) (hn : t.elems.length ≤ 1000000) :
    Calls Try.prog 18 #[tbV t p, .int .i64 a] w fun e w' => e = .returned (.bool (M.inB t.elems.length a)) ∧ Below w.heap.size w w' := by
  obtain ⟨c0, c1, c2, c3⟩ := tbBox (t := t) (p := p) (box_new w (tbA t p) 26)
  have w1' : IntKind.i64.wrap ((t.elems.length : Int) - 1) = (t.elems.length : Int) - 1 := IntWalk.i64_in _ (by omega)
  have HC := Lib.hid fun W => in_any a 0 ((t.elems.length : Int) - 1) W
  have hd : (decide ((0 : Int) ≤ a) && decide (a ≤ (t.elems.length : Int) - 1)) = M.inB t.elems.length a := by
    unfold M.inB
    rw [Bool.eq_iff_iff]
    simp only [Bool.and_eq_true, decide_eq_true_eq]
    omega
  have HD := Lib.hid hd
  clear hd
  go_enter Try.func18, Try.ntmps18
  go_wp2_with fail
  refine (HC.out _).mono ?_
  rintro e w1 ⟨rfl, rfl⟩
  rw [HD.out]
  go_wp2_with fail
  go_ret
  exact ⟨rfl, below1 _ _⟩

namespace M
def relRow (t : Tb) (a k : Nat) : List Bool := (List.range k).map (leB t a)
def relTo (t : Tb) (k : Nat) : List (List Bool) := (List.range k).map fun a => relRow t a t.elems.length
theorem relRow_len (t : Tb) (a k : Nat) : (relRow t a k).length = k := by simp [relRow]
theorem relTo_len (t : Tb) (k : Nat) : (relTo t k).length = k := by simp [relTo]
theorem relRow_next (t : Tb) (a k : Nat) : relRow t a (k + 1) = relRow t a k ++ [leB t a k] := by simp [relRow, List.range_succ]
theorem relTo_next (t : Tb) (k : Nat) : relTo t (k + 1) = relTo t k ++ [relRow t k t.elems.length] := by simp [relTo, List.range_succ]
end M
abbrev boolCells (l : List Bool) : List Value := l.map Value.bool
theorem boolsInfo : (Try.prog.info? 24).map (fun i => (i.zero, i.size, i.bytes)) = some (some (.slice none 0 0), 1, 24) := by kernel_rfl
/-- The relation of a table as it lies in memory. -/
structure RelAt (w : World) (t : M.Tb) (g : Nat) : Prop where
  lt : g < w.heap.size
  at_ : ∀ a, a < t.elems.length → ∃ b off c, w.cell? ⟨g, a, none⟩ = some (.slice (some ⟨b, off, none⟩) t.elems.length c) ∧ b < w.heap.size ∧ ∀ j, j < t.elems.length → w.cell? ⟨b, off + j, none⟩ = some (.bool (M.leB t a j))
theorem RelAt.below {w w' : World} {t : M.Tb} {g : Nat} (h : RelAt w t g) (hB : Below w.heap.size w w') : RelAt w' t g :=
  ⟨Nat.lt_of_lt_of_le h.lt hB.size, fun a ha => by
    obtain ⟨b, off, c, h1, h2, h3⟩ := h.at_ a ha
    exact ⟨b, off, c, cell_below h1 hB, Nat.lt_of_lt_of_le h2 hB.size, fun j hj => cell_below (h3 j hj) hB⟩⟩
/-- What Rel comes to. -/
def RelPost (t : M.Tb) (w : World) (e : Ending) (w' : World) : Prop := ∃ g c, e = .returned (.slice (some ⟨g, 0, none⟩) t.elems.length c) ∧ t.elems.length ≤ c ∧ RelAt w' t g ∧ Below w.heap.size w w'
/-- The lists of a relation while it is laid. -/
def RelOwn (w : World) (t : M.Tb) (base : Nat) (v : Value) (k : Nat) : Prop := NestOwn Value.bool w base 24 v (M.relTo t k)
theorem own_flags {w : World} {base : Nat} {v : Value} {n : Nat} {l : List Bool} (hl : l.length = n) (h : w.ownsRow base 4 1 v n (boolCells l)) (hn : 0 < n) : ∃ b c, v = .slice (some ⟨b, 0, none⟩) n c ∧ n ≤ c ∧ base ≤ b ∧ CelAt Value.bool w b 0 l := by
  subst hl
  rcases h.2 with ⟨rfl, h0⟩ | ⟨g, cap, cur, rfl, hb, hg, hn, hm, hs, ht⟩
  · omega
  · refine ⟨g, cap, rfl, hn, hb, ?_, fun i hi => ?_⟩
    · rcases Nat.lt_or_ge g w.heap.size with h' | h'
      · exact h'
      · simp [Array.getElem?_eq_none h'] at hg
    · have hc : (boolCells l)[i]? = some (.bool l[i]) := by simp [hi]
      simp only [World.cell?, hg, Nat.zero_add]
      rw [← ht, List.getElem?_take, if_pos (by omega)] at hc
      simpa using hc
theorem relOwn_lies {w : World} {t : M.Tb} {base : Nat} {v : Value} (h : RelOwn w t base v t.elems.length) (hn : 1 ≤ t.elems.length) : ∃ g c, v = .slice (some ⟨g, 0, none⟩) t.elems.length c ∧ t.elems.length ≤ c ∧ RelAt w t g := by
  rcases NestOwn.lies h with ⟨_, h0⟩ | ⟨g, c, rfl, hc, _, hat⟩
  · have := M.relTo_len t t.elems.length
    rw [h0] at this; simp at this; omega
  · rw [M.relTo_len] at hc ⊢
    refine ⟨g, c, rfl, hc, hat.lt, fun a ha => ?_⟩
    obtain ⟨ad, c2, q1, _, q3, q4⟩ := hat.at_ a (by rw [M.relTo_len]; exact ha)
    have e : (M.relTo t t.elems.length)[a]'(by rw [M.relTo_len]; exact ha) = M.relRow t a t.elems.length := by simp [M.relTo]
    rw [e] at q1 q3 q4
    rw [M.relRow_len, Nat.zero_add] at q1
    rcases q4 with q | ⟨b, off, rfl, q⟩
    · have := M.relRow_len t a t.elems.length
      rw [q] at this; simp at this; omega
    · refine ⟨b, off, c2, q1, q.lt, fun j hj => ?_⟩
      have h := q.at_ j (by rw [M.relRow_len]; exact hj)
      rw [h]; simp [M.relRow]

set_option maxHeartbeats 4000000 in
set_option maxRecDepth 100000 in
theorem rel_any (t : M.Tb) (p : Tp) (w : World) (ht : TbIn w t p) (hf : M.form t) : Calls Try.prog 92 #[tbV t p] w (RelPost t w) := by
  obtain ⟨i0, hi, hz0, hz1, hz2⟩ := info_parts boolInfo
  obtain ⟨i1, hi', hz0', hz1', hz2'⟩ := info_parts boolsInfo
  have HI0 := Lib.hid hi
  have HZ0 := Lib.hid hz0
  have HZ1 := Lib.hid hz1
  have HZ2 := Lib.hid hz2
  have HI1 := Lib.hid hi'
  have HY0 := Lib.hid hz0'
  have HY1 := Lib.hid hz1'
  have HY2 := Lib.hid hz2'
  clear hi hz0 hz1 hz2 hi' hz0' hz1' hz2'
  have h12 := hf.twelve
  have hone := hf.one
  have HF := Lib.hid hf
  have HT := Lib.hid ht
  have HX := Lib.hid (tbBox (t := t) (p := p) (box_new w (tbA t p) 26))
  obtain ⟨c0, c1, c2, c3⟩ := HX.out
  clear ht hf c0 c2 c3
  go_enter Try.func92, Try.ntmps92
  go_wp2_with fail
  clear c1
  go_loopw [3, 4] (fun v i wr => ∃ k : Nat, k ≤ t.elems.length ∧ i = .int .i64 k ∧ Hid (RelOwn wr t (w.heap.size + 1) v k) ∧ Below (w.heap.size + 1) (w.alloc (.cells (tbA t p) 26)) wr) (fun _ i _ => t.elems.length - (intOf i).toNat)
  case atStart => exact ⟨0, by omega, rfl, Lib.hid (NestOwn.nil _ _ _ _), Below.refl _ _⟩
  case round =>
    rename_i wr
    obtain ⟨k, hk, rfl, HO, hB⟩ := hrel
    have hBx : Below (w.alloc (.cells (tbA t p) 26)).heap.size (w.alloc (.cells (tbA t p) 26)) wr := by rw [World.size_alloc]; exact hB
    have x1 := cell_below HX.out.c1 hBx
    have hwr : w.heap.size + 1 ≤ wr.heap.size := by have := hB.size; simpa using this
    obtain ⟨va, vc, hv⟩ := NestOwn.slice HO.out
    rw [M.relTo_len] at hv
    subst hv
    by_cases hkl : k < t.elems.length
    · have n1 : (k : Int) < (t.elems.length : Int) := by omega
      have n2 : (0 : Int) ≤ (k : Int) := by omega
      go_wp2_with fail
      go_loopw [5, 6] (fun u j wo => ∃ q : Nat, q ≤ t.elems.length ∧ j = .int .i64 q ∧ Hid (wo.ownsRow wr.heap.size 4 1 u q (boolCells (M.relRow t k q))) ∧ Below wr.heap.size wr wo) (fun _ j _ => t.elems.length - (intOf j).toNat)
      case atStart => exact ⟨0, by omega, rfl, Lib.hid ⟨rfl, Or.inl ⟨rfl, rfl⟩⟩, Below.refl _ _⟩
      case round =>
        clear x1
        rename World => wo
        obtain ⟨q, hq, rfl, HU, hBo⟩ := hrel
        obtain ⟨ua, uc, hu⟩ := own_slice HU.out
        subst hu
        have hBt := below2 hBx hBo
        have HX2 := Lib.hid (HX.out.below hBt)
        obtain ⟨y0, y1, y2, y3⟩ := HX2.out
        have hwo := hBo.size
        by_cases hql : q < t.elems.length
        · have m1 : (q : Int) < (t.elems.length : Int) := by omega
          have HC := Lib.hid (isBelow_any t p k q wo (HT.out.below (below2 (below1 _ _) hBt)) HF.out hkl hql)
          have HN := Lib.hid (M.relRow_next t k q)
          go_wp2_with fail
          refine HC.out.mono ?_
          rintro e w1 ⟨rfl, hB1⟩
          have hw1 := hB1.size
          have HU1 := Lib.hid (own_below HU.out hB1)
          have hBo1 := hBo.trans (hB1.mono hwo)
          have hi := HI0.out
          have hz0 := HZ0.out
          have hz1 := HZ1.out
          have hz2 := HZ2.out
          go_wp2_with (at_builtin; refine wpList_append_own _ rfl _ _ 24 rfl wr.heap.size 4 i0 (.bool false) 1 1 Try.underlying24 hi hz0 hz1 hz2 rfl (by decide) _ _ _ rfl (HU1.out.alloc _) ⟨w1.heap.size, 0, none⟩ 1 1 [.bool (M.leB t k q)] rfl rfl ?c1 ?c2 ?c3 ?c4 ?c5 ?_)
          case c1 =>
            intro j u hj
            match j, hj with
            | 0, hj => simp at hj; subst hj; simp [Addr.add]
          case c2 => intro u hu; simp at hu; subst hu; rfl
          case c3 => unfold maxLen; omega
          case c4 => omega
          case c5 => simp; omega
          intro v' w3 hown3 hgrow _
          have hB3 : Below wr.heap.size wr w3 := (hBo1.alloc (by omega) _).grown hgrow (by simp; omega) (fun j hj => (HU1.out.lt j hj).1)
          have R1 := Lib.hid hown3
          clear hown3 hgrow hi hz0 hz1 hz2
          obtain ⟨bv, bc, rfl⟩ := own_slice R1.out
          go_wp2_with fail
          go_roundw
          case rel =>
            refine ⟨q + 1, by omega, by go_num, Lib.hid ?_, hB3⟩
            have := R1.out
            rw [HN.out, show boolCells (M.relRow t k q ++ [M.leB t k q]) = boolCells (M.relRow t k q) ++ [.bool (M.leB t k q)] from by simp]
            exact this
          case measure => simp [intOf]; omega
        · obtain rfl : q = t.elems.length := by omega
          have m1 : decide ((t.elems.length : Int) < (t.elems.length : Int)) = false := decide_eq_false (by omega)
          obtain ⟨rb, rc, e, hrc, hrb, hcel⟩ := own_flags (M.relRow_len t k t.elems.length) HU.out (by omega)
          cases e
          have HCEL := Lib.hid (hcel.below (below1 wo (.cells #[.slice (some ⟨rb, 0, none⟩) t.elems.length uc] 24)))
          have HOW := Lib.hid (show RelOwn (wo.alloc (.cells #[.slice (some ⟨rb, 0, none⟩) t.elems.length uc] 24)) t (w.heap.size + 1) (.slice va k vc) k from NestOwn.below (NestOwn.below HO.out hBo) (below1 _ _))
          have hne : some rb ≠ (Value.slice va k vc).ownBlock := by
            intro e
            obtain ⟨vals, h1, _⟩ := HO.out
            have := (h1.lt rb e.symm).2
            omega
          have HNE := Lib.hid hne
          have HKL := Lib.hid (M.relTo_len t k)
          have HN := Lib.hid (M.relTo_next t k)
          have HLR := Lib.hid (M.relRow_len t k t.elems.length)
          have hi := HI1.out
          have hz0 := HY0.out
          have hz1 := HY1.out
          have hz2 := HY2.out
          have hBv : Below (w.heap.size + 1) (w.alloc (.cells (tbA t p) 26)) (wo.alloc (.cells #[.slice (some ⟨rb, 0, none⟩) t.elems.length uc] 24)) := (hB.trans (hBo.mono hwr)).alloc (by omega) _
          clear hne hcel
          go_wp2_with (at_builtin; refine wpList_append_nest (f := Value.bool) _ rfl _ _ 118 rfl 24 i1 Try.underlying118 hi hz0 hz1 hz2 (w.heap.size + 1) (.slice va k vc) (M.relTo t k) rfl HOW.out ?c1 ⟨wo.heap.size, 0, none⟩ 1 (some ⟨rb, 0, none⟩) (M.relRow t k t.elems.length) uc rfl ?c2 ?c3 ?c4 ?c5 ?c6 ?_)
          case c1 => simp; omega
          case c2 =>
            show World.cell? _ ⟨wo.heap.size, 0, none⟩ = _
            rw [World.cell?_alloc_at _ _ _ _ rfl, HLR.out]; rfl
          case c3 => rw [HKL.out]; omega
          case c4 => intro h; cases h
          case c5 => rw [HLR.out]; exact hrc
          case c6 => exact Or.inr ⟨rb, 0, rfl, HNE.out, HCEL.out⟩
          intro g' c' w3 hn3 hb3
          rw [HKL.out] at hn3 ⊢
          have HN3 := Lib.hid hn3
          have hBf := hBv.trans hb3
          clear hn3 hb3 hi hz0 hz1 hz2 hBv
          go_wp2_with fail
          go_roundw
          case rel =>
            refine ⟨k + 1, by omega, by go_num, Lib.hid ?_, hBf⟩
            unfold RelOwn
            rw [HN.out]
            exact HN3.out
          case measure => simp [intOf]; omega
    · obtain rfl : k = t.elems.length := by omega
      have m1 : decide ((t.elems.length : Int) < (t.elems.length : Int)) = false := decide_eq_false (by omega)
      have HR := Lib.hid (relOwn_lies HO.out hone)
      have hBf := below2 (below1 w (.cells (tbA t p) 26)) hBx
      go_wp2_with fail
      go_ret
      obtain ⟨g, c, e, h1, h2⟩ := HR.out
      exact ⟨g, c, congrArg Ending.returned e, h1, h2, hBf⟩
end Go.Proofs.Ythacjdlohmkpoaa
