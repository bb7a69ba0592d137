/- Texts of one's own, joined: OrdEa. -/
import Derived.Test.YtnhnjfoboepffaaGr31
namespace Go.Proofs.Ytnhnjfoboepffaa
open Go.RowKit

namespace M
theorem join_snoc (xs : List (List UInt8)) (x sep : List UInt8) : Lib.join (xs ++ [x]) sep = Lib.join xs sep ++ (if xs.length = 0 then [] else sep) ++ x := by
  cases xs with
  | nil => rw [List.nil_append, Lib.join_cons, Lib.join_nil]; simp [Lib.joinTail]
  | cons y ys => rw [List.cons_append, Lib.join_cons, Lib.join_cons]; simp [Lib.joinTail]
/-- The text of a table with its first elements. -/
def txP (t : Tb) (k : Nat) : List UInt8 := lit1 ++ bl t.name ++ lit2 ++ Lib.join (elTs t k) [59, 32]
theorem txP_next (t : Tb) (k : Nat) : txP t (k + 1) = txP t k ++ (if k = 0 then [] else [59, 32]) ++ elT t k := by
  unfold txP
  rw [elTs_next, join_snoc, elTs_len]
  simp only [List.append_assoc]
theorem txP_all (t : Tb) : txP t t.elems.length ++ [32, 125] = txt t := by unfold txP txt; rfl
theorem txP_len {t : Tb} (hf : form t) {k : Nat} (hk : k ≤ t.elems.length) : (txP t k).length ≤ 2300 := by
  have h12 := hf.twelve
  have h := join_len (elTs t k) [59, 32] 181 (fun x hx => by
    unfold elTs at hx
    obtain ⟨a, ha, rfl⟩ := List.mem_map.1 hx
    exact elT_len hf a (row_short hf (Nat.lt_of_lt_of_le (List.mem_range.1 ha) hk)))
  rw [elTs_len] at h
  have h2 : k * (181 + [59, 32].length) ≤ 12 * 183 := Nat.mul_le_mul (by omega) (Nat.le_refl _)
  have h3 : (bl t.name).length ≤ 12 := by
    have := hf.name
    unfold isTabB isNameB at this
    simp only [Bool.and_eq_true, decide_eq_true_eq] at this
    exact this.1.1.1.2
  unfold txP lit1 lit2
  simp only [List.length_append, List.length_cons, List.length_nil]
  omega
end M

set_option maxHeartbeats 8000000 in
set_option maxRecDepth 100000 in
theorem refText_any (t : M.Tb) (p : Tp) (w : World) (hs : t.name.size ≤ maxLen) (hes : ∀ s, s ∈ t.elems → s.size ≤ maxLen) (hal : ∀ l, l ∈ t.above → l.length ≤ 1000000) (ht : TbIn w t p) : Calls Try.prog 12 #[tbV t p] w (TextPost t w) := by
  have HW := Lib.hid (below1 w (.cells (tbA t p) 26))
  have HT := Lib.hid (ht.below HW.out)
  have HX := Lib.hid (tbBox (t := t) (p := p) (box_new w (tbA t p) 26))
  have HC := Lib.hid (refCheck_any t p (w.alloc (.cells (tbA t p) 26)) hs hes hal (ht.below HW.out))
  obtain ⟨c0, c1, c2, c3⟩ := HX.out
  clear ht hal hs hes
  go_enter Try.func12, Try.ntmps12
  go_wp2_with fail
  refine HC.out.mono ?_
  rintro e w1 ⟨⟨hf, rfl⟩ | ⟨hf, rfl⟩, hB1⟩
  · have HF := Lib.hid hf
    have h12 := hf.twelve
    have HB := Lib.hid (below2 HW.out hB1)
    have HX1 := Lib.hid (HX.out.below hB1)
    have HT1 := Lib.hid (HT.out.below hB1)
    have hnm : t.name.size ≤ 12 := by
      have := HF.out.name
      unfold M.isTabB M.isNameB at this
      simp only [Bool.and_eq_true, decide_eq_true_eq] at this
      rw [M.size_list] at this
      exact this.1.1.1.2
    clear hf hB1 c0 c1 c2 c3
    obtain ⟨x0, x1, x2, x3⟩ := HX1.out
    have z0 : ¬ 9223372036854775807 < 8 + t.name.size := by omega
    have z1 : ¬ 9223372036854775807 < 8 + t.name.size + 3 := by omega
    have HL0 := Lib.hid (show bl (((⟨#[108, 97, 116, 116, 105, 99, 101, 32]⟩ : ByteArray) ++ t.name) ++ ⟨#[32, 123, 32]⟩) = M.txP t 0 from by
      rw [bl_cat, bl_cat]; unfold M.txP; rw [show M.elTs t 0 = [] from rfl, Lib.join_nil, List.append_nil]; rfl)
    go_wp2_with fail
    clear x0 x1 x2 x3
    go_loopw [5, 6] (fun v i wr => ∃ (k : Nat) (O : ByteArray), k ≤ t.elems.length ∧ i = .int .i64 k ∧ v = .string O ∧ Hid (bl O = M.txP t k) ∧ Hid (Below w1.heap.size w1 wr)) (fun _ i _ => t.elems.length - (intOf i).toNat)
    case atStart => exact ⟨0, _, by omega, rfl, rfl, HL0, Lib.hid (Below.refl _ _)⟩
    case round =>
      clear HL0 z0 z1
      rename World => wr
      obtain ⟨k, O, hk, rfl, rfl, HO, HBr⟩ := hrel
      have HX1 := Lib.hid (HX1.out.below HBr.out)
      have HT1 := Lib.hid (HT1.out.below HBr.out)
      obtain ⟨x0, x1, x2, x3⟩ := HX1.out
      have hOl : O.size ≤ 2300 := by rw [← bl_len, HO.out]; exact M.txP_len HF.out hk
      by_cases hkl : k < t.elems.length
      · have hka : k < t.above.length := by rw [HF.out.above]; exact hkl
        have hkw : k < t.wrong.length := by rw [HF.out.wrong]; exact hkl
        obtain ⟨pea, pec, paa, pac, pwa, pwc⟩ := p
        obtain ⟨eb, eo, ee, heat⟩ := HT1.out.es.at hkl
        obtain ⟨ab, ao, ea, hat⟩ := HT1.out.as_.at hka
        obtain ⟨wb, wo, ew, hwt⟩ := HT1.out.ws.at hkw
        dsimp only at ee ea ew
        subst ee ea ew
        have HEAT := Lib.hid heat
        have e0 := heat.at_ k hkl
        rw [← getD_in t.elems ⟨#[]⟩ k hkl] at e0
        have w0 := hwt.at_ k hkw
        rw [← getD_in t.wrong false k hkw] at w0
        obtain ⟨ra, rc, r0, _, _, hr⟩ := hat.at_ k hka
        have HR := Lib.hid hr
        have hgd : t.above.getD k [] = t.above[k] := getD_in _ _ _ hka
        have HASC := Lib.hid (HF.out.rows k hka)
        have hrow := row_short HF.out hkl
        rw [hgd] at hrow
        obtain ⟨L, hL⟩ : ∃ L, t.above[k] = L := ⟨_, rfl⟩
        rw [hL] at hrow r0 HR HASC hgd
        have HEL := Lib.hid (show M.elT t k = M.elB t k ++ (if M.wr t k then [33] else []) ++ M.upL t L L.length from by unfold M.elT; rw [hgd])
        have heb : M.elB t (k : Int) = bl (t.elems.getD k ⟨#[]⟩) := by unfold M.elB; rw [Int.toNat_natCast]
        have hsz := M.elB_len HF.out (k : Int)
        obtain ⟨s0, hs0⟩ : ∃ s0, t.elems.getD k ⟨#[]⟩ = s0 := ⟨_, rfl⟩
        rw [hs0] at e0 heb
        rw [heb, bl_len] at hsz
        have HEB0 := Lib.hid heb
        have HNX := Lib.hid (M.txP_next t k)
        have n1 : (k : Int) < (t.elems.length : Int) := by omega
        have n2 : (0 : Int) ≤ (k : Int) := by omega
        have n3 : (k : Int) < (t.above.length : Int) := by omega
        have n4 : (k : Int) < (t.wrong.length : Int) := by omega
        have HUL := Lib.hid (fun j => M.upL_len HF.out L j)
        clear heat hwt hat hr hs0 hL hgd heb
        have hcs : ∃ O3 : ByteArray, Hid (bl O3 = M.txP t k ++ (if k = 0 then [] else [59, 32]) ++ (M.elB t k ++ (if M.wr t k then [33] else []))) ∧ O3.size ≤ 2315 ∧
            ((k = 0 ∧ t.wrong.getD k false = true ∧ O3 = O ++ s0 ++ ⟨#[33]⟩) ∨ (k = 0 ∧ t.wrong.getD k false = false ∧ O3 = O ++ s0) ∨ (0 < k ∧ t.wrong.getD k false = true ∧ O3 = O ++ ⟨#[59, 32]⟩ ++ s0 ++ ⟨#[33]⟩) ∨ (0 < k ∧ t.wrong.getD k false = false ∧ O3 = O ++ ⟨#[59, 32]⟩ ++ s0)) := by
          have l1 : (⟨#[33]⟩ : ByteArray).size = 1 := rfl
          have l2 : (⟨#[59, 32]⟩ : ByteArray).size = 2 := rfl
          have hw' : M.wr t k = t.wrong.getD k false := rfl
          rw [hw']
          rcases Nat.eq_zero_or_pos k with h0 | h0 <;> cases hw : t.wrong.getD k false
          · exact ⟨O ++ s0, Lib.hid (by rw [bl_cat, HO.out, HEB0.out, if_pos h0]; simp), by rw [ByteArray.size_append]; omega, Or.inr (Or.inl ⟨h0, rfl, rfl⟩)⟩
          · exact ⟨O ++ s0 ++ ⟨#[33]⟩, Lib.hid (by rw [bl_cat, bl_cat, HO.out, HEB0.out, if_pos h0]; simp [bl]), by rw [ByteArray.size_append, ByteArray.size_append]; omega, Or.inl ⟨h0, rfl, rfl⟩⟩
          · exact ⟨O ++ ⟨#[59, 32]⟩ ++ s0, Lib.hid (by rw [bl_cat, bl_cat, HO.out, HEB0.out, if_neg (by omega)]; simp [bl]), by rw [ByteArray.size_append, ByteArray.size_append]; omega, Or.inr (Or.inr (Or.inr ⟨h0, rfl, rfl⟩))⟩
          · exact ⟨O ++ ⟨#[59, 32]⟩ ++ s0 ++ ⟨#[33]⟩, Lib.hid (by rw [bl_cat, bl_cat, bl_cat, HO.out, HEB0.out, if_neg (by omega)]; simp [bl]), by rw [ByteArray.size_append, ByteArray.size_append, ByteArray.size_append]; omega, Or.inr (Or.inr (Or.inl ⟨h0, rfl, rfl⟩))⟩
        obtain ⟨O3, HO3, hO3l, hcs⟩ := hcs
        have z1 : ¬ 9223372036854775807 < O.size + 2 := by omega
        have z2 : ¬ 9223372036854775807 < O.size + 2 + s0.size := by omega
        have z3 : ¬ 9223372036854775807 < O.size + 2 + s0.size + 1 := by omega
        have z4 : ¬ 9223372036854775807 < O.size + s0.size := by omega
        have z5 : ¬ 9223372036854775807 < O.size + s0.size + 1 := by omega
        clear HNX HO
        rcases hcs with ⟨h0, hw, hO3⟩ | ⟨h0, hw, hO3⟩ | ⟨h0, hw, hO3⟩ | ⟨h0, hw, hO3⟩
        all_goals
          rw [hw] at w0
          have HE3 := Lib.hid hO3
          clear hw hO3
          first
            | (obtain rfl : k = 0 := h0; simp only [Nat.add_zero] at e0 w0 r0)
            | (have hk0 : (0 : Int) < (k : Int) := by omega)
          go_wp2_with fail
          rw [← HE3.out]
          have R0 := Lib.hid r0
          clear x0 x1 x2 x3 e0 w0 r0
          go_loopw [5, 7] (fun v i wo => ∃ (j : Nat) (O4 : ByteArray), j ≤ L.length ∧ i = .int .i64 j ∧ v = .string O4 ∧ Hid (bl O4 = bl O3 ++ M.upL t L j) ∧ Hid (Below wr.heap.size wr wo)) (fun _ i _ => L.length - (intOf i).toNat)
          case atStart => exact ⟨0, _, by omega, rfl, rfl, Lib.hid (by simp [M.upL]), Lib.hid (Below.refl _ _)⟩
          case round =>
            rename World => wo
            obtain ⟨j, O4, hj, rfl, rfl, HO4, HBo⟩ := hrel
            obtain ⟨x0, x1, x2, x3⟩ := HX1.out.below HBo.out
            have r0 := cell_below R0.out HBo.out
            have hO4l : O4.size ≤ 2315 + 14 * j := by
              rw [← bl_len, HO4.out, List.length_append, bl_len]
              have := HUL.out j
              omega
            by_cases hjl : j < L.length
            · obtain ⟨lb, lo, rfl, hlat⟩ := HR.out.at hjl
              have r1 := cell_below (hlat.at_ j hjl) HBo.out
              have hasc := HASC.out j hjl
              have hnx := M.upL_next t L j
              rw [getD_in L 0 j hjl] at hnx
              obtain ⟨x, hx⟩ : ∃ x : Nat, L[j] = (x : Int) := ⟨(L[j]).toNat, by omega⟩
              rw [hx] at r1 hasc hnx
              have hxn : x < t.elems.length := by omega
              have f0 := cell_below (HEAT.out.at_ x hxn) HBo.out
              rw [← getD_in t.elems ⟨#[]⟩ x hxn] at f0
              have hbx : M.elB t (x : Int) = bl (t.elems.getD x ⟨#[]⟩) := by unfold M.elB; rw [Int.toNat_natCast]
              have hxl := M.elB_len HF.out (x : Int)
              obtain ⟨s, hs⟩ : ∃ s, t.elems.getD x ⟨#[]⟩ = s := ⟨_, rfl⟩
              rw [hs] at f0 hbx
              rw [hbx] at hnx
              rw [hbx, bl_len] at hxl
              have y1 : ¬ 9223372036854775807 < O4.size + 2 := by omega
              have y2 : ¬ 9223372036854775807 < O4.size + 2 + s.size := by omega
              have y3 : ¬ 9223372036854775807 < (O4 ++ (⟨#[58, 32]⟩ : ByteArray)).size + s.size := by rw [ByteArray.size_append]; exact y2
              have y4 : ¬ 9223372036854775807 < (O4 ++ (⟨#[44, 32]⟩ : ByteArray)).size + s.size := by rw [ByteArray.size_append]; exact y2
              have m1 : (j : Int) < (L.length : Int) := by omega
              have m2 : (0 : Int) ≤ (j : Int) := by omega
              have m3 : (x : Int) < (t.elems.length : Int) := by omega
              have m4 : (0 : Int) ≤ (x : Int) := by omega
              have HNX := Lib.hid hnx
              clear hlat hasc hnx hx hs hbx hxl hO4l
              rcases Nat.eq_zero_or_pos j with hj0 | hj0
              · obtain rfl : j = 0 := hj0
                simp only [Nat.add_zero] at r1
                have HN := Lib.hid (show bl (O4 ++ ⟨#[58, 32]⟩ ++ s) = bl O3 ++ M.upL t L (0 + 1) from by
                  rw [bl_cat, bl_cat, HO4.out, HNX.out]; simp only [M.sepU, List.append_assoc]; rfl)
                go_wp2_with fail
                go_quiet (fail)
                go_wp2_with fail
                go_round
                case rel => exact ⟨0 + 1, _, by omega, by go_num, rfl, HN, Lib.hid (belowN HBo.out _)⟩
                case measure => simp [intOf]; omega
              · have q0 : ((j : Int) == 0) = false := by rw [beq_eq_false_iff_ne]; omega
                have HN := Lib.hid (show bl (O4 ++ ⟨#[44, 32]⟩ ++ s) = bl O3 ++ M.upL t L (j + 1) from by
                  rw [bl_cat, bl_cat, HO4.out, HNX.out]; simp only [M.sepU, if_neg (show ¬ j = 0 by omega), List.append_assoc])
                go_wp2_with fail
                go_quiet (fail)
                go_wp2_with fail
                go_round
                case rel => exact ⟨j + 1, _, by omega, by go_num, rfl, HN, Lib.hid (belowN HBo.out _)⟩
                case measure => simp [intOf]; omega
            · obtain rfl : j = L.length := by omega
              have m1 : decide ((L.length : Int) < (L.length : Int)) = false := decide_eq_false (by omega)
              have HF2 := Lib.hid (show bl O4 = M.txP t (_ + 1) from by
                rw [M.txP_next, HEL.out, HO4.out, HO3.out]; simp only [List.append_assoc])
              go_wp2_with fail
              go_round
              case rel => exact ⟨_, _, by omega, by go_num, rfl, HF2, Lib.hid (below2 HBr.out HBo.out)⟩
              case measure => simp [intOf]; omega
      · obtain rfl : k = t.elems.length := by omega
        have m1 : decide ((t.elems.length : Int) < (t.elems.length : Int)) = false := decide_eq_false (by omega)
        have y1 : ¬ 9223372036854775807 < O.size + 2 := by omega
        have HTX := Lib.hid (show bl (O ++ ⟨#[32, 125]⟩) = M.txt t from by rw [bl_cat, HO.out, ← M.txP_all])
        go_wp2_with fail
        go_ret2
        exact tp_2 HF.out HTX.out (below2 HB.out HBr.out)
  · have HF := Lib.hid hf
    have hB := below2 HW.out hB1
    clear hf hB1 c0 c1 c2 c3
    go_wp2_with fail
    go_ret2
    exact tp_1 HF.out hB
end Go.Proofs.Ytnhnjfoboepffaa
