/- DERIVED. The document's own PrimesOf. -/
import Derived.Test.YtnhnjfoboepffaaGreatGr44
import Derived.Test.YtnhnjfoboepffaaGreatGr42
namespace Go.Proofs.YtnhnjfoboepffaaGreat
open Go.RowKit

namespace M
/-- What the marks say when some pairs have been looked at. -/
def PmS (t : Tb) (f : Nat → Bool) (a b : Nat) : Prop := ∀ j, j < t.elems.length → (f j = true ↔ j ≠ 0 ∧ ∀ x y, x < t.elems.length → y < t.elems.length → (x < a ∨ x = a ∧ y < b) → newJ t (x, y) = true → jnD t x y ≠ j)
theorem PmS.start {t : Tb} {f : Nat → Bool} (h : ∀ j, j < t.elems.length → f j = decide (1 ≤ j)) : PmS t f 0 0 := fun j hj => by
  rw [h j hj, decide_eq_true_eq]
  constructor
  · intro q; exact ⟨by omega, fun x y _ _ q => by omega⟩
  · rintro ⟨q, _⟩; omega
theorem PmS.keep {t : Tb} {f : Nat → Bool} {a b : Nat} (h : PmS t f a b) (hn : newJ t (a, b) = false) : PmS t f a (b + 1) := fun j hj => by
  rw [h j hj]
  constructor
  · rintro ⟨h1, h2⟩
    refine ⟨h1, fun x y hx hy q hn' => ?_⟩
    by_cases e : x = a ∧ y = b
    · obtain ⟨rfl, rfl⟩ := e; rw [hn] at hn'; cases hn'
    · exact h2 x y hx hy (by omega) hn'
  · rintro ⟨h1, h2⟩; exact ⟨h1, fun x y hx hy q => h2 x y hx hy (by omega)⟩
theorem PmS.strike {t : Tb} {f : Nat → Bool} {a b : Nat} (ha : a < t.elems.length) (hb : b < t.elems.length) (h : PmS t f a b) (hn : newJ t (a, b) = true) : PmS t (fun i => if i = jnD t a b then false else f i) a (b + 1) := fun j hj => by
  by_cases e : j = jnD t a b
  · simp only [if_pos e]
    constructor
    · intro q; cases q
    · rintro ⟨_, h2⟩; exact absurd e.symm (h2 a b ha hb (by omega) hn)
  · simp only [if_neg e]
    rw [h j hj]
    constructor
    · rintro ⟨h1, h2⟩
      refine ⟨h1, fun x y hx hy q hn' => ?_⟩
      by_cases e' : x = a ∧ y = b
      · obtain ⟨rfl, rfl⟩ := e'; exact fun q => e q.symm
      · exact h2 x y hx hy (by omega) hn'
    · rintro ⟨h1, h2⟩; exact ⟨h1, fun x y hx hy q => h2 x y hx hy (by omega)⟩
theorem PmS.row {t : Tb} {f : Nat → Bool} {a : Nat} (h : PmS t f a t.elems.length) : PmS t f (a + 1) 0 := fun j hj => by
  rw [h j hj]
  constructor
  · rintro ⟨h1, h2⟩; exact ⟨h1, fun x y hx hy q => h2 x y hx hy (by omega)⟩
  · rintro ⟨h1, h2⟩; exact ⟨h1, fun x y hx hy q => h2 x y hx hy (by omega)⟩
theorem PmS.fin {t : Tb} (hg : good t) {f : Nat → Bool} (h : PmS t f t.elems.length 0) {j : Nat} (hj : j < t.elems.length) : f j = (prm t).testBit j := by
  rw [Bool.eq_iff_iff, h j hj, prm_iff hg]
  constructor
  · rintro ⟨h1, h2⟩
    refine ⟨hj, h1, fun a b ha hb e => ?_⟩
    by_cases e1 : a = j
    · exact Or.inl e1
    · by_cases e2 : b = j
      · exact Or.inr e2
      · exact absurd e (h2 a b ha hb (Or.inl ha) (newJ_iff.2 ⟨by show jnD t a b ≠ a; rw [e]; exact fun q => e1 q.symm, by show jnD t a b ≠ b; rw [e]; exact fun q => e2 q.symm⟩))
  · rintro ⟨_, h1, h2⟩
    refine ⟨h1, fun x y hx hy _ hn e => ?_⟩
    obtain ⟨q1, q2⟩ := newJ_iff.1 hn
    rcases h2 x y hx hy e with q | q
    · exact q1 (by show jnD t x y = x; rw [e, q])
    · exact q2 (by show jnD t x y = y; rw [e, q])
/-- The marked ones of the first numbers. -/
def flL (f : Nat → Bool) (k : Nat) : List Int := nats ((List.range k).filter f)
theorem flL_yes {f : Nat → Bool} {k : Nat} (h : f k = true) : flL f (k + 1) = flL f k ++ [(k : Int)] := by unfold flL nats; rw [List.range_succ, List.filter_append, List.map_append]; simp [h]
theorem flL_no {f : Nat → Bool} {k : Nat} (h : f k = false) : flL f (k + 1) = flL f k := by unfold flL nats; rw [List.range_succ, List.filter_append, List.map_append]; simp [h]
theorem flL_len (f : Nat → Bool) (k : Nat) : (flL f k).length ≤ k := by
  unfold flL
  rw [nats_len]
  exact Nat.le_trans (List.length_filter_le _ _) (by rw [List.length_range]; exact Nat.le_refl _)
theorem flL_all {f : Nat → Bool} {n m : Nat} (hn : n ≤ 12) (h1 : ∀ j, j < n → f j = m.testBit j) (h2 : ∀ j, m.testBit j = true → j < n) : flL f n = listN m 12 := by
  unfold flL listN
  show List.map _ _ = List.map _ _
  congr 1
  have e : 12 = n + (12 - n) := by omega
  rw [e, List.range_add, List.filter_append, show ((List.range (12 - n)).map (n + ·)).filter m.testBit = [] from ?_, List.append_nil]
  · exact List.filter_congr fun x hx => h1 x (List.mem_range.1 hx)
  · rw [List.filter_eq_nil_iff]
    intro x hx
    obtain ⟨y, _, rfl⟩ := List.mem_map.1 hx
    intro hc
    have := h2 _ hc
    omega
end M
theorem FlB.congr {w : World} {B n : Nat} {f g : Nat → Bool} (h : FlB w B n f) (e : ∀ i, i < n → f i = g i) : FlB w B n g := fun i hi => by rw [← e i hi]; exact h i hi

set_option maxHeartbeats 8000000 in
set_option maxRecDepth 100000 in
theorem refPrimesOf_any (t : M.Tb) (p : Tp) (w : World) (hl : M.lat t) (ht : TbIn w t p) : Calls Tryz.prog 32 #[tbV t p] w (IntsPost (M.listN (M.prm t) 12) w) := by
  obtain ⟨i0, hi, hz0, hz1, hz2⟩ := info_parts intInfo
  have HI := Lib.hid (And.intro hi (And.intro hz0 (And.intro hz1 hz2)))
  have HC := Lib.hid (rel_any t p (w.alloc (.cells (tbA t p) 26)) (ht.below (below1 _ _)) hl.1)
  obtain ⟨c0, c1, c2, c3⟩ := tbBox (t := t) (p := p) (box_new w (tbA t p) 26)
  have h12 := hl.1.twelve
  have hone := hl.1.one
  have HG := Lib.hid (M.lat_good hl)
  have HJN := Lib.hid (show ∀ a b, a < t.elems.length → b < t.elems.length → M.optI (M.lst t (M.bnd t a b)) = (M.jnD t a b : Nat) from fun a b ha hb => by
    obtain ⟨c, hc⟩ := M.jn_any (M.lat_good hl) ha hb
    have e : M.lst t (M.bnd t a b) = some c := hc
    unfold M.jnD
    rw [hc, e]; rfl)
  have HJL := Lib.hid (show ∀ a b, M.jnD t a b < t.elems.length from fun a b => M.jnD_lt hl.1 a b)
  have HBL := Lib.hid (show ∀ a b, (M.bnd t a b).length ≤ 12 from fun a b => Nat.le_trans (M.bndTo_len t a b t.elems.length) h12)
  have hmk := make_bools t.elems.length (by omega)
  clear ht hl hi hz0 hz1 hz2
  go_enter Tryz.func32, Tryz.ntmps32
  go_wp2_with fail
  refine HC.out.mono ?_
  rintro e w1 ⟨g, c, rfl, hc, hr, hB1⟩
  have HB := Lib.hid (below2 (below1 w (.cells (tbA t p) 26)) hB1)
  have HR := Lib.hid hr
  have hf0 := flB_new w1 t.elems.length
  have HF0 := Lib.hid (hf0.congr (g := fun j => decide (1 ≤ j) && decide (j < 1)) (fun i _ => by by_cases q : 1 ≤ i <;> simp [q]; try omega))
  have HB1 := Lib.hid (below1 w1 (.cells (blsA t.elems.length) 4))
  have hsz0 : w1.heap.size < (w1.alloc (.cells (blsA t.elems.length) 4)).heap.size := by simp
  clear c0 c1 c2 c3 hB1 HC hr hc hf0
  go_wp2_with fail
  clear hmk
  go_loopw [6] (fun i wr => ∃ k : Nat, 1 ≤ k ∧ k ≤ t.elems.length ∧ i = .int .i64 k ∧ Hid (FlB wr w1.heap.size t.elems.length (fun j => decide (1 ≤ j) && decide (j < k))) ∧ Hid (Below w1.heap.size w1 wr) ∧ w1.heap.size < wr.heap.size) (fun i _ => t.elems.length - (intOf i).toNat)
  case atStart => exact ⟨1, by omega, by omega, rfl, HF0, HB1, hsz0⟩
  case round =>
    clear HF0 HB1 hsz0
    rename World => wr
    obtain ⟨k, hk1, hk, rfl, HF, HBr, hszr⟩ := hrel
    by_cases hkl : k < t.elems.length
    · have n1 : (k : Int) < (t.elems.length : Int) := by omega
      have n2 : (0 : Int) ≤ (k : Int) := by omega
      obtain ⟨f0, g0⟩ := HF.out k hkl
      have HFn := Lib.hid ((HF.out.set k true).congr (g := fun j => decide (1 ≤ j) && decide (j < k + 1)) (fun i hi => by
        by_cases e : i = k
        · subst e; simp [hk1]
        · simp only [if_neg e]
          congr 1
          exact decide_eq_decide.2 (by omega)))
      have HBn := Lib.hid (HBr.out.setCell (p := ⟨w1.heap.size, k, none⟩) (Nat.le_refl _) (.bool true))
      have hszn : w1.heap.size < (wr.setCell ⟨w1.heap.size, k, none⟩ (.bool true)).heap.size := by simp [World.setCell]; exact hszr
      go_wp2_with fail
      go_roundw
      case rel => exact ⟨k + 1, by omega, by omega, by go_num, HFn, HBn, hszn⟩
      case measure => simp [intOf]; omega
    · obtain rfl : k = t.elems.length := by omega
      have n1 : decide ((t.elems.length : Int) < (t.elems.length : Int)) = false := decide_eq_false (by omega)
      have HPS := Lib.hid (M.PmS.start (t := t) (f := fun j => decide (1 ≤ j) && decide (j < t.elems.length)) (fun j hj => by simp [hj]))
      go_wp2_with fail
      go_loopw [7] (fun i wo => ∃ (a : Nat) (f : Nat → Bool), a ≤ t.elems.length ∧ i = .int .i64 a ∧ Hid (M.PmS t f a 0) ∧ Hid (FlB wo w1.heap.size t.elems.length f) ∧ Hid (Below w1.heap.size w1 wo) ∧ w1.heap.size < wo.heap.size) (fun i _ => t.elems.length - (intOf i).toNat)
      case atStart => exact ⟨0, _, by omega, rfl, HPS, HF, HBr, hszr⟩
      case round =>
        clear HPS HF HBr hszr
        rename World => wo
        obtain ⟨a, f, ha, rfl, HP, HF, HBo, hszo⟩ := hrel
        by_cases hal : a < t.elems.length
        · have a1 : (a : Int) < (t.elems.length : Int) := by omega
          go_wp2_with fail
          go_loopw [8] (fun i wq => ∃ (b : Nat) (f : Nat → Bool), b ≤ t.elems.length ∧ i = .int .i64 b ∧ Hid (M.PmS t f a b) ∧ Hid (FlB wq w1.heap.size t.elems.length f) ∧ Hid (Below w1.heap.size w1 wq) ∧ w1.heap.size < wq.heap.size) (fun i _ => t.elems.length - (intOf i).toNat)
          case atStart => exact ⟨0, f, by omega, rfl, HP, HF, HBo, hszo⟩
          case round =>
            clear HP HF HBo hszo f
            rename World => wq
            obtain ⟨b, f, hb, rfl, HP, HF, HBq, hszq⟩ := hrel
            by_cases hbl : b < t.elems.length
            · have b1 : (b : Int) < (t.elems.length : Int) := by omega
              go_wp2_with fail
              refine (bounds_any t g c a b wq (HR.out.below HBq.out) h12 hal hbl).mono ?_
              rintro e w2 ⟨la, lc, rfl, h1, h2, h3, hB2⟩
              rw [nats_len]
              have HB2 := Lib.hid (below2 HBq.out hB2)
              have HF2 := Lib.hid (HF.out.below _ hszq hB2)
              have hsz2 : w1.heap.size < w2.heap.size := Nat.lt_of_lt_of_le hszq hB2.size
              have H3 := Lib.hid h3
              clear h1 h2 h3 hB2
              go_wp2_with fail
              refine (least_any t g c lc la (M.bnd t a b) w2 (HR.out.below HB2.out) h12 H3.out (fun x hx => (M.mem_bnd.1 hx).1) (HBL.out a b)).mono ?_
              rintro e w3 ⟨rfl, hB3⟩
              rw [HJN.out a b hal hbl]
              have HB3 := Lib.hid (below2 HB2.out hB3)
              have HF3 := Lib.hid (HF2.out.below _ hsz2 hB3)
              have hsz3 : w1.heap.size < w3.heap.size := Nat.lt_of_lt_of_le hsz2 hB3.size
              have hjl := HJL.out a b
              clear hB3 HB2 HF2 H3
              by_cases e1 : M.jnD t a b = a
              · have HPn := Lib.hid (HP.out.keep (Bool.eq_false_iff.2 fun q => (M.newJ_iff.1 q).1 e1))
                rw [e1]
                clear e1 hjl
                go_wp2_with fail
                go_roundw
                case rel => exact ⟨b + 1, f, by omega, by go_num, HPn, HF3, HB3, hsz3⟩
                case measure => simp [intOf]; omega
              · by_cases e2 : M.jnD t a b = b
                · have HPn := Lib.hid (HP.out.keep (Bool.eq_false_iff.2 fun q => (M.newJ_iff.1 q).2 e2))
                  have q1 : ((b : Int) == (a : Int)) = false := by rw [beq_eq_false_iff_ne]; omega
                  have q2 : ((b : Int) != (a : Int)) = true := by rw [bne, q1]; rfl
                  rw [e2]
                  clear e1 e2 hjl
                  go_wp2_with fail
                  go_roundw
                  case rel => exact ⟨b + 1, f, by omega, by go_num, HPn, HF3, HB3, hsz3⟩
                  case measure => simp [intOf]; omega
                · have HPn := Lib.hid (HP.out.strike hal hbl (M.newJ_iff.2 ⟨e1, e2⟩))
                  obtain ⟨j, hj⟩ : ∃ j, M.jnD t a b = j := ⟨_, rfl⟩
                  rw [hj] at HPn hjl e1 e2 ⊢
                  have q1 : ((j : Int) == (a : Int)) = false := by rw [beq_eq_false_iff_ne]; omega
                  have q2 : ((j : Int) != (a : Int)) = true := by rw [bne, q1]; rfl
                  have q3 : ((j : Int) == (b : Int)) = false := by rw [beq_eq_false_iff_ne]; omega
                  have q4 : ((j : Int) != (b : Int)) = true := by rw [bne, q3]; rfl
                  have m1 : (j : Int) < (t.elems.length : Int) := by omega
                  have m2 : (0 : Int) ≤ (j : Int) := by omega
                  obtain ⟨f0, g0⟩ := HF3.out j hjl
                  have HFn := Lib.hid (HF3.out.set j false)
                  have HBn := Lib.hid (HB3.out.setCell (p := ⟨w1.heap.size, j, none⟩) (Nat.le_refl _) (.bool false))
                  have hszn : w1.heap.size < (w3.setCell ⟨w1.heap.size, j, none⟩ (.bool false)).heap.size := by simp [World.setCell]; exact hsz3
                  clear hj e1 e2
                  go_wp2_with fail
                  go_roundw
                  case rel => exact ⟨b + 1, _, by omega, by go_num, HPn, HFn, HBn, hszn⟩
                  case measure => simp [intOf]; omega
            · obtain rfl : b = t.elems.length := by omega
              have b1 : decide ((t.elems.length : Int) < (t.elems.length : Int)) = false := decide_eq_false (by omega)
              have HPn := Lib.hid HP.out.row
              go_wp2_with fail
              go_roundw
              case rel => exact ⟨a + 1, f, by omega, by go_num, HPn, HF, HBq, hszq⟩
              case measure => simp [intOf]; omega
        · obtain rfl : a = t.elems.length := by omega
          have a1 : decide ((t.elems.length : Int) < (t.elems.length : Int)) = false := decide_eq_false (by omega)
          have HFA := Lib.hid (M.flL_all (f := f) h12 (fun j hj => HP.out.fin HG.out hj) (fun j hj => ((M.prm_iff HG.out j).1 hj).lt))
          have HO0 := Lib.hid (show wo.ownsRow (w1.heap.size + 1) 3 1 (.slice none 0 0) (M.flL f 0).length (intCells (M.flL f 0)) from ⟨rfl, Or.inl ⟨rfl, rfl⟩⟩)
          go_wp2_with fail
          go_loopw [3, 10] (fun v i wq => ∃ k : Nat, k ≤ t.elems.length ∧ i = .int .i64 k ∧ Hid (wq.ownsRow (w1.heap.size + 1) 3 1 v (M.flL f k).length (intCells (M.flL f k))) ∧ Hid (Below (w1.heap.size + 1) wo wq)) (fun _ i _ => t.elems.length - (intOf i).toNat)
          case atStart => exact ⟨0, by omega, rfl, HO0, Lib.hid (Below.refl _ _)⟩
          case round =>
            clear HO0
            rename World => wq
            obtain ⟨k, hk, rfl, HO, HBq⟩ := hrel
            obtain ⟨av, ac, rfl⟩ := own_slice HO.out
            have HFq := Lib.hid (HF.out.below _ (Nat.lt_succ_self _) HBq.out)
            have hz := HBq.out.size
            by_cases hkl : k < t.elems.length
            · have k1 : (k : Int) < (t.elems.length : Int) := by omega
              have k2 : (0 : Int) ≤ (k : Int) := by omega
              have f0 := (HFq.out k hkl).1
              have hle := M.flL_len f k
              cases hfk : f k with
              | false =>
                rw [hfk] at f0
                have HN := Lib.hid (M.flL_no hfk)
                clear hfk
                go_wp2_with fail
                go_roundw
                case rel => exact ⟨k + 1, by omega, by go_num, by rw [HN.out]; exact HO, HBq⟩
                case measure => simp [intOf]; omega
              | true =>
                rw [hfk] at f0
                have HN := Lib.hid (M.flL_yes hfk)
                clear hfk
                have hi := HI.out.1
                have hz0 := HI.out.2.1
                have hz1 := HI.out.2.2.1
                have hz2 := HI.out.2.2.2
                have hzz : w1.heap.size + 1 ≤ wq.heap.size := by omega
                go_wp2_with (at_builtin; refine wpList_append_own _ rfl _ _ 35 rfl (w1.heap.size + 1) 3 i0 (.int .i64 0) 1 8 Tryz.underlying35 hi hz0 hz1 hz2 rfl (by decide) _ _ _ rfl (HO.out.alloc _) ⟨wq.heap.size, 0, none⟩ 1 1 [.int .i64 k] rfl rfl ?c1 ?c2 ?c3 ?c4 ?c5 ?_)
                case c1 =>
                  intro j u hj
                  match j, hj with
                  | 0, hj => simp at hj; subst hj; simp [Addr.add]
                case c2 => intro u hu; simp at hu; subst hu; rfl
                case c3 => unfold maxLen; omega
                case c4 => omega
                case c5 => simp; omega
                intro v' w5 hown3 hgrow _
                have hB5 : Below (w1.heap.size + 1) wo w5 := (HBq.out.alloc hzz _).grown hgrow (by simp; omega) (fun j hj => (HO.out.lt j hj).1)
                have R1 := Lib.hid hown3
                have HB5 := Lib.hid hB5
                clear hown3 hgrow hB5 hi hz0 hz1 hz2
                obtain ⟨bv, bc, rfl⟩ := own_slice R1.out
                go_wp2_with fail
                go_roundw
                case rel =>
                  refine ⟨k + 1, by omega, by go_num, Lib.hid ?_, HB5⟩
                  rw [HN.out, List.length_append]
                  have := R1.out
                  rw [show intCells (M.flL f k ++ [(k : Int)]) = intCells (M.flL f k) ++ [.int .i64 k] from by unfold intCells; rw [List.map_append]; rfl]
                  exact this
                case measure => simp [intOf]; omega
            · obtain rfl : k = t.elems.length := by omega
              have k1 : decide ((t.elems.length : Int) < (t.elems.length : Int)) = false := decide_eq_false (by omega)
              have hO := HO.out
              rw [HFA.out] at hO
              obtain ⟨x, y, e, q1, q2, q3⟩ := own_int hO
              rw [HFA.out]
              cases e
              have HQ := Lib.hid (And.intro q1 (And.intro q2 q3))
              have HBf := Lib.hid (show Below w.heap.size w wq from (below2 HB.out HBo.out).trans (HBq.out.mono (by have := HB.out.size; omega)))
              clear q1 q2 q3 hO
              go_wp2_with fail
              go_ret
              exact ⟨_, _, rfl, HQ.out.1, HQ.out.2.1, HQ.out.2.2, HBf.out⟩
end Go.Proofs.YtnhnjfoboepffaaGreat
