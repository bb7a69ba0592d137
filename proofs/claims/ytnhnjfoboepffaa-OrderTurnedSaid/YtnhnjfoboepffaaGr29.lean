/- Texts of one's own, joined: OrdAp. -/
import Derived.Test.YtnhnjfoboepffaaGr28
import Derived.Test.YtnhnjfoboepffaaGr1
import Derived.Laws.Concat
import Derived.Laws.CopyRow
namespace Go.Proofs.Ytnhnjfoboepffaa
open Go.RowKit

namespace M
def elB (t : Tb) (x : Int) : List UInt8 := bl (t.elems.getD x.toNat ⟨#[]⟩)
def sepU (k : Nat) : List UInt8 := if k = 0 then [58, 32] else [44, 32]
/-- The text of the first ones of the elements above one. -/
def upL (t : Tb) (L : List Int) (k : Nat) : List UInt8 := (List.range k).flatMap fun i => sepU i ++ elB t (L.getD i 0)
theorem upL_next (t : Tb) (L : List Int) (k : Nat) : upL t L (k + 1) = upL t L k ++ (sepU k ++ elB t (L.getD k 0)) := by unfold upL; rw [List.range_succ, List.flatMap_append]; simp
/-- The text of an element. -/
def elT (t : Tb) (a : Nat) : List UInt8 := elB t a ++ (if wr t a then [33] else []) ++ upL t (t.above.getD a []) (t.above.getD a []).length
theorem elB_len {t : Tb} (hf : form t) (x : Int) : (elB t x).length ≤ 12 := by
  unfold elB
  rcases Nat.lt_or_ge x.toNat t.elems.length with h | h
  · rw [getD_in _ _ _ h]
    have := hf.names _ h
    unfold isNameB at this
    simp only [Bool.and_eq_true, decide_eq_true_eq] at this
    exact this.1.1.2
  · rw [List.getD_eq_getElem?_getD, List.getElem?_eq_none h]; simp
theorem sepU_len (k : Nat) : (sepU k).length = 2 := by unfold sepU; split <;> rfl
theorem upL_len {t : Tb} (hf : form t) (L : List Int) (k : Nat) : (upL t L k).length ≤ 14 * k := by
  induction k with
  | zero => simp [upL]
  | succ k ih =>
    rw [upL_next, List.length_append, List.length_append, sepU_len]
    have := elB_len hf (L.getD k 0)
    omega
theorem elT_len {t : Tb} (hf : form t) (a : Nat) (ha : (t.above.getD a []).length ≤ 12) : (elT t a).length ≤ 181 := by
  unfold elT
  rw [List.length_append, List.length_append]
  have h1 := elB_len hf (a : Int)
  have h2 := upL_len hf (t.above.getD a []) (t.above.getD a []).length
  have h3 : (if wr t a then ([33] : List UInt8) else []).length ≤ 1 := by split <;> simp
  omega
end M

set_option maxHeartbeats 4000000 in
set_option maxRecDepth 100000 in
theorem elemText_any (t : M.Tb) (p : Tp) (a : Nat) (w : World) (ht : TbIn w t p) (hf : M.form t) (ha : a < t.elems.length) :
    Calls Try.prog 31 #[tbV t p, .int .i64 a] w fun e w' => e = .returned (.string (bs (M.elT t a))) ∧ Below w.heap.size w w' := by
  obtain ⟨pea, pec, paa, pac, pwa, pwc⟩ := p
  have h12 := hf.twelve
  have hrow := row_short hf ha
  have ha' : a < t.above.length := by rw [hf.above]; exact ha
  have haw : a < t.wrong.length := by rw [hf.wrong]; exact ha
  have HB0 := Lib.hid (below1 w (.cells (tbA t ⟨pea, pec, paa, pac, pwa, pwc⟩) 26))
  obtain ⟨eb, eo, ee, heat⟩ := (ht.below HB0.out).es.at ha
  obtain ⟨ab, ao, ea, hat⟩ := (ht.below HB0.out).as_.at ha'
  obtain ⟨wb, wo, ew, hwt⟩ := (ht.below HB0.out).ws.at haw
  dsimp only at ee ea ew
  subst ee ea ew
  have HEAT := Lib.hid heat
  have e0 := heat.at_ a ha
  rw [← getD_in t.elems ⟨#[]⟩ a ha] at e0
  have w0 := hwt.at_ a haw
  rw [← getD_in t.wrong false a haw] at w0
  obtain ⟨ra, rc, r0, _, _, hr⟩ := hat.at_ a ha'
  have HR := Lib.hid hr
  have hgd : t.above.getD a [] = t.above[a] := getD_in _ _ _ ha'
  have HASC := Lib.hid (hf.rows a ha')
  rw [hgd] at hrow
  obtain ⟨L, hL⟩ : ∃ L, t.above[a] = L := ⟨_, rfl⟩
  rw [hL] at hrow r0 HR HASC hgd
  have HT := Lib.hid (show M.elT t a = M.elB t a ++ (if M.wr t a then [33] else []) ++ M.upL t L L.length from by unfold M.elT; rw [hgd])
  have hsz := M.elB_len hf (a : Int)
  have HEB := Lib.hid (fun x => M.elB_len hf x)
  have HUL := Lib.hid (fun k => M.upL_len hf L k)
  have heb : M.elB t (a : Int) = bl (t.elems.getD a ⟨#[]⟩) := by unfold M.elB; rw [Int.toNat_natCast]
  obtain ⟨s0, hs0⟩ : ∃ s0, t.elems.getD a ⟨#[]⟩ = s0 := ⟨_, rfl⟩
  rw [hs0] at e0 heb
  rw [heb, bl_len] at hsz
  have HEB0 := Lib.hid heb
  obtain ⟨c0, c1, c2, c3⟩ := tbBox (t := t) (p := ⟨some ⟨eb, eo, none⟩, pec, some ⟨ab, ao, none⟩, pac, some ⟨wb, wo, none⟩, pwc⟩) (box_new w (tbA t ⟨some ⟨eb, eo, none⟩, pec, some ⟨ab, ao, none⟩, pac, some ⟨wb, wo, none⟩, pwc⟩) 26)
  have n1 : (a : Int) < (t.elems.length : Int) := by omega
  have n2 : (0 : Int) ≤ (a : Int) := by omega
  have n3 : (a : Int) < (t.above.length : Int) := by omega
  have n4 : (a : Int) < (t.wrong.length : Int) := by omega
  have hsz1 : ¬ 9223372036854775807 < s0.size + 1 := by omega
  clear heat hwt hat hr hs0 hL hgd ht hf heb
  have hwr : ∃ O : ByteArray, bl O = M.elB t a ++ (if M.wr t a then [33] else []) ∧ ((t.wrong.getD a false = true ∧ O = s0 ++ ⟨#[33]⟩) ∨ (t.wrong.getD a false = false ∧ O = s0)) := by
    cases h : t.wrong.getD a false with
    | true =>
      refine ⟨s0 ++ ⟨#[33]⟩, ?_, Or.inl ⟨rfl, rfl⟩⟩
      rw [bl_cat, HEB0.out, show M.wr t a = true from h]; rfl
    | false =>
      refine ⟨s0, ?_, Or.inr ⟨rfl, rfl⟩⟩
      rw [HEB0.out, show M.wr t a = false from h]; simp
  obtain ⟨O0, hO0, hcase⟩ := hwr
  have HO0 := Lib.hid hO0
  clear hO0
  rcases hcase with ⟨hw, rfl⟩ | ⟨hw, rfl⟩
  all_goals
    rw [hw] at w0
    have HW := Lib.hid hw
    clear hw
    go_enter Try.func31, Try.ntmps31
    go_wp2_with fail
    go_loop [5, 6, 27] (fun u v i => ∃ (k : Nat) (O bf : ByteArray), k ≤ L.length ∧ i = .int .i64 k ∧ u = .string O ∧ v = .string bf ∧ Hid (bl O = M.elB t a ++ (if M.wr t a then [33] else []) ++ M.upL t L k) ∧ Hid (bl bf = M.sepU k)) (fun _ _ i => L.length - (intOf i).toNat)
    case atStart => exact ⟨0, _, _, by omega, rfl, rfl, rfl, Lib.hid (by rw [HO0.out]; simp [M.upL]), Lib.hid rfl⟩
    case round =>
      obtain ⟨k, O, bf, hk, rfl, rfl, rfl, HO, HF⟩ := hrel
      by_cases hkl : k < L.length
      · obtain ⟨lb, lo, rfl, hlat⟩ := HR.out.at hkl
        have r1 := hlat.at_ k hkl
        have hasc := HASC.out k hkl
        have hnx := M.upL_next t L k
        rw [getD_in L 0 k hkl] at hnx
        obtain ⟨x, hx⟩ : ∃ x : Nat, L[k] = (x : Int) := ⟨(L[k]).toNat, by omega⟩
        rw [hx] at r1 hasc hnx
        have hxn : x < t.elems.length := by omega
        have f0 := HEAT.out.at_ x hxn
        rw [← getD_in t.elems ⟨#[]⟩ x hxn] at f0
        have hxl := HEB.out (x : Int)
        have hbx : M.elB t (x : Int) = bl (t.elems.getD x ⟨#[]⟩) := by unfold M.elB; rw [Int.toNat_natCast]
        obtain ⟨s, hs⟩ : ∃ s, t.elems.getD x ⟨#[]⟩ = s := ⟨_, rfl⟩
        rw [hs] at f0 hbx
        rw [hbx] at hxl hnx
        have hul := HUL.out k
        have hol : O.size ≤ 13 + 14 * k := by
          rw [← bl_len, HO.out, List.length_append, List.length_append]
          have h3 : (if M.wr t a then ([33] : List UInt8) else []).length ≤ 1 := by split <;> simp
          have h4 := HEB.out (a : Int)
          omega
        have hfl : bf.size = 2 := by rw [← bl_len, HF.out, M.sepU_len]
        rw [bl_len] at hxl
        have z1 : ¬ 9223372036854775807 < bf.size + s.size := by omega
        have z2 : ¬ 9223372036854775807 < O.size + (bf ++ s).size := by rw [ByteArray.size_append]; omega
        have z3 : ¬ 9223372036854775807 < O.size + (bf.size + s.size) := by omega
        have m1 : (k : Int) < (L.length : Int) := by omega
        have m2 : (0 : Int) ≤ (k : Int) := by omega
        have m3 : (x : Int) < (t.elems.length : Int) := by omega
        have m4 : (0 : Int) ≤ (x : Int) := by omega
        have HN := Lib.hid (show bl (O ++ (bf ++ s)) = M.elB t a ++ (if M.wr t a then [33] else []) ++ M.upL t L (k + 1) from by
          rw [bl_cat, bl_cat, HO.out, HF.out, hnx]; simp only [List.append_assoc])
        have HS := Lib.hid (show bl (⟨#[44, 32]⟩ : ByteArray) = M.sepU (k + 1) from by unfold M.sepU; rw [if_neg (by omega)])
        clear hlat hasc hnx hx hs hbx hul hol hfl hxl
        go_wp2_with fail
        go_round
        case rel => exact ⟨k + 1, _, _, by omega, by go_num, rfl, rfl, HN, HS⟩
        case measure => simp [intOf]; omega
      · obtain rfl : k = L.length := by omega
        have m1 : decide ((L.length : Int) < (L.length : Int)) = false := decide_eq_false (by omega)
        go_wp2_with fail
        go_ret
        exact ⟨ret_bs (by rw [HO.out, HT.out]), HB0.out⟩
end Go.Proofs.Ytnhnjfoboepffaa
