/- DERIVED. The document's own PartsOf, Primes, Parts. -/
import Derived.Test.YtnhnjfoboepffaaGreatOrdFaC
import Derived.Test.YtnhnjfoboepffaaGreatBasMC
import Derived.Test.YtnhnjfoboepffaaGreatOrdDeC
namespace Go.Proofs.YtnhnjfoboepffaaGreat
open Go.RowKit

namespace M
/-- An element of a list. -/
def atL (L : List Int) (i : Nat) : Nat := (L.getD i 0).toNat
theorem atL_of {L : List Int} (h0 : ∀ x, x ∈ L → 0 ≤ x) {i : Nat} (hi : i < L.length) : L[i] = (atL L i : Int) := by
  unfold atL
  rw [getD_in _ _ _ hi, Int.toNat_of_nonneg (h0 _ (List.getElem_mem hi))]
/-- Whether one of a list is a greatest one below an element, as far as looked. -/
def ptP (t : Tb) (a : Nat) (L : List Int) (i k : Nat) : Bool := leB t (atL L i) a && (List.range k).all fun j => j == i || !leB t (atL L j) a || !leB t (atL L i) (atL L j)
theorem ptP_zero (t : Tb) (a : Nat) (L : List Int) (i : Nat) : ptP t a L i 0 = leB t (atL L i) a := by simp [ptP]
theorem ptP_next (t : Tb) (a : Nat) (L : List Int) (i k : Nat) : ptP t a L i (k + 1) = (ptP t a L i k && (k == i || !leB t (atL L k) a || !leB t (atL L i) (atL L k))) := by
  unfold ptP; rw [List.range_succ, List.all_append]; simp [Bool.and_assoc]
theorem ptP_fin {t : Tb} (hg : good t) {a i : Nat} (hi : i < (listN (prm t) 12).length) : ptP t a (listN (prm t) 12) i (listN (prm t) 12).length = (prt t a).testBit (atL (listN (prm t) 12) i) := by
  have h0 : ∀ x, x ∈ listN (prm t) 12 → 0 ≤ x := fun x hx => (prml_mem hg hx).1
  have hpr : ∀ k, k < (listN (prm t) 12).length → isPr t (atL (listN (prm t) 12) k) := fun k hk => by
    have := (prml_mem hg (List.getElem_mem hk)).2
    rwa [atL_of h0 hk, Int.toNat_natCast] at this
  have hpw := listN_asc (prm t) 12
  rw [Bool.eq_iff_iff, prt_iff hg]
  unfold ptP
  rw [Bool.and_eq_true, List.all_eq_true]
  constructor
  · rintro ⟨h1, h2⟩
    refine ⟨hpr i hi, h1, fun p q1 q2 q3 => ?_⟩
    have h12 := hg.form.twelve
    have hm : (p : Int) ∈ listN (prm t) 12 := (listN_mem _ _ _).2 ⟨p, rfl, by have := q1.lt; omega, (prm_iff hg p).2 q1⟩
    obtain ⟨k, hk, e⟩ := List.getElem_of_mem hm
    have e2 : atL (listN (prm t) 12) k = p := by
      have := atL_of h0 hk
      rw [e] at this; omega
    have h3 := h2 k (List.mem_range.2 hk)
    rw [e2, q2, q3] at h3
    have : k = i := by simpa using h3
    rw [← e2, this]
  · rintro ⟨_, h1, h2⟩
    refine ⟨h1, fun k hk => ?_⟩
    have hk := List.mem_range.1 hk
    cases q1 : leB t (atL (listN (prm t) 12) k) a with
    | false => simp
    | true =>
      cases q2 : leB t (atL (listN (prm t) 12) i) (atL (listN (prm t) 12) k) with
      | false => simp
      | true =>
        have e := h2 _ (hpr k hk) q1 q2
        have e1 := atL_of h0 hk
        have e2 := atL_of h0 hi
        have e3 : (listN (prm t) 12)[k] = (listN (prm t) 12)[i] := by rw [e1, e2, e]
        have : k = i := by
          rw [List.pairwise_iff_getElem] at hpw
          rcases Nat.lt_trichotomy k i with q | q | q
          · have := hpw k i hk hi q; omega
          · exact q
          · have := hpw i k hi hk q; omega
        simp [this]
/-- The parts among the first primes. -/
def ptL (t : Tb) (a : Nat) (L : List Int) (i : Nat) : List Int := (L.take i).filter fun x => (prt t a).testBit x.toNat
theorem ptL_yes {t : Tb} {a : Nat} {L : List Int} {i : Nat} (hi : i < L.length) (h : (prt t a).testBit (L[i]).toNat = true) : ptL t a L (i + 1) = ptL t a L i ++ [L[i]] := by
  unfold ptL; rw [List.take_succ_eq_append_getElem hi, List.filter_append]; simp [h]
theorem ptL_no {t : Tb} {a : Nat} {L : List Int} {i : Nat} (hi : i < L.length) (h : (prt t a).testBit (L[i]).toNat = false) : ptL t a L (i + 1) = ptL t a L i := by
  unfold ptL; rw [List.take_succ_eq_append_getElem hi, List.filter_append]; simp [h]
theorem ptL_len (t : Tb) (a : Nat) (L : List Int) (i : Nat) : (ptL t a L i).length ≤ L.length := by
  unfold ptL
  exact Nat.le_trans (List.length_filter_le _ _) (by rw [List.length_take]; omega)
theorem ptL_all {t : Tb} (hg : good t) (a : Nat) : ptL t a (listN (prm t) 12) (listN (prm t) 12).length = listN (prt t a) 12 := by
  unfold ptL
  rw [List.take_length]
  unfold listN
  rw [List.filter_map, List.filter_filter]
  congr 1
  refine List.filter_congr fun x _ => ?_
  show ((prt t a).testBit ((x : Int).toNat) && (prm t).testBit x) = _
  rw [Int.toNat_natCast, Bool.eq_iff_iff, Bool.and_eq_true]
  constructor
  · rintro ⟨h, _⟩; exact h
  · intro h; exact ⟨h, (prm_iff hg x).2 ((prt_iff hg a x).1 h).pr⟩
end M

set_option maxHeartbeats 16000000 in
set_option maxRecDepth 100000 in
theorem refPartsOf_any (t : M.Tb) (p : Tp) (a : Nat) (w : World) (hl : M.lat t) (ha : a < t.elems.length) (ht : TbIn w t p) : Calls Tryz.prog 33 #[tbV t p, .int .i64 a] w (IntsPost (M.listN (M.prt t a) 12) w) := by
  have hmx : Tryz.prog.follows .mixedOrders = true := by kernel_rfl
  obtain ⟨i0, hi, hz0, hz1, hz2⟩ := info_parts intInfo
  have HI := Lib.hid (And.intro hi (And.intro hz0 (And.intro hz1 hz2)))
  have HX := Lib.hid (tbBox (t := t) (p := p) (box_new w (tbA t p) 26))
  have HT := Lib.hid (ht.below (below1 w (.cells (tbA t p) 26)))
  have HBW := Lib.hid (below1 w (.cells (tbA t p) 26))
  have HCP := Lib.hid (fun W h => refPrimesOf_any t p W hl h)
  have HCR := Lib.hid (fun W h => rel_any t p W h hl.1)
  have h12 := hl.1.twelve
  have HG := Lib.hid (M.lat_good hl)
  clear ht hl hi hz0 hz1 hz2
  go_enter Tryz.func33, Tryz.ntmps33
  go_upto_region 2 with fail
  have hS := And.intro (HX.out.below (Below.refl _ _).drew) (Below.refl (w.alloc (.cells (tbA t p) 26)).heap.size (w.alloc (.cells (tbA t p) 26))).drew
  refine wp_region_held (S := (fun W => TbBox W w.heap.size t p ∧ Below (w.alloc (.cells (tbA t p) 26)).heap.size (w.alloc (.cells (tbA t p) 26)) W)) hmx ?_
  change wpAnyH _ _ _ _ _ _ _ _ ((w.alloc (.cells (tbA t p) 26))).drew
  refine wpAnyH_take (i := 0) (v := tbV t p) rfl (by kernel_rfl) (by kernel_rfl) (by kernel_rfl) (fun _ _ _ h => h) (Or.inl ⟨by kernel_rfl, ?_⟩) hS ?_
  · intro W' hSw
    obtain ⟨⟨c0, c1, c2, c3⟩, _⟩ := hSw
    go_simp
  dsimp only [List.getElem_toArray, List.getElem_cons_zero, List.getElem_cons_succ, Act.put, List.setIfInBounds_toArray, List.set_cons_zero, List.set_cons_succ]
  refine wpAnyH_take (i := 2) (v := tbV t p) rfl (by kernel_rfl) (by kernel_rfl) (by kernel_rfl) (fun _ _ _ h => h) (Or.inl ⟨by kernel_rfl, ?_⟩) hS ?_
  · intro W' hSw
    obtain ⟨⟨c0, c1, c2, c3⟩, _⟩ := hSw
    go_simp
  dsimp only [List.getElem_toArray, List.getElem_cons_zero, List.getElem_cons_succ, Act.put, List.setIfInBounds_toArray, List.set_cons_zero, List.set_cons_succ]
  refine wpAnyH_one 1 (by kernel_rfl) rfl fun K' HK => ?_
  go_wp2_with fail
  refine (HCP.out _ (HT.out.below hS.2)).mono ?_
  rintro e w2 ⟨la, lc, rfl, h1, h2, h3, hB⟩
  have HL := Lib.hid h3
  have HB2 := Lib.hid (below2 hS.2 hB)
  clear h1 h2 h3 hB
  go_wp2_with fail
  refine HK.out _ _ ⟨⟨HX.out.below HB2.out, HB2.out⟩, ?_⟩
  clear HK K' hS
  try dsimp only [List.getElem_toArray, List.getElem_cons_zero, List.getElem_cons_succ, Act.put, List.setIfInBounds_toArray, List.set_cons_zero, List.set_cons_succ]
  refine wpAnyH_one 3 (by kernel_rfl) rfl fun K' HK => ?_
  go_wp2_with fail
  refine (HCR.out _ (HT.out.below HB2.out)).mono ?_
  rintro e w3 ⟨g, c, rfl, h1, hr, hB⟩
  have HR := Lib.hid hr
  have HL := Lib.hid (HL.out.below hB)
  have HB3 := Lib.hid (below2 HB2.out hB)
  clear h1 hr hB HB2
  go_wp2_with fail
  refine HK.out _ _ ⟨⟨HX.out.below HB3.out, HB3.out⟩, ?_⟩
  clear HK K'
  have hS3 := And.intro (HX.out.below HB3.out) HB3.out
  try dsimp only [List.getElem_toArray, List.getElem_cons_zero, List.getElem_cons_succ, Act.put, List.setIfInBounds_toArray, List.set_cons_zero, List.set_cons_succ]
  refine wpAnyH_take (i := 4) (v := .slice la (M.listN (M.prm t) 12).length lc) rfl (by kernel_rfl) (by kernel_rfl) (by kernel_rfl) (fun _ _ _ h => h) (Or.inl ⟨by kernel_rfl, ?_⟩) hS3 ?_
  · intro W' hSw
    obtain ⟨⟨c0, c1, c2, c3⟩, _⟩ := hSw
    go_simp
  dsimp only [List.getElem_toArray, List.getElem_cons_zero, List.getElem_cons_succ, Act.put, List.setIfInBounds_toArray, List.set_cons_zero, List.set_cons_succ]
  refine wpAnyH_take (i := 5) (v := .slice (some ⟨g, 0, none⟩) t.elems.length c) rfl (by kernel_rfl) (by kernel_rfl) (by kernel_rfl) (fun _ _ _ h => h) (Or.inl ⟨by kernel_rfl, ?_⟩) hS3 ?_
  · intro W' hSw
    obtain ⟨⟨c0, c1, c2, c3⟩, _⟩ := hSw
    go_simp
  dsimp only [List.getElem_toArray, List.getElem_cons_zero, List.getElem_cons_succ, Act.put, List.setIfInBounds_toArray, List.set_cons_zero, List.set_cons_succ]
  clear hS3
  refine wpAnyH_done (by kernel_rfl) ?_ _
  have hL12 := M.listN_le (M.prm t) 12
  have HLM := Lib.hid (show ∀ x, x ∈ M.listN (M.prm t) 12 → 0 ≤ x ∧ x.toNat < t.elems.length from fun x hx => ⟨(M.prml_mem HG.out hx).1, (M.prml_mem HG.out hx).2.lt⟩)
  have HPF := Lib.hid (fun i (hi : i < (M.listN (M.prm t) 12).length) => M.ptP_fin HG.out (a := a) hi)
  have HPA := Lib.hid (M.ptL_all HG.out a)
  generalize hLg : M.listN (M.prm t) 12 = L at *
  clear hLg
  have HO0 := Lib.hid (show w3.ownsRow w3.heap.size 3 1 (.slice none 0 0) (M.ptL t a L 0).length (intCells (M.ptL t a L 0)) from ⟨rfl, Or.inl ⟨rfl, rfl⟩⟩)
  go_wp2_with fail
  go_loopw [5, 8] (fun v i wr => ∃ k : Nat, k ≤ L.length ∧ i = .int .i64 k ∧ Hid (wr.ownsRow w3.heap.size 3 1 v (M.ptL t a L k).length (intCells (M.ptL t a L k))) ∧ Hid (Below w3.heap.size w3 wr)) (fun _ i _ => L.length - (intOf i).toNat)
  case atStart => exact ⟨0, by omega, rfl, HO0, Lib.hid (Below.refl _ _)⟩
  case round =>
    clear HO0
    rename World => wr
    obtain ⟨i, hi, rfl, HO, HBr⟩ := hrel
    obtain ⟨av, ac, rfl⟩ := own_slice HO.out
    have hz := HBr.out.size
    by_cases hil : i < L.length
    · have i1 : (i : Int) < (L.length : Int) := by omega
      have i2 : (0 : Int) ≤ (i : Int) := by omega
      have a1 : (a : Int) < (t.elems.length : Int) := by omega
      have a2 : (0 : Int) ≤ (a : Int) := by omega
      have hxi := M.atL_of (fun x hx => (HLM.out x hx).1) hil
      have hxl : M.atL L i < t.elems.length := by have := (HLM.out _ (List.getElem_mem hil)).2; rw [hxi, Int.toNat_natCast] at this; exact this
      have HLr := Lib.hid (HL.out.below HBr.out)
      obtain ⟨lb, lo, ela, hat⟩ := HLr.out.at hil
      subst ela
      have HAT := Lib.hid hat
      have r1 := hat.at_ i hil
      rw [hxi] at r1
      obtain ⟨ib, io, ic, p1, p2, p3⟩ := (HR.out.below HBr.out).at_ _ hxl
      have r2 := p3 a ha
      have HP3 := Lib.hid p3
      have HPZ := Lib.hid (M.ptP_zero t a L i)
      have HPN := Lib.hid (fun k => M.ptP_next t a L i k)
      have HFI := Lib.hid (HPF.out i hil)
      have HYES := Lib.hid (fun h => M.ptL_yes (t := t) (a := a) hil h)
      have HNO := Lib.hid (fun h => M.ptL_no (t := t) (a := a) hil h)
      have HXI := Lib.hid hxi
      clear hat p3 p2
      generalize hx : M.atL L i = x at *
      have n1 : (x : Int) < (t.elems.length : Int) := by omega
      have n2 : (0 : Int) ≤ (x : Int) := by omega
      clear hxi
      go_wp2_with fail
      rw [← HPZ.out]
      have R1 := Lib.hid r1
      have R3 := Lib.hid p1
      clear r1 r2 p1
      go_loopw [9, 10] (fun b i' wo => ∃ k : Nat, k ≤ L.length ∧ i' = .int .i64 k ∧ b = .bool (M.ptP t a L i k) ∧ Hid (Below wr.heap.size wr wo)) (fun _ i' _ => L.length - (intOf i').toNat)
      case atStart => exact ⟨0, by omega, rfl, rfl, Lib.hid (Below.refl _ _)⟩
      case round =>
        rename World => wo
        obtain ⟨k, hk, rfl, rfl, HBo⟩ := hrel
        by_cases hkl : k < L.length
        · have k1 : (k : Int) < (L.length : Int) := by omega
          have k2 : (0 : Int) ≤ (k : Int) := by omega
          have hnx := HPN.out k
          cases hT : M.ptP t a L i k with
          | false =>
            rw [hT, Bool.false_and] at hnx
            have HNX := Lib.hid hnx
            clear hnx hT
            go_wp2_with fail
            go_quiet (fail)
            go_wp2_with fail
            go_roundw
            case rel => exact ⟨k + 1, by omega, by go_num, by rw [HNX.out], Lib.hid (belowN HBo.out _)⟩
            case measure => simp [intOf]; omega
          | true =>
            rw [hT, Bool.true_and] at hnx
            clear hT
            by_cases hki : k = i
            · have HNX := Lib.hid (show M.ptP t a L i (k + 1) = true by rw [hnx, hki]; simp)
              clear hnx
              subst hki
              go_wp2_with fail
              go_quiet (fail)
              go_wp2_with fail
              go_roundw
              case rel => exact ⟨k + 1, by omega, by go_num, by rw [HNX.out], Lib.hid (belowN HBo.out _)⟩
              case measure => simp [intOf]; omega
            · have q1 : ((k : Int) == (i : Int)) = false := by rw [beq_eq_false_iff_ne]; omega
              have q2 : (k == i) = false := by rw [beq_eq_false_iff_ne]; exact hki
              rw [q2, Bool.false_or] at hnx
              have hyi := M.atL_of (fun x hx => (HLM.out x hx).1) hkl
              have hyl : M.atL L k < t.elems.length := by have := (HLM.out _ (List.getElem_mem hkl)).2; rw [hyi, Int.toNat_natCast] at this; exact this
              have s1 := cell_below R1.out HBo.out
              have s2 := cell_below (HAT.out.at_ k hkl) HBo.out
              rw [hyi] at s2
              obtain ⟨kb, ko, kc, q4, _, q5⟩ := ((HR.out.below HBr.out).below HBo.out).at_ _ hyl
              have s3 := q5 a ha
              have s4 := cell_below R3.out HBo.out
              have s5 := cell_below (HP3.out _ hyl) HBo.out
              clear q5 q2 hyi
              generalize hy : M.atL L k = y at *
              have m1 : (y : Int) < (t.elems.length : Int) := by omega
              have m2 : (0 : Int) ≤ (y : Int) := by omega
              clear hy
              cases hA : M.leB t y a with
              | false =>
                rw [hA] at s3
                have HNX := Lib.hid (show M.ptP t a L i (k + 1) = true by rw [hnx, hA]; rfl)
                clear hnx hA
                go_wp2_with fail
                go_quiet (fail)
                go_wp2_with fail
                go_roundw
                case rel => exact ⟨k + 1, by omega, by go_num, by rw [HNX.out], Lib.hid (belowN HBo.out _)⟩
                case measure => simp [intOf]; omega
              | true =>
                rw [hA] at s3
                have HNX := Lib.hid (show M.ptP t a L i (k + 1) = !M.leB t x y by rw [hnx, hA]; rfl)
                clear hnx hA
                go_wp2_with fail
                go_quiet (fail)
                go_wp2_with fail
                go_roundw
                case rel => exact ⟨k + 1, by omega, by go_num, by rw [HNX.out], Lib.hid (belowN HBo.out _)⟩
                case measure => simp [intOf]; omega
        · obtain rfl : k = L.length := by omega
          have k1 : decide ((L.length : Int) < (L.length : Int)) = false := decide_eq_false (by omega)
          rw [HFI.out]
          have HBn := Lib.hid (below2 HBr.out HBo.out)
          have HOn := Lib.hid (own_below HO.out HBo.out)
          have hle := M.ptL_len t a L i
          have s1 := cell_below R1.out HBo.out
          have hzn := HBn.out.size
          cases hT : (M.prt t a).testBit x with
          | false =>
            have HN := Lib.hid (HNO.out (by rw [HXI.out, Int.toNat_natCast]; exact hT))
            clear hT
            go_wp2_with fail
            go_roundw
            case rel => exact ⟨i + 1, by omega, by go_num, by rw [HN.out]; exact HOn, HBn⟩
            case measure => simp [intOf]; omega
          | true =>
            have HN := Lib.hid (HYES.out (by rw [HXI.out, Int.toNat_natCast]; exact hT))
            clear hT
            have hi := HI.out.1
            have hz0 := HI.out.2.1
            have hz1 := HI.out.2.2.1
            have hz2 := HI.out.2.2.2
            go_wp2_with (at_builtin; refine wpList_append_own _ rfl _ _ 35 rfl w3.heap.size 3 i0 (.int .i64 0) 1 8 Tryz.underlying35 hi hz0 hz1 hz2 rfl (by decide) _ _ _ rfl (HOn.out.alloc _) ⟨wo.heap.size, 0, none⟩ 1 1 [.int .i64 x] rfl rfl ?c1 ?c2 ?c3 ?c4 ?c5 ?_)
            case c1 =>
              intro j u hj
              match j, hj with
              | 0, hj => simp at hj; subst hj; simp [Addr.add]
            case c2 => intro u hu; simp at hu; subst hu; rfl
            case c3 => unfold maxLen; omega
            case c4 => omega
            case c5 => simp; omega
            intro v' w5 hown3 hgrow _
            have hB5 : Below w3.heap.size w3 w5 := (HBn.out.alloc hzn _).grown hgrow (by simp; omega) (fun j hj => (HOn.out.lt j hj).1)
            have R9 := Lib.hid hown3
            have HB5 := Lib.hid hB5
            clear hown3 hgrow hB5 hi hz0 hz1 hz2
            obtain ⟨bv, bc, rfl⟩ := own_slice R9.out
            go_wp2_with fail
            go_roundw
            case rel =>
              refine ⟨i + 1, by omega, by go_num, Lib.hid ?_, HB5⟩
              rw [HN.out, List.length_append, HXI.out]
              have := R9.out
              rw [show intCells (M.ptL t a L i ++ [(x : Int)]) = intCells (M.ptL t a L i) ++ [.int .i64 x] from by unfold intCells; rw [List.map_append]; rfl]
              exact this
            case measure => simp [intOf]; omega
    · obtain rfl : i = L.length := by omega
      have k1 : decide ((L.length : Int) < (L.length : Int)) = false := decide_eq_false (by omega)
      have hO := HO.out
      rw [HPA.out] at hO
      obtain ⟨x, y, e, q1, q2, q3⟩ := own_int hO
      rw [HPA.out]
      cases e
      have HQ := Lib.hid (And.intro q1 (And.intro q2 q3))
      have HBf := Lib.hid (show Below w.heap.size w wr from below2 HBW.out (below2 HB3.out HBr.out))
      clear q1 q2 q3 hO
      go_wp2_with fail
      go_ret
      exact ⟨_, _, rfl, HQ.out.1, HQ.out.2.1, HQ.out.2.2, HBf.out⟩
end Go.Proofs.YtnhnjfoboepffaaGreat
