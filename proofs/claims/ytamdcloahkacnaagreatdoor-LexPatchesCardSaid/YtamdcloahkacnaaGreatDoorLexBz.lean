/- DERIVED. The walk of the statement on tokens that are patched. -/
import Derived.Test.YtamdcloahkacnaaGreatDoorLexBy
import Derived.Test.YtamdcloahkacnaaGreatDoorLexBk0
namespace Go.Proofs.YtamdcloahkacnaaGreatDoor
open Go.RowKit Go.WideMaps Go.Maps Go.Shelf

theorem grow_none {w W1 W2 : World} (hB : Below w.heap.size w W1) (h : W1.grownBy W2 (Value.slice none 0 0).ownBlock) : Below w.heap.size w W2 :=
  hB.grown h hB.size (fun j e => by cases e)
theorem below_none {W1 W2 : World} (h : W1.grownBy W2 (Value.slice none 0 0).ownBlock) : Below W1.heap.size W1 W2 :=
  (Below.refl _ W1).grown h (Nat.le_refl _) (fun j e => by cases e)

set_option maxHeartbeats 4000000 in
set_option maxRecDepth 100000 in
theorem lexPatches_yes (a : Option Addr) (c : Nat) (a' : Option Addr) (c' : Nat) (l nw : List M.Lx) (x : M.Ed) (hd tl : Int) (w : World) (hw : Ready w) (na : a = none → c = 0) (nn : a' = none → c' = 0) (hlc : l.length ≤ c) (ho : LxSl w a l) (hn : LxSl w a' nw)
    (ht1 : M.thin l = true) (ht2 : x.put.size ≤ 3000) (ht3 : M.thin nw = true) :
    Calls Tryz.prog 3 #[.slice a l.length c, edV x, .agg #[.int .i64 hd, .int .i64 tl, .slice a' nw.length c']] w fun e w' => e = .returned (.bool true) ∧ Below w.heap.size w w' := by
  have hl1 := (M.thin_le l ht1).1
  have hl3 := (M.thin_le nw ht3).1
  have d2 : decide (x.put.size ≤ 3000) = true := decide_eq_true ht2
  obtain ⟨⟨out, ec⟩, hpo⟩ : ∃ r, M.patch l x hd tl nw = r := ⟨_, rfl⟩
  have hol : out.length ≤ 1000000 := by
    have h := M.patch_le l x hd tl nw
    rw [hpo] at h
    exact h
  have hs1 := (M.sameLx_iff out out).2 rfl
  have hs2 := (M.sameLx_iff l l).2 rfl
  have hs3 := (M.sameLx_iff nw nw).2 rfl
  have HW := Lib.hid hw
  have HO := Lib.hid ho
  have HN := Lib.hid hn
  have HNA := Lib.hid na
  have HNN := Lib.hid nn
  have T1 := Lib.hid ht1
  have T3 := Lib.hid ht3
  have D2 := Lib.hid d2
  have HPO := Lib.hid hpo
  have S1 := Lib.hid hs1
  have S2 := Lib.hid hs2
  have S3 := Lib.hid hs3
  clear hw ho hn na nn ht1 ht3 d2 hpo hs1 hs2 hs3
  go_enter Tryz.func3, Tryz.ntmps3
  go_wp2_with fail
  refine (thin_any a c l _ (HO.out.below (belowA (below1 w _) _))).mono ?_
  rintro e w1 ⟨rfl, hB1⟩
  rw [T1.out]
  obtain ⟨x0, x1, x2, e1, hB, hlt⟩ := boxEC hB1
  clear hB1
  have y0 : w1.cell? ⟨w.heap.size + 1, 0, none⟩ = some (.int .i64 hd) := by rw [Lib.cell_of_heap e1]; rfl
  have y1 : w1.cell? ⟨w.heap.size + 1, 1, none⟩ = some (.int .i64 tl) := by rw [Lib.cell_of_heap e1]; rfl
  have y2 : w1.cell? ⟨w.heap.size + 1, 2, none⟩ = some (.slice a' nw.length c') := by rw [Lib.cell_of_heap e1]; rfl
  clear e1
  go_wp2_with fail
  refine (short_any x.put _).mono ?_
  rintro e w2 ⟨rfl, hB2⟩
  rw [D2.out]
  replace x0 := cell_below x0 hB2
  replace x1 := cell_below x1 hB2
  replace x2 := cell_below x2 hB2
  replace y0 := cell_below y0 hB2
  replace y1 := cell_below y1 hB2
  replace y2 := cell_below y2 hB2
  replace hB := below2 hB hB2
  clear hB2
  go_wp2_with fail
  refine (thin_any a' c' nw _ (HN.out.below hB)).mono ?_
  rintro e w3 ⟨rfl, hB2⟩
  rw [T3.out]
  replace x0 := cell_below x0 hB2
  replace x1 := cell_below x1 hB2
  replace x2 := cell_below x2 hB2
  replace y0 := cell_below y0 hB2
  replace y1 := cell_below y1 hB2
  replace y2 := cell_below y2 hB2
  replace hB := below2 hB hB2
  clear hB2
  go_wp2_with fail
  have hD : Below w3.heap.size w3 w3.drew := (Below.refl _ _).drew
  have HL3 := Lib.hid (HO.out.below hB)
  have HM3 := Lib.hid (HN.out.below hB)
  have tok1 : True := trivial
  go_region_held_law (fun W' => W'.cell? ⟨w.heap.size + 1, 2, none⟩ = some (.slice a' nw.length c') ∧ Below w3.heap.size w3 W')
    (first
      | go_keep
      | exact ⟨cell_below y2 (grow_first hg1), grow_first hg1⟩
      | exact ⟨cell_below y2 (grow_none (grow_first hg1) hg2), grow_none (grow_first hg1) hg2⟩)
    ((first
      | (have _t := tok1
         refine step_app_lx ?_ (Operand.const (Value.slice none 0 0)) (Operand.tmp 29) ?_ w3.heap.size (.slice none 0 0) [] ?_ (own_none _ _) a c l l.length rfl ?_ HNA.out (HL3.out.below hD) (by simp; omega) (Nat.le_refl _) ?_
         · rfl
         · rfl
         · rfl
         · rfl
         intro va Wm howna hg1
         clear tok1 _t)
      | (have _t := tok1
         refine step_app_lx ?_ (Operand.const (Value.slice none 0 0)) (Operand.tmp 32) ?_ w3.heap.size (.slice none 0 0) [] ?_ (own_none _ _) a' c' nw nw.length rfl ?_ HNN.out (HM3.out.below hD) (by simp; omega) (Nat.le_refl _) ?_
         · rfl
         · rfl
         · rfl
         · rfl
         intro vb Wm hownb hg1
         clear tok1 _t)
      | (refine step_app_lx ?_ (Operand.const (Value.slice none 0 0)) (Operand.tmp 29) ?_ w3.heap.size (.slice none 0 0) [] ?_ (own_none _ _) a c l l.length rfl ?_ HNA.out (HL3.out.below (grow_first hg1)) (by simp; omega) (grow_first hg1).size ?_
         · rfl
         · rfl
         · rfl
         · rfl
         intro va Wf howna hg2)
      | (refine step_app_lx ?_ (Operand.const (Value.slice none 0 0)) (Operand.tmp 32) ?_ w3.heap.size (.slice none 0 0) [] ?_ (own_none _ _) a' c' nw nw.length rfl ?_ HNN.out (HM3.out.below (grow_first hg1)) (by simp; omega) (grow_first hg1).size ?_
         · rfl
         · rfl
         · rfl
         · rfl
         intro vb Wf hownb hg2)))
  have hBf : Below w3.heap.size w3 Wf := grow_none (grow_first hg1) hg2
  have hown := own_of_below howna (below_none hg2)
  rw [List.nil_append] at hown hownb
  obtain ⟨oa, oc, rfl, hoc, hna, hsa⟩ := own_lx hown
  obtain ⟨ma, mc, rfl, hmc, hnm, hsm⟩ := own_lx hownb
  have HSA := Lib.hid hsa
  have HSM := Lib.hid hsm
  have HA0 := Lib.hid hna
  have HM0 := Lib.hid hnm
  replace x0 := cell_below x0 hBf
  replace x1 := cell_below x1 hBf
  replace x2 := cell_below x2 hBf
  replace y0 := cell_below y0 hBf
  replace y1 := cell_below y1 hBf
  replace y2 := cell_below y2 hBf
  replace hB := below2 hB hBf
  clear howna hown hownb hg1 hg2 hBf hsa hsm hna hnm hD HL3 HM3
  go_wp2_with fail
  refine (patch_any oa oc ma mc l nw x hd tl _ (by omega) (by omega) (by omega) HA0.out HM0.out hoc HSA.out HSM.out).mono ?_
  rintro e w4 ⟨ra, rc, rfl, hrn, hrs, hB2⟩
  rw [HPO.out] at hrs ⊢
  dsimp only at hrs ⊢
  have HRS := Lib.hid hrs
  replace x0 := cell_below x0 hB2
  replace x1 := cell_below x1 hB2
  replace x2 := cell_below x2 hB2
  replace y0 := cell_below y0 hB2
  replace y1 := cell_below y1 hB2
  replace y2 := cell_below y2 hB2
  replace hB := below2 hB hB2
  replace HSA := Lib.hid (HSA.out.below hB2)
  replace HSM := Lib.hid (HSM.out.below hB2)
  clear hrn hrs hB2
  go_wp2_with fail
  refine (refPatch_any a c a' c' l nw x hd tl _ (by omega) (by omega) (by omega) HNA.out HNN.out hlc (HO.out.below hB) (HN.out.below hB)).mono ?_
  rintro e w5 ⟨qa, qc, rfl, hqn, hqs, hB2⟩
  rw [HPO.out] at hqs ⊢
  dsimp only at hqs ⊢
  have HQS := Lib.hid hqs
  replace y2 := cell_below y2 hB2
  replace hB := below2 hB hB2
  replace HSA := Lib.hid (HSA.out.below hB2)
  replace HSM := Lib.hid (HSM.out.below hB2)
  replace HRS := Lib.hid (HRS.out.below hB2)
  have b1 : ((ec : Int) == (ec : Int)) = true := beq_self_eq_true _
  clear hqn hqs hB2 x0 x1 x2 y0 y1
  go_wp2_with fail
  refine (sameTokens_any ra qa rc qc out out _ hol hol HRS.out HQS.out).mono ?_
  rintro e w6 ⟨rfl, hB2⟩
  rw [S1.out]
  replace y2 := cell_below y2 hB2
  replace hB := below2 hB hB2
  replace HSA := Lib.hid (HSA.out.below hB2)
  replace HSM := Lib.hid (HSM.out.below hB2)
  clear hB2
  go_wp2_with fail
  refine (sameTokens_any oa a oc c l l _ (by omega) (by omega) HSA.out (HO.out.below hB)).mono ?_
  rintro e w7 ⟨rfl, hB2⟩
  rw [S2.out]
  replace y2 := cell_below y2 hB2
  replace hB := below2 hB hB2
  replace HSM := Lib.hid (HSM.out.below hB2)
  clear hB2
  go_wp2_with fail
  refine (sameTokens_any ma a' mc c' nw nw _ (by omega) (by omega) HSM.out (HN.out.below hB)).mono ?_
  rintro e w8 ⟨rfl, hB2⟩
  rw [S3.out]
  replace hB := below2 hB hB2
  clear hB2
  go_wp2_with fail
  refine (awake_any _ (HW.out.below hB)).mono ?_
  rintro e w9 ⟨rfl, hB2⟩
  go_wp2_with fail
  go_ret
  exact ⟨rfl, below2 hB hB2⟩

set_option maxHeartbeats 2000000 in
set_option maxRecDepth 100000 in
theorem lexPatches_any (a : Option Addr) (c : Nat) (a' : Option Addr) (c' : Nat) (l nw : List M.Lx) (x : M.Ed) (hd tl : Int) (w : World) (hw : Ready w) (na : a = none → c = 0) (nn : a' = none → c' = 0) (hlc : l.length ≤ c) (ho : LxSl w a l) (hn : LxSl w a' nw) :
    Calls Tryz.prog 3 #[.slice a l.length c, edV x, .agg #[.int .i64 hd, .int .i64 tl, .slice a' nw.length c']] w fun e w' => e = .returned (.bool true) ∧ Below w.heap.size w w' := by
  by_cases ht : M.thin l = true ∧ x.put.size ≤ 3000 ∧ M.thin nw = true
  · exact lexPatches_yes a c a' c' l nw x hd tl w hw na nn hlc ho hn ht.1 ht.2.1 ht.2.2
  have HW := Lib.hid hw
  have HO := Lib.hid ho
  have HN := Lib.hid hn
  clear hw ho hn na nn
  cases t1 : M.thin l
  · have T1 := Lib.hid t1
    clear t1 ht
    go_enter Tryz.func3, Tryz.ntmps3
    go_wp2_with fail
    refine (thin_any a c l _ (HO.out.below (belowA (below1 w _) _))).mono ?_
    rintro e w1 ⟨rfl, hB1⟩
    rw [T1.out]
    obtain ⟨x0, x1, x2, e1, hB, hlt⟩ := boxEC hB1
    clear hB1 e1
    go_wp2_with fail
    refine (awake_any _ (HW.out.below hB)).mono ?_
    rintro e w9 ⟨rfl, hB2⟩
    go_wp2_with fail
    go_ret
    exact ⟨rfl, below2 hB hB2⟩
  by_cases t2 : x.put.size ≤ 3000
  · have t3 : M.thin nw = false := by
      cases h : M.thin nw
      · rfl
      · exact absurd ⟨t1, t2, h⟩ ht
    have d2 : decide (x.put.size ≤ 3000) = true := decide_eq_true t2
    have T1 := Lib.hid t1
    have T3 := Lib.hid t3
    have D2 := Lib.hid d2
    clear t1 t3 d2 ht
    go_enter Tryz.func3, Tryz.ntmps3
    go_wp2_with fail
    refine (thin_any a c l _ (HO.out.below (belowA (below1 w _) _))).mono ?_
    rintro e w1 ⟨rfl, hB1⟩
    rw [T1.out]
    obtain ⟨x0, x1, x2, e1, hB, hlt⟩ := boxEC hB1
    clear hB1
    have y2 : w1.cell? ⟨w.heap.size + 1, 2, none⟩ = some (.slice a' nw.length c') := by rw [Lib.cell_of_heap e1]; rfl
    clear e1
    go_wp2_with fail
    refine (short_any x.put _).mono ?_
    rintro e w2 ⟨rfl, hB2⟩
    rw [D2.out]
    replace y2 := cell_below y2 hB2
    replace hB := below2 hB hB2
    clear hB2
    go_wp2_with fail
    refine (thin_any a' c' nw _ (HN.out.below hB)).mono ?_
    rintro e w3 ⟨rfl, hB2⟩
    rw [T3.out]
    replace hB := below2 hB hB2
    clear hB2
    go_wp2_with fail
    refine (awake_any _ (HW.out.below hB)).mono ?_
    rintro e w9 ⟨rfl, hB2⟩
    go_wp2_with fail
    go_ret
    exact ⟨rfl, below2 hB hB2⟩
  · have d2 : decide (x.put.size ≤ 3000) = false := decide_eq_false t2
    have T1 := Lib.hid t1
    have D2 := Lib.hid d2
    clear t1 d2 ht t2
    go_enter Tryz.func3, Tryz.ntmps3
    go_wp2_with fail
    refine (thin_any a c l _ (HO.out.below (belowA (below1 w _) _))).mono ?_
    rintro e w1 ⟨rfl, hB1⟩
    rw [T1.out]
    obtain ⟨x0, x1, x2, e1, hB, hlt⟩ := boxEC hB1
    clear hB1 e1
    go_wp2_with fail
    refine (short_any x.put _).mono ?_
    rintro e w2 ⟨rfl, hB2⟩
    rw [D2.out]
    replace hB := below2 hB hB2
    clear hB2
    go_wp2_with fail
    refine (awake_any _ (HW.out.below hB)).mono ?_
    rintro e w9 ⟨rfl, hB2⟩
    go_wp2_with fail
    go_ret
    exact ⟨rfl, below2 hB hB2⟩
end Go.Proofs.YtamdcloahkacnaaGreatDoor
