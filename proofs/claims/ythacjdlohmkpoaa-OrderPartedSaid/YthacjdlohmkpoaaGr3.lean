/- Texts of one's own, joined: OrdD, OrdH, OrdSa. -/
import Derived.Test.YthacjdlohmkpoaaGr1
import Derived.Test.YthacjdlohmkpoaaGr2
namespace Go.Proofs.Ythacjdlohmkpoaa
open Go.RowKit

/-- What Check comes to. -/
def ChkPost (t : M.Tb) (w : World) (e : Ending) (w' : World) : Prop := ((M.form t ∧ e = .returned (.int .i64 0)) ∨ (¬ M.form t ∧ e = .returned (.int .i64 4))) ∧ Below w.heap.size w w'
theorem chk_no {t : M.Tb} {w w' : World} (h : ¬ M.form t) (hB : Below w.heap.size w w') : ChkPost t w (.returned (.int .i64 4)) w' := ⟨Or.inr ⟨h, rfl⟩, hB⟩
theorem chk_yes {t : M.Tb} {w w' : World} (h : M.form t) (hB : Below w.heap.size w w') : ChkPost t w (.returned (.int .i64 0)) w' := ⟨Or.inl ⟨h, rfl⟩, hB⟩
/-- What is asked of one element of a table. -/
def OkE (t : M.Tb) (j : Nat) : Prop := (∀ h : j < t.elems.length, M.isNameB t.elems[j].data.toList = true ∧ ∀ i, (hi : i < t.elems.length) → i < j → t.elems[i] ≠ t.elems[j]) ∧ ∀ h : j < t.above.length, M.asc t.elems.length t.above[j]
/-- What is asked of the first numbers of a list. -/
def AscTill (n : Nat) (l : List Int) (q : Nat) : Prop := ∀ k, (h : k < l.length) → k < q → 0 ≤ l[k] ∧ l[k] < n ∧ (0 < k → l[k - 1]'(by omega) < l[k])

set_option maxHeartbeats 1000000 in
set_option maxRecDepth 100000 in
theorem refCheck_head (t : M.Tb) (p : Tp) (w : World) (hs : t.name.size ≤ maxLen) (h : ¬ (M.isTabB t.name = true ∧ 1 ≤ t.elems.length ∧ t.elems.length ≤ 12 ∧ t.above.length = t.elems.length ∧ t.wrong.length = t.elems.length)) :
    Calls Try.prog 26 #[tbV t p] w (ChkPost t w) := by
  have hnf : ¬ M.form t := fun f => h ⟨f.name, f.one, f.twelve, f.above, f.wrong⟩
  have HNF := Lib.hid hnf
  obtain ⟨c0, c1, c2, c3⟩ := tbBox (t := t) (p := p) (box_new w (tbA t p) 26)
  cases hn : M.isTabB t.name with
  | false =>
    have HN := Lib.hid hn
    clear hn h hnf
    go_enter Try.func26, Try.ntmps26
    go_wp2_with fail
    refine (refIsTab_any t.name _ hs).mono ?_
    rintro e w1 ⟨rfl, hB1⟩
    rw [HN.out]
    have hB := below2 (below1 w (.cells (tbA t p) 26)) hB1
    go_wp2_with fail
    go_ret
    exact chk_no HNF.out hB
  | true =>
    have HN := Lib.hid hn
    cases hd : (decide ((1 : Int) ≤ (t.elems.length : Int)) && decide ((t.elems.length : Int) ≤ 12)) with
    | false =>
      have HC := Lib.hid fun W => in_any t.elems.length 1 12 W
      have HD := Lib.hid hd
      clear hn h hnf hd
      go_enter Try.func26, Try.ntmps26
      go_wp2_with fail
      refine (refIsTab_any t.name _ hs).mono ?_
      rintro e w1 ⟨rfl, hB1⟩
      rw [HN.out]
      have hB := below2 (below1 w (.cells (tbA t p) 26)) hB1
      go_wp2_with fail
      refine (HC.out _).mono ?_
      rintro e w2 ⟨rfl, rfl⟩
      rw [HD.out]
      go_wp2_with fail
      go_ret
      exact chk_no HNF.out hB
    | true =>
      have HC := Lib.hid fun W => in_any t.elems.length 1 12 W
      have HD := Lib.hid hd
      simp only [Bool.and_eq_true, decide_eq_true_eq] at hd
      by_cases ha : t.above.length = t.elems.length
      · have hw : ¬ t.wrong.length = t.elems.length := fun q => h ⟨hn, by omega, by omega, ha, q⟩
        have e1 : ((t.above.length : Int) != (t.elems.length : Int)) = false := by rw [ha]; exact bne_self_eq_false _
        have e2 : ((t.wrong.length : Int) != (t.elems.length : Int)) = true := by rw [bne_iff_ne]; omega
        have e1' : ((t.above.length : Int) == (t.elems.length : Int)) = true := by rw [ha]; exact beq_self_eq_true _
        have e2' : ((t.wrong.length : Int) == (t.elems.length : Int)) = false := by rw [beq_eq_false_iff_ne]; omega
        clear hn h hnf hd ha hw
        go_enter Try.func26, Try.ntmps26
        go_wp2_with fail
        refine (refIsTab_any t.name _ hs).mono ?_
        rintro e w1 ⟨rfl, hB1⟩
        rw [HN.out]
        have hB := below2 (below1 w (.cells (tbA t p) 26)) hB1
        replace c2 := cell_below c2 hB1
        replace c3 := cell_below c3 hB1
        clear hB1 c0 c1
        go_wp2_with fail
        refine (HC.out _).mono ?_
        rintro e w2 ⟨rfl, rfl⟩
        rw [HD.out]
        go_wp2_with fail
        go_ret
        exact chk_no HNF.out hB
      · have e1 : ((t.above.length : Int) != (t.elems.length : Int)) = true := by rw [bne_iff_ne]; omega
        have e1' : ((t.above.length : Int) == (t.elems.length : Int)) = false := by rw [beq_eq_false_iff_ne]; omega
        clear hn h hnf hd ha
        go_enter Try.func26, Try.ntmps26
        go_wp2_with fail
        refine (refIsTab_any t.name _ hs).mono ?_
        rintro e w1 ⟨rfl, hB1⟩
        rw [HN.out]
        have hB := below2 (below1 w (.cells (tbA t p) 26)) hB1
        replace c2 := cell_below c2 hB1
        clear hB1 c0 c1
        go_wp2_with fail
        refine (HC.out _).mono ?_
        rintro e w2 ⟨rfl, rfl⟩
        rw [HD.out]
        go_wp2_with fail
        go_ret
        exact chk_no HNF.out hB

set_option maxHeartbeats 8000000 in
set_option maxRecDepth 100000 in
theorem refCheck_body (t : M.Tb) (p : Tp) (w : World) (hs : t.name.size ≤ maxLen) (hes : ∀ s, s ∈ t.elems → s.size ≤ maxLen) (hal : ∀ l, l ∈ t.above → l.length ≤ 1000000) (ht : TbIn w t p) (hn : M.isTabB t.name = true) (h1 : 1 ≤ t.elems.length) (h2 : t.elems.length ≤ 12) (h3 : t.above.length = t.elems.length) (h4 : t.wrong.length = t.elems.length) :
    Calls Try.prog 26 #[tbV t p] w (ChkPost t w) := by
  have hform : (∀ j, j < t.elems.length → OkE t j) → M.form t := fun h => ⟨hn, h1, h2, h3, h4, fun i hi => ((h i hi).1 hi).1, fun i j hi hj hij => ((h j hj).1 hj).2 i hi hij, fun i hi => (h i (by omega)).2 hi⟩
  have hnof : ∀ j, j < t.elems.length → ¬ OkE t j → ¬ M.form t := fun j hj hno f => hno ⟨fun hj' => ⟨f.names j hj', fun i hi hij => f.differ i j hi hj' hij⟩, fun hj' => f.rows j hj'⟩
  have hd : (decide ((1 : Int) ≤ (t.elems.length : Int)) && decide ((t.elems.length : Int) ≤ 12)) = true := by simp only [Bool.and_eq_true, decide_eq_true_eq]; omega
  have e1 : ((t.above.length : Int) != (t.elems.length : Int)) = false := by rw [h3]; exact bne_self_eq_false _
  have e2 : ((t.wrong.length : Int) != (t.elems.length : Int)) = false := by rw [h4]; exact bne_self_eq_false _
  have e1' : ((t.above.length : Int) == (t.elems.length : Int)) = true := by rw [h3]; exact beq_self_eq_true _
  have e2' : ((t.wrong.length : Int) == (t.elems.length : Int)) = true := by rw [h4]; exact beq_self_eq_true _
  have HC := Lib.hid fun W => in_any t.elems.length 1 12 W
  have HD := Lib.hid hd
  have HN := Lib.hid hn
  have HFORM := Lib.hid hform
  have HNOF := Lib.hid hnof
  have HES := Lib.hid hes
  have HAL := Lib.hid hal
  have HT0 := Lib.hid ht
  have H3 := Lib.hid h3
  obtain ⟨c0, c1, c2, c3⟩ := tbBox (t := t) (p := p) (box_new w (tbA t p) 26)
  clear hform hnof hd hn hes hal ht h3 h4
  go_enter Try.func26, Try.ntmps26
  go_wp2_with fail
  refine (refIsTab_any t.name _ hs).mono ?_
  rintro e w1 ⟨rfl, hB1⟩
  rw [HN.out]
  have hB := below2 (below1 w (.cells (tbA t p) 26)) hB1
  replace c1 := cell_below c1 hB1
  replace c2 := cell_below c2 hB1
  replace c3 := cell_below c3 hB1
  have HT := Lib.hid (HT0.out.below hB)
  clear hB1 c0 HT0
  go_wp2_with fail
  refine (HC.out _).mono ?_
  rintro e w2 ⟨rfl, rfl⟩
  rw [HD.out]
  go_wp2_with fail
  go_loopw [4] (fun i wr => ∃ k : Nat, k ≤ t.elems.length ∧ i = .int .i64 k ∧ Hid (∀ j, j < k → OkE t j) ∧ Below w1.heap.size w1 wr) (fun i _ => t.elems.length - (intOf i).toNat)
  case atStart => exact ⟨0, by omega, rfl, Lib.hid (fun j hj => by omega), Below.refl _ _⟩
  case round =>
    rename_i wr
    obtain ⟨k, hk, rfl, HA, hBr⟩ := hrel
    have cu1 := cell_below c1 hBr
    have cu2 := cell_below c2 hBr
    have hBw := below2 hB hBr
    by_cases hkl : k < t.elems.length
    · have hka : k < t.above.length := by rw [H3.out]; exact hkl
      obtain ⟨b, off, ea, he⟩ := (HT.out.below hBr).es.at hkl
      obtain ⟨b', off', ea', ha⟩ := (HT.out.below hBr).as_.at hka
      obtain ⟨ra, rc, q2, _, _, g2⟩ := ha.at_ k hka
      have q1 := he.at_ k hkl
      have hsz := HES.out t.elems[k] (List.getElem_mem hkl)
      have hlen := HAL.out t.above[k] (List.getElem_mem hka)
      have hfind : M.findI t.elems t.elems[k] = k ∨ ∃ i, ∃ hi : i < t.elems.length, i < k ∧ t.elems[i] = t.elems[k] ∧ M.findI t.elems t.elems[k] ≠ k := by
        have hm := (M.findN_mem t.elems t.elems[k]).2 (List.getElem_mem hkl)
        obtain ⟨f1, f2⟩ := M.findN_at t.elems t.elems[k] hm
        rcases Nat.lt_trichotomy (M.findN t.elems t.elems[k]) k with q | q | q
        · right
          refine ⟨_, hm, q, f1, ?_⟩
          unfold M.findI; rw [if_pos hm]; omega
        · left
          unfold M.findI; rw [if_pos hm, q]
        · exact absurd rfl (f2 k hkl q)
      have hokE : M.isNameB t.elems[k].data.toList = true → M.findI t.elems t.elems[k] = k → M.asc t.elems.length t.above[k] → OkE t k := fun a1 a2 a3 => ⟨fun _ => ⟨a1, fun i hi hik e => by
        rcases hfind with q | ⟨j, hj, hjk, e2, hne⟩
        · have hm := (M.findN_mem t.elems t.elems[k]).2 (List.getElem_mem hkl)
          have f2 := (M.findN_at t.elems t.elems[k] hm).2
          unfold M.findI at q
          rw [if_pos hm] at q
          exact f2 i hi (by omega) e
        · exact hne a2⟩, fun _ => a3⟩
      have hno1 : M.isNameB t.elems[k].data.toList = false → ¬ M.form t := fun a1 f => by have := f.names k hkl; rw [a1] at this; cases this
      have hno2 : M.findI t.elems t.elems[k] ≠ k → ¬ M.form t := fun a2 f => by
        rcases hfind with q | ⟨j, hj, hjk, e2, _⟩
        · exact a2 q
        · exact f.differ j k hj hkl hjk e2
      have hno3 : ¬ M.asc t.elems.length t.above[k] → ¬ M.form t := fun a3 f => a3 (f.rows k hka)
      obtain ⟨s, hs'⟩ : ∃ s, t.elems[k] = s := ⟨_, rfl⟩
      obtain ⟨row, hrow⟩ : ∃ row, t.above[k] = row := ⟨_, rfl⟩
      rw [hs'] at q1 hsz hokE hno1 hno2
      rw [hrow] at q2 g2 hlen hokE hno3
      rw [ea] at cu1
      rw [ea'] at cu2
      have HE2 := Lib.hid (show StrSl wr (some ⟨b, off, none⟩) t.elems from Or.inr ⟨b, off, rfl, he⟩)
      have HOK := Lib.hid hokE
      have HNO1 := Lib.hid hno1
      have HNO2 := Lib.hid hno2
      have HNO3 := Lib.hid hno3
      have HROW := Lib.hid hrow
      have n1 : (k : Int) < (t.elems.length : Int) := by omega
      have n1' : (k : Int) < (t.above.length : Int) := by omega
      have n2 : (0 : Int) ≤ (k : Int) := by omega
      clear hfind hokE hno1 hno2 hno3 hs' hrow he ha ea ea' g2
      cases hb1 : M.isNameB s.data.toList with
      | false =>
        have HBAD := Lib.hid (HNO1.out hb1)
        have hc1 : ∀ n, Calls Try.prog 49 #[.string s] (wr.drewN n) fun e w' => e = .returned (.bool false) ∧ w' = wr.drewN n := fun n => (refIsName_any s (wr.drewN n) hsz).mono fun _ _ ⟨he, hw⟩ => ⟨by rw [he, hb1], hw.symm⟩
        have HC1 := Lib.hid hc1
        clear hb1 hc1
        go_wp2_with fail
        go_quiet ((go_at_call 49; exact Calls.quiet_of_same (HC1.out _)))
        go_wp2_with fail
        go_ret
        exact chk_no HBAD.out (belowN hBw _)
      | true =>
        have hc1 : ∀ n, Calls Try.prog 49 #[.string s] (wr.drewN n) fun e w' => e = .returned (.bool true) ∧ w' = wr.drewN n := fun n => (refIsName_any s (wr.drewN n) hsz).mono fun _ _ ⟨he, hw⟩ => ⟨by rw [he, hb1], hw.symm⟩
        have HC1 := Lib.hid hc1
        have HB1 := Lib.hid hb1
        have hc2 : ∀ n, Calls Try.prog 50 #[.slice (some ⟨b, off, none⟩) t.elems.length p.ec, .string s] (wr.drewN n) fun e w' => e = .returned (.int .i64 (M.findI t.elems s)) ∧ w' = wr.drewN n := fun n => (refFind_any _ _ t.elems s (wr.drewN n) (by omega) (HE2.out.below (belowN (Below.refl _ _) n))).mono fun _ _ ⟨he, hw⟩ => ⟨he, hw.symm⟩
        have HC2 := Lib.hid hc2
        clear hb1 hc1 hc2
        by_cases hf : M.findI t.elems s = k
        · have k1 : (M.findI t.elems s != (k : Int)) = false := by rw [hf]; exact bne_self_eq_false _
          have k2 : (M.findI t.elems s == (k : Int)) = true := by rw [hf]; exact beq_self_eq_true _
          have HNX := Lib.hid (HOK.out HB1.out hf)
          clear hf
          go_wp2_with fail
          go_quiet ((first | (go_at_call 49; exact Calls.quiet_of_same (HC1.out _)) | (go_at_call 50; exact Calls.quiet_of_same (HC2.out _))))
          go_wp2_with fail
          go_loopw [5] (fun i wo => ∃ q : Nat, q ≤ row.length ∧ i = .int .i64 q ∧ Hid (AscTill t.elems.length row q) ∧ Below w1.heap.size w1 wo) (fun i _ => row.length - (intOf i).toNat)
          case atStart => exact ⟨0, by omega, rfl, Lib.hid (fun j _ hj => by omega), belowN hBr _⟩
          case round =>
            clear cu1 cu2 q1 q2 hBr hBw HE2 HC2 HC1
            rename World => wo
            obtain ⟨q, hq, rfl, HQ, hBo⟩ := hrel
            have v2 := cell_below c2 hBo
            have hBw := below2 hB hBo
            obtain ⟨b2, off2, ea2, ha2⟩ := (HT.out.below hBo).as_.at hka
            obtain ⟨ra2, rc2, q22, _, _, g22⟩ := ha2.at_ k hka
            rw [HROW.out] at q22 g22
            rw [ea2] at v2
            clear ha2 ea2
            by_cases hql : q < row.length
            · obtain ⟨b3, off3, e3, g3⟩ := g22.at hql
              subst e3
              have r0 := g3.at_ q hql
              have m1 : (q : Int) < (row.length : Int) := by omega
              have m2 : (0 : Int) ≤ (q : Int) := by omega
              have w1' : IntKind.i64.wrap ((t.elems.length : Int) - 1) = (t.elems.length : Int) - 1 := IntWalk.i64_in _ (by omega)
              have hnot : ¬ (0 ≤ row[q] ∧ row[q] < t.elems.length ∧ (0 < q → row[q - 1]'(by omega) < row[q])) → ¬ M.form t := fun hne => HNO3.out fun hasc => hne (hasc q hql)
              have hnext : (0 ≤ row[q] ∧ row[q] < t.elems.length ∧ (0 < q → row[q - 1]'(by omega) < row[q])) → AscTill t.elems.length row (q + 1) := fun hy j hj hjk => by
                rcases Nat.lt_succ_iff_lt_or_eq.1 hjk with h | rfl
                · exact HQ.out j hj h
                · exact hy
              by_cases hq0 : 0 < q
              · obtain ⟨r, hr⟩ : ∃ r, q = r + 1 := ⟨q - 1, by omega⟩
                have hrl : r < row.length := by omega
                have r1 := g3.at_ r hrl
                have er : row[q - 1]'(by omega) = row[r] := by congr 1; omega
                rw [er] at hnot hnext
                obtain ⟨a, ha'⟩ : ∃ a, row[q] = a := ⟨_, rfl⟩
                obtain ⟨y, hy'⟩ : ∃ y, row[r] = y := ⟨_, rfl⟩
                rw [ha'] at r0 hnot hnext
                rw [hy'] at r1 hnot hnext
                have HNOT := Lib.hid hnot
                have HNEXT := Lib.hid hnext
                have e1 : (q : Int) - 1 = (r : Int) := by omega
                have e2 : IntKind.i64.wrap (r : Int) = (r : Int) := IntWalk.i64_in _ (by omega)
                have m3 : (r : Int) < (row.length : Int) := by omega
                have m4 : (0 : Int) ≤ (r : Int) := by omega
                have d80 : decide ((0 : Int) < (q : Int)) = true := decide_eq_true (by omega)
                have d80' : decide (0 < q) = true := decide_eq_true hq0
                clear hnot hnext er ha' hy' hr g3 g22 hq0
                cases hd3 : (decide ((0 : Int) ≤ a) && decide (a ≤ (t.elems.length : Int) - 1)) with
                | false =>
                  have hc3 : ∀ n, Calls Try.prog 42 #[.int .i64 a, .int .i64 0, .int .i64 ((t.elems.length : Int) - 1)] (wo.drewN n) fun e w' => e = .returned (.bool false) ∧ w' = wo.drewN n := fun n => (in_any _ _ _ (wo.drewN n)).mono fun _ _ ⟨he, hw⟩ => ⟨by rw [he, hd3], hw.symm⟩
                  have HC3 := Lib.hid hc3
                  have HBAD := Lib.hid (HNOT.out fun ⟨x1, x2, _⟩ => by rw [decide_eq_true x1, decide_eq_true (by omega)] at hd3; cases hd3)
                  clear hc3 hd3
                  go_wp2_with fail
                  go_quiet ((go_at_call 42; exact Calls.quiet_of_same (HC3.out _)))
                  go_wp2_with fail
                  go_ret
                  exact chk_no HBAD.out (belowN hBw _)
                | true =>
                  have hc3 : ∀ n, Calls Try.prog 42 #[.int .i64 a, .int .i64 0, .int .i64 ((t.elems.length : Int) - 1)] (wo.drewN n) fun e w' => e = .returned (.bool true) ∧ w' = wo.drewN n := fun n => (in_any _ _ _ (wo.drewN n)).mono fun _ _ ⟨he, hw⟩ => ⟨by rw [he, hd3], hw.symm⟩
                  have HC3 := Lib.hid hc3
                  simp only [Bool.and_eq_true, decide_eq_true_eq] at hd3
                  by_cases hay : a ≤ y
                  · have d99 : decide (a ≤ y) = true := decide_eq_true hay
                    have HBAD := Lib.hid (HNOT.out fun ⟨_, _, x3⟩ => by have := x3 (by omega); omega)
                    clear hc3 hd3 hay
                    go_wp2_with fail
                    go_quiet ((go_at_call 42; exact Calls.quiet_of_same (HC3.out _)))
                    go_wp2_with fail
                    go_ret
                    exact chk_no HBAD.out (belowN hBw _)
                  · have d99 : decide (a ≤ y) = false := decide_eq_false hay
                    have HN2 := Lib.hid (HNEXT.out ⟨by omega, by omega, fun _ => by omega⟩)
                    clear hc3 hd3 hay
                    go_wp2_with fail
                    go_quiet ((go_at_call 42; exact Calls.quiet_of_same (HC3.out _)))
                    clear e1 e2
                    go_wp2_with fail
                    exact ⟨⟨q + 1, by omega, by simp, HN2, belowN hBo _⟩, by simp [intOf]; omega⟩
              · have d80 : decide ((0 : Int) < (q : Int)) = false := decide_eq_false (by omega)
                have d80' : decide (0 < q) = false := decide_eq_false hq0
                obtain ⟨a, ha'⟩ : ∃ a, row[q] = a := ⟨_, rfl⟩
                rw [ha'] at r0 hnot hnext
                have hnot2 : ¬ (0 ≤ a ∧ a < t.elems.length) → ¬ M.form t := fun hne => hnot fun ⟨x1, x2, _⟩ => hne ⟨x1, x2⟩
                have hnext2 : (0 ≤ a ∧ a < t.elems.length) → AscTill t.elems.length row (q + 1) := fun ⟨x1, x2⟩ => hnext ⟨x1, x2, fun x3 => absurd x3 hq0⟩
                have HNOT := Lib.hid hnot2
                have HNEXT := Lib.hid hnext2
                clear hnot hnext hnot2 hnext2 ha' g3 g22 hq0
                cases hd3 : (decide ((0 : Int) ≤ a) && decide (a ≤ (t.elems.length : Int) - 1)) with
                | false =>
                  have hc3 : ∀ n, Calls Try.prog 42 #[.int .i64 a, .int .i64 0, .int .i64 ((t.elems.length : Int) - 1)] (wo.drewN n) fun e w' => e = .returned (.bool false) ∧ w' = wo.drewN n := fun n => (in_any _ _ _ (wo.drewN n)).mono fun _ _ ⟨he, hw⟩ => ⟨by rw [he, hd3], hw.symm⟩
                  have HC3 := Lib.hid hc3
                  have HBAD := Lib.hid (HNOT.out fun ⟨x1, x2⟩ => by rw [decide_eq_true x1, decide_eq_true (by omega)] at hd3; cases hd3)
                  clear hc3 hd3
                  go_wp2_with fail
                  go_quiet ((go_at_call 42; exact Calls.quiet_of_same (HC3.out _)))
                  go_wp2_with fail
                  go_ret
                  exact chk_no HBAD.out (belowN hBw _)
                | true =>
                  have hc3 : ∀ n, Calls Try.prog 42 #[.int .i64 a, .int .i64 0, .int .i64 ((t.elems.length : Int) - 1)] (wo.drewN n) fun e w' => e = .returned (.bool true) ∧ w' = wo.drewN n := fun n => (in_any _ _ _ (wo.drewN n)).mono fun _ _ ⟨he, hw⟩ => ⟨by rw [he, hd3], hw.symm⟩
                  have HC3 := Lib.hid hc3
                  simp only [Bool.and_eq_true, decide_eq_true_eq] at hd3
                  have HN2 := Lib.hid (HNEXT.out ⟨by omega, by omega⟩)
                  clear hc3 hd3
                  go_wp2_with fail
                  go_quiet ((go_at_call 42; exact Calls.quiet_of_same (HC3.out _)))
                  go_wp2_with fail
                  exact ⟨⟨q + 1, by omega, by simp, HN2, belowN hBo _⟩, by simp [intOf]; omega⟩
            · obtain rfl : q = row.length := by omega
              have m1 : decide ((row.length : Int) < (row.length : Int)) = false := decide_eq_false (by omega)
              have HK := Lib.hid (HNX.out (fun j hj => HQ.out j hj hj))
              have hall : ∀ j, j < k + 1 → OkE t j := fun j hj => by
                rcases Nat.lt_succ_iff_lt_or_eq.1 hj with h | rfl
                · exact HA.out j h
                · exact HK.out
              have HALL := Lib.hid hall
              clear hall
              go_wp2_with fail
              exact ⟨⟨k + 1, by omega, by simp, HALL, hBo⟩, by simp [intOf]; omega⟩
        · have k1 : (M.findI t.elems s != (k : Int)) = true := by rw [bne_iff_ne]; exact hf
          have k2 : (M.findI t.elems s == (k : Int)) = false := by rw [beq_eq_false_iff_ne]; exact hf
          have HBAD := Lib.hid (HNO2.out hf)
          clear hf
          go_wp2_with fail
          go_quiet ((first | (go_at_call 49; exact Calls.quiet_of_same (HC1.out _)) | (go_at_call 50; exact Calls.quiet_of_same (HC2.out _))))
          go_wp2_with fail
          go_ret
          exact chk_no HBAD.out (belowN hBw _)
    · obtain rfl : k = t.elems.length := by omega
      have m1 : decide ((t.elems.length : Int) < (t.elems.length : Int)) = false := decide_eq_false (by omega)
      have HY := Lib.hid (HFORM.out HA.out)
      go_wp2_with fail
      go_ret
      exact chk_yes HY.out hBw
theorem refCheck_any (t : M.Tb) (p : Tp) (w : World) (hs : t.name.size ≤ maxLen) (hes : ∀ s, s ∈ t.elems → s.size ≤ maxLen) (hal : ∀ l, l ∈ t.above → l.length ≤ 1000000) (ht : TbIn w t p) :
    Calls Try.prog 26 #[tbV t p] w (ChkPost t w) := by
  by_cases h : M.isTabB t.name = true ∧ 1 ≤ t.elems.length ∧ t.elems.length ≤ 12 ∧ t.above.length = t.elems.length ∧ t.wrong.length = t.elems.length
  · exact refCheck_body t p w hs hes hal ht h.1 h.2.1 h.2.2.1 h.2.2.2.1 h.2.2.2.2
  · exact refCheck_head t p w hs h
end Go.Proofs.Ythacjdlohmkpoaa

namespace Go.Proofs.Ythacjdlohmkpoaa
open Go.RowKit

set_option maxHeartbeats 1000000 in
set_option maxRecDepth 100000 in
theorem isFormed1_any (n : Nat) (b : Nat) (a : Option Addr) (c : Nat) (l : List Int) (w : World) (hn : n ≤ 1000000) (hl : l.length ≤ 1000000) (ho : IntSl w a l) (hb : w.cell? ⟨b, 0, none⟩ = some (.int .i64 n)) :
    Calls Try.prog 85 #[.slice a l.length c, .pointer (some ⟨b, 0, none⟩)] w fun e w' => e = .returned (.bool (M.ascB n l)) ∧ w = w' := by
  have HC := Lib.hid (areNumbers_any n a c l w hn hl ho)
  clear ho
  go_enter Try.func85, Try.ntmps85
  go_wp2_with fail
  refine HC.out.mono ?_
  rintro e w1 ⟨rfl, rfl⟩
  go_wp2_with fail
  go_ret
  exact ⟨rfl, rfl⟩

theorem enters_isFormed1 : ∀ args w, (callFunc 85 args).run Try.prog w = .ok (.enter 85 args) w := enters_of Try.func85 (by kernel_rfl) rfl
theorem enters_isName : ∀ args w, (callFunc 82 args).run Try.prog w = .ok (.enter 82 args) w := enters_of Try.func82 (by kernel_rfl) rfl

/-- What isFormed comes to. -/
def FormPost (t : M.Tb) (w : World) (e : Ending) (w' : World) : Prop := ((M.form t ∧ e = .returned (.bool true)) ∨ (¬ M.form t ∧ e = .returned (.bool false))) ∧ Below w.heap.size w w'
theorem form_no {t : M.Tb} {w w' : World} (h : ¬ M.form t) (hB : Below w.heap.size w w') : FormPost t w (.returned (.bool false)) w' := ⟨Or.inr ⟨h, rfl⟩, hB⟩
theorem form_yes {t : M.Tb} {w w' : World} (h : M.form t) (hB : Below w.heap.size w w') : FormPost t w (.returned (.bool true)) w' := ⟨Or.inl ⟨h, rfl⟩, hB⟩

set_option maxHeartbeats 2000000 in
set_option maxRecDepth 100000 in
theorem isFormed_head (t : M.Tb) (p : Tp) (w : World) (h : ¬ (1 ≤ t.elems.length ∧ t.elems.length ≤ 12 ∧ t.above.length = t.elems.length ∧ t.wrong.length = t.elems.length)) :
    Calls Try.prog 61 #[tbV t p] w (FormPost t w) := by
  have hnf : ¬ M.form t := fun f => h ⟨f.one, f.twelve, f.above, f.wrong⟩
  have HNF := Lib.hid hnf
  obtain ⟨c0, c1, c2, c3⟩ := tbBox (t := t) (p := p) (box_new w (tbA t p) 26)
  by_cases h1 : 1 ≤ t.elems.length
  · have d1 : decide ((t.elems.length : Int) < 1) = false := decide_eq_false (by omega)
    by_cases h2 : t.elems.length ≤ 12
    · have d2 : decide ((12 : Int) < (t.elems.length : Int)) = false := decide_eq_false (by omega)
      by_cases h3 : t.above.length = t.elems.length
      · have h4 : ¬ t.wrong.length = t.elems.length := fun q => h ⟨h1, h2, h3, q⟩
        have e1 : ((t.above.length : Int) != (t.elems.length : Int)) = false := by rw [h3]; exact bne_self_eq_false _
        have e2 : ((t.wrong.length : Int) != (t.elems.length : Int)) = true := by rw [bne_iff_ne]; omega
        have e1' : ((t.above.length : Int) == (t.elems.length : Int)) = true := by rw [h3]; exact beq_self_eq_true _
        have e2' : ((t.wrong.length : Int) == (t.elems.length : Int)) = false := by rw [beq_eq_false_iff_ne]; omega
        clear h hnf h3 h4
        go_enter Try.func61, Try.ntmps61
        go_wp2_with fail
        go_ret
        exact form_no HNF.out (belowA (below1 _ _) _)
      · have e1 : ((t.above.length : Int) != (t.elems.length : Int)) = true := by rw [bne_iff_ne]; omega
        have e1' : ((t.above.length : Int) == (t.elems.length : Int)) = false := by rw [beq_eq_false_iff_ne]; omega
        clear h hnf h3
        go_enter Try.func61, Try.ntmps61
        go_wp2_with fail
        go_ret
        exact form_no HNF.out (belowA (below1 _ _) _)
    · have d2 : decide ((12 : Int) < (t.elems.length : Int)) = true := decide_eq_true (by omega)
      clear h hnf
      go_enter Try.func61, Try.ntmps61
      go_wp2_with fail
      go_ret
      exact form_no HNF.out (belowA (below1 _ _) _)
  · have d1 : decide ((t.elems.length : Int) < 1) = true := decide_eq_true (by omega)
    clear h hnf
    go_enter Try.func61, Try.ntmps61
    go_wp2_with fail
    go_ret
    exact form_no HNF.out (belowA (below1 _ _) _)

theorem vec_of_cel {α : Type} (f : α → Value) (d : α) {w : World} {a : Option Addr} {l : List α} (h : CelSl f w a l) : VecSl w a l.length (fun i => f (l.getD i d)) := by
  rcases h with rfl | ⟨b, off, e, h⟩
  · exact Or.inl rfl
  · exact Or.inr ⟨b, off, e, h.lt, fun i hi => by rw [h.at_ i hi]; simp [List.getD, hi]⟩
theorem vec_of_row {w : World} {a : Option Addr} {l : List (List Int)} (h : RowSl w a l) : ∃ v, VecSl w a l.length v ∧ ∀ i, (hi : i < l.length) → ∃ a' c', v i = .slice a' l[i].length c' ∧ IntSl w a' l[i] := by
  rcases h with rfl | ⟨b, off, e, h⟩
  · exact ⟨fun _ => .bool false, Or.inl rfl, fun i hi => by simp at hi⟩
  · refine ⟨fun i => (w.cell? ⟨b, off + i, none⟩).getD (.bool false), Or.inr ⟨b, off, e, h.lt, fun i hi => ?_⟩, fun i hi => ?_⟩
    · obtain ⟨a', c', q, _⟩ := h.at_ i hi
      simp only [q, Option.getD_some]
    · obtain ⟨a', c', q, _, _, q2⟩ := h.at_ i hi
      exact ⟨a', c', by simp only [q, Option.getD_some], q2⟩
theorem getD_in {α : Type} (l : List α) (d : α) (i : Nat) (h : i < l.length) : l.getD i d = l[i] := by simp [List.getD, h]

set_option maxHeartbeats 4000000 in
set_option maxRecDepth 100000 in
theorem isFormed_body (t : M.Tb) (p : Tp) (w : World) (hal : ∀ l, l ∈ t.above → l.length ≤ 1000000) (ht : TbIn w t p) (h1 : 1 ≤ t.elems.length) (h2 : t.elems.length ≤ 12) (h3 : t.above.length = t.elems.length) (h4 : t.wrong.length = t.elems.length) :
    Calls Try.prog 61 #[tbV t p] w (FormPost t w) := by
  have d1 : decide ((t.elems.length : Int) < 1) = false := decide_eq_false (by omega)
  have d2 : decide ((12 : Int) < (t.elems.length : Int)) = false := decide_eq_false (by omega)
  have e1 : ((t.above.length : Int) != (t.elems.length : Int)) = false := by rw [h3]; exact bne_self_eq_false _
  have e2 : ((t.wrong.length : Int) != (t.elems.length : Int)) = false := by rw [h4]; exact bne_self_eq_false _
  have e1' : ((t.above.length : Int) == (t.elems.length : Int)) = true := by rw [h3]; exact beq_self_eq_true _
  have e2' : ((t.wrong.length : Int) == (t.elems.length : Int)) = true := by rw [h4]; exact beq_self_eq_true _
  have HT := Lib.hid ht
  have HAL := Lib.hid hal
  have HF := Lib.hid h4
  have H3 := Lib.hid h3
  obtain ⟨c0, c1, c2, c3⟩ := tbBox (t := t) (p := p) (box_new w (tbA t p) 26)
  clear ht hal h3 h4
  go_enter Try.func61, Try.ntmps61
  go_wp2_with fail
  refine (isTableName_any t.name _).mono ?_
  rintro e w1 ⟨rfl, hB1⟩
  have hB : Below w.heap.size w w1 := below2 (belowA (below1 _ _) _) hB1
  have u1 := cell_below (cell_below c1 (below1 _ _)) hB1
  have u2 := cell_below (cell_below c2 (below1 _ _)) hB1
  have hcn : w1.cell? ⟨w.heap.size + 1, 0, none⟩ = some (.int .i64 t.elems.length) := by
    rw [hB1.cell (by simp), World.cell?_alloc_at _ _ _ _ (by simp)]; rfl
  clear c0 c1 c2 c3 hB1
  cases hn : M.isTabB t.name with
  | false =>
    have HNO := Lib.hid (show ¬ M.form t from fun f => by rw [f.name] at hn; cases hn)
    clear hn
    go_wp2_with fail
    go_ret
    exact form_no HNO.out hB
  | true =>
    have HN := Lib.hid hn
    clear hn
    go_wp2_with fail
    have hcall := every_str p.ea t.elems.length p.ec 82 #[] (fun i => .string (t.elems.getD i ⟨#[]⟩)) (fun i => M.isNameB (t.elems.getD i ⟨#[]⟩).data.toList) w1 (by omega) (vec_of_cel Value.string ⟨#[]⟩ (HT.out.below hB).es) enters_isName (fun i _ w2 _ => isName_any _ w2)
    refine hcall.mono ?_
    clear hcall
    rintro e w2 ⟨rfl, hB2⟩
    replace u1 := cell_below u1 hB2
    replace u2 := cell_below u2 hB2
    replace hcn := cell_below hcn hB2
    replace hB := below2 hB hB2
    clear hB2
    cases hall : M.allN (fun i => M.isNameB (t.elems.getD i ⟨#[]⟩).data.toList) t.elems.length with
    | false =>
      have HNO := Lib.hid (show ¬ M.form t from fun f => by
        rw [(M.allN_iff _ _).2 fun k hk => by rw [getD_in _ _ _ hk]; exact f.names k hk] at hall; cases hall)
      clear hall
      go_wp2_with fail
      go_ret
      exact form_no HNO.out hB
    | true =>
      have HALL := Lib.hid hall
      clear hall
      go_wp2_with fail
      have hcall := areDifferent_any p.ea p.ec t.elems w2 (by omega) HT.out.el (HT.out.below hB).es
      refine hcall.mono ?_
      clear hcall
      rintro e w3 ⟨rfl, rfl⟩
      cases hdf : M.diffB t.elems with
      | false =>
        have HNO := Lib.hid (show ¬ M.form t from fun f => by
          rw [(M.diffB_iff _).2 f.differ] at hdf; cases hdf)
        clear hdf
        go_wp2_with fail
        go_ret
        exact form_no HNO.out hB
      | true =>
        have HDF := Lib.hid hdf
        clear hdf
        go_wp2_with fail
        obtain ⟨v, hv, hvi⟩ := vec_of_row (HT.out.below hB).as_
        have hcall := every_row p.aa t.above.length p.ac 85 #[.pointer (some ⟨w.heap.size + 1, 0, none⟩)] v (fun i => M.ascB t.elems.length (t.above.getD i [])) w2 (by rw [H3.out]; omega) hv enters_isFormed1 (fun i hi w4 hB4 => by
          obtain ⟨a', c', ev, hI⟩ := hvi i hi
          rw [ev, getD_in _ _ _ hi]
          exact (isFormed1_any t.elems.length (w.heap.size + 1) a' c' t.above[i] w4 (by omega) (HAL.out _ (List.getElem_mem hi)) (hI.below hB4) (cell_below hcn hB4)).mono fun e w5 ⟨he, hw⟩ => ⟨he, by rw [← hw]; exact Below.refl _ _⟩)
        refine hcall.mono ?_
        clear hcall hv hvi
        rintro e w3 ⟨rfl, hB3⟩
        replace hB := below2 hB hB3
        clear hB3
        cases hrw : M.allN (fun i => M.ascB t.elems.length (t.above.getD i [])) t.above.length with
        | false =>
          have HNO := Lib.hid (show ¬ M.form t from fun f => by
            rw [(M.allN_iff _ _).2 fun k hk => by rw [getD_in _ _ _ hk]; exact (M.ascB_iff _ _).2 (f.rows k hk)] at hrw; cases hrw)
          clear hrw
          go_wp2_with fail
          go_ret
          exact form_no HNO.out hB
        | true =>
          have HYES := Lib.hid (show M.form t from ⟨HN.out, h1, h2, H3.out, HF.out, fun i hi => by have := (M.allN_iff _ _).1 HALL.out i hi; rw [getD_in _ _ _ hi] at this; exact this, (M.diffB_iff _).1 HDF.out, fun i hi => by have := (M.allN_iff _ _).1 hrw i hi; rw [getD_in _ _ _ hi] at this; exact (M.ascB_iff _ _).1 this⟩)
          clear hrw
          go_wp2_with fail
          go_ret
          exact form_yes HYES.out hB

theorem isFormed_any (t : M.Tb) (p : Tp) (w : World) (hal : ∀ l, l ∈ t.above → l.length ≤ 1000000) (ht : TbIn w t p) : Calls Try.prog 61 #[tbV t p] w (FormPost t w) := by
  by_cases h : 1 ≤ t.elems.length ∧ t.elems.length ≤ 12 ∧ t.above.length = t.elems.length ∧ t.wrong.length = t.elems.length
  · exact isFormed_body t p w hal ht h.1 h.2.1 h.2.2.1 h.2.2.2
  · exact isFormed_head t p w h

set_option maxHeartbeats 1000000 in
set_option maxRecDepth 100000 in
theorem check_any (t : M.Tb) (p : Tp) (w : World) (hal : ∀ l, l ∈ t.above → l.length ≤ 1000000) (ht : TbIn w t p) : Calls Try.prog 35 #[tbV t p] w (ChkPost t w) := by
  have HC := Lib.hid (isFormed_any t p (w.alloc (.cells (tbA t p) 26)) hal (ht.below (below1 _ _)))
  obtain ⟨c0, c1, c2, c3⟩ := tbBox (t := t) (p := p) (box_new w (tbA t p) 26)
  clear ht
  go_enter Try.func35, Try.ntmps35
  go_wp2_with fail
  refine HC.out.mono ?_
  rintro e w1 ⟨⟨hf, rfl⟩ | ⟨hf, rfl⟩, hB1⟩
  · have HF := Lib.hid hf
    have hB := below2 (below1 w (.cells (tbA t p) 26)) hB1
    clear hf
    go_wp2_with fail
    go_ret
    exact chk_yes HF.out hB
  · have HF := Lib.hid hf
    have hB := below2 (below1 w (.cells (tbA t p) 26)) hB1
    clear hf
    go_wp2_with fail
    go_ret
    exact chk_no HF.out hB
end Go.Proofs.Ythacjdlohmkpoaa

namespace Go.Proofs.Ythacjdlohmkpoaa
open Go.RowKit

namespace M
/-- A shape. -/
inductive Sh where
  | mk (kind : Nat) (name : ByteArray) (kids : List Sh)
def Sh.kind : Sh → Nat | .mk k _ _ => k
def Sh.name : Sh → ByteArray | .mk _ n _ => n
def Sh.kids : Sh → List Sh | .mk _ _ ks => ks
mutual
/-- How many shapes there are in one. -/
def Sh.sz : Sh → Nat
  | .mk _ _ ks => Sh.szs ks + 1
def Sh.szs : List Sh → Nat
  | [] => 0
  | s :: ks => s.sz + Sh.szs ks
end
theorem Sh.sz_kid : ∀ (ks : List Sh) (i : Nat) (h : i < ks.length), ks[i].sz ≤ Sh.szs ks
  | s :: ks, 0, _ => by rw [Sh.szs]; simp
  | s :: ks, i + 1, h => by
    have := Sh.sz_kid ks i (by simpa using h)
    rw [Sh.szs, List.getElem_cons_succ]; omega
theorem Sh.sz_lt (s : Sh) (i : Nat) (h : i < s.kids.length) : s.kids[i].sz < s.sz := by
  cases s with
  | mk k n ks =>
    have := Sh.sz_kid ks i h
    show ks[i].sz < Sh.sz (.mk k n ks)
    rw [Sh.sz]; omega
/-- Whether a shape has more levels than some. -/
def deepB : Sh → Nat → Bool
  | _, 0 => true
  | .mk _ _ ks, l + 1 => ks.any fun k => deepB k l
theorem deepB_succ (s : Sh) (l : Nat) : deepB s (l + 1) = s.kids.any fun k => deepB k l := by cases s; rfl
theorem allN_all {α : Type} (l : List α) (d : α) (p : α → Bool) : allN (fun i => p (l.getD i d)) l.length = l.all p := by
  rw [Bool.eq_iff_iff, allN_iff, List.all_eq_true]
  constructor
  · intro h x hx
    obtain ⟨i, hi, rfl⟩ := List.getElem_of_mem hx
    have := h i hi
    rwa [getD_in l d i hi] at this
  · intro h i hi
    rw [getD_in l d i hi]
    exact h _ (List.getElem_mem hi)
end M
abbrev shV (s : M.Sh) (a : Option Addr) (c : Nat) : Value := .agg #[.int .u8 s.kind, .string s.name, .slice a s.kids.length c]
mutual
/-- A shape whose kids lie in memory. -/
def ShAt (w : World) : M.Sh → Option Addr → Nat → Prop
  | .mk _ _ ks, a, c => (a = none → c = 0) ∧ ks.length ≤ c ∧ ks.length ≤ 1000000 ∧ (ks = [] ∨ ∃ b off, a = some ⟨b, off, none⟩ ∧ b < w.heap.size ∧ KidsAt w ks b off)
def KidsAt (w : World) : List M.Sh → Nat → Nat → Prop
  | [], _, _ => True
  | s :: ks, b, off => (∃ a c, w.cell? ⟨b, off, none⟩ = some (.int .u8 s.kind) ∧ w.cell? ⟨b, off + 1, none⟩ = some (.string s.name) ∧ w.cell? ⟨b, off + 2, none⟩ = some (.slice a s.kids.length c) ∧ ShAt w s a c) ∧ KidsAt w ks b (off + 3)
end
theorem KidsAt.at {w : World} : ∀ {ks : List M.Sh} {b off : Nat}, KidsAt w ks b off → ∀ i, (h : i < ks.length) → ∃ a c, w.cell? ⟨b, off + i * 3, none⟩ = some (.int .u8 ks[i].kind) ∧ w.cell? ⟨b, off + i * 3 + 1, none⟩ = some (.string ks[i].name) ∧ w.cell? ⟨b, off + i * 3 + 2, none⟩ = some (.slice a ks[i].kids.length c) ∧ ShAt w ks[i] a c
  | s :: ks, b, off, h, 0, _ => by rw [KidsAt] at h; simpa using h.1
  | s :: ks, b, off, h, i + 1, hi => by
    rw [KidsAt] at h
    have := KidsAt.at h.2 i (by simpa using hi)
    rw [show off + (i + 1) * 3 = off + 3 + i * 3 from by omega]
    simpa using this
mutual
theorem ShAt.below {w w' : World} (hB : Below w.heap.size w w') : ∀ {s : M.Sh} {a : Option Addr} {c : Nat}, ShAt w s a c → ShAt w' s a c
  | .mk k n ks, a, c, h => by
    rw [ShAt] at h ⊢
    obtain ⟨h1, h2, h3, h4⟩ := h
    refine ⟨h1, h2, h3, ?_⟩
    rcases h4 with h4 | ⟨b, off, e, hb, h4⟩
    · exact Or.inl h4
    · exact Or.inr ⟨b, off, e, Nat.lt_of_lt_of_le hb hB.size, KidsAt.below hB h4⟩
theorem KidsAt.below {w w' : World} (hB : Below w.heap.size w w') : ∀ {ks : List M.Sh} {b off : Nat}, KidsAt w ks b off → KidsAt w' ks b off
  | [], _, _, _ => by rw [KidsAt]; trivial
  | s :: ks, b, off, h => by
    rw [KidsAt] at h ⊢
    obtain ⟨⟨a, c, h1, h2, h3, h4⟩, h5⟩ := h
    exact ⟨⟨a, c, cell_below h1 hB, cell_below h2 hB, cell_below h3 hB, ShAt.below hB h4⟩, KidsAt.below hB h5⟩
end
theorem ShAt.parts {w : World} {s : M.Sh} {a : Option Addr} {c : Nat} (h : ShAt w s a c) : (a = none → c = 0) ∧ s.kids.length ≤ c ∧ s.kids.length ≤ 1000000 ∧ ∀ i, (hi : i < s.kids.length) → ∃ b off, a = some ⟨b, off, none⟩ ∧ b < w.heap.size ∧ ∃ a' c', w.cell? ⟨b, off + i * 3, none⟩ = some (.int .u8 s.kids[i].kind) ∧ w.cell? ⟨b, off + i * 3 + 1, none⟩ = some (.string s.kids[i].name) ∧ w.cell? ⟨b, off + i * 3 + 2, none⟩ = some (.slice a' s.kids[i].kids.length c') ∧ ShAt w s.kids[i] a' c' := by
  cases s with
  | mk k n ks =>
    rw [ShAt] at h
    obtain ⟨h1, h2, h3, h4⟩ := h
    refine ⟨h1, h2, h3, fun i hi => ?_⟩
    rcases h4 with h4 | ⟨b, off, e, hb, h4⟩
    · have hi' : i < ks.length := hi
      rw [h4] at hi'; simp at hi'
    · exact ⟨b, off, e, hb, KidsAt.at h4 i hi⟩
/-- The cells of a box that holds a shape. -/
theorem shBox {w : World} {B : Nat} {s : M.Sh} {a : Option Addr} {c : Nat} {T : TypeId} (h : w.heap[B]? = some (.cells #[.int .u8 s.kind, .string s.name, .slice a s.kids.length c] T (0, 0))) :
    w.cell? ⟨B, 0, none⟩ = some (.int .u8 s.kind) ∧ w.cell? ⟨B, 1, none⟩ = some (.string s.name) ∧ w.cell? ⟨B, 2, none⟩ = some (.slice a s.kids.length c) :=
  ⟨by rw [Lib.cell_of_heap h]; rfl, by rw [Lib.cell_of_heap h]; rfl, by rw [Lib.cell_of_heap h]; rfl⟩

set_option maxHeartbeats 2000000 in
set_option maxRecDepth 100000 in
theorem idxF_shp (s : M.Sh) (a : Option Addr) (c g : Nat) (lb : Array Value) (p : Nat → Bool) (w : World) (hs : ShAt w s a c)
    (eg : ∀ args w, (callFunc g args).run Try.prog w = .ok (.enter g args) w)
    (hcl : ∀ i, (hi : i < s.kids.length) → ∀ w1 a' c', Below w.heap.size w w1 → ShAt w1 s.kids[i] a' c' → Calls Try.prog g (#[shV s.kids[i] a' c'] ++ lb) w1 fun e w2 => e = .returned (.bool (p i)) ∧ Below w1.heap.size w1 w2) :
    Calls Try.prog 96 #[.slice a s.kids.length c, .func (.func g) #[] lb] w (IdxPost p s.kids.length w) := by
  have HS := Lib.hid hs
  have HCL := Lib.hid hcl
  have hn := hs.parts.2.2.1
  clear hs hcl
  go_enter Try.func96, Try.ntmps96
  go_wp2_with fail
  go_loopw [5, 8] (fun _ i wr => ∃ k : Nat, k ≤ s.kids.length ∧ i = .int .i64 k ∧ Hid (∀ j, j < s.kids.length → j < k → p j = false) ∧ Below w.heap.size w wr) (fun _ i _ => s.kids.length - (intOf i).toNat)
  case atStart => exact ⟨0, by omega, rfl, Lib.hid (fun j _ hj => by omega), Below.refl _ _⟩
  case round =>
    rename_i wr
    obtain ⟨k, hk, rfl, HB, hB⟩ := hrel
    by_cases hlt : k < s.kids.length
    · obtain ⟨b, off, rfl, hbz, a', c', c0, c1, c2, hsh⟩ := ((HS.out.below hB).parts.2.2.2) k hlt
      have n1 : (k : Int) < (s.kids.length : Int) := by omega
      have n2 : (0 : Int) ≤ (k : Int) := by omega
      have hcall := HCL.out k hlt wr a' c' hB hsh
      unfold shV at hcall
      obtain ⟨kd, hkd⟩ : ∃ x, s.kids[k] = x := ⟨_, rfl⟩
      rw [hkd] at c0 c1 c2 hcall
      clear hsh hkd
      cases hp : p k with
      | true =>
        rw [hp] at hcall
        have HC := Lib.hid hcall
        have HP := Lib.hid hp
        clear hcall hp
        go_wp2_with fail
        refine HC.out.mono ?_
        rintro e w2 ⟨rfl, hB2⟩
        go_wp2_with fail
        go_ret
        exact ⟨Or.inr ⟨k, rfl, hlt, HP.out⟩, below2 hB hB2⟩
      | false =>
        rw [hp] at hcall
        have HC := Lib.hid hcall
        have HN := Lib.hid (show ∀ j, j < s.kids.length → j < k + 1 → p j = false from fun j hj h => by
          by_cases e : j = k
          · subst e; exact hp
          · exact HB.out j hj (by omega))
        clear hcall hp
        go_wp2_with fail
        refine HC.out.mono ?_
        rintro e w2 ⟨rfl, hB2⟩
        go_wp2_with fail
        go_roundw
        case rel => exact ⟨k + 1, by omega, by go_num, HN, below2 hB hB2⟩
        case measure => simp [intOf]; omega
    · obtain rfl : k = s.kids.length := by omega
      have m1 : decide ((s.kids.length : Int) < (s.kids.length : Int)) = false := decide_eq_false (by omega)
      go_wp2_with fail
      go_ret
      exact ⟨Or.inl ⟨rfl, fun j hj => HB.out j hj hj⟩, hB⟩

set_option maxHeartbeats 1000000 in
set_option maxRecDepth 100000 in
theorem contF_shp (s : M.Sh) (a : Option Addr) (c g : Nat) (lb : Array Value) (p : Nat → Bool) (w : World) (hs : ShAt w s a c)
    (eg : ∀ args w, (callFunc g args).run Try.prog w = .ok (.enter g args) w)
    (hcl : ∀ i, (hi : i < s.kids.length) → ∀ w1 a' c', Below w.heap.size w w1 → ShAt w1 s.kids[i] a' c' → Calls Try.prog g (#[shV s.kids[i] a' c'] ++ lb) w1 fun e w2 => e = .returned (.bool (!p i)) ∧ Below w1.heap.size w1 w2) :
    Calls Try.prog 75 #[.slice a s.kids.length c, .func (.func g) #[] lb] w fun e w' => e = .returned (.bool (!M.allN p s.kids.length)) ∧ Below w.heap.size w w' := by
  have HC := Lib.hid (idxF_shp s a c g lb (fun i => !p i) w hs eg hcl)
  clear hs hcl
  go_enter Try.func75, Try.ntmps75
  go_wp2_with fail
  refine HC.out.mono ?_
  rintro e w1 ⟨⟨rfl, hall⟩ | ⟨k, rfl, hk, hp⟩, hB⟩
  · have hr : M.allN p s.kids.length = true := (M.allN_iff p _).2 fun k hk => by have := hall k hk; simpa using this
    have HR := Lib.hid hr
    clear hr hall
    go_wp2_with fail
    go_ret
    exact ⟨ret_bool (by rw [HR.out]; rfl), hB⟩
  · have hr : M.allN p s.kids.length = false := M.allN_no hk (by simpa using hp)
    have HR := Lib.hid hr
    have d1 : decide ((0 : Int) ≤ (k : Int)) = true := decide_eq_true (by omega)
    clear hr hp
    go_wp2_with fail
    go_ret
    exact ⟨ret_bool (by rw [HR.out]; rfl), hB⟩

theorem enters_isDeeper1 : ∀ args w, (callFunc 76 args).run Try.prog w = .ok (.enter 76 args) w := enters_of Try.func76 (by kernel_rfl) rfl

set_option maxHeartbeats 1000000 in
set_option maxRecDepth 100000 in
theorem isDeeper1_any (s : M.Sh) (a : Option Addr) (c b l : Nat) (r : Bool) (w : World) (hl : l ≤ 1000) (hc : w.cell? ⟨b, 0, none⟩ = some (.int .i64 (l + 1 : Nat)))
    (hcl : ∀ w1, Below w.heap.size w w1 → Calls Try.prog 53 #[shV s a c, .int .i64 l] w1 fun e w2 => e = .returned (.bool r) ∧ Below w1.heap.size w1 w2) :
    Calls Try.prog 76 #[shV s a c, .pointer (some ⟨b, 0, none⟩)] w fun e w' => e = .returned (.bool r) ∧ Below w.heap.size w w' := by
  have HB := Lib.hid (below1 w (.cells #[.int .u8 s.kind, .string s.name, .slice a s.kids.length c] 60))
  have hcall := hcl _ HB.out
  have HC := Lib.hid hcall
  have hlt : b < w.heap.size := World.block_lt_of_cell? _ _ hc
  obtain ⟨m, hm⟩ : ∃ m : Nat, l + 1 = m := ⟨_, rfl⟩
  rw [hm] at hc
  have e1 : (m : Int) - 1 = (l : Int) := by omega
  clear hcl hcall
  go_enter Try.func76, Try.ntmps76
  go_wp2_with fail
  refine HC.out.mono ?_
  rintro e w1 ⟨rfl, hB1⟩
  have hB := below2 HB.out hB1
  go_wp2_with fail
  go_ret
  exact ⟨rfl, hB⟩

set_option maxHeartbeats 1000000 in
set_option maxRecDepth 100000 in
theorem isDeeper_any : ∀ (l : Nat) (s : M.Sh) (a : Option Addr) (c : Nat) (w : World), l ≤ 1000 → ShAt w s a c →
    Calls Try.prog 53 #[shV s a c, .int .i64 l] w fun e w' => e = .returned (.bool (M.deepB s l)) ∧ Below w.heap.size w w' := by
  intro l
  induction l with
  | zero =>
    intro s a c w hl hs
    have HR := Lib.hid (show M.deepB s 0 = true from by cases s; rfl)
    have hB := belowA (below1 w (.cells #[.int .u8 s.kind, .string s.name, .slice a s.kids.length c] 60)) (.cells #[.int .i64 0] 3)
    clear hs
    go_enter Try.func53, Try.ntmps53
    go_wp2_with fail
    go_ret
    exact ⟨ret_bool HR.out.symm, hB⟩
  | succ l ih =>
    intro s a c w hl hs
    have hBB := belowA (below1 w (.cells #[.int .u8 s.kind, .string s.name, .slice a s.kids.length c] 60)) (.cells #[.int .i64 (l + 1 : Nat)] 3)
    have hcb : ((w.alloc (.cells #[.int .u8 s.kind, .string s.name, .slice a s.kids.length c] 60)).alloc (.cells #[.int .i64 (l + 1 : Nat)] 3)).cell? ⟨w.heap.size + 1, 0, none⟩ = some (.int .i64 (l + 1 : Nat)) := by
      rw [World.cell?_alloc_at _ _ _ _ (by simp)]; rfl
    have hcall := contF_shp s a c 76 #[.pointer (some ⟨w.heap.size + 1, 0, none⟩)] (fun i => !(M.deepB (s.kids.getD i (.mk 0 ⟨#[]⟩ [])) l)) _ (hs.below hBB) enters_isDeeper1 (fun i hi w1 a' c' hB1 hsh => by
      rw [getD_in _ _ _ hi, Bool.not_not]
      exact isDeeper1_any s.kids[i] a' c' (w.heap.size + 1) l _ w1 (by omega) (cell_below hcb hB1) (fun w2 hB2 => ih s.kids[i] a' c' w2 (by omega) (hsh.below hB2)))
    have hres : (!M.allN (fun i => !(M.deepB (s.kids.getD i (.mk 0 ⟨#[]⟩ [])) l)) s.kids.length) = M.deepB s (l + 1) := by
      rw [M.allN_all s.kids (.mk 0 ⟨#[]⟩ []) (fun k => !M.deepB k l), M.deepB_succ, Bool.eq_iff_iff]
      simp
    rw [hres] at hcall
    have HC := Lib.hid hcall
    have HBB := Lib.hid hBB
    obtain ⟨m, hm⟩ : ∃ m : Nat, l + 1 = m := ⟨_, rfl⟩
    rw [hm] at HC HBB ⊢
    have k1 : ((m : Int) == 0) = false := by rw [beq_eq_false_iff_ne]; omega
    have k2 : (m == 0) = false := by rw [beq_eq_false_iff_ne]; omega
    clear hs hcall hres hcb hBB ih hm
    go_enter Try.func53, Try.ntmps53
    go_wp2_with fail
    refine HC.out.mono ?_
    rintro e w1 ⟨rfl, hB1⟩
    have hB := below2 HBB.out hB1
    go_wp2_with fail
    go_ret
    exact ⟨rfl, hB⟩
end Go.Proofs.Ythacjdlohmkpoaa
