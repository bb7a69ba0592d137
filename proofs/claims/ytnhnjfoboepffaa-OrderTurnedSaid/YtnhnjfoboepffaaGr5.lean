/- Texts of one's own, joined: OrdD. -/
import Derived.Test.YtnhnjfoboepffaaGr3
namespace Go.Proofs.Ytnhnjfoboepffaa
open Go.RowKit

/-- What Check comes to. -/
def ChkPost (t : M.Tb) (w : World) (e : Ending) (w' : World) : Prop := ((M.form t ∧ e = .returned (.int .i64 0)) ∨ (¬ M.form t ∧ e = .returned (.int .i64 4))) ∧ Below w.heap.size w w'
theorem chk_no {t : M.Tb} {w w' : World} (h : ¬ M.form t) (hB : Below w.heap.size w w') : ChkPost t w (.returned (.int .i64 4)) w' := ⟨Or.inr ⟨h, rfl⟩, hB⟩
theorem chk_yes {t : M.Tb} {w w' : World} (h : M.form t) (hB : Below w.heap.size w w') : ChkPost t w (.returned (.int .i64 0)) w' := ⟨Or.inl ⟨h, rfl⟩, hB⟩
/-- What is asked of one element of a table. -/
def OkE (t : M.Tb) (j : Nat) : Prop := (∀ h : j < t.elems.length, M.isNameB t.elems[j].data.toList = true ∧ ∀ i, (hi : i < t.elems.length) → i < j → t.elems[i] ≠ t.elems[j]) ∧ ∀ h : j < t.above.length, M.asc t.elems.length t.above[j]
/-- What is asked of the first numbers of a list. -/
def AscTill (n : Nat) (l : List Int) (q : Nat) : Prop := ∀ k, (h : k < l.length) → k < q → 0 ≤ l[k] ∧ l[k] < n ∧ (0 < k → l[k - 1]'(by omega) < l[k])

set_option maxHeartbeats 1000000 in
set_option maxRecDepth 100000 in
theorem refCheck_head (t : M.Tb) (p : Tp) (w : World) (hs : t.name.size ≤ maxLen) (h : ¬ (M.isTabB t.name = true ∧ 1 ≤ t.elems.length ∧ t.elems.length ≤ 12 ∧ t.above.length = t.elems.length ∧ t.wrong.length = t.elems.length)) :
    Calls Try.prog 18 #[tbV t p] w (ChkPost t w) := by
  have hnf : ¬ M.form t := fun f => h ⟨f.name, f.one, f.twelve, f.above, f.wrong⟩
  have HNF := Lib.hid hnf
  obtain ⟨c0, c1, c2, c3⟩ := tbBox (t := t) (p := p) (box_new w (tbA t p) 26)
  cases hn : M.isTabB t.name with
  | false =>
    have HN := Lib.hid hn
    clear hn h hnf
    go_enter Try.func18, Try.ntmps18
    go_wp2_with fail
    refine (refIsTab_any t.name _ hs).mono ?_
    rintro e w1 ⟨rfl, hB1⟩
    rw [HN.out]
    have hB := below2 (below1 w (.cells (tbA t p) 26)) hB1
    go_wp2_with fail
    go_ret
    exact chk_no HNF.out hB
  | true =>
    have HN := Lib.hid hn
    cases hd : (decide ((1 : Int) ≤ (t.elems.length : Int)) && decide ((t.elems.length : Int) ≤ 12)) with
    | false =>
      have HC := Lib.hid fun W => in_any t.elems.length 1 12 W
      have HD := Lib.hid hd
      clear hn h hnf hd
      go_enter Try.func18, Try.ntmps18
      go_wp2_with fail
      refine (refIsTab_any t.name _ hs).mono ?_
      rintro e w1 ⟨rfl, hB1⟩
      rw [HN.out]
      have hB := below2 (below1 w (.cells (tbA t p) 26)) hB1
      go_wp2_with fail
      refine (HC.out _).mono ?_
      rintro e w2 ⟨rfl, rfl⟩
      rw [HD.out]
      go_wp2_with fail
      go_ret
      exact chk_no HNF.out hB
    | true =>
      have HC := Lib.hid fun W => in_any t.elems.length 1 12 W
      have HD := Lib.hid hd
      simp only [Bool.and_eq_true, decide_eq_true_eq] at hd
      by_cases ha : t.above.length = t.elems.length
      · have hw : ¬ t.wrong.length = t.elems.length := fun q => h ⟨hn, by omega, by omega, ha, q⟩
        have e1 : ((t.above.length : Int) != (t.elems.length : Int)) = false := by rw [ha]; exact bne_self_eq_false _
        have e2 : ((t.wrong.length : Int) != (t.elems.length : Int)) = true := by rw [bne_iff_ne]; omega
        have e1' : ((t.above.length : Int) == (t.elems.length : Int)) = true := by rw [ha]; exact beq_self_eq_true _
        have e2' : ((t.wrong.length : Int) == (t.elems.length : Int)) = false := by rw [beq_eq_false_iff_ne]; omega
        clear hn h hnf hd ha hw
        go_enter Try.func18, Try.ntmps18
        go_wp2_with fail
        refine (refIsTab_any t.name _ hs).mono ?_
        rintro e w1 ⟨rfl, hB1⟩
        rw [HN.out]
        have hB := below2 (below1 w (.cells (tbA t p) 26)) hB1
        replace c2 := cell_below c2 hB1
        replace c3 := cell_below c3 hB1
        clear hB1 c0 c1
        go_wp2_with fail
        refine (HC.out _).mono ?_
        rintro e w2 ⟨rfl, rfl⟩
        rw [HD.out]
        go_wp2_with fail
        go_ret
        exact chk_no HNF.out hB
      · have e1 : ((t.above.length : Int) != (t.elems.length : Int)) = true := by rw [bne_iff_ne]; omega
        have e1' : ((t.above.length : Int) == (t.elems.length : Int)) = false := by rw [beq_eq_false_iff_ne]; omega
        clear hn h hnf hd ha
        go_enter Try.func18, Try.ntmps18
        go_wp2_with fail
        refine (refIsTab_any t.name _ hs).mono ?_
        rintro e w1 ⟨rfl, hB1⟩
        rw [HN.out]
        have hB := below2 (below1 w (.cells (tbA t p) 26)) hB1
        replace c2 := cell_below c2 hB1
        clear hB1 c0 c1
        go_wp2_with fail
        refine (HC.out _).mono ?_
        rintro e w2 ⟨rfl, rfl⟩
        rw [HD.out]
        go_wp2_with fail
        go_ret
        exact chk_no HNF.out hB

set_option maxHeartbeats 8000000 in
set_option maxRecDepth 100000 in
theorem refCheck_body (t : M.Tb) (p : Tp) (w : World) (hs : t.name.size ≤ maxLen) (hes : ∀ s, s ∈ t.elems → s.size ≤ maxLen) (hal : ∀ l, l ∈ t.above → l.length ≤ 1000000) (ht : TbIn w t p) (hn : M.isTabB t.name = true) (h1 : 1 ≤ t.elems.length) (h2 : t.elems.length ≤ 12) (h3 : t.above.length = t.elems.length) (h4 : t.wrong.length = t.elems.length) :
    Calls Try.prog 18 #[tbV t p] w (ChkPost t w) := by
  have hform : (∀ j, j < t.elems.length → OkE t j) → M.form t := fun h => ⟨hn, h1, h2, h3, h4, fun i hi => ((h i hi).1 hi).1, fun i j hi hj hij => ((h j hj).1 hj).2 i hi hij, fun i hi => (h i (by omega)).2 hi⟩
  have hnof : ∀ j, j < t.elems.length → ¬ OkE t j → ¬ M.form t := fun j hj hno f => hno ⟨fun hj' => ⟨f.names j hj', fun i hi hij => f.differ i j hi hj' hij⟩, fun hj' => f.rows j hj'⟩
  have hd : (decide ((1 : Int) ≤ (t.elems.length : Int)) && decide ((t.elems.length : Int) ≤ 12)) = true := by simp only [Bool.and_eq_true, decide_eq_true_eq]; omega
  have e1 : ((t.above.length : Int) != (t.elems.length : Int)) = false := by rw [h3]; exact bne_self_eq_false _
  have e2 : ((t.wrong.length : Int) != (t.elems.length : Int)) = false := by rw [h4]; exact bne_self_eq_false _
  have e1' : ((t.above.length : Int) == (t.elems.length : Int)) = true := by rw [h3]; exact beq_self_eq_true _
  have e2' : ((t.wrong.length : Int) == (t.elems.length : Int)) = true := by rw [h4]; exact beq_self_eq_true _
  have HC := Lib.hid fun W => in_any t.elems.length 1 12 W
  have HD := Lib.hid hd
  have HN := Lib.hid hn
  have HFORM := Lib.hid hform
  have HNOF := Lib.hid hnof
  have HES := Lib.hid hes
  have HAL := Lib.hid hal
  have HT0 := Lib.hid ht
  have H3 := Lib.hid h3
  obtain ⟨c0, c1, c2, c3⟩ := tbBox (t := t) (p := p) (box_new w (tbA t p) 26)
  clear hform hnof hd hn hes hal ht h3 h4
  go_enter Try.func18, Try.ntmps18
  go_wp2_with fail
  refine (refIsTab_any t.name _ hs).mono ?_
  rintro e w1 ⟨rfl, hB1⟩
  rw [HN.out]
  have hB := below2 (below1 w (.cells (tbA t p) 26)) hB1
  replace c1 := cell_below c1 hB1
  replace c2 := cell_below c2 hB1
  replace c3 := cell_below c3 hB1
  have HT := Lib.hid (HT0.out.below hB)
  clear hB1 c0 HT0
  go_wp2_with fail
  refine (HC.out _).mono ?_
  rintro e w2 ⟨rfl, rfl⟩
  rw [HD.out]
  go_wp2_with fail
  go_loopw [4] (fun i wr => ∃ k : Nat, k ≤ t.elems.length ∧ i = .int .i64 k ∧ Hid (∀ j, j < k → OkE t j) ∧ Below w1.heap.size w1 wr) (fun i _ => t.elems.length - (intOf i).toNat)
  case atStart => exact ⟨0, by omega, rfl, Lib.hid (fun j hj => by omega), Below.refl _ _⟩
  case round =>
    rename_i wr
    obtain ⟨k, hk, rfl, HA, hBr⟩ := hrel
    have cu1 := cell_below c1 hBr
    have cu2 := cell_below c2 hBr
    have hBw := below2 hB hBr
    by_cases hkl : k < t.elems.length
    · have hka : k < t.above.length := by rw [H3.out]; exact hkl
      obtain ⟨b, off, ea, he⟩ := (HT.out.below hBr).es.at hkl
      obtain ⟨b', off', ea', ha⟩ := (HT.out.below hBr).as_.at hka
      obtain ⟨ra, rc, q2, _, _, g2⟩ := ha.at_ k hka
      have q1 := he.at_ k hkl
      have hsz := HES.out t.elems[k] (List.getElem_mem hkl)
      have hlen := HAL.out t.above[k] (List.getElem_mem hka)
      have hfind : M.findI t.elems t.elems[k] = k ∨ ∃ i, ∃ hi : i < t.elems.length, i < k ∧ t.elems[i] = t.elems[k] ∧ M.findI t.elems t.elems[k] ≠ k := by
        have hm := (M.findN_mem t.elems t.elems[k]).2 (List.getElem_mem hkl)
        obtain ⟨f1, f2⟩ := M.findN_at t.elems t.elems[k] hm
        rcases Nat.lt_trichotomy (M.findN t.elems t.elems[k]) k with q | q | q
        · right
          refine ⟨_, hm, q, f1, ?_⟩
          unfold M.findI; rw [if_pos hm]; omega
        · left
          unfold M.findI; rw [if_pos hm, q]
        · exact absurd rfl (f2 k hkl q)
      have hokE : M.isNameB t.elems[k].data.toList = true → M.findI t.elems t.elems[k] = k → M.asc t.elems.length t.above[k] → OkE t k := fun a1 a2 a3 => ⟨fun _ => ⟨a1, fun i hi hik e => by
        rcases hfind with q | ⟨j, hj, hjk, e2, hne⟩
        · have hm := (M.findN_mem t.elems t.elems[k]).2 (List.getElem_mem hkl)
          have f2 := (M.findN_at t.elems t.elems[k] hm).2
          unfold M.findI at q
          rw [if_pos hm] at q
          exact f2 i hi (by omega) e
        · exact hne a2⟩, fun _ => a3⟩
      have hno1 : M.isNameB t.elems[k].data.toList = false → ¬ M.form t := fun a1 f => by have := f.names k hkl; rw [a1] at this; cases this
      have hno2 : M.findI t.elems t.elems[k] ≠ k → ¬ M.form t := fun a2 f => by
        rcases hfind with q | ⟨j, hj, hjk, e2, _⟩
        · exact a2 q
        · exact f.differ j k hj hkl hjk e2
      have hno3 : ¬ M.asc t.elems.length t.above[k] → ¬ M.form t := fun a3 f => a3 (f.rows k hka)
      obtain ⟨s, hs'⟩ : ∃ s, t.elems[k] = s := ⟨_, rfl⟩
      obtain ⟨row, hrow⟩ : ∃ row, t.above[k] = row := ⟨_, rfl⟩
      rw [hs'] at q1 hsz hokE hno1 hno2
      rw [hrow] at q2 g2 hlen hokE hno3
      rw [ea] at cu1
      rw [ea'] at cu2
      have HE2 := Lib.hid (show StrSl wr (some ⟨b, off, none⟩) t.elems from Or.inr ⟨b, off, rfl, he⟩)
      have HOK := Lib.hid hokE
      have HNO1 := Lib.hid hno1
      have HNO2 := Lib.hid hno2
      have HNO3 := Lib.hid hno3
      have HROW := Lib.hid hrow
      have n1 : (k : Int) < (t.elems.length : Int) := by omega
      have n1' : (k : Int) < (t.above.length : Int) := by omega
      have n2 : (0 : Int) ≤ (k : Int) := by omega
      clear hfind hokE hno1 hno2 hno3 hs' hrow he ha ea ea' g2
      cases hb1 : M.isNameB s.data.toList with
      | false =>
        have HBAD := Lib.hid (HNO1.out hb1)
        have hc1 : ∀ n, Calls Try.prog 40 #[.string s] (wr.drewN n) fun e w' => e = .returned (.bool false) ∧ w' = wr.drewN n := fun n => (refIsName_any s (wr.drewN n) hsz).mono fun _ _ ⟨he, hw⟩ => ⟨by rw [he, hb1], hw.symm⟩
        have HC1 := Lib.hid hc1
        clear hb1 hc1
        go_wp2_with fail
        go_quiet ((go_at_call 40; exact Calls.quiet_of_same (HC1.out _)))
        go_wp2_with fail
        go_ret
        exact chk_no HBAD.out (belowN hBw _)
      | true =>
        have hc1 : ∀ n, Calls Try.prog 40 #[.string s] (wr.drewN n) fun e w' => e = .returned (.bool true) ∧ w' = wr.drewN n := fun n => (refIsName_any s (wr.drewN n) hsz).mono fun _ _ ⟨he, hw⟩ => ⟨by rw [he, hb1], hw.symm⟩
        have HC1 := Lib.hid hc1
        have HB1 := Lib.hid hb1
        have hc2 : ∀ n, Calls Try.prog 41 #[.slice (some ⟨b, off, none⟩) t.elems.length p.ec, .string s] (wr.drewN n) fun e w' => e = .returned (.int .i64 (M.findI t.elems s)) ∧ w' = wr.drewN n := fun n => (refFind_any _ _ t.elems s (wr.drewN n) (by omega) (HE2.out.below (belowN (Below.refl _ _) n))).mono fun _ _ ⟨he, hw⟩ => ⟨he, hw.symm⟩
        have HC2 := Lib.hid hc2
        clear hb1 hc1 hc2
        by_cases hf : M.findI t.elems s = k
        · have k1 : (M.findI t.elems s != (k : Int)) = false := by rw [hf]; exact bne_self_eq_false _
          have k2 : (M.findI t.elems s == (k : Int)) = true := by rw [hf]; exact beq_self_eq_true _
          have HNX := Lib.hid (HOK.out HB1.out hf)
          clear hf
          go_wp2_with fail
          go_quiet ((first | (go_at_call 40; exact Calls.quiet_of_same (HC1.out _)) | (go_at_call 41; exact Calls.quiet_of_same (HC2.out _))))
          go_wp2_with fail
          go_loopw [5] (fun i wo => ∃ q : Nat, q ≤ row.length ∧ i = .int .i64 q ∧ Hid (AscTill t.elems.length row q) ∧ Below w1.heap.size w1 wo) (fun i _ => row.length - (intOf i).toNat)
          case atStart => exact ⟨0, by omega, rfl, Lib.hid (fun j _ hj => by omega), belowN hBr _⟩
          case round =>
            clear cu1 cu2 q1 q2 hBr hBw HE2 HC2 HC1
            rename World => wo
            obtain ⟨q, hq, rfl, HQ, hBo⟩ := hrel
            have v2 := cell_below c2 hBo
            have hBw := below2 hB hBo
            obtain ⟨b2, off2, ea2, ha2⟩ := (HT.out.below hBo).as_.at hka
            obtain ⟨ra2, rc2, q22, _, _, g22⟩ := ha2.at_ k hka
            rw [HROW.out] at q22 g22
            rw [ea2] at v2
            clear ha2 ea2
            by_cases hql : q < row.length
            · obtain ⟨b3, off3, e3, g3⟩ := g22.at hql
              subst e3
              have r0 := g3.at_ q hql
              have m1 : (q : Int) < (row.length : Int) := by omega
              have m2 : (0 : Int) ≤ (q : Int) := by omega
              have w1' : IntKind.i64.wrap ((t.elems.length : Int) - 1) = (t.elems.length : Int) - 1 := IntWalk.i64_in _ (by omega)
              have hnot : ¬ (0 ≤ row[q] ∧ row[q] < t.elems.length ∧ (0 < q → row[q - 1]'(by omega) < row[q])) → ¬ M.form t := fun hne => HNO3.out fun hasc => hne (hasc q hql)
              have hnext : (0 ≤ row[q] ∧ row[q] < t.elems.length ∧ (0 < q → row[q - 1]'(by omega) < row[q])) → AscTill t.elems.length row (q + 1) := fun hy j hj hjk => by
                rcases Nat.lt_succ_iff_lt_or_eq.1 hjk with h | rfl
                · exact HQ.out j hj h
                · exact hy
              by_cases hq0 : 0 < q
              · obtain ⟨r, hr⟩ : ∃ r, q = r + 1 := ⟨q - 1, by omega⟩
                have hrl : r < row.length := by omega
                have r1 := g3.at_ r hrl
                have er : row[q - 1]'(by omega) = row[r] := by congr 1; omega
                rw [er] at hnot hnext
                obtain ⟨a, ha'⟩ : ∃ a, row[q] = a := ⟨_, rfl⟩
                obtain ⟨y, hy'⟩ : ∃ y, row[r] = y := ⟨_, rfl⟩
                rw [ha'] at r0 hnot hnext
                rw [hy'] at r1 hnot hnext
                have HNOT := Lib.hid hnot
                have HNEXT := Lib.hid hnext
                have e1 : (q : Int) - 1 = (r : Int) := by omega
                have e2 : IntKind.i64.wrap (r : Int) = (r : Int) := IntWalk.i64_in _ (by omega)
                have m3 : (r : Int) < (row.length : Int) := by omega
                have m4 : (0 : Int) ≤ (r : Int) := by omega
                have d80 : decide ((0 : Int) < (q : Int)) = true := decide_eq_true (by omega)
                have d80' : decide (0 < q) = true := decide_eq_true hq0
                clear hnot hnext er ha' hy' hr g3 g22 hq0
                cases hd3 : (decide ((0 : Int) ≤ a) && decide (a ≤ (t.elems.length : Int) - 1)) with
                | false =>
                  have hc3 : ∀ n, Calls Try.prog 39 #[.int .i64 a, .int .i64 0, .int .i64 ((t.elems.length : Int) - 1)] (wo.drewN n) fun e w' => e = .returned (.bool false) ∧ w' = wo.drewN n := fun n => (in_any _ _ _ (wo.drewN n)).mono fun _ _ ⟨he, hw⟩ => ⟨by rw [he, hd3], hw.symm⟩
                  have HC3 := Lib.hid hc3
                  have HBAD := Lib.hid (HNOT.out fun ⟨x1, x2, _⟩ => by rw [decide_eq_true x1, decide_eq_true (by omega)] at hd3; cases hd3)
                  clear hc3 hd3
                  go_wp2_with fail
                  go_quiet ((go_at_call 39; exact Calls.quiet_of_same (HC3.out _)))
                  go_wp2_with fail
                  go_ret
                  exact chk_no HBAD.out (belowN hBw _)
                | true =>
                  have hc3 : ∀ n, Calls Try.prog 39 #[.int .i64 a, .int .i64 0, .int .i64 ((t.elems.length : Int) - 1)] (wo.drewN n) fun e w' => e = .returned (.bool true) ∧ w' = wo.drewN n := fun n => (in_any _ _ _ (wo.drewN n)).mono fun _ _ ⟨he, hw⟩ => ⟨by rw [he, hd3], hw.symm⟩
                  have HC3 := Lib.hid hc3
                  simp only [Bool.and_eq_true, decide_eq_true_eq] at hd3
                  by_cases hay : a ≤ y
                  · have d99 : decide (a ≤ y) = true := decide_eq_true hay
                    have HBAD := Lib.hid (HNOT.out fun ⟨_, _, x3⟩ => by have := x3 (by omega); omega)
                    clear hc3 hd3 hay
                    go_wp2_with fail
                    go_quiet ((go_at_call 39; exact Calls.quiet_of_same (HC3.out _)))
                    go_wp2_with fail
                    go_ret
                    exact chk_no HBAD.out (belowN hBw _)
                  · have d99 : decide (a ≤ y) = false := decide_eq_false hay
                    have HN2 := Lib.hid (HNEXT.out ⟨by omega, by omega, fun _ => by omega⟩)
                    clear hc3 hd3 hay
                    go_wp2_with fail
                    go_quiet ((go_at_call 39; exact Calls.quiet_of_same (HC3.out _)))
                    clear e1 e2
                    go_wp2_with fail
                    exact ⟨⟨q + 1, by omega, by simp, HN2, belowN hBo _⟩, by simp [intOf]; omega⟩
              · have d80 : decide ((0 : Int) < (q : Int)) = false := decide_eq_false (by omega)
                have d80' : decide (0 < q) = false := decide_eq_false hq0
                obtain ⟨a, ha'⟩ : ∃ a, row[q] = a := ⟨_, rfl⟩
                rw [ha'] at r0 hnot hnext
                have hnot2 : ¬ (0 ≤ a ∧ a < t.elems.length) → ¬ M.form t := fun hne => hnot fun ⟨x1, x2, _⟩ => hne ⟨x1, x2⟩
                have hnext2 : (0 ≤ a ∧ a < t.elems.length) → AscTill t.elems.length row (q + 1) := fun ⟨x1, x2⟩ => hnext ⟨x1, x2, fun x3 => absurd x3 hq0⟩
                have HNOT := Lib.hid hnot2
                have HNEXT := Lib.hid hnext2
                clear hnot hnext hnot2 hnext2 ha' g3 g22 hq0
                cases hd3 : (decide ((0 : Int) ≤ a) && decide (a ≤ (t.elems.length : Int) - 1)) with
                | false =>
                  have hc3 : ∀ n, Calls Try.prog 39 #[.int .i64 a, .int .i64 0, .int .i64 ((t.elems.length : Int) - 1)] (wo.drewN n) fun e w' => e = .returned (.bool false) ∧ w' = wo.drewN n := fun n => (in_any _ _ _ (wo.drewN n)).mono fun _ _ ⟨he, hw⟩ => ⟨by rw [he, hd3], hw.symm⟩
                  have HC3 := Lib.hid hc3
                  have HBAD := Lib.hid (HNOT.out fun ⟨x1, x2⟩ => by rw [decide_eq_true x1, decide_eq_true (by omega)] at hd3; cases hd3)
                  clear hc3 hd3
                  go_wp2_with fail
                  go_quiet ((go_at_call 39; exact Calls.quiet_of_same (HC3.out _)))
                  go_wp2_with fail
                  go_ret
                  exact chk_no HBAD.out (belowN hBw _)
                | true =>
                  have hc3 : ∀ n, Calls Try.prog 39 #[.int .i64 a, .int .i64 0, .int .i64 ((t.elems.length : Int) - 1)] (wo.drewN n) fun e w' => e = .returned (.bool true) ∧ w' = wo.drewN n := fun n => (in_any _ _ _ (wo.drewN n)).mono fun _ _ ⟨he, hw⟩ => ⟨by rw [he, hd3], hw.symm⟩
                  have HC3 := Lib.hid hc3
                  simp only [Bool.and_eq_true, decide_eq_true_eq] at hd3
                  have HN2 := Lib.hid (HNEXT.out ⟨by omega, by omega⟩)
                  clear hc3 hd3
                  go_wp2_with fail
                  go_quiet ((go_at_call 39; exact Calls.quiet_of_same (HC3.out _)))
                  go_wp2_with fail
                  exact ⟨⟨q + 1, by omega, by simp, HN2, belowN hBo _⟩, by simp [intOf]; omega⟩
            · obtain rfl : q = row.length := by omega
              have m1 : decide ((row.length : Int) < (row.length : Int)) = false := decide_eq_false (by omega)
              have HK := Lib.hid (HNX.out (fun j hj => HQ.out j hj hj))
              have hall : ∀ j, j < k + 1 → OkE t j := fun j hj => by
                rcases Nat.lt_succ_iff_lt_or_eq.1 hj with h | rfl
                · exact HA.out j h
                · exact HK.out
              have HALL := Lib.hid hall
              clear hall
              go_wp2_with fail
              exact ⟨⟨k + 1, by omega, by simp, HALL, hBo⟩, by simp [intOf]; omega⟩
        · have k1 : (M.findI t.elems s != (k : Int)) = true := by rw [bne_iff_ne]; exact hf
          have k2 : (M.findI t.elems s == (k : Int)) = false := by rw [beq_eq_false_iff_ne]; exact hf
          have HBAD := Lib.hid (HNO2.out hf)
          clear hf
          go_wp2_with fail
          go_quiet ((first | (go_at_call 40; exact Calls.quiet_of_same (HC1.out _)) | (go_at_call 41; exact Calls.quiet_of_same (HC2.out _))))
          go_wp2_with fail
          go_ret
          exact chk_no HBAD.out (belowN hBw _)
    · obtain rfl : k = t.elems.length := by omega
      have m1 : decide ((t.elems.length : Int) < (t.elems.length : Int)) = false := decide_eq_false (by omega)
      have HY := Lib.hid (HFORM.out HA.out)
      go_wp2_with fail
      go_ret
      exact chk_yes HY.out hBw
theorem refCheck_any (t : M.Tb) (p : Tp) (w : World) (hs : t.name.size ≤ maxLen) (hes : ∀ s, s ∈ t.elems → s.size ≤ maxLen) (hal : ∀ l, l ∈ t.above → l.length ≤ 1000000) (ht : TbIn w t p) :
    Calls Try.prog 18 #[tbV t p] w (ChkPost t w) := by
  by_cases h : M.isTabB t.name = true ∧ 1 ≤ t.elems.length ∧ t.elems.length ≤ 12 ∧ t.above.length = t.elems.length ∧ t.wrong.length = t.elems.length
  · exact refCheck_body t p w hs hes hal ht h.1 h.2.1 h.2.2.1 h.2.2.2.1 h.2.2.2.2
  · exact refCheck_head t p w hs h
end Go.Proofs.Ytnhnjfoboepffaa
