/- Texts of one's own, joined: OrdH. -/
import Derived.Test.YtnhnjfoboepffaaGr6
import Derived.Test.YtnhnjfoboepffaaGr5
namespace Go.Proofs.Ytnhnjfoboepffaa
open Go.RowKit

set_option maxHeartbeats 1000000 in
set_option maxRecDepth 100000 in
theorem isFormed1_any (n : Nat) (b : Nat) (a : Option Addr) (c : Nat) (l : List Int) (w : World) (hn : n ≤ 1000000) (hl : l.length ≤ 1000000) (ho : IntSl w a l) (hb : w.cell? ⟨b, 0, none⟩ = some (.int .i64 n)) :
    Calls Try.prog 80 #[.slice a l.length c, .pointer (some ⟨b, 0, none⟩)] w fun e w' => e = .returned (.bool (M.ascB n l)) ∧ w = w' := by
  have HC := Lib.hid (areNumbers_any n a c l w hn hl ho)
  clear ho
  go_enter Try.func80, Try.ntmps80
  go_wp2_with fail
  refine HC.out.mono ?_
  rintro e w1 ⟨rfl, rfl⟩
  go_wp2_with fail
  go_ret
  exact ⟨rfl, rfl⟩

theorem enters_isFormed1 : ∀ args w, (callFunc 80 args).run Try.prog w = .ok (.enter 80 args) w := enters_of Try.func80 (by kernel_rfl) rfl
theorem enters_isName : ∀ args w, (callFunc 77 args).run Try.prog w = .ok (.enter 77 args) w := enters_of Try.func77 (by kernel_rfl) rfl

/-- What isFormed comes to. -/
def FormPost (t : M.Tb) (w : World) (e : Ending) (w' : World) : Prop := ((M.form t ∧ e = .returned (.bool true)) ∨ (¬ M.form t ∧ e = .returned (.bool false))) ∧ Below w.heap.size w w'
theorem form_no {t : M.Tb} {w w' : World} (h : ¬ M.form t) (hB : Below w.heap.size w w') : FormPost t w (.returned (.bool false)) w' := ⟨Or.inr ⟨h, rfl⟩, hB⟩
theorem form_yes {t : M.Tb} {w w' : World} (h : M.form t) (hB : Below w.heap.size w w') : FormPost t w (.returned (.bool true)) w' := ⟨Or.inl ⟨h, rfl⟩, hB⟩

set_option maxHeartbeats 2000000 in
set_option maxRecDepth 100000 in
theorem isFormed_head (t : M.Tb) (p : Tp) (w : World) (h : ¬ (1 ≤ t.elems.length ∧ t.elems.length ≤ 12 ∧ t.above.length = t.elems.length ∧ t.wrong.length = t.elems.length)) :
    Calls Try.prog 55 #[tbV t p] w (FormPost t w) := by
  have hnf : ¬ M.form t := fun f => h ⟨f.one, f.twelve, f.above, f.wrong⟩
  have HNF := Lib.hid hnf
  obtain ⟨c0, c1, c2, c3⟩ := tbBox (t := t) (p := p) (box_new w (tbA t p) 26)
  by_cases h1 : 1 ≤ t.elems.length
  · have d1 : decide ((t.elems.length : Int) < 1) = false := decide_eq_false (by omega)
    by_cases h2 : t.elems.length ≤ 12
    · have d2 : decide ((12 : Int) < (t.elems.length : Int)) = false := decide_eq_false (by omega)
      by_cases h3 : t.above.length = t.elems.length
      · have h4 : ¬ t.wrong.length = t.elems.length := fun q => h ⟨h1, h2, h3, q⟩
        have e1 : ((t.above.length : Int) != (t.elems.length : Int)) = false := by rw [h3]; exact bne_self_eq_false _
        have e2 : ((t.wrong.length : Int) != (t.elems.length : Int)) = true := by rw [bne_iff_ne]; omega
        have e1' : ((t.above.length : Int) == (t.elems.length : Int)) = true := by rw [h3]; exact beq_self_eq_true _
        have e2' : ((t.wrong.length : Int) == (t.elems.length : Int)) = false := by rw [beq_eq_false_iff_ne]; omega
        clear h hnf h3 h4
        go_enter Try.func55, Try.ntmps55
        go_wp2_with fail
        go_ret
        exact form_no HNF.out (belowA (below1 _ _) _)
      · have e1 : ((t.above.length : Int) != (t.elems.length : Int)) = true := by rw [bne_iff_ne]; omega
        have e1' : ((t.above.length : Int) == (t.elems.length : Int)) = false := by rw [beq_eq_false_iff_ne]; omega
        clear h hnf h3
        go_enter Try.func55, Try.ntmps55
        go_wp2_with fail
        go_ret
        exact form_no HNF.out (belowA (below1 _ _) _)
    · have d2 : decide ((12 : Int) < (t.elems.length : Int)) = true := decide_eq_true (by omega)
      clear h hnf
      go_enter Try.func55, Try.ntmps55
      go_wp2_with fail
      go_ret
      exact form_no HNF.out (belowA (below1 _ _) _)
  · have d1 : decide ((t.elems.length : Int) < 1) = true := decide_eq_true (by omega)
    clear h hnf
    go_enter Try.func55, Try.ntmps55
    go_wp2_with fail
    go_ret
    exact form_no HNF.out (belowA (below1 _ _) _)

theorem vec_of_cel {α : Type} (f : α → Value) (d : α) {w : World} {a : Option Addr} {l : List α} (h : CelSl f w a l) : VecSl w a l.length (fun i => f (l.getD i d)) := by
  rcases h with rfl | ⟨b, off, e, h⟩
  · exact Or.inl rfl
  · exact Or.inr ⟨b, off, e, h.lt, fun i hi => by rw [h.at_ i hi]; simp [List.getD, hi]⟩
theorem vec_of_row {w : World} {a : Option Addr} {l : List (List Int)} (h : RowSl w a l) : ∃ v, VecSl w a l.length v ∧ ∀ i, (hi : i < l.length) → ∃ a' c', v i = .slice a' l[i].length c' ∧ IntSl w a' l[i] := by
  rcases h with rfl | ⟨b, off, e, h⟩
  · exact ⟨fun _ => .bool false, Or.inl rfl, fun i hi => by simp at hi⟩
  · refine ⟨fun i => (w.cell? ⟨b, off + i, none⟩).getD (.bool false), Or.inr ⟨b, off, e, h.lt, fun i hi => ?_⟩, fun i hi => ?_⟩
    · obtain ⟨a', c', q, _⟩ := h.at_ i hi
      simp only [q, Option.getD_some]
    · obtain ⟨a', c', q, _, _, q2⟩ := h.at_ i hi
      exact ⟨a', c', by simp only [q, Option.getD_some], q2⟩
theorem getD_in {α : Type} (l : List α) (d : α) (i : Nat) (h : i < l.length) : l.getD i d = l[i] := by simp [List.getD, h]

set_option maxHeartbeats 4000000 in
set_option maxRecDepth 100000 in
theorem isFormed_body (t : M.Tb) (p : Tp) (w : World) (hal : ∀ l, l ∈ t.above → l.length ≤ 1000000) (ht : TbIn w t p) (h1 : 1 ≤ t.elems.length) (h2 : t.elems.length ≤ 12) (h3 : t.above.length = t.elems.length) (h4 : t.wrong.length = t.elems.length) :
    Calls Try.prog 55 #[tbV t p] w (FormPost t w) := by
  have d1 : decide ((t.elems.length : Int) < 1) = false := decide_eq_false (by omega)
  have d2 : decide ((12 : Int) < (t.elems.length : Int)) = false := decide_eq_false (by omega)
  have e1 : ((t.above.length : Int) != (t.elems.length : Int)) = false := by rw [h3]; exact bne_self_eq_false _
  have e2 : ((t.wrong.length : Int) != (t.elems.length : Int)) = false := by rw [h4]; exact bne_self_eq_false _
  have e1' : ((t.above.length : Int) == (t.elems.length : Int)) = true := by rw [h3]; exact beq_self_eq_true _
  have e2' : ((t.wrong.length : Int) == (t.elems.length : Int)) = true := by rw [h4]; exact beq_self_eq_true _
  have HT := Lib.hid ht
  have HAL := Lib.hid hal
  have HF := Lib.hid h4
  have H3 := Lib.hid h3
  obtain ⟨c0, c1, c2, c3⟩ := tbBox (t := t) (p := p) (box_new w (tbA t p) 26)
  clear ht hal h3 h4
  go_enter Try.func55, Try.ntmps55
  go_wp2_with fail
  refine (isTableName_any t.name _).mono ?_
  rintro e w1 ⟨rfl, hB1⟩
  have hB : Below w.heap.size w w1 := below2 (belowA (below1 _ _) _) hB1
  have u1 := cell_below (cell_below c1 (below1 _ _)) hB1
  have u2 := cell_below (cell_below c2 (below1 _ _)) hB1
  have hcn : w1.cell? ⟨w.heap.size + 1, 0, none⟩ = some (.int .i64 t.elems.length) := by
    rw [hB1.cell (by simp), World.cell?_alloc_at _ _ _ _ (by simp)]; rfl
  clear c0 c1 c2 c3 hB1
  cases hn : M.isTabB t.name with
  | false =>
    have HNO := Lib.hid (show ¬ M.form t from fun f => by rw [f.name] at hn; cases hn)
    clear hn
    go_wp2_with fail
    go_ret
    exact form_no HNO.out hB
  | true =>
    have HN := Lib.hid hn
    clear hn
    go_wp2_with fail
    have hcall := every_str p.ea t.elems.length p.ec 77 #[] (fun i => .string (t.elems.getD i ⟨#[]⟩)) (fun i => M.isNameB (t.elems.getD i ⟨#[]⟩).data.toList) w1 (by omega) (vec_of_cel Value.string ⟨#[]⟩ (HT.out.below hB).es) enters_isName (fun i _ w2 _ => isName_any _ w2)
    refine hcall.mono ?_
    clear hcall
    rintro e w2 ⟨rfl, hB2⟩
    replace u1 := cell_below u1 hB2
    replace u2 := cell_below u2 hB2
    replace hcn := cell_below hcn hB2
    replace hB := below2 hB hB2
    clear hB2
    cases hall : M.allN (fun i => M.isNameB (t.elems.getD i ⟨#[]⟩).data.toList) t.elems.length with
    | false =>
      have HNO := Lib.hid (show ¬ M.form t from fun f => by
        rw [(M.allN_iff _ _).2 fun k hk => by rw [getD_in _ _ _ hk]; exact f.names k hk] at hall; cases hall)
      clear hall
      go_wp2_with fail
      go_ret
      exact form_no HNO.out hB
    | true =>
      have HALL := Lib.hid hall
      clear hall
      go_wp2_with fail
      have hcall := areDifferent_any p.ea p.ec t.elems w2 (by omega) HT.out.el (HT.out.below hB).es
      refine hcall.mono ?_
      clear hcall
      rintro e w3 ⟨rfl, rfl⟩
      cases hdf : M.diffB t.elems with
      | false =>
        have HNO := Lib.hid (show ¬ M.form t from fun f => by
          rw [(M.diffB_iff _).2 f.differ] at hdf; cases hdf)
        clear hdf
        go_wp2_with fail
        go_ret
        exact form_no HNO.out hB
      | true =>
        have HDF := Lib.hid hdf
        clear hdf
        go_wp2_with fail
        obtain ⟨v, hv, hvi⟩ := vec_of_row (HT.out.below hB).as_
        have hcall := every_row p.aa t.above.length p.ac 80 #[.pointer (some ⟨w.heap.size + 1, 0, none⟩)] v (fun i => M.ascB t.elems.length (t.above.getD i [])) w2 (by rw [H3.out]; omega) hv enters_isFormed1 (fun i hi w4 hB4 => by
          obtain ⟨a', c', ev, hI⟩ := hvi i hi
          rw [ev, getD_in _ _ _ hi]
          exact (isFormed1_any t.elems.length (w.heap.size + 1) a' c' t.above[i] w4 (by omega) (HAL.out _ (List.getElem_mem hi)) (hI.below hB4) (cell_below hcn hB4)).mono fun e w5 ⟨he, hw⟩ => ⟨he, by rw [← hw]; exact Below.refl _ _⟩)
        refine hcall.mono ?_
        clear hcall hv hvi
        rintro e w3 ⟨rfl, hB3⟩
        replace hB := below2 hB hB3
        clear hB3
        cases hrw : M.allN (fun i => M.ascB t.elems.length (t.above.getD i [])) t.above.length with
        | false =>
          have HNO := Lib.hid (show ¬ M.form t from fun f => by
            rw [(M.allN_iff _ _).2 fun k hk => by rw [getD_in _ _ _ hk]; exact (M.ascB_iff _ _).2 (f.rows k hk)] at hrw; cases hrw)
          clear hrw
          go_wp2_with fail
          go_ret
          exact form_no HNO.out hB
        | true =>
          have HYES := Lib.hid (show M.form t from ⟨HN.out, h1, h2, H3.out, HF.out, fun i hi => by have := (M.allN_iff _ _).1 HALL.out i hi; rw [getD_in _ _ _ hi] at this; exact this, (M.diffB_iff _).1 HDF.out, fun i hi => by have := (M.allN_iff _ _).1 hrw i hi; rw [getD_in _ _ _ hi] at this; exact (M.ascB_iff _ _).1 this⟩)
          clear hrw
          go_wp2_with fail
          go_ret
          exact form_yes HYES.out hB

theorem isFormed_any (t : M.Tb) (p : Tp) (w : World) (hal : ∀ l, l ∈ t.above → l.length ≤ 1000000) (ht : TbIn w t p) : Calls Try.prog 55 #[tbV t p] w (FormPost t w) := by
  by_cases h : 1 ≤ t.elems.length ∧ t.elems.length ≤ 12 ∧ t.above.length = t.elems.length ∧ t.wrong.length = t.elems.length
  · exact isFormed_body t p w hal ht h.1 h.2.1 h.2.2.1 h.2.2.2
  · exact isFormed_head t p w h

set_option maxHeartbeats 1000000 in
set_option maxRecDepth 100000 in
theorem check_any (t : M.Tb) (p : Tp) (w : World) (hal : ∀ l, l ∈ t.above → l.length ≤ 1000000) (ht : TbIn w t p) : Calls Try.prog 30 #[tbV t p] w (ChkPost t w) := by
  have HC := Lib.hid (isFormed_any t p (w.alloc (.cells (tbA t p) 26)) hal (ht.below (below1 _ _)))
  obtain ⟨c0, c1, c2, c3⟩ := tbBox (t := t) (p := p) (box_new w (tbA t p) 26)
  clear ht
  go_enter Try.func30, Try.ntmps30
  go_wp2_with fail
  refine HC.out.mono ?_
  rintro e w1 ⟨⟨hf, rfl⟩ | ⟨hf, rfl⟩, hB1⟩
  · have HF := Lib.hid hf
    have hB := below2 (below1 w (.cells (tbA t p) 26)) hB1
    clear hf
    go_wp2_with fail
    go_ret
    exact chk_yes HF.out hB
  · have HF := Lib.hid hf
    have hB := below2 (below1 w (.cells (tbA t p) 26)) hB1
    clear hf
    go_wp2_with fail
    go_ret
    exact chk_no HF.out hB
end Go.Proofs.Ytnhnjfoboepffaa
