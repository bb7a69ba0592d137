/- DERIVED. Plain: what is right above elements; slim tables; tables with a number of Above less. -/
import Derived.Test.YtnhnjfoboepffaaGreatGr27
import Derived.Test.YtnhnjfoboepffaaGreatGr37
import Derived.Test.YtnhnjfoboepffaaGreatGr11
import Derived.RangeFuncBox
import Derived.Sort.CutIn
import Derived.Stop.RegionWithIn
namespace Go.Proofs.YtnhnjfoboepffaaGreat
namespace M
/-- Whether an element is right above another one. -/
def covB (t : Tb) (a b : Nat) : Bool := stB t a b && !((List.range t.elems.length).any fun c => stB t a c && stB t c b)
/-- What is right above an element, as bits. -/
def slmR (t : Tb) (a : Nat) : Nat := cut (bey (know t) (2 ^ a)) (bey (know t) (bey (know t) (2 ^ a)))
def slm (t : Tb) : Tb := { t with above := (List.range t.elems.length).map fun a => listN (slmR t a) 12 }
theorem cov_iff {t : Tb} {a b : Nat} : covB t a b = true ↔ stB t a b = true ∧ ∀ c, c < t.elems.length → stB t a c = true → stB t c b = false := by
  unfold covB
  rw [Bool.and_eq_true, Bool.not_eq_true', List.any_eq_false]
  constructor
  · rintro ⟨h1, h2⟩
    refine ⟨h1, fun c hc h3 => ?_⟩
    have := h2 c (List.mem_range.2 hc)
    rw [h3] at this
    simpa using this
  · rintro ⟨h1, h2⟩
    refine ⟨h1, fun c hc => ?_⟩
    cases h3 : stB t a c with
    | false => simp
    | true => rw [h2 c (List.mem_range.1 hc) h3]; simp
theorem bey_one {t : Tb} (hg : good t) {a j : Nat} (ha : a < t.elems.length) : (bey (know t) (2 ^ a)).testBit j = stB t a j := by
  have h12 := hg.form.twelve
  rw [Bool.eq_iff_iff, bey_bit _ (know_lt hg.form), ← step_st hg.form hg.nb.cyc ha]
  constructor
  · rintro ⟨x, _, h2, h3, h4⟩
    rw [Nat.testBit_two_pow, decide_eq_true_eq] at h2
    subst h2
    exact ⟨h3, h4⟩
  · rintro ⟨h1, h2⟩
    exact ⟨a, by omega, by rw [Nat.testBit_two_pow]; simp, h1, h2⟩
theorem slmR_bit {t : Tb} (hg : good t) {a j : Nat} (ha : a < t.elems.length) : (slmR t a).testBit j = covB t a j := by
  have hk := know_lt hg.form
  unfold slmR
  rw [cut_bit _ _ _ (Nat.lt_trans (bey_lt _ hk _) (by omega)) (Nat.lt_trans (bey_lt _ hk _) (by omega)), bey_one hg ha, Bool.eq_iff_iff, cov_iff, Bool.and_eq_true, Bool.not_eq_true', ← Bool.not_eq_true, bey_bit _ hk]
  constructor
  · rintro ⟨h1, h2⟩
    refine ⟨h1, fun c hc h3 => ?_⟩
    cases h4 : stB t c j with
    | false => rfl
    | true =>
      exfalso
      obtain ⟨q1, q2⟩ := (step_st hg.form hg.nb.cyc hc).2 h4
      exact h2 ⟨c, by have := hg.form.twelve; omega, by rw [bey_one hg ha]; exact h3, q1, q2⟩
  · rintro ⟨h1, h2⟩
    refine ⟨h1, fun ⟨c, _, q2, q3, q4⟩ => ?_⟩
    rw [bey_one hg ha] at q2
    have hc := stB_lt hg.form ha q2
    have := h2 c hc q2
    rw [(step_st hg.form hg.nb.cyc hc).1 ⟨q3, q4⟩] at this
    cases this
theorem slmR_lt {t : Tb} (hf : form t) (a : Nat) : slmR t a < 4096 := cut_lt _ _ (bey_lt _ (know_lt hf) _)
/-- The numbers of a list ascend. -/
theorem listN_asc (m k : Nat) : (listN m k).Pairwise (· < ·) := by
  unfold listN
  rw [List.pairwise_map]
  refine List.Pairwise.imp (fun h => Int.ofNat_lt.2 h) ?_
  exact List.Pairwise.filter _ List.pairwise_lt_range
theorem asc_by {n : Nat} {l : List Int} (h : l.Pairwise (· < ·)) (hb : ∀ x, x ∈ l → 0 ≤ x ∧ x < n) : asc n l := by
  intro k hk
  obtain ⟨h1, h2⟩ := hb l[k] (List.getElem_mem hk)
  exact ⟨h1, h2, fun h0 => List.pairwise_iff_getElem.1 h (k - 1) k (by omega) hk (by omega)⟩
theorem asc_lt {n : Nat} {l : List Int} (h : asc n l) : ∀ (d i : Nat) (hi : i < l.length) (hj : i + d + 1 < l.length), l[i] < l[i + d + 1] := by
  intro d
  induction d with
  | zero => intro i hi hj; exact (h (i + 1) hj).2.2 (by omega)
  | succ d ih =>
    intro i hi hj
    have h1 := ih i hi (by omega)
    have h2 := (h (i + (d + 1) + 1) hj).2.2 (by omega)
    have e : i + (d + 1) + 1 - 1 = i + d + 1 := by omega
    simp only [e] at h2
    omega
theorem asc_pw {n : Nat} {l : List Int} (h : asc n l) : l.Pairwise (· < ·) := by
  rw [List.pairwise_iff_getElem]
  intro i j hi hj hij
  obtain ⟨d, rfl⟩ : ∃ d, j = i + d + 1 := ⟨j - i - 1, by omega⟩
  exact asc_lt h d i hi hj
theorem asc_mem {n : Nat} {l : List Int} (h : asc n l) {x : Int} (hx : x ∈ l) : 0 ≤ x ∧ x < n := by
  obtain ⟨i, hi, rfl⟩ := List.getElem_of_mem hx
  exact ⟨(h i hi).1, (h i hi).2.1⟩
theorem slm_len (t : Tb) : (slm t).above.length = t.elems.length := by show (List.map _ (List.range _)).length = _; rw [List.length_map, List.length_range]
theorem slm_at (t : Tb) {a : Nat} (ha : a < t.elems.length) : (slm t).above.getD a [] = listN (slmR t a) 12 := by
  show ((List.range t.elems.length).map fun a => listN (slmR t a) 12).getD a [] = _
  rw [List.getD_eq_getElem?_getD, List.getElem?_map, List.getElem?_range ha]
  rfl
theorem slm_form {t : Tb} (hg : good t) : form (slm t) := by
  have hf := hg.form
  refine ⟨hf.name, hf.one, hf.twelve, slm_len t, hf.wrong, hf.names, hf.differ, fun i hi => ?_⟩
  have hi' : i < t.elems.length := by rw [slm_len] at hi; exact hi
  have e : (slm t).above[i] = listN (slmR t i) 12 := by
    have := slm_at t hi'
    rw [getD_in _ _ _ hi] at this
    exact this
  rw [e]
  refine asc_by (listN_asc _ _) fun x hx => ?_
  obtain ⟨j, rfl, h1, h2⟩ := (listN_mem _ _ _).1 hx
  rw [slmR_bit hg hi'] at h2
  have := stB_lt hf hi' (cov_iff.1 h2).1
  exact ⟨by omega, by show (j : Int) < (t.elems.length : Int); omega⟩
theorem slm_up {t : Tb} (hg : good t) {a b : Nat} (ha : a < t.elems.length) : up (slm t) a b ↔ covB t a b = true := by
  unfold up
  rw [slm_at t ha, listN_mem]
  constructor
  · rintro ⟨j, e, _, h⟩
    obtain rfl : b = j := by omega
    rw [slmR_bit hg ha] at h; exact h
  · intro h
    have := stB_lt hg.form ha (cov_iff.1 h).1
    have := hg.form.twelve
    exact ⟨b, rfl, by omega, by rw [slmR_bit hg ha]; exact h⟩
theorem slm_stp {t : Tb} (hg : good t) : ∀ (m a b : Nat), overs t a ≤ overs t b + m → a < t.elems.length → stB t a b = true → Stp (slm t) a b := by
  intro m
  induction m with
  | zero =>
    intro a b hm ha hs
    have := overs_lt hg.form hg.nb.cyc ha hs
    omega
  | succ m ih =>
    intro a b hm ha hs
    cases hc : covB t a b with
    | true => exact .one ((slm_up hg ha).2 hc)
    | false =>
      have : ∃ c, c < t.elems.length ∧ stB t a c = true ∧ stB t c b = true := by
        apply Classical.byContradiction
        intro hn
        have : covB t a b = true := cov_iff.2 ⟨hs, fun c h1 h2 => by
          cases h3 : stB t c b with
          | false => rfl
          | true => exact absurd ⟨c, h1, h2, h3⟩ hn⟩
        rw [hc] at this; cases this
      obtain ⟨c, h1, h2, h3⟩ := this
      have o1 := overs_lt hg.form hg.nb.cyc ha h2
      have o2 := overs_lt hg.form hg.nb.cyc h1 h3
      exact (ih a c (by omega) ha h2).trans (ih c b (by omega) h1 h3)
theorem slm_back {t : Tb} (hg : good t) {a b : Nat} (ha : a < t.elems.length) (h : Stp (slm t) a b) : stB t a b = true := by
  induction h with
  | one h => exact (cov_iff.1 ((slm_up hg ha).1 h)).1
  | more h1 h2 ih => exact stB_trans hg.form ha ih (cov_iff.1 ((slm_up hg (h1.lt (slm_form hg) ha)).1 h2)).1
theorem slm_st {t : Tb} (hg : good t) {a b : Nat} (ha : a < t.elems.length) : stB (slm t) a b = stB t a b := by
  rw [Bool.eq_iff_iff, stB_iff (slm_form hg) ha]
  exact ⟨slm_back hg ha, fun h => slm_stp hg (overs t a) a b (by omega) ha h⟩
theorem slm_le {t : Tb} (hg : good t) {a b : Nat} (ha : a < t.elems.length) : leB (slm t) a b = leB t a b := by
  rw [leB_or (slm_form hg) ha, leB_or hg.form ha, slm_st hg ha]
theorem find_same {p q : Nat → Bool} : ∀ (l : List Nat), (∀ x, x ∈ l → p x = q x) → l.find? p = l.find? q := by
  intro l
  induction l with
  | nil => intro _; rfl
  | cons x l ih =>
    intro h
    rw [List.find?_cons, List.find?_cons, h x List.mem_cons_self, ih fun y hy => h y (List.mem_cons_of_mem _ hy)]
theorem slm_jn {t : Tb} (hg : good t) {a b : Nat} (ha : a < t.elems.length) (hb : b < t.elems.length) : jn (slm t) a b = jn t a b := by
  have hbn : bnd (slm t) a b = bnd t a b := by
    unfold bnd
    show (List.range t.elems.length).filter _ = _
    exact List.filter_congr fun c _ => by rw [slm_le hg ha, slm_le hg hb]
  unfold jn lst
  rw [hbn]
  refine find_same _ fun x hx => ?_
  have hxl := (mem_bnd.1 hx).1
  rw [Bool.eq_iff_iff, List.all_eq_true, List.all_eq_true]
  exact ⟨fun h y hy => by rw [← slm_le hg hxl]; exact h y hy, fun h y hy => by rw [slm_le hg hxl]; exact h y hy⟩
theorem slm_good {t : Tb} (hg : good t) : good (slm t) := by
  refine ⟨slm_form hg, ⟨fun j hj => ?_, fun j hj => ?_, fun a ha b hab hb => ?_⟩, hg.zero, fun a ha b hb hw hl => ?_⟩
  · rw [slm_st hg hj]; exact hg.nb.cyc j hj
  · rw [slm_le hg hg.form.one]; exact hg.nb.base j hj
  · rw [slm_jn hg ha hb]; exact hg.nb.pair a ha b hab hb
  · rw [slm_le hg ha] at hl; exact hg.wrong a ha b hb hw hl
theorem slm_cov {t : Tb} (hg : good t) {a b : Nat} (ha : a < t.elems.length) : covB (slm t) a b = covB t a b := by
  rw [Bool.eq_iff_iff, cov_iff, cov_iff, slm_st hg ha]
  constructor
  · rintro ⟨h1, h2⟩
    refine ⟨h1, fun c hc h3 => ?_⟩
    have := h2 c hc (by rw [slm_st hg ha]; exact h3)
    rw [slm_st hg hc] at this; exact this
  · rintro ⟨h1, h2⟩
    refine ⟨h1, fun c hc h3 => ?_⟩
    rw [slm_st hg ha] at h3
    rw [slm_st hg hc]; exact h2 c hc h3
/-- A slim table is slim itself. -/
theorem slm_slm {t : Tb} (hg : good t) : slm (slm t) = slm t := by
  have : (slm (slm t)).above = (slm t).above := by
    show (List.range t.elems.length).map (fun a => listN (slmR (slm t) a) 12) = (List.range t.elems.length).map fun a => listN (slmR t a) 12
    refine List.map_congr_left fun a ha => ?_
    have ha := List.mem_range.1 ha
    rw [show slmR (slm t) a = slmR t a from Nat.eq_of_testBit_eq fun j => by rw [slmR_bit (slm_good hg) ha, slmR_bit hg ha, slm_cov hg ha]]
  show ({ slm t with above := (slm (slm t)).above } : Tb) = slm t
  rw [this]
theorem slm_know {t : Tb} (hg : good t) {a : Nat} (ha : a < t.elems.length) : know (slm t) a = know t a :=
  Nat.eq_of_testBit_eq fun _ => slm_le hg ha
/-- A table without one of the numbers of Above. -/
def lss (t : Tb) (a i : Nat) : Tb := { t with above := t.above.set a ((t.above.getD a []).take i ++ (t.above.getD a []).drop (i + 1)) }
theorem lss_at (t : Tb) {a i : Nat} (ha : a < t.above.length) : (lss t a i).above.getD a [] = (t.above.getD a []).take i ++ (t.above.getD a []).drop (i + 1) := by
  show (t.above.set a _).getD a [] = _
  rw [getD_in _ _ _ (by rw [List.length_set]; exact ha), List.getElem_set_self]
theorem lss_else (t : Tb) {a i x : Nat} (h : x ≠ a) : (lss t a i).above.getD x [] = t.above.getD x [] := by
  show (t.above.set a _).getD x [] = _
  simp only [List.getD_eq_getElem?_getD]
  rw [List.getElem?_set_ne (fun e => h e.symm)]
theorem less_sub (l : List Int) (i : Nat) : (l.take i ++ l.drop (i + 1)).Sublist l := by
  have h : l.take i ++ l.drop i = l := List.take_append_drop i l
  conv => rhs; rw [← h]
  refine List.Sublist.append (List.Sublist.refl _) ?_
  rw [show l.drop (i + 1) = (l.drop i).drop 1 by rw [List.drop_drop]]
  exact List.drop_sublist _ _
theorem lss_up {t : Tb} {a i x y : Nat} (ha : a < t.above.length) (h : up (lss t a i) x y) : up t x y := by
  unfold up at h ⊢
  by_cases e : x = a
  · subst e
    rw [lss_at t ha] at h
    exact (less_sub _ _).subset h
  · rw [lss_else t e] at h; exact h
theorem lss_form {t : Tb} (hf : form t) {a i : Nat} (ha : a < t.elems.length) : form (lss t a i) := by
  have ha' : a < t.above.length := by rw [hf.above]; exact ha
  refine ⟨hf.name, hf.one, hf.twelve, by show (t.above.set a _).length = _; rw [List.length_set]; exact hf.above, hf.wrong, hf.names, hf.differ, fun x hx => ?_⟩
  have hx' : x < t.above.length := by
    have : (t.above.set a ((t.above.getD a []).take i ++ (t.above.getD a []).drop (i + 1))).length = t.above.length := List.length_set
    have h2 : x < (t.above.set a ((t.above.getD a []).take i ++ (t.above.getD a []).drop (i + 1))).length := hx
    omega
  have hr := hf.rows x hx'
  have e1 : (lss t a i).above[x] = (lss t a i).above.getD x [] := (getD_in _ _ _ hx).symm
  have e2 : t.above.getD x [] = t.above[x] := getD_in _ _ _ hx'
  rw [e1]
  show asc t.elems.length _
  by_cases e : x = a
  · subst e
    rw [lss_at t ha', e2]
    exact asc_by ((asc_pw hr).sublist (less_sub _ _)) fun y hy => asc_mem hr ((less_sub _ _).subset hy)
  · rw [lss_else t e, e2]; exact hr
theorem lss_ways {t : Tb} {a i x y : Nat} (ha : a < t.above.length) (h : Ways (lss t a i) x y) : Ways t x y := by
  have hs : ∀ {x y}, stp (lss t a i) x y → stp t x y := fun q => by
    rcases q with q | q
    · exact Or.inl q
    · exact Or.inr (lss_up ha q)
  induction h with
  | one h => exact .one (hs h)
  | more _ h ih => exact .more ih (hs h)
/-- Without a number of Above an element of a slim table has fewer above it. -/
theorem lss_less {t : Tb} (hg : good t) {a i : Nat} (ha : a < t.elems.length) (hi : i < ((slm t).above.getD a []).length) : listN (know (lss (slm t) a i) a) 12 ≠ listN (know (slm t) a) 12 := by
  have hf := slm_form hg
  have ha' : a < (slm t).above.length := by rw [slm_len]; exact ha
  have hlf := lss_form hf (i := i) ha
  have h12 := hf.twelve
  have hmem : ((slm t).above.getD a [])[i] ∈ (slm t).above.getD a [] := List.getElem_mem hi
  obtain ⟨b, hb, hub, hbl⟩ := row_nat hf ha hmem
  have hcov := (slm_up hg ha).1 hub
  intro he
  have h1 : (b : Int) ∈ listN (know (slm t) a) 12 := (listN_mem _ _ _).2 ⟨b, rfl, by have : b < (slm t).elems.length := hbl; omega, (leB_iff hf ha).2 (Stp.ways (.one hub))⟩
  rw [← he] at h1
  obtain ⟨b', e, _, h2⟩ := (listN_mem _ _ _).1 h1
  obtain rfl : b = b' := by omega
  have hst := (cov_iff.1 hcov).1
  have hne : b ≠ a := fun e => by subst e; rw [hg.nb.cyc b ha] at hst; cases hst
  rcases ((leB_iff hlf ha).1 h2).stp with q | q
  · exact hne q
  · obtain ⟨v, q1, q2⟩ := q.head
    have hv : v ≠ b := fun e => by
      subst e
      unfold up at q1
      rw [lss_at _ ha'] at q1
      have hpw := asc_pw (hf.rows a ha')
      rw [show (slm t).above[a] = (slm t).above.getD a [] from (getD_in _ _ _ ha').symm] at hpw
      rw [← hb] at q1
      obtain ⟨j, hj, q⟩ := List.getElem_of_mem q1
      have hlen : ((slm t).above.getD a []).take i ++ ((slm t).above.getD a []).drop (i + 1) = ((slm t).above.getD a []).eraseIdx i := by rw [List.eraseIdx_eq_take_drop_succ]
      simp only [hlen] at hj q
      rw [List.getElem_eraseIdx] at q
      rw [List.pairwise_iff_getElem] at hpw
      have hjl : j < (((slm t).above.getD a []).eraseIdx i).length := hj
      rw [List.length_eraseIdx_of_lt hi] at hjl
      split at q
      · rename_i hji
        have := hpw j i (by omega) hi hji
        omega
      · rename_i hji
        have := hpw i (j + 1) hi (by omega) (by omega)
        omega
    have hvs := (slm_up hg ha).1 (lss_up ha' q1)
    have hva := (cov_iff.1 hvs).1
    have hvl := stB_lt hg.form ha hva
    have hw := (leB_iff hf (show v < (slm t).elems.length from hvl)).2 (lss_ways ha' q2)
    rw [slm_le hg hvl, leB_or hg.form hvl, decide_eq_false hv, Bool.false_or] at hw
    have := (cov_iff.1 hcov).2 v hvl hva
    rw [hw] at this
    cases this
end M
end Go.Proofs.YtnhnjfoboepffaaGreat
