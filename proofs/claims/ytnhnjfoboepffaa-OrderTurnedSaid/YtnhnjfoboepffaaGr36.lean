/- Texts of one's own, joined: OrdAn, OrdDe, OrdEb. -/
import Derived.Test.YtnhnjfoboepffaaGr35
import Derived.Test.YtnhnjfoboepffaaGr26
import Derived.Test.YtnhnjfoboepffaaGr10
import Derived.RangeFuncBox
import Derived.Sort.CutIn
import Derived.Stop.RegionWithIn
import Derived.Test.YtnhnjfoboepffaaGr20
namespace Go.Proofs.Ytnhnjfoboepffaa
namespace M
/-- What no break says of a table. -/
structure good (t : Tb) : Prop where
  form : form t
  nb : noBrk t
  zero : wr t 0 = false
  wrong : ∀ a, a < t.elems.length → ∀ b, b < t.elems.length → wr t a = true → leB t a b = true → wr t b = true
theorem lat_good {t : Tb} (h : lat t) : good t := by
  obtain ⟨hf, h⟩ := h
  have h1 : fstN t.elems.length (fun a => stB t a a) = none := by
    cases q : fstN t.elems.length (fun a => stB t a a) with
    | none => rfl
    | some a => unfold brk at h; rw [q] at h; simp at h
  have h2 : fstN t.elems.length (fun a => !leB t 0 a) = none := by
    cases q : fstN t.elems.length (fun a => !leB t 0 a) with
    | none => rfl
    | some a => unfold brk at h; rw [h1] at h; simp only at h; rw [q] at h; simp at h
  have h3 : fst2 t.elems.length (fun a b => decide (a < b) && (jn t a b).isNone) = none := by
    cases q : fst2 t.elems.length (fun a b => decide (a < b) && (jn t a b).isNone) with
    | none => rfl
    | some x =>
      obtain ⟨a, b⟩ := x
      unfold brk at h; rw [h1] at h; simp only at h; rw [h2] at h; simp only at h; rw [q] at h
      simp only [Prod.mk.injEq] at h
      obtain ⟨h, _⟩ := h
      unfold kindM at h; split at h <;> omega
  have hnb : noBrk t := by
    refine ⟨fun j hj => fstN_none h1 j hj, fun j hj => by have := fstN_none h2 j hj; simpa using this, fun a ha b hab hb hn => ?_⟩
    have := fst2_none h3 a ha b hb
    rw [hn] at this
    simp [hab] at this
  rw [brk_rest hnb] at h
  have h4 : wr t 0 = false := by
    cases q : wr t 0 with
    | false => rfl
    | true => rw [if_pos q] at h; simp at h
  rw [if_neg (by rw [h4]; simp)] at h
  have h5 : fst2 t.elems.length (fun a b => wr t a && !wr t b && leB t a b) = none := by
    cases q : fst2 t.elems.length (fun a b => wr t a && !wr t b && leB t a b) with
    | none => rfl
    | some x => rw [q] at h; simp at h
  refine ⟨hf, hnb, h4, fun a ha b hb hw hl => ?_⟩
  have := fst2_none h5 a ha b hb
  rw [hw, hl] at this
  simpa using this
theorem good_lat {t : Tb} (h : good t) : lat t := ⟨h.form, brk_ok h.nb h.zero h.wrong⟩
theorem bnd_comm (t : Tb) (a b : Nat) : bnd t a b = bnd t b a := by unfold bnd; simp only [Bool.and_comm]
theorem jn_comm (t : Tb) (a b : Nat) : jn t a b = jn t b a := by unfold jn; rw [bnd_comm]
/-- Elements that are below each other are the same. -/
theorem anti {t : Tb} (h : good t) {a b : Nat} (ha : a < t.elems.length) (h1 : leB t a b = true) (h2 : leB t b a = true) : a = b := by
  rcases Nat.decEq a b with e | e
  · exfalso
    have q1 := leB_or h.form ha (b := b)
    rw [h1, decide_eq_false e, Bool.false_or] at q1
    have hb := leB_lt h.form ha h1
    have q2 := leB_or h.form hb (b := a)
    rw [h2, decide_eq_false (fun q => e q.symm), Bool.false_or] at q2
    have := h.nb.cyc a ha
    rw [(stB_iff h.form ha).2 (((stB_iff h.form ha).1 q1.symm).trans ((stB_iff h.form hb).1 q2.symm))] at this
    cases this
  · exact e
/-- A join is the least of the elements above both. -/
structure isJ (t : Tb) (a b c : Nat) : Prop where
  lt : c < t.elems.length
  l : leB t a c = true
  r : leB t b c = true
  least : ∀ d, leB t a d = true → leB t b d = true → leB t c d = true
theorem isJ_of {t : Tb} (hf : form t) {a b c : Nat} (ha : a < t.elems.length) (h : jn t a b = some c) : isJ t a b c := by
  obtain ⟨h1, h2, h3, h4⟩ := jn_some h
  exact ⟨h1, h2, h3, fun d q1 q2 => h4 d (leB_lt hf ha q1) q1 q2⟩
theorem isJ_one {t : Tb} (h : good t) {a b c d : Nat} (h1 : isJ t a b c) (h2 : isJ t a b d) : c = d :=
  anti h h1.lt (h1.least d h2.l h2.r) (h2.least c h1.l h1.r)
theorem jn_same {t : Tb} (h : good t) {a : Nat} (ha : a < t.elems.length) : jn t a a = some a := by
  cases q : jn t a a with
  | none =>
    obtain ⟨d, _, h1, _, h3⟩ := jn_none q ha (leB_refl h.form ha) (leB_refl h.form ha)
    rw [h1] at h3; cases h3
  | some c =>
    have hc := isJ_of h.form ha q
    rw [anti h hc.lt (hc.least a (leB_refl h.form ha) (leB_refl h.form ha)) hc.l]
theorem jn_any {t : Tb} (h : good t) {a b : Nat} (ha : a < t.elems.length) (hb : b < t.elems.length) : ∃ c, jn t a b = some c := by
  rcases Nat.lt_trichotomy a b with q | q | q
  · exact Option.ne_none_iff_exists'.1 (h.nb.pair a ha b q hb)
  · subst q; exact ⟨a, jn_same h ha⟩
  · rw [jn_comm]; exact Option.ne_none_iff_exists'.1 (h.nb.pair b hb a q ha)
theorem jnD_is {t : Tb} (h : good t) {a b : Nat} (ha : a < t.elems.length) (hb : b < t.elems.length) : isJ t a b (jnD t a b) := by
  obtain ⟨c, hc⟩ := jn_any h ha hb
  unfold jnD; rw [hc]
  exact isJ_of h.form ha hc
theorem jnD_comm (t : Tb) (a b : Nat) : jnD t a b = jnD t b a := by unfold jnD; rw [jn_comm]
theorem jnD_same {t : Tb} (h : good t) {a : Nat} (ha : a < t.elems.length) : jnD t a a = a := by unfold jnD; rw [jn_same h ha]; rfl
end M
end Go.Proofs.Ytnhnjfoboepffaa

namespace Go.Proofs.Ytnhnjfoboepffaa
namespace M
/-- Whether an element is right above another one. -/
def covB (t : Tb) (a b : Nat) : Bool := stB t a b && !((List.range t.elems.length).any fun c => stB t a c && stB t c b)
/-- What is right above an element, as bits. -/
def slmR (t : Tb) (a : Nat) : Nat := cut (bey (know t) (2 ^ a)) (bey (know t) (bey (know t) (2 ^ a)))
def slm (t : Tb) : Tb := { t with above := (List.range t.elems.length).map fun a => listN (slmR t a) 12 }
theorem cov_iff {t : Tb} {a b : Nat} : covB t a b = true ↔ stB t a b = true ∧ ∀ c, c < t.elems.length → stB t a c = true → stB t c b = false := by
  unfold covB
  rw [Bool.and_eq_true, Bool.not_eq_true', List.any_eq_false]
  constructor
  · rintro ⟨h1, h2⟩
    refine ⟨h1, fun c hc h3 => ?_⟩
    have := h2 c (List.mem_range.2 hc)
    rw [h3] at this
    simpa using this
  · rintro ⟨h1, h2⟩
    refine ⟨h1, fun c hc => ?_⟩
    cases h3 : stB t a c with
    | false => simp
    | true => rw [h2 c (List.mem_range.1 hc) h3]; simp
theorem bey_one {t : Tb} (hg : good t) {a j : Nat} (ha : a < t.elems.length) : (bey (know t) (2 ^ a)).testBit j = stB t a j := by
  have h12 := hg.form.twelve
  rw [Bool.eq_iff_iff, bey_bit _ (know_lt hg.form), ← step_st hg.form hg.nb.cyc ha]
  constructor
  · rintro ⟨x, _, h2, h3, h4⟩
    rw [Nat.testBit_two_pow, decide_eq_true_eq] at h2
    subst h2
    exact ⟨h3, h4⟩
  · rintro ⟨h1, h2⟩
    exact ⟨a, by omega, by rw [Nat.testBit_two_pow]; simp, h1, h2⟩
theorem slmR_bit {t : Tb} (hg : good t) {a j : Nat} (ha : a < t.elems.length) : (slmR t a).testBit j = covB t a j := by
  have hk := know_lt hg.form
  unfold slmR
  rw [cut_bit _ _ _ (Nat.lt_trans (bey_lt _ hk _) (by omega)) (Nat.lt_trans (bey_lt _ hk _) (by omega)), bey_one hg ha, Bool.eq_iff_iff, cov_iff, Bool.and_eq_true, Bool.not_eq_true', ← Bool.not_eq_true, bey_bit _ hk]
  constructor
  · rintro ⟨h1, h2⟩
    refine ⟨h1, fun c hc h3 => ?_⟩
    cases h4 : stB t c j with
    | false => rfl
    | true =>
      exfalso
      obtain ⟨q1, q2⟩ := (step_st hg.form hg.nb.cyc hc).2 h4
      exact h2 ⟨c, by have := hg.form.twelve; omega, by rw [bey_one hg ha]; exact h3, q1, q2⟩
  · rintro ⟨h1, h2⟩
    refine ⟨h1, fun ⟨c, _, q2, q3, q4⟩ => ?_⟩
    rw [bey_one hg ha] at q2
    have hc := stB_lt hg.form ha q2
    have := h2 c hc q2
    rw [(step_st hg.form hg.nb.cyc hc).1 ⟨q3, q4⟩] at this
    cases this
theorem slmR_lt {t : Tb} (hf : form t) (a : Nat) : slmR t a < 4096 := cut_lt _ _ (bey_lt _ (know_lt hf) _)
/-- The numbers of a list ascend. -/
theorem listN_asc (m k : Nat) : (listN m k).Pairwise (· < ·) := by
  unfold listN
  rw [List.pairwise_map]
  refine List.Pairwise.imp (fun h => Int.ofNat_lt.2 h) ?_
  exact List.Pairwise.filter _ List.pairwise_lt_range
theorem asc_by {n : Nat} {l : List Int} (h : l.Pairwise (· < ·)) (hb : ∀ x, x ∈ l → 0 ≤ x ∧ x < n) : asc n l := by
  intro k hk
  obtain ⟨h1, h2⟩ := hb l[k] (List.getElem_mem hk)
  exact ⟨h1, h2, fun h0 => List.pairwise_iff_getElem.1 h (k - 1) k (by omega) hk (by omega)⟩
theorem asc_lt {n : Nat} {l : List Int} (h : asc n l) : ∀ (d i : Nat) (hi : i < l.length) (hj : i + d + 1 < l.length), l[i] < l[i + d + 1] := by
  intro d
  induction d with
  | zero => intro i hi hj; exact (h (i + 1) hj).2.2 (by omega)
  | succ d ih =>
    intro i hi hj
    have h1 := ih i hi (by omega)
    have h2 := (h (i + (d + 1) + 1) hj).2.2 (by omega)
    have e : i + (d + 1) + 1 - 1 = i + d + 1 := by omega
    simp only [e] at h2
    omega
theorem asc_pw {n : Nat} {l : List Int} (h : asc n l) : l.Pairwise (· < ·) := by
  rw [List.pairwise_iff_getElem]
  intro i j hi hj hij
  obtain ⟨d, rfl⟩ : ∃ d, j = i + d + 1 := ⟨j - i - 1, by omega⟩
  exact asc_lt h d i hi hj
theorem asc_mem {n : Nat} {l : List Int} (h : asc n l) {x : Int} (hx : x ∈ l) : 0 ≤ x ∧ x < n := by
  obtain ⟨i, hi, rfl⟩ := List.getElem_of_mem hx
  exact ⟨(h i hi).1, (h i hi).2.1⟩
theorem slm_len (t : Tb) : (slm t).above.length = t.elems.length := by show (List.map _ (List.range _)).length = _; rw [List.length_map, List.length_range]
theorem slm_at (t : Tb) {a : Nat} (ha : a < t.elems.length) : (slm t).above.getD a [] = listN (slmR t a) 12 := by
  show ((List.range t.elems.length).map fun a => listN (slmR t a) 12).getD a [] = _
  rw [List.getD_eq_getElem?_getD, List.getElem?_map, List.getElem?_range ha]
  rfl
theorem slm_form {t : Tb} (hg : good t) : form (slm t) := by
  have hf := hg.form
  refine ⟨hf.name, hf.one, hf.twelve, slm_len t, hf.wrong, hf.names, hf.differ, fun i hi => ?_⟩
  have hi' : i < t.elems.length := by rw [slm_len] at hi; exact hi
  have e : (slm t).above[i] = listN (slmR t i) 12 := by
    have := slm_at t hi'
    rw [getD_in _ _ _ hi] at this
    exact this
  rw [e]
  refine asc_by (listN_asc _ _) fun x hx => ?_
  obtain ⟨j, rfl, h1, h2⟩ := (listN_mem _ _ _).1 hx
  rw [slmR_bit hg hi'] at h2
  have := stB_lt hf hi' (cov_iff.1 h2).1
  exact ⟨by omega, by show (j : Int) < (t.elems.length : Int); omega⟩
theorem slm_up {t : Tb} (hg : good t) {a b : Nat} (ha : a < t.elems.length) : up (slm t) a b ↔ covB t a b = true := by
  unfold up
  rw [slm_at t ha, listN_mem]
  constructor
  · rintro ⟨j, e, _, h⟩
    obtain rfl : b = j := by omega
    rw [slmR_bit hg ha] at h; exact h
  · intro h
    have := stB_lt hg.form ha (cov_iff.1 h).1
    have := hg.form.twelve
    exact ⟨b, rfl, by omega, by rw [slmR_bit hg ha]; exact h⟩
theorem slm_stp {t : Tb} (hg : good t) : ∀ (m a b : Nat), overs t a ≤ overs t b + m → a < t.elems.length → stB t a b = true → Stp (slm t) a b := by
  intro m
  induction m with
  | zero =>
    intro a b hm ha hs
    have := overs_lt hg.form hg.nb.cyc ha hs
    omega
  | succ m ih =>
    intro a b hm ha hs
    cases hc : covB t a b with
    | true => exact .one ((slm_up hg ha).2 hc)
    | false =>
      have : ∃ c, c < t.elems.length ∧ stB t a c = true ∧ stB t c b = true := by
        apply Classical.byContradiction
        intro hn
        have : covB t a b = true := cov_iff.2 ⟨hs, fun c h1 h2 => by
          cases h3 : stB t c b with
          | false => rfl
          | true => exact absurd ⟨c, h1, h2, h3⟩ hn⟩
        rw [hc] at this; cases this
      obtain ⟨c, h1, h2, h3⟩ := this
      have o1 := overs_lt hg.form hg.nb.cyc ha h2
      have o2 := overs_lt hg.form hg.nb.cyc h1 h3
      exact (ih a c (by omega) ha h2).trans (ih c b (by omega) h1 h3)
theorem slm_back {t : Tb} (hg : good t) {a b : Nat} (ha : a < t.elems.length) (h : Stp (slm t) a b) : stB t a b = true := by
  induction h with
  | one h => exact (cov_iff.1 ((slm_up hg ha).1 h)).1
  | more h1 h2 ih => exact stB_trans hg.form ha ih (cov_iff.1 ((slm_up hg (h1.lt (slm_form hg) ha)).1 h2)).1
theorem slm_st {t : Tb} (hg : good t) {a b : Nat} (ha : a < t.elems.length) : stB (slm t) a b = stB t a b := by
  rw [Bool.eq_iff_iff, stB_iff (slm_form hg) ha]
  exact ⟨slm_back hg ha, fun h => slm_stp hg (overs t a) a b (by omega) ha h⟩
theorem slm_le {t : Tb} (hg : good t) {a b : Nat} (ha : a < t.elems.length) : leB (slm t) a b = leB t a b := by
  rw [leB_or (slm_form hg) ha, leB_or hg.form ha, slm_st hg ha]
theorem find_same {p q : Nat → Bool} : ∀ (l : List Nat), (∀ x, x ∈ l → p x = q x) → l.find? p = l.find? q := by
  intro l
  induction l with
  | nil => intro _; rfl
  | cons x l ih =>
    intro h
    rw [List.find?_cons, List.find?_cons, h x List.mem_cons_self, ih fun y hy => h y (List.mem_cons_of_mem _ hy)]
theorem slm_jn {t : Tb} (hg : good t) {a b : Nat} (ha : a < t.elems.length) (hb : b < t.elems.length) : jn (slm t) a b = jn t a b := by
  have hbn : bnd (slm t) a b = bnd t a b := by
    unfold bnd
    show (List.range t.elems.length).filter _ = _
    exact List.filter_congr fun c _ => by rw [slm_le hg ha, slm_le hg hb]
  unfold jn lst
  rw [hbn]
  refine find_same _ fun x hx => ?_
  have hxl := (mem_bnd.1 hx).1
  rw [Bool.eq_iff_iff, List.all_eq_true, List.all_eq_true]
  exact ⟨fun h y hy => by rw [← slm_le hg hxl]; exact h y hy, fun h y hy => by rw [slm_le hg hxl]; exact h y hy⟩
theorem slm_good {t : Tb} (hg : good t) : good (slm t) := by
  refine ⟨slm_form hg, ⟨fun j hj => ?_, fun j hj => ?_, fun a ha b hab hb => ?_⟩, hg.zero, fun a ha b hb hw hl => ?_⟩
  · rw [slm_st hg hj]; exact hg.nb.cyc j hj
  · rw [slm_le hg hg.form.one]; exact hg.nb.base j hj
  · rw [slm_jn hg ha hb]; exact hg.nb.pair a ha b hab hb
  · rw [slm_le hg ha] at hl; exact hg.wrong a ha b hb hw hl
theorem slm_cov {t : Tb} (hg : good t) {a b : Nat} (ha : a < t.elems.length) : covB (slm t) a b = covB t a b := by
  rw [Bool.eq_iff_iff, cov_iff, cov_iff, slm_st hg ha]
  constructor
  · rintro ⟨h1, h2⟩
    refine ⟨h1, fun c hc h3 => ?_⟩
    have := h2 c hc (by rw [slm_st hg ha]; exact h3)
    rw [slm_st hg hc] at this; exact this
  · rintro ⟨h1, h2⟩
    refine ⟨h1, fun c hc h3 => ?_⟩
    rw [slm_st hg ha] at h3
    rw [slm_st hg hc]; exact h2 c hc h3
/-- A slim table is slim itself. -/
theorem slm_slm {t : Tb} (hg : good t) : slm (slm t) = slm t := by
  have : (slm (slm t)).above = (slm t).above := by
    show (List.range t.elems.length).map (fun a => listN (slmR (slm t) a) 12) = (List.range t.elems.length).map fun a => listN (slmR t a) 12
    refine List.map_congr_left fun a ha => ?_
    have ha := List.mem_range.1 ha
    rw [show slmR (slm t) a = slmR t a from Nat.eq_of_testBit_eq fun j => by rw [slmR_bit (slm_good hg) ha, slmR_bit hg ha, slm_cov hg ha]]
  show ({ slm t with above := (slm (slm t)).above } : Tb) = slm t
  rw [this]
theorem slm_know {t : Tb} (hg : good t) {a : Nat} (ha : a < t.elems.length) : know (slm t) a = know t a :=
  Nat.eq_of_testBit_eq fun _ => slm_le hg ha
/-- A table without one of the numbers of Above. -/
def lss (t : Tb) (a i : Nat) : Tb := { t with above := t.above.set a ((t.above.getD a []).take i ++ (t.above.getD a []).drop (i + 1)) }
theorem lss_at (t : Tb) {a i : Nat} (ha : a < t.above.length) : (lss t a i).above.getD a [] = (t.above.getD a []).take i ++ (t.above.getD a []).drop (i + 1) := by
  show (t.above.set a _).getD a [] = _
  rw [getD_in _ _ _ (by rw [List.length_set]; exact ha), List.getElem_set_self]
theorem lss_else (t : Tb) {a i x : Nat} (h : x ≠ a) : (lss t a i).above.getD x [] = t.above.getD x [] := by
  show (t.above.set a _).getD x [] = _
  simp only [List.getD_eq_getElem?_getD]
  rw [List.getElem?_set_ne (fun e => h e.symm)]
theorem less_sub (l : List Int) (i : Nat) : (l.take i ++ l.drop (i + 1)).Sublist l := by
  have h : l.take i ++ l.drop i = l := List.take_append_drop i l
  conv => rhs; rw [← h]
  refine List.Sublist.append (List.Sublist.refl _) ?_
  rw [show l.drop (i + 1) = (l.drop i).drop 1 by rw [List.drop_drop]]
  exact List.drop_sublist _ _
theorem lss_up {t : Tb} {a i x y : Nat} (ha : a < t.above.length) (h : up (lss t a i) x y) : up t x y := by
  unfold up at h ⊢
  by_cases e : x = a
  · subst e
    rw [lss_at t ha] at h
    exact (less_sub _ _).subset h
  · rw [lss_else t e] at h; exact h
theorem lss_form {t : Tb} (hf : form t) {a i : Nat} (ha : a < t.elems.length) : form (lss t a i) := by
  have ha' : a < t.above.length := by rw [hf.above]; exact ha
  refine ⟨hf.name, hf.one, hf.twelve, by show (t.above.set a _).length = _; rw [List.length_set]; exact hf.above, hf.wrong, hf.names, hf.differ, fun x hx => ?_⟩
  have hx' : x < t.above.length := by
    have : (t.above.set a ((t.above.getD a []).take i ++ (t.above.getD a []).drop (i + 1))).length = t.above.length := List.length_set
    have h2 : x < (t.above.set a ((t.above.getD a []).take i ++ (t.above.getD a []).drop (i + 1))).length := hx
    omega
  have hr := hf.rows x hx'
  have e1 : (lss t a i).above[x] = (lss t a i).above.getD x [] := (getD_in _ _ _ hx).symm
  have e2 : t.above.getD x [] = t.above[x] := getD_in _ _ _ hx'
  rw [e1]
  show asc t.elems.length _
  by_cases e : x = a
  · subst e
    rw [lss_at t ha', e2]
    exact asc_by ((asc_pw hr).sublist (less_sub _ _)) fun y hy => asc_mem hr ((less_sub _ _).subset hy)
  · rw [lss_else t e, e2]; exact hr
theorem lss_ways {t : Tb} {a i x y : Nat} (ha : a < t.above.length) (h : Ways (lss t a i) x y) : Ways t x y := by
  have hs : ∀ {x y}, stp (lss t a i) x y → stp t x y := fun q => by
    rcases q with q | q
    · exact Or.inl q
    · exact Or.inr (lss_up ha q)
  induction h with
  | one h => exact .one (hs h)
  | more _ h ih => exact .more ih (hs h)
/-- Without a number of Above an element of a slim table has fewer above it. -/
theorem lss_less {t : Tb} (hg : good t) {a i : Nat} (ha : a < t.elems.length) (hi : i < ((slm t).above.getD a []).length) : listN (know (lss (slm t) a i) a) 12 ≠ listN (know (slm t) a) 12 := by
  have hf := slm_form hg
  have ha' : a < (slm t).above.length := by rw [slm_len]; exact ha
  have hlf := lss_form hf (i := i) ha
  have h12 := hf.twelve
  have hmem : ((slm t).above.getD a [])[i] ∈ (slm t).above.getD a [] := List.getElem_mem hi
  obtain ⟨b, hb, hub, hbl⟩ := row_nat hf ha hmem
  have hcov := (slm_up hg ha).1 hub
  intro he
  have h1 : (b : Int) ∈ listN (know (slm t) a) 12 := (listN_mem _ _ _).2 ⟨b, rfl, by have : b < (slm t).elems.length := hbl; omega, (leB_iff hf ha).2 (Stp.ways (.one hub))⟩
  rw [← he] at h1
  obtain ⟨b', e, _, h2⟩ := (listN_mem _ _ _).1 h1
  obtain rfl : b = b' := by omega
  have hst := (cov_iff.1 hcov).1
  have hne : b ≠ a := fun e => by subst e; rw [hg.nb.cyc b ha] at hst; cases hst
  rcases ((leB_iff hlf ha).1 h2).stp with q | q
  · exact hne q
  · obtain ⟨v, q1, q2⟩ := q.head
    have hv : v ≠ b := fun e => by
      subst e
      unfold up at q1
      rw [lss_at _ ha'] at q1
      have hpw := asc_pw (hf.rows a ha')
      rw [show (slm t).above[a] = (slm t).above.getD a [] from (getD_in _ _ _ ha').symm] at hpw
      rw [← hb] at q1
      obtain ⟨j, hj, q⟩ := List.getElem_of_mem q1
      have hlen : ((slm t).above.getD a []).take i ++ ((slm t).above.getD a []).drop (i + 1) = ((slm t).above.getD a []).eraseIdx i := by rw [List.eraseIdx_eq_take_drop_succ]
      simp only [hlen] at hj q
      rw [List.getElem_eraseIdx] at q
      rw [List.pairwise_iff_getElem] at hpw
      have hjl : j < (((slm t).above.getD a []).eraseIdx i).length := hj
      rw [List.length_eraseIdx_of_lt hi] at hjl
      split at q
      · rename_i hji
        have := hpw j i (by omega) hi hji
        omega
      · rename_i hji
        have := hpw i (j + 1) hi (by omega) (by omega)
        omega
    have hvs := (slm_up hg ha).1 (lss_up ha' q1)
    have hva := (cov_iff.1 hvs).1
    have hvl := stB_lt hg.form ha hva
    have hw := (leB_iff hf (show v < (slm t).elems.length from hvl)).2 (lss_ways ha' q2)
    rw [slm_le hg hvl, leB_or hg.form hvl, decide_eq_false hv, Bool.false_or] at hw
    have := (cov_iff.1 hcov).2 v hvl hva
    rw [hw] at this
    cases this
end M
end Go.Proofs.Ytnhnjfoboepffaa

namespace Go.Proofs.Ytnhnjfoboepffaa
open Go.RowKit

/-- A table of the call's own: its lists, but those that are left out, and none of them in some block. -/
structure SmC (t : M.Tb) (w0 : World) (N B g : Nat) (p : Tp) (skip : Nat → Prop) (own : Option Nat) (n : Nat) (R : Nat → List Int) (vals : List Value) (W : World) : Prop where
  below : Below N w0 W
  nz : N ≤ w0.heap.size
  bx : W.heap[B]? = some (.cells #[.string t.name, .slice p.ea t.elems.length p.ec, .slice p.aa n p.ac, .slice p.wa t.wrong.length p.wc] 26 (0, 0))
  aa : p.aa = some ⟨g, 0, none⟩
  NB : N ≤ B
  Ng : N ≤ g
  gB : g ≠ B
  es : StrSl W p.ea t.elems
  ws : BoolSl W p.wa t.wrong
  low : ∀ b off, p.ea = some ⟨b, off, none⟩ ∨ p.wa = some ⟨b, off, none⟩ → N ≤ b ∧ b < W.heap.size ∧ b ≠ g ∧ b ≠ B ∧ some b ≠ own
  row : W.ownsRow N 37 1 (.slice (some ⟨g, 0, none⟩) n p.ac) n vals
  at_ : ∀ i, i < n → ¬ skip i → ∃ a c, vals[i]? = some (.slice a (R i).length c) ∧ (a = none → c = 0) ∧ (R i).length ≤ c ∧ (R i = [] ∨ ∃ b off, a = some ⟨b, off, none⟩ ∧ N ≤ b ∧ b ≠ g ∧ b ≠ B ∧ some b ≠ own ∧ CelAt (Value.int .i64) W b off (R i))
theorem celSl_kept {α : Type} {f : α → Value} {w w' : World} {a : Option Addr} {l : List α} (h : CelSl f w a l) (hsz : w.heap.size ≤ w'.heap.size) (hk : ∀ b off, a = some ⟨b, off, none⟩ → w'.heap[b]? = w.heap[b]?) : CelSl f w' a l := by
  rcases h with h | ⟨b, off, e, h⟩
  · exact Or.inl h
  · exact Or.inr ⟨b, off, e, Nat.lt_of_lt_of_le h.lt hsz, fun i hi => by rw [World.cell?_of_block (w := w) (hk b off e)]; exact h.at_ i hi⟩
theorem own_set {w : World} {base : Nat} {e : TypeId} {g n c : Nat} {vals : List Value} (h : w.ownsRow base e 1 (.slice (some ⟨g, 0, none⟩) n c) n vals) (k : Nat) (v : Value) : (w.setCell ⟨g, k, none⟩ v).ownsRow base e 1 (.slice (some ⟨g, 0, none⟩) n c) n (vals.set k v) := by
  refine ⟨by rw [List.length_set]; exact h.1, ?_⟩
  rcases h.2 with ⟨q, _⟩ | ⟨g', cap, cur, q, hb, hg, hn, hm, hs, ht⟩
  · cases q
  · have e1 : g = g' := by injection q with q; injection q with q; injection q
    have e2 : c = cap := by injection q
    subst e1 e2
    refine Or.inr ⟨g, c, cur.setIfInBounds k v, rfl, hb, heap_set_same hg k v, hn, hm, by rw [Array.size_setIfInBounds]; exact hs, ?_⟩
    rw [Array.toList_setIfInBounds, ← ht, List.take_set]
section
variable {t : M.Tb} {w0 : World} {N B g : Nat} {p : Tp} {skip : Nat → Prop} {own : Option Nat} {n : Nat} {R : Nat → List Int} {vals : List Value} {W W' : World}
theorem SmC.le (h : SmC t w0 N B g p skip own n R vals W) : N ≤ W.heap.size := Nat.le_trans h.nz h.below.size
theorem SmC.glt (h : SmC t w0 N B g p skip own n R vals W) : g < W.heap.size := (own_lt h.row rfl).2
/-- Behind what leaves all but the block that is kept apart. -/
theorem SmC.grow (h : SmC t w0 N B g p skip own n R vals W) (hg : W.grownBy W' own) (hlo : ∀ k, own = some k → N ≤ k) (h1 : own ≠ some g) (h2 : own ≠ some B) (own' : Option Nat) (ho : own' = own ∨ own' = some W.heap.size) : SmC t w0 N B g p skip own' n R vals W' := by
  have hkg : W'.heap[g]? = W.heap[g]? := hg.block g h.glt (fun e => h1 e.symm)
  have hkB : W'.heap[B]? = W.heap[B]? := hg.block B (heap_lt h.bx) (fun e => h2 e.symm)
  have hne : ∀ b, b < W.heap.size → some b ≠ own → some b ≠ own' := fun b hb hn e => by
    rcases ho with q | q
    · rw [q] at e; exact hn e
    · rw [q] at e
      have : b = W.heap.size := by injection e
      omega
  refine ⟨h.below.grown hg h.le hlo, h.nz, by rw [hkB]; exact h.bx, h.aa, h.NB, h.Ng, h.gB, celSl_kept h.es hg.size fun b off e => ?_, celSl_kept h.ws hg.size fun b off e => ?_, fun b off e => ?_, own_same h.row fun g' hg' => ?_, fun i hi hs => ?_⟩
  · obtain ⟨_, k2, _, _, k5⟩ := h.low b off (Or.inl e); exact hg.block b k2 k5
  · obtain ⟨_, k2, _, _, k5⟩ := h.low b off (Or.inr e); exact hg.block b k2 k5
  · obtain ⟨k1, k2, k3, k4, k5⟩ := h.low b off e; exact ⟨k1, Nat.lt_of_lt_of_le k2 hg.size, k3, k4, hne b k2 k5⟩
  · have : g' = g := by injection hg'.symm
    subst this; exact hkg
  · obtain ⟨a, c, q1, q2, q3, q4⟩ := h.at_ i hi hs
    refine ⟨a, c, q1, q2, q3, ?_⟩
    rcases q4 with q | ⟨b, off, r1, r2, r3, r4, r5, r6⟩
    · exact Or.inl q
    · exact Or.inr ⟨b, off, r1, r2, r3, r4, hne b r6.lt r5, Nat.lt_of_lt_of_le r6.lt hg.size, fun j hj => by rw [World.cell?_of_block (w := W) (hg.block b r6.lt r5)]; exact r6.at_ j hj⟩
theorem SmC.below2 (h : SmC t w0 N B g p skip own n R vals W) (hB : Below W.heap.size W W') : SmC t w0 N B g p skip own n R vals W' := by
  refine ⟨h.below.trans (hB.mono h.le), h.nz, by rw [hB.block B (heap_lt h.bx)]; exact h.bx, h.aa, h.NB, h.Ng, h.gB, h.es.below hB, h.ws.below hB, fun b off e => ?_, own_below h.row hB, fun i hi hs => ?_⟩
  · obtain ⟨k1, k2, k3⟩ := h.low b off e; exact ⟨k1, Nat.lt_of_lt_of_le k2 hB.size, k3⟩
  · obtain ⟨a, c, q1, q2, q3, q4⟩ := h.at_ i hi hs
    refine ⟨a, c, q1, q2, q3, ?_⟩
    rcases q4 with q | ⟨b, off, r1, r2, r3, r4, r5, r6⟩
    · exact Or.inl q
    · exact Or.inr ⟨b, off, r1, r2, r3, r4, r5, r6.below hB⟩
/-- One list is put. -/
theorem SmC.put (h : SmC t w0 N B g p skip own n R vals W) (k : Nat) (v : Value) : SmC t w0 N B g p (fun i => skip i ∨ i = k) own n R (vals.set k v) (W.setCell ⟨g, k, none⟩ v) := by
  have hg := grown_set W g k v
  have hkb : ∀ b, b ≠ g → (W.setCell ⟨g, k, none⟩ v).heap[b]? = W.heap[b]? := fun b hb => heap_set_other W g k v hb
  refine ⟨h.below.grown hg h.le (fun k' hk => by cases hk; exact h.Ng), h.nz, by rw [hkb B (fun e => h.gB e.symm)]; exact h.bx, h.aa, h.NB, h.Ng, h.gB, celSl_kept h.es hg.size fun b off e => hkb b (h.low b off (Or.inl e)).2.2.1, celSl_kept h.ws hg.size fun b off e => hkb b (h.low b off (Or.inr e)).2.2.1, fun b off e => ?_, own_set h.row k v, fun i hi hs => ?_⟩
  · obtain ⟨k1, k2, k3⟩ := h.low b off e; exact ⟨k1, Nat.lt_of_lt_of_le k2 hg.size, k3⟩
  · obtain ⟨a, c, q1, q2, q3, q4⟩ := h.at_ i hi (fun q => hs (Or.inl q))
    refine ⟨a, c, by rw [List.getElem?_set_ne (fun e => hs (Or.inr e.symm))]; exact q1, q2, q3, ?_⟩
    rcases q4 with q | ⟨b, off, r1, r2, r3, r4, r5, r6⟩
    · exact Or.inl q
    · exact Or.inr ⟨b, off, r1, r2, r3, r4, r5, Nat.lt_of_lt_of_le r6.lt hg.size, fun j hj => by rw [World.cell?_of_block (w := W) (hkb b r3)]; exact r6.at_ j hj⟩
theorem SmC.skips (h : SmC t w0 N B g p skip own n R vals W) {skip' : Nat → Prop} {R' : Nat → List Int} (hs : ∀ i, ¬ skip' i → ¬ skip i ∧ R' i = R i) : SmC t w0 N B g p skip' own n R' vals W :=
  ⟨h.below, h.nz, h.bx, h.aa, h.NB, h.Ng, h.gB, h.es, h.ws, h.low, h.row, fun i hi hn => by rw [(hs i hn).2]; exact h.at_ i hi (hs i hn).1⟩
/-- What may be written from now on lies in no block that is used. -/
theorem SmC.fresh (h : SmC t w0 N B g p skip own n R vals W) : SmC t w0 N B g p skip none n R vals W :=
  ⟨h.below, h.nz, h.bx, h.aa, h.NB, h.Ng, h.gB, h.es, h.ws, fun b off e => by obtain ⟨k1, k2, k3, k4, _⟩ := h.low b off e; exact ⟨k1, k2, k3, k4, by simp⟩, h.row, fun i hi hn => by
    obtain ⟨a, c, q1, q2, q3, q4⟩ := h.at_ i hi hn
    refine ⟨a, c, q1, q2, q3, ?_⟩
    rcases q4 with q | ⟨b, off, r1, r2, r3, r4, _, r6⟩
    · exact Or.inl q
    · exact Or.inr ⟨b, off, r1, r2, r3, r4, by simp, r6⟩⟩
theorem SmC.cellV (h : SmC t w0 N B g p skip own n R vals W) {k : Nat} (hk : k < n) {v : Value} (hv : vals[k]? = some v) : W.cell? ⟨g, k, none⟩ = some v ∧ W.frozen? ⟨g, k, none⟩ = false := by
  rcases h.row.2 with ⟨q, _⟩ | ⟨g', cap, cur, q, hb, hg, hn, hm, hs, ht⟩
  · cases q
  · have e1 : g = g' := by injection q with q; injection q with q; injection q
    subst e1
    refine ⟨?_, Lib.frozen_of_heap hg k⟩
    rw [← ht, List.getElem?_take, if_pos (by omega)] at hv
    simpa [World.cell?, hg] using hv
theorem SmC.valsK (h : SmC t w0 N B g p skip own n R vals W) {k : Nat} (hk : k < n) : ∃ v, vals[k]? = some v := by
  have := h.row.1
  exact ⟨_, List.getElem?_eq_getElem (by omega)⟩
theorem SmC.hdr (h : SmC t w0 N B g p skip own n R vals W) : W.cell? ⟨B, 2, none⟩ = some (.slice (some ⟨g, 0, none⟩) n p.ac) := by rw [Lib.cell_of_heap h.bx, h.aa]; rfl
/-- A list that was made is one of the lists now. -/
theorem SmC.close (h : SmC t w0 N B g p skip own n R vals W) {k : Nat} {v : Value} {l : List Int} (hv : vals[k]? = some v) (ho : W.ownsRow N 3 1 v l.length (intCs l)) (hb : ∀ b, v.ownBlock = some b → b ≠ g ∧ b ≠ B) {R' : Nat → List Int} (hR : ∀ i, i ≠ k → R' i = R i) (hk : R' k = l) {skip' : Nat → Prop} (hs : ∀ i, i ≠ k → ¬ skip' i → ¬ skip i) : SmC t w0 N B g p skip' none n R' vals W := by
  have hf := h.fresh
  refine ⟨hf.below, hf.nz, hf.bx, hf.aa, hf.NB, hf.Ng, hf.gB, hf.es, hf.ws, hf.low, hf.row, fun i hi hn => ?_⟩
  by_cases e : i = k
  · subst e
    rw [hk]
    have hlow := fun b (q : v.ownBlock = some b) => (own_lt ho q).1
    obtain ⟨a, c, e1, q2, q3, q4⟩ := own_cel ho
    refine ⟨a, c, by rw [hv, e1], q2, q3, ?_⟩
    rcases q4 with q | ⟨b, off, r1, r2⟩
    · exact Or.inl q
    · have hob : v.ownBlock = some b := by rw [e1, r1]; rfl
      exact Or.inr ⟨b, off, r1, hlow b hob, (hb b hob).1, (hb b hob).2, by simp, r2⟩
  · rw [hR i e]; exact hf.at_ i hi (hs i e hn)
/-- The table as it lies, in any world that keeps its blocks. -/
theorem SmC.table (h : SmC t w0 N B g p (fun _ => False) none n R vals W) (hn : p.ea = none → p.ec = 0) (wn : p.wa = none → p.wc = 0) (el : t.elems.length ≤ p.ec) (al : n ≤ p.ac) (wl : t.wrong.length ≤ p.wc)
    {above : List (List Int)} (ha : above.length = n) (hR : ∀ i, (h : i < above.length) → above[i] = R i) (hsz : W.heap.size ≤ W'.heap.size) (hk : ∀ b, N ≤ b → b ≠ B → b < W.heap.size → W'.heap[b]? = W.heap[b]?) : TbIn W' { t with above := above } p := by
  refine ⟨celSl_kept h.es hsz fun b off e => ?_, Or.inr ⟨g, 0, h.aa, Nat.lt_of_lt_of_le h.glt hsz, fun i hi => ?_⟩, celSl_kept h.ws hsz fun b off e => ?_, hn, (fun e => by rw [h.aa] at e; cases e), wn, el, by show above.length ≤ _; omega, wl⟩
  · obtain ⟨k1, k2, _, k4, _⟩ := h.low b off (Or.inl e); exact hk b k1 k4 k2
  · have hi' : i < n := by have : i < above.length := hi; omega
    obtain ⟨a, c, q1, q2, q3, q4⟩ := h.at_ i hi' (fun q => q)
    have hc := (h.cellV hi' q1).1
    show ∃ a c, W'.cell? ⟨g, 0 + i, none⟩ = some (.slice a above[i].length c) ∧ _
    refine ⟨a, c, ?_, q2, by show above[i].length ≤ c; rw [hR i hi]; exact q3, ?_⟩
    · rw [Nat.zero_add, hR i hi, World.cell?_of_block (w := W) (hk g h.Ng h.gB h.glt)]; exact hc
    · show IntSl W' a above[i]
      rw [hR i hi]
      rcases q4 with q | ⟨b, off, r1, r2, r3, r4, _, r6⟩
      · exact Or.inl q
      · exact Or.inr ⟨b, off, r1, Nat.lt_of_lt_of_le r6.lt hsz, fun j hj => by rw [World.cell?_of_block (w := W) (hk b r2 r4 r6.lt)]; exact r6.at_ j hj⟩
  · obtain ⟨k1, k2, _, k4, _⟩ := h.low b off (Or.inr e); exact hk b k1 k4 k2
end
/-- A table of the call's own in a box of the call's own. -/
theorem SmC.of {t : M.Tb} {N : Nat} {p : Tp} {w w' : World} {B : Nat} (h : TbOwn N w t p) (hne : t.above ≠ []) (hN : N ≤ w.heap.size) (hB : w.heap.size ≤ B) (hsz : w.heap.size ≤ w'.heap.size) (hk : Below w.heap.size w w') (hbx : w'.heap[B]? = some (.cells (tbA t p) 26 (0, 0))) :
    ∃ g vals, SmC t w N B g p (fun _ => False) none t.above.length (fun i => t.above.getD i []) vals w' := by
  rcases h.own with q | ⟨g, vals, q1, q2, q3, q4⟩
  · exact absurd q hne
  · have hg : N ≤ g ∧ g < w.heap.size := own_lt q2 rfl
    have hb : ∀ b off, p.ea = some ⟨b, off, none⟩ ∨ p.wa = some ⟨b, off, none⟩ → N ≤ b ∧ b < w'.heap.size ∧ b ≠ g ∧ b ≠ B ∧ some b ≠ none := fun b off e => by
      obtain ⟨k1, k2⟩ := h.low b off e
      exact ⟨k1, Nat.lt_of_lt_of_le k2 hsz, q3 b off e, by omega, by simp⟩
    refine ⟨g, vals, hk.mono hN, hN, hbx, q1, Nat.le_trans hN hB, hg.1, by omega, h.tb.es.below hk, h.tb.ws.below hk, hb, own_below q2 hk, fun i hi _ => ?_⟩
    obtain ⟨a, c, k1, k2, k3, k4⟩ := q4 i hi
    rw [getD_in _ _ _ hi]
    refine ⟨a, c, k1, k2, k3, ?_⟩
    rcases k4 with k | ⟨b, off, r1, r2, r3, r4⟩
    · exact Or.inl k
    · have := r4.lt
      exact Or.inr ⟨b, off, r1, r3, r2, by omega, by simp, r4.below hk⟩

namespace M
/-- Whether an element is above another one, by one step at most of those looked at. -/
def cvP (t : Tb) (a b c : Nat) : Bool := stB t a b && !((List.range c).any fun x => stB t a x && stB t x b)
theorem cvP_zero (t : Tb) (a b : Nat) : cvP t a b 0 = stB t a b := by simp [cvP]
theorem cvP_next (t : Tb) (a b c : Nat) : cvP t a b (c + 1) = (cvP t a b c && !(stB t a c && stB t c b)) := by
  unfold cvP; rw [List.range_succ, List.any_append]; simp [Bool.and_assoc]
def cvl (t : Tb) (a b : Nat) : List Int := nats ((List.range b).filter (covB t a))
theorem cvl_zero (t : Tb) (a : Nat) : cvl t a 0 = [] := rfl
theorem cvl_yes {t : Tb} {a b : Nat} (h : covB t a b = true) : cvl t a (b + 1) = cvl t a b ++ [(b : Int)] := by unfold cvl nats; rw [List.range_succ, List.filter_append, List.map_append]; simp [h]
theorem cvl_no {t : Tb} {a b : Nat} (h : covB t a b = false) : cvl t a (b + 1) = cvl t a b := by unfold cvl nats; rw [List.range_succ, List.filter_append, List.map_append]; simp [h]
theorem cvl_len (t : Tb) (a b : Nat) : (cvl t a b).length ≤ b := by
  unfold cvl
  rw [nats_len]
  exact Nat.le_trans (List.length_filter_le _ _) (by rw [List.length_range]; exact Nat.le_refl _)
theorem cvl_all {t : Tb} (hg : good t) {a : Nat} (ha : a < t.elems.length) : cvl t a t.elems.length = listN (slmR t a) 12 := by
  have h12 := hg.form.twelve
  unfold cvl listN
  show List.map _ _ = List.map _ _
  congr 1
  have e : 12 = t.elems.length + (12 - t.elems.length) := by omega
  rw [e, List.range_add, List.filter_append, show ((List.range (12 - t.elems.length)).map (t.elems.length + ·)).filter (slmR t a).testBit = [] from ?_, List.append_nil]
  · exact List.filter_congr fun x _ => (slmR_bit hg ha).symm
  · rw [List.filter_eq_nil_iff]
    intro x hx
    obtain ⟨y, _, rfl⟩ := List.mem_map.1 hx
    rw [slmR_bit hg ha]
    intro hc
    have := stB_lt hg.form ha (cov_iff.1 hc).1
    omega
/-- The lists when some are slim already. -/
def slR (t : Tb) (k i : Nat) : List Int := if i < k then listN (slmR t i) 12 else t.above.getD i []
end M
end Go.Proofs.Ytnhnjfoboepffaa
