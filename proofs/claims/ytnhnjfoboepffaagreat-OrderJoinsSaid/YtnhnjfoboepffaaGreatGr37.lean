/- Texts of one's own, joined: OrdAn. -/
import Derived.Test.YtnhnjfoboepffaaGreatGr36
namespace Go.Proofs.YtnhnjfoboepffaaGreat
namespace M
/-- What no break says of a table. -/
structure good (t : Tb) : Prop where
  form : form t
  nb : noBrk t
  zero : wr t 0 = false
  wrong : ∀ a, a < t.elems.length → ∀ b, b < t.elems.length → wr t a = true → leB t a b = true → wr t b = true
theorem lat_good {t : Tb} (h : lat t) : good t := by
  obtain ⟨hf, h⟩ := h
  have h1 : fstN t.elems.length (fun a => stB t a a) = none := by
    cases q : fstN t.elems.length (fun a => stB t a a) with
    | none => rfl
    | some a => unfold brk at h; rw [q] at h; simp at h
  have h2 : fstN t.elems.length (fun a => !leB t 0 a) = none := by
    cases q : fstN t.elems.length (fun a => !leB t 0 a) with
    | none => rfl
    | some a => unfold brk at h; rw [h1] at h; simp only at h; rw [q] at h; simp at h
  have h3 : fst2 t.elems.length (fun a b => decide (a < b) && (jn t a b).isNone) = none := by
    cases q : fst2 t.elems.length (fun a b => decide (a < b) && (jn t a b).isNone) with
    | none => rfl
    | some x =>
      obtain ⟨a, b⟩ := x
      unfold brk at h; rw [h1] at h; simp only at h; rw [h2] at h; simp only at h; rw [q] at h
      simp only [Prod.mk.injEq] at h
      obtain ⟨h, _⟩ := h
      unfold kindM at h; split at h <;> omega
  have hnb : noBrk t := by
    refine ⟨fun j hj => fstN_none h1 j hj, fun j hj => by have := fstN_none h2 j hj; simpa using this, fun a ha b hab hb hn => ?_⟩
    have := fst2_none h3 a ha b hb
    rw [hn] at this
    simp [hab] at this
  rw [brk_rest hnb] at h
  have h4 : wr t 0 = false := by
    cases q : wr t 0 with
    | false => rfl
    | true => rw [if_pos q] at h; simp at h
  rw [if_neg (by rw [h4]; simp)] at h
  have h5 : fst2 t.elems.length (fun a b => wr t a && !wr t b && leB t a b) = none := by
    cases q : fst2 t.elems.length (fun a b => wr t a && !wr t b && leB t a b) with
    | none => rfl
    | some x => rw [q] at h; simp at h
  refine ⟨hf, hnb, h4, fun a ha b hb hw hl => ?_⟩
  have := fst2_none h5 a ha b hb
  rw [hw, hl] at this
  simpa using this
theorem good_lat {t : Tb} (h : good t) : lat t := ⟨h.form, brk_ok h.nb h.zero h.wrong⟩
theorem bnd_comm (t : Tb) (a b : Nat) : bnd t a b = bnd t b a := by unfold bnd; simp only [Bool.and_comm]
theorem jn_comm (t : Tb) (a b : Nat) : jn t a b = jn t b a := by unfold jn; rw [bnd_comm]
/-- Elements that are below each other are the same. -/
theorem anti {t : Tb} (h : good t) {a b : Nat} (ha : a < t.elems.length) (h1 : leB t a b = true) (h2 : leB t b a = true) : a = b := by
  rcases Nat.decEq a b with e | e
  · exfalso
    have q1 := leB_or h.form ha (b := b)
    rw [h1, decide_eq_false e, Bool.false_or] at q1
    have hb := leB_lt h.form ha h1
    have q2 := leB_or h.form hb (b := a)
    rw [h2, decide_eq_false (fun q => e q.symm), Bool.false_or] at q2
    have := h.nb.cyc a ha
    rw [(stB_iff h.form ha).2 (((stB_iff h.form ha).1 q1.symm).trans ((stB_iff h.form hb).1 q2.symm))] at this
    cases this
  · exact e
/-- A join is the least of the elements above both. -/
structure isJ (t : Tb) (a b c : Nat) : Prop where
  lt : c < t.elems.length
  l : leB t a c = true
  r : leB t b c = true
  least : ∀ d, leB t a d = true → leB t b d = true → leB t c d = true
theorem isJ_of {t : Tb} (hf : form t) {a b c : Nat} (ha : a < t.elems.length) (h : jn t a b = some c) : isJ t a b c := by
  obtain ⟨h1, h2, h3, h4⟩ := jn_some h
  exact ⟨h1, h2, h3, fun d q1 q2 => h4 d (leB_lt hf ha q1) q1 q2⟩
theorem isJ_one {t : Tb} (h : good t) {a b c d : Nat} (h1 : isJ t a b c) (h2 : isJ t a b d) : c = d :=
  anti h h1.lt (h1.least d h2.l h2.r) (h2.least c h1.l h1.r)
theorem jn_same {t : Tb} (h : good t) {a : Nat} (ha : a < t.elems.length) : jn t a a = some a := by
  cases q : jn t a a with
  | none =>
    obtain ⟨d, _, h1, _, h3⟩ := jn_none q ha (leB_refl h.form ha) (leB_refl h.form ha)
    rw [h1] at h3; cases h3
  | some c =>
    have hc := isJ_of h.form ha q
    rw [anti h hc.lt (hc.least a (leB_refl h.form ha) (leB_refl h.form ha)) hc.l]
theorem jn_any {t : Tb} (h : good t) {a b : Nat} (ha : a < t.elems.length) (hb : b < t.elems.length) : ∃ c, jn t a b = some c := by
  rcases Nat.lt_trichotomy a b with q | q | q
  · exact Option.ne_none_iff_exists'.1 (h.nb.pair a ha b q hb)
  · subst q; exact ⟨a, jn_same h ha⟩
  · rw [jn_comm]; exact Option.ne_none_iff_exists'.1 (h.nb.pair b hb a q ha)
theorem jnD_is {t : Tb} (h : good t) {a b : Nat} (ha : a < t.elems.length) (hb : b < t.elems.length) : isJ t a b (jnD t a b) := by
  obtain ⟨c, hc⟩ := jn_any h ha hb
  unfold jnD; rw [hc]
  exact isJ_of h.form ha hc
theorem jnD_comm (t : Tb) (a b : Nat) : jnD t a b = jnD t b a := by unfold jnD; rw [jn_comm]
theorem jnD_same {t : Tb} (h : good t) {a : Nat} (ha : a < t.elems.length) : jnD t a a = a := by unfold jnD; rw [jn_same h ha]; rfl
end M
end Go.Proofs.YtnhnjfoboepffaaGreat
