/- DERIVED. Plain: joins one after the other are steps; the longest ways up to elements. -/
import Derived.Test.YthacjdlohmkpoaaGr19
import Derived.Test.YthacjdlohmkpoaaGr22
namespace Go.Proofs.Ythacjdlohmkpoaa
namespace M
theorem chn_ends {t : Tb} {h k : Nat} (hh : isH t 0 h) {a : Nat} (hc : chn t k 0 a) : k ≤ h := by
  rcases Nat.lt_or_ge h k with q | q
  · exact absurd (chn_less (show h + 1 ≤ k by omega) ⟨a, hc⟩) hh.2
  · exact q
theorem isH_lt {t : Tb} (hg : good t) {h : Nat} (hh : isH t 0 h) : h < t.elems.length := by
  have h0 : 0 < t.elems.length := hg.form.one
  obtain ⟨b, hb⟩ := hh.1
  have h1 := chn_overs hg.form hg.nb.cyc h0 hb
  have h2 : overs t 0 < ((List.range t.elems.length).filter fun _ => true).length :=
    filter_lt (fun _ _ _ => rfl) (List.mem_range.2 h0) (hg.nb.cyc 0 h0) rfl
  rw [show ((List.range t.elems.length).filter fun _ => true) = List.range t.elems.length from List.filter_eq_self.2 fun _ _ => rfl, List.length_range] at h2
  omega
theorem le_st {t : Tb} (hf : form t) {a b : Nat} (ha : a < t.elems.length) (hl : leB t a b = true) (hn : b ≠ a) : stB t a b = true := by
  have h := leB_or hf ha (b := b)
  rw [hl, decide_eq_false (fun e => hn e.symm), Bool.false_or] at h
  exact h.symm
/-- A join that changes an element is a step. -/
theorem chn_join {t : Tb} (hg : good t) {k a x : Nat} (ha : a < t.elems.length) (hx : x < t.elems.length) (hn : jnD t a x ≠ a) (hc : chn t k 0 a) : chn t (k + 1) 0 (jnD t a x) :=
  ⟨a, hc, le_st hg.form ha (jnD_is hg ha hx).l hn⟩
/-- What is known of the ways up to elements is so. -/
def snd (t : Tb) (S : Nat → Nat) : Prop := ∀ a, a < t.elems.length → ∃ s, s < t.elems.length ∧ chn t (S a) s a
/-- The ways of so many steps up to an element are known. -/
def prg (t : Tb) (S : Nat → Nat) (r a : Nat) : Prop := ∀ k, k ≤ r → (∃ s, s < t.elems.length ∧ chn t k s a) → k ≤ S a
/-- Between two elements that are looked for: behind r rounds, in the next one all before a are done, and of a all that is right above one before c. -/
structure Rnd (t : Tb) (S : Nat → Nat) (r a c : Nat) : Prop where
  snd : snd t S
  old : ∀ x, x < t.elems.length → prg t S r x
  new : ∀ x, x < a → prg t S (r + 1) x
  half : ∀ x, x < c → stB t x a = true → ∀ k, k ≤ r → (∃ s, s < t.elems.length ∧ chn t k s x) → k + 1 ≤ S a
theorem Rnd.start (t : Tb) : Rnd t (fun _ => 0) 0 0 0 := by
  refine ⟨fun a ha => ⟨a, ha, rfl⟩, fun x _ k hk _ => hk, fun x hx => by omega, fun x hx => by omega⟩
theorem Rnd.no {t : Tb} {S : Nat → Nat} {r a c : Nat} (h : Rnd t S r a c) (hs : stB t c a = false) : Rnd t S r a (c + 1) :=
  ⟨h.snd, h.old, h.new, fun x hx hst => by
    rcases Nat.lt_succ_iff_lt_or_eq.1 hx with q | rfl
    · exact h.half x q hst
    · rw [hs] at hst; cases hst⟩
def upd (S : Nat → Nat) (a v : Nat) : Nat → Nat := fun i => if i = a then v else S i
theorem Rnd.yes {t : Tb} {S : Nat → Nat} {r a c : Nat} (h : Rnd t S r a c) (hc : c < t.elems.length) (hs : stB t c a = true) : Rnd t (upd S a (max (S a) (S c + 1))) r a (c + 1) := by
  have hle : ∀ i, S i ≤ upd S a (max (S a) (S c + 1)) i := fun i => by
    unfold upd; split
    · rename_i e; subst e; omega
    · omega
  have hat : upd S a (max (S a) (S c + 1)) a = max (S a) (S c + 1) := by unfold upd; rw [if_pos rfl]
  refine ⟨fun x hx => ?_, fun x hx k hk he => Nat.le_trans (h.old x hx k hk he) (hle x), fun x hx k hk he => Nat.le_trans (h.new x hx k hk he) (hle x), fun x hx hst k hk he => ?_⟩
  · by_cases e : x = a
    · subst e
      rw [hat]
      rcases Nat.le_total (S x) (S c + 1) with q | q
      · rw [Nat.max_eq_right q]
        obtain ⟨s, h1, h2⟩ := h.snd c hc
        exact ⟨s, h1, c, h2, hs⟩
      · rw [Nat.max_eq_left q]; exact h.snd x hx
    · have : upd S a (max (S a) (S c + 1)) x = S x := by unfold upd; rw [if_neg e]
      rw [this]; exact h.snd x hx
  · rcases Nat.lt_succ_iff_lt_or_eq.1 hx with q | rfl
    · exact Nat.le_trans (h.half x q hst k hk he) (hle a)
    · have := h.old x hc k hk he
      rw [hat]; omega
theorem Rnd.nextA {t : Tb} (hf : form t) {S : Nat → Nat} {r a : Nat} (ha : a < t.elems.length) (h : Rnd t S r a t.elems.length) : Rnd t S r (a + 1) 0 := by
  refine ⟨h.snd, h.old, fun x hx => ?_, fun x hx => by omega⟩
  rcases Nat.lt_succ_iff_lt_or_eq.1 hx with q | rfl
  · exact h.new x q
  · rintro k hk ⟨s, h1, h2⟩
    cases k with
    | zero => omega
    | succ k =>
      obtain ⟨c, h3, h4⟩ := h2
      exact h.half c (chn_lt hf h1 h3) h4 k (by omega) ⟨s, h1, h3⟩
theorem Rnd.nextR {t : Tb} {S : Nat → Nat} {r : Nat} (h : Rnd t S r t.elems.length 0) : Rnd t S (r + 1) 0 0 :=
  ⟨h.snd, h.new, fun x hx => by omega, fun x hx => by omega⟩
theorem Rnd.le {t : Tb} (hg : good t) {S : Nat → Nat} {r a c x : Nat} (h : Rnd t S r a c) (hx : x < t.elems.length) : S x ≤ 12 := by
  obtain ⟨s, h1, h2⟩ := h.snd x hx
  have h3 := chn_overs hg.form hg.nb.cyc h1 h2
  have := overs_le t s
  have := hg.form.twelve
  omega
/-- The greatest of the first ones. -/
def mxS (S : Nat → Nat) : Nat → Nat
  | 0 => 0
  | k + 1 => max (mxS S k) (S k)
theorem mxS_ge (S : Nat → Nat) : ∀ n a, a < n → S a ≤ mxS S n := by
  intro n
  induction n with
  | zero => intro a h; omega
  | succ n ih =>
    intro a h
    show S a ≤ max (mxS S n) (S n)
    rcases Nat.lt_succ_iff_lt_or_eq.1 h with q | rfl
    · have := ih a q; omega
    · omega
theorem mxS_is (S : Nat → Nat) : ∀ n, mxS S n = 0 ∨ ∃ a, a < n ∧ mxS S n = S a := by
  intro n
  induction n with
  | zero => exact Or.inl rfl
  | succ n ih =>
    rcases Nat.le_total (mxS S n) (S n) with q | q
    · exact Or.inr ⟨n, by omega, Nat.max_eq_right q⟩
    · rw [show mxS S (n + 1) = mxS S n from Nat.max_eq_left q]
      rcases ih with h | ⟨a, h1, h2⟩
      · exact Or.inl h
      · exact Or.inr ⟨a, by omega, h2⟩
theorem high_fin {t : Tb} (hg : good t) {S : Nat → Nat} {h : Nat} (hh : isH t 0 h) (hr : Rnd t S t.elems.length 0 0) : mxS S t.elems.length = h := by
  have h0 : 0 < t.elems.length := hg.form.one
  apply Nat.le_antisymm
  · rcases mxS_is S t.elems.length with e | ⟨a, ha, e⟩
    · omega
    · rw [e]
      obtain ⟨s, h1, h2⟩ := hr.snd a ha
      by_cases hs : s = 0
      · subst hs; exact chn_ends hh h2
      · have h3 := le_st hg.form h0 (hg.nb.base s h1) hs
        have := chn_ends hh (chn_head h3 h2)
        omega
  · obtain ⟨b, hb⟩ := hh.1
    have hbl := chn_lt hg.form h0 hb
    exact Nat.le_trans (hr.old b hbl h (by have := isH_lt hg hh; omega) ⟨0, h0, hb⟩) (mxS_ge S _ b hbl)
end M
end Go.Proofs.Ythacjdlohmkpoaa
