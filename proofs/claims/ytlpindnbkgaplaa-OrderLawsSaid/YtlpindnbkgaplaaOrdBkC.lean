/- DERIVED. The statements' own test for lattices; plain laws of joins. -/
import Derived.Test.YtlpindnbkgaplaaOrdBjC
namespace Go.Proofs.Ytlpindnbkgaplaa
open Go.RowKit

namespace M
theorem jnD_of {t : Tb} (h : good t) {a b c : Nat} (ha : a < t.elems.length) (hb : b < t.elems.length) (hj : isJ t a b c) : jnD t a b = c := isJ_one h (jnD_is h ha hb) hj
theorem jnD_le {t : Tb} (h : good t) {a b : Nat} (ha : a < t.elems.length) (hb : b < t.elems.length) (hl : leB t a b = true) : jnD t a b = b :=
  jnD_of h ha hb ⟨hb, hl, leB_refl h.form hb, fun d _ h2 => h2⟩
theorem jnD_iff {t : Tb} (h : good t) {a b : Nat} (ha : a < t.elems.length) (hb : b < t.elems.length) : decide (jnD t a b = b) = leB t a b := by
  cases hl : leB t a b with
  | true => exact decide_eq_true (jnD_le h ha hb hl)
  | false =>
    refine decide_eq_false fun e => ?_
    have := (jnD_is h ha hb).l
    rw [e, hl] at this
    cases this
theorem jnD_assoc {t : Tb} (h : good t) {a b c : Nat} (ha : a < t.elems.length) (hb : b < t.elems.length) (hc : c < t.elems.length) : jnD t a (jnD t b c) = jnD t (jnD t a b) c := by
  have h1 := jnD_is h hb hc
  have h2 := jnD_is h ha hb
  have h3 := jnD_is h h2.lt hc
  refine jnD_of h ha h1.lt ⟨h3.lt, leB_trans h.form ha h2.l h3.l, ?_, fun d k1 k2 => ?_⟩
  · exact h1.least _ (leB_trans h.form hb h2.r h3.l) h3.r
  · exact h3.least d (h2.least d k1 (leB_trans h.form hb h1.l k2)) (leB_trans h.form hc h1.r k2)
theorem jnD_zero {t : Tb} (h : good t) {a : Nat} (ha : a < t.elems.length) : jnD t a 0 = a := by
  have h0 : 0 < t.elems.length := by omega
  rw [jnD_comm]
  exact jnD_le h h0 ha (h.nb.base a ha)
theorem jnD_wrong {t : Tb} (h : good t) {a b : Nat} (ha : a < t.elems.length) (hb : b < t.elems.length) (hw : wr t a = true) : wr t (jnD t a b) = true :=
  h.wrong a ha _ (jnD_is h ha hb).lt hw (jnD_is h ha hb).l
end M

theorem lawJoin0_any (t : M.Tb) (p : Tp) (a : Nat) (w : World) (hs : Small t) (hl : M.lat t) (ha : a < t.elems.length) (ht : TbIn w t p) :
    Calls Try.prog 25 #[tbV t p, .int .i64 a, .int .i64 0] w fun e w' => e = .returned (.int .i64 a) ∧ Below w.heap.size w w' := by
  have h := lawJoin_any t p a 0 w hs hl ha (by omega) ht
  rw [M.jnD_zero (M.lat_good hl) ha] at h
  exact h

set_option maxHeartbeats 4000000 in
set_option maxRecDepth 100000 in
theorem right_any (t : M.Tb) (p : Tp) (w : World) (ht : TbIn w t p) : Calls Try.prog 24 #[tbV t p] w fun e w' => ((Small t ∧ M.lat t ∧ e = .returned (.bool true)) ∨ e = .returned (.bool false)) ∧ Below w.heap.size w w' := by
  have HX := Lib.hid (tbBox (t := t) (p := p) (box_new w (tbA t p) 26))
  have HT := Lib.hid ht
  have HC := Lib.hid (thinT_any t p (w.alloc (.cells (tbA t p) 26)) (ht.below (below1 _ _)))
  obtain ⟨c0, c1, c2, c3⟩ := HX.out
  clear ht
  go_enter Try.func24, Try.ntmps24
  go_wp2_with fail
  refine HC.out.mono ?_
  rintro e w1 ⟨rfl, hB1⟩
  have HB1 := Lib.hid (below2 (below1 w (.cells (tbA t p) 26)) hB1)
  have HX := Lib.hid (HX.out.below hB1)
  clear c0 c1 c2 c3 hB1 HC
  cases hth : M.thinB t with
  | false =>
    go_wp2_with fail
    go_ret
    exact ⟨Or.inr rfl, HB1.out⟩
  | true =>
    have HS := Lib.hid (small_of hth)
    clear hth
    obtain ⟨c0, c1, c2, c3⟩ := HX.out
    go_wp2_with fail
    refine (refIsLattice_any t p w1 HS.out.hs HS.out.hes HS.out.h4 (HT.out.below HB1.out)).mono ?_
    rintro e w2 ⟨⟨_, rfl⟩ | ⟨_, _, rfl⟩ | ⟨hl, rfl⟩, hB2⟩
    · have hB := below2 HB1.out hB2
      clear c0 c1 c2 c3 hB2
      go_wp2_with fail
      go_ret
      exact ⟨Or.inr rfl, hB⟩
    · have hB := below2 HB1.out hB2
      clear c0 c1 c2 c3 hB2
      go_wp2_with fail
      go_ret
      exact ⟨Or.inr rfl, hB⟩
    · have hB := below2 HB1.out hB2
      have HL := Lib.hid hl
      clear c0 c1 c2 c3 hB2 hl
      go_wp2_with fail
      go_ret
      exact ⟨Or.inl ⟨HS.out, HL.out, rfl⟩, hB⟩
end Go.Proofs.Ytlpindnbkgaplaa
