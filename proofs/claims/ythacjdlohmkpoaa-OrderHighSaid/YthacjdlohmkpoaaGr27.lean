/- Texts of one's own, joined: OrdBg, OrdBh, OrdBj, OrdBk, BasK, OrdRow, OrdBm. -/
import Derived.Test.YthacjdlohmkpoaaGr26
import Derived.Test.YthacjdlohmkpoaaGr13
import Derived.Test.YthacjdlohmkpoaaGr9
import Derived.Test.YthacjdlohmkpoaaGr22
import Derived.Test.YthacjdlohmkpoaaRows
import Derived.Test.YthacjdlohmkpoaaGr1
import Derived.ProofKit
import Derived.OpenShut
import Derived.Deep.Slices
import Derived.Deep.Fields
import Derived.Lib.SmallJoins
import Derived.ChangeSame
import Derived.ChangeOld
import Derived.Carry
import Derived.Test.YthacjdlohmkpoaaGr11
namespace Go.Proofs.Ythacjdlohmkpoaa
open Go.RowKit

/-- What Check and Prove answer is told by the table. -/
theorem prove_one (t : M.Tb) : ∃ (c : Int) (x : Nat × Nat × Nat) (f : Int), (∀ w E w', ChkPost t w E w' → E = .returned (.int .i64 c) ∧ Below w.heap.size w w') ∧ (∀ w E w', ProvePost t w E w' → E = .returned (.tuple #[brkV x, .int .i64 f]) ∧ Below w.heap.size w w') := by
  by_cases hf : M.form t
  · by_cases hk : (M.brk t).1 = 0
    · refine ⟨0, (0, 0, 0), 0, ?_, ?_⟩
      · rintro w E w' ⟨⟨_, rfl⟩ | ⟨h, _⟩, hB⟩
        · exact ⟨rfl, hB⟩
        · exact absurd hf h
      · rintro w E w' ⟨⟨h, _⟩ | ⟨_, h, _⟩ | ⟨_, _, rfl⟩, hB⟩
        · exact absurd hf h
        · exact absurd hk h
        · exact ⟨rfl, hB⟩
    · refine ⟨0, M.brk t, 12, ?_, ?_⟩
      · rintro w E w' ⟨⟨_, rfl⟩ | ⟨h, _⟩, hB⟩
        · exact ⟨rfl, hB⟩
        · exact absurd hf h
      · rintro w E w' ⟨⟨h, _⟩ | ⟨_, _, rfl⟩ | ⟨_, h, _⟩, hB⟩
        · exact absurd hf h
        · exact ⟨rfl, hB⟩
        · exact absurd (by rw [h]) hk
  · refine ⟨4, (0, 0, 0), 4, ?_, ?_⟩
    · rintro w E w' ⟨⟨h, _⟩ | ⟨_, rfl⟩, hB⟩
      · exact absurd h hf
      · exact ⟨rfl, hB⟩
    · rintro w E w' ⟨⟨_, rfl⟩ | ⟨h, _⟩ | ⟨h, _⟩, hB⟩
      · exact ⟨rfl, hB⟩
      · exact absurd h hf
      · exact absurd h hf

/-- What a table that is not more than the statements look at keeps to. -/
structure Small (t : M.Tb) : Prop where
  h1 : t.elems.length ≤ 1000000
  h2 : t.above.length ≤ 1000000
  h3 : t.wrong.length ≤ 1000000
  h4 : ∀ l, l ∈ t.above → l.length ≤ 1000000
  hs : t.name.size ≤ maxLen
  hes : ∀ s, s ∈ t.elems → s.size ≤ maxLen
theorem small_of {t : M.Tb} (h : M.thinB t = true) : Small t := by
  obtain ⟨⟨a, b, c, d⟩, e, f⟩ := M.thin_parts.1 h
  exact ⟨by omega, by omega, by omega, fun l hl => by have := f l hl; omega, by unfold maxLen; omega, fun s hs => by have := e s hs; unfold maxLen; omega⟩

end Go.Proofs.Ythacjdlohmkpoaa

namespace Go.Proofs.Ythacjdlohmkpoaa
open Go.RowKit

namespace M
theorem filter_more (p : Nat → Bool) (n : Nat) (h : ∀ j, p j = true → j < n) : ∀ k, n ≤ k → (List.range k).filter p = (List.range n).filter p := by
  intro k hk
  obtain ⟨d, rfl⟩ := Nat.exists_eq_add_of_le hk
  clear hk
  induction d with
  | zero => rfl
  | succ d ih =>
    rw [show n + (d + 1) = (n + d) + 1 from by omega, List.range_succ, List.filter_append, ih]
    have hn : p (n + d) = false := by
      cases hp : p (n + d) with
      | false => rfl
      | true => have := h _ hp; omega
    simp [hn]
theorem up_list {t : Tb} (hf : form t) {a : Nat} (ha : a < t.elems.length) : listN (know t a) 12 = nats (bnd t a a) := by
  unfold listN nats bnd
  rw [filter_more (know t a).testBit t.elems.length (fun j hj => leB_lt hf ha hj) 12 hf.twelve]
  congr 2
  funext c
  show leB t a c = _
  rw [Bool.and_self]
end M

end Go.Proofs.Ythacjdlohmkpoaa

namespace Go.Proofs.Ythacjdlohmkpoaa
open Go.RowKit

theorem inB_nat {n a : Nat} (h : a < n) : M.inB n (a : Int) = true := by unfold M.inB; simp; omega

set_option maxHeartbeats 4000000 in
set_option maxRecDepth 100000 in
theorem lawBelow_any (t : M.Tb) (p : Tp) (a b : Nat) (w : World) (hs : Small t) (hf : M.form t) (ha : a < t.elems.length) (hb : b < t.elems.length) (ht : TbIn w t p) :
    Calls Try.prog 22 #[tbV t p, .int .i64 a, .int .i64 b] w fun e w' => e = .returned (.bool (M.leB t a b)) ∧ Below w.heap.size w w' := by
  have HC := Lib.hid (copy_any t p (w.alloc (.cells (tbA t p) 26)) hs.h1 hs.h2 hs.h3 hs.h4 (ht.below (below1 _ _)))
  obtain ⟨c0, c1, c2, c3⟩ := tbBox (t := t) (p := p) (box_new w (tbA t p) 26)
  have HS := Lib.hid hs
  have HF := Lib.hid hf
  have HIN := Lib.hid (show (M.inB t.elems.length (a : Int) && M.inB t.elems.length (b : Int)) = true by rw [inB_nat ha, inB_nat hb]; rfl)
  clear ht hs hf
  go_enter Try.func22, Try.ntmps22
  go_wp2_with fail
  refine HC.out.mono ?_
  rintro e w1 ⟨p', rfl, ht1, hB1⟩
  have HB1 := Lib.hid (below2 (below1 w (.cells (tbA t p) 26)) hB1)
  clear c0 c1 c2 c3 hB1 HC
  go_wp2_with fail
  refine (below_any t p' a b w1 HS.out.h4 ht1).mono ?_
  rintro e w2 ⟨⟨h, _⟩ | ⟨_, h, _⟩ | ⟨_, _, rfl⟩, hB2⟩
  · exact absurd HF.out h
  · rw [HIN.out] at h; cases h
  · have hB := below2 HB1.out hB2
    rw [Int.toNat_natCast, Int.toNat_natCast]
    clear hB2 ht1
    go_wp2_with fail
    go_ret
    exact ⟨rfl, hB⟩
set_option maxHeartbeats 4000000 in
set_option maxRecDepth 100000 in
theorem lawJoin_any (t : M.Tb) (p : Tp) (a b : Nat) (w : World) (hs : Small t) (hl : M.lat t) (ha : a < t.elems.length) (hb : b < t.elems.length) (ht : TbIn w t p) :
    Calls Try.prog 19 #[tbV t p, .int .i64 a, .int .i64 b] w fun e w' => e = .returned (.int .i64 (M.jnD t a b : Nat)) ∧ Below w.heap.size w w' := by
  have HC := Lib.hid (copy_any t p (w.alloc (.cells (tbA t p) 26)) hs.h1 hs.h2 hs.h3 hs.h4 (ht.below (below1 _ _)))
  have HX := Lib.hid (tbBox (t := t) (p := p) (box_new w (tbA t p) 26))
  have HS := Lib.hid hs
  have HL := Lib.hid hl
  have HIN := Lib.hid (show (M.inB t.elems.length (a : Int) && M.inB t.elems.length (b : Int)) = true by rw [inB_nat ha, inB_nat hb]; rfl)
  have HJ := Lib.hid (inB_nat (M.jnD_is (M.lat_good hl) ha hb).lt)
  obtain ⟨c0, c1, c2, c3⟩ := HX.out
  clear ht hs hl
  go_enter Try.func19, Try.ntmps19
  go_wp2_with fail
  refine HC.out.mono ?_
  rintro e w1 ⟨p', rfl, ht1, hB1⟩
  have HX := Lib.hid (HX.out.below hB1)
  have HB1 := Lib.hid (below2 (below1 w (.cells (tbA t p) 26)) hB1)
  clear c0 c1 c2 c3 hB1 HC
  go_wp2_with fail
  refine (joinX_any t p' a b w1 HS.out.h4 ht1).mono ?_
  rintro e w2 ⟨⟨h, _⟩ | ⟨_, h, _⟩ | ⟨_, h, _⟩ | ⟨_, _, rfl⟩, hB2⟩
  · exact absurd HL.out.1 h
  · exact absurd (by rw [HL.out.2]) h
  · rw [HIN.out] at h; cases h
  · have HX := Lib.hid (HX.out.below hB2)
    have HB2 := Lib.hid (below2 HB1.out hB2)
    rw [Int.toNat_natCast, Int.toNat_natCast]
    clear hB2 ht1 HB1
    obtain ⟨c0, c1, c2, c3⟩ := HX.out
    go_wp2_with fail
    refine (isElem_any t p _ w2 HS.out.h1).mono ?_
    rintro e w3 ⟨rfl, hB3⟩
    have hB := below2 HB2.out hB3
    rw [HJ.out]
    clear c0 c1 c2 c3 hB3
    go_wp2_with fail
    go_ret
    exact ⟨rfl, hB⟩
end Go.Proofs.Ythacjdlohmkpoaa

namespace Go.Proofs.Ythacjdlohmkpoaa
open Go.RowKit

namespace M
theorem jnD_of {t : Tb} (h : good t) {a b c : Nat} (ha : a < t.elems.length) (hb : b < t.elems.length) (hj : isJ t a b c) : jnD t a b = c := isJ_one h (jnD_is h ha hb) hj
theorem jnD_le {t : Tb} (h : good t) {a b : Nat} (ha : a < t.elems.length) (hb : b < t.elems.length) (hl : leB t a b = true) : jnD t a b = b :=
  jnD_of h ha hb ⟨hb, hl, leB_refl h.form hb, fun _ _ h2 => h2⟩
theorem jnD_iff {t : Tb} (h : good t) {a b : Nat} (ha : a < t.elems.length) (hb : b < t.elems.length) : decide (jnD t a b = b) = leB t a b := by
  cases hl : leB t a b with
  | true => exact decide_eq_true (jnD_le h ha hb hl)
  | false =>
    refine decide_eq_false fun e => ?_
    have := (jnD_is h ha hb).l
    rw [e, hl] at this
    cases this
theorem jnD_assoc {t : Tb} (h : good t) {a b c : Nat} (ha : a < t.elems.length) (hb : b < t.elems.length) (hc : c < t.elems.length) : jnD t a (jnD t b c) = jnD t (jnD t a b) c := by
  have h1 := jnD_is h hb hc
  have h2 := jnD_is h ha hb
  have h3 := jnD_is h h2.lt hc
  refine jnD_of h ha h1.lt ⟨h3.lt, leB_trans h.form ha h2.l h3.l, ?_, fun d k1 k2 => ?_⟩
  · exact h1.least _ (leB_trans h.form hb h2.r h3.l) h3.r
  · exact h3.least d (h2.least d k1 (leB_trans h.form hb h1.l k2)) (leB_trans h.form hc h1.r k2)
theorem jnD_zero {t : Tb} (h : good t) {a : Nat} (ha : a < t.elems.length) : jnD t a 0 = a := by
  have h0 : 0 < t.elems.length := by omega
  rw [jnD_comm]
  exact jnD_le h h0 ha (h.nb.base a ha)
theorem jnD_wrong {t : Tb} (h : good t) {a b : Nat} (ha : a < t.elems.length) (hb : b < t.elems.length) (hw : wr t a = true) : wr t (jnD t a b) = true :=
  h.wrong a ha _ (jnD_is h ha hb).lt hw (jnD_is h ha hb).l
end M

theorem lawJoin0_any (t : M.Tb) (p : Tp) (a : Nat) (w : World) (hs : Small t) (hl : M.lat t) (ha : a < t.elems.length) (ht : TbIn w t p) :
    Calls Try.prog 19 #[tbV t p, .int .i64 a, .int .i64 0] w fun e w' => e = .returned (.int .i64 a) ∧ Below w.heap.size w w' := by
  have h := lawJoin_any t p a 0 w hs hl ha (by omega) ht
  rw [M.jnD_zero (M.lat_good hl) ha] at h
  exact h

set_option maxHeartbeats 4000000 in
set_option maxRecDepth 100000 in
theorem right_any (t : M.Tb) (p : Tp) (w : World) (ht : TbIn w t p) : Calls Try.prog 16 #[tbV t p] w fun e w' => ((Small t ∧ M.lat t ∧ e = .returned (.bool true)) ∨ e = .returned (.bool false)) ∧ Below w.heap.size w w' := by
  have HX := Lib.hid (tbBox (t := t) (p := p) (box_new w (tbA t p) 26))
  have HT := Lib.hid ht
  have HC := Lib.hid (thinT_any t p (w.alloc (.cells (tbA t p) 26)) (ht.below (below1 _ _)))
  obtain ⟨c0, c1, c2, c3⟩ := HX.out
  clear ht
  go_enter Try.func16, Try.ntmps16
  go_wp2_with fail
  refine HC.out.mono ?_
  rintro e w1 ⟨rfl, hB1⟩
  have HB1 := Lib.hid (below2 (below1 w (.cells (tbA t p) 26)) hB1)
  have HX := Lib.hid (HX.out.below hB1)
  clear c0 c1 c2 c3 hB1 HC
  cases hth : M.thinB t with
  | false =>
    go_wp2_with fail
    go_ret
    exact ⟨Or.inr rfl, HB1.out⟩
  | true =>
    have HS := Lib.hid (small_of hth)
    clear hth
    obtain ⟨c0, c1, c2, c3⟩ := HX.out
    go_wp2_with fail
    refine (refIsLattice_any t p w1 HS.out.hs HS.out.hes HS.out.h4 (HT.out.below HB1.out)).mono ?_
    rintro e w2 ⟨⟨_, rfl⟩ | ⟨_, _, rfl⟩ | ⟨hl, rfl⟩, hB2⟩
    · have hB := below2 HB1.out hB2
      clear c0 c1 c2 c3 hB2
      go_wp2_with fail
      go_ret
      exact ⟨Or.inr rfl, hB⟩
    · have hB := below2 HB1.out hB2
      clear c0 c1 c2 c3 hB2
      go_wp2_with fail
      go_ret
      exact ⟨Or.inr rfl, hB⟩
    · have hB := below2 HB1.out hB2
      have HL := Lib.hid hl
      clear c0 c1 c2 c3 hB2 hl
      go_wp2_with fail
      go_ret
      exact ⟨Or.inl ⟨HS.out, HL.out, rfl⟩, hB⟩
end Go.Proofs.Ythacjdlohmkpoaa

namespace Go.Proofs.Ythacjdlohmkpoaa
open Go.RowKit

theorem wpAnyH_call {P : Program} {md : Region.Mode} {ops : Array Oper} {Q : Exit → Act → World → Prop} {S : World → Prop} {fuel : Nat} {listed : Array Bool} {a : Act} {w : World} (i : Nat) {o : Oper} (f : FuncId) (args : Array Value) (V : Value) (hr : Region.ready md ops listed = [i]) (ho : ops[i]? = some o)
    (hw : Region.wanted o (yielded ops a.tmps) = true) (hx : (execOp a.eval o).run P w = .ok (.enter f args) w)
    (hc : Calls P f args w fun e w' => e = .returned V ∧ Below w.heap.size w w')
    (h : ∀ w', Below w.heap.size w w' → S w' ∧ wpAnyH P md ops Q S fuel (listed.setIfInBounds i true) (a.put o.dst V) w') : wpAnyH P md ops Q S (fuel + 1) listed a w :=
  wpAnyH_all hr (by simp) (fun j hj => by
    rw [List.mem_singleton] at hj
    subst hj
    unfold wpOp
    rw [ho]
    simp only
    rw [if_pos hw]
    refine Or.inl ?_
    unfold Oper.wp
    rw [hx]
    refine hc.mono fun e w' ⟨he, hB⟩ => ?_
    subst he
    exact h w' hB)
end Go.Proofs.Ythacjdlohmkpoaa

namespace Go.Proofs.Ythacjdlohmkpoaa
set_option maxRecDepth 100000
open Go.RowKit Go.WideMaps Go.Maps
open Go.ChangeShapes Go.WideShapes Go.ChangeAt Go.WideElems Go.ChangeMaps Go.Deep

theorem own : ownKnob Try.prog.godebug = none := by kernel_rfl
section
variable {H : Type} {enc : TypeId × Value → H}
/-- A list of one-cell elements that comes in. -/
theorem cel_open {α : Type} {f : α → Value} [Inhabited α] {sT eT : TypeId} {W : World} {base : Nat} {sp : Nat → Bool} {held : Bool} {fuel : Nat} {v : Value} {x : DataW H × List MemPlace} (hu : Try.prog.underlying sT = some (.slice eT)) (hc : Try.prog.cellsOf eT = 1)
    (hone : ∀ {n : Nat} {c : Value} {y : DataW H × List MemPlace}, DataW.trod enc Try.prog W base sp held n eT [c] = some y → ∃ z : α, c = f z)
    (h : DataW.trod enc Try.prog W base sp held fuel sT [v] = some x) :
    ∃ (a : Option Addr) (c : Nat) (l : List α), v = .slice a l.length c ∧ (a = none → c = 0) ∧ l.length ≤ c ∧ CelSl f W a l := by
  rcases open_slice1 hu hc h with ⟨h0, _⟩ | ⟨a, len, cap, m, n, V, D, Pl, hcs, hb, hl, hm, hmm, hx, hi⟩
  · cases h0
    exact ⟨none, 0, [], rfl, fun _ => rfl, Nat.le_refl _, Or.inl rfl⟩
  · cases hcs
    have hlm : len ≤ m := by rw [hmm]; split <;> omega
    obtain ⟨g, hg⟩ : ∃ g : Nat → α, ∀ i, i < len → W.cell? (a.add i) = some (f (g i)) := by
      have hel : ∀ i, i < len → ∃ z : α, W.cell? (a.add i) = some (f z) := fun i hil => by
        obtain ⟨h1, h2⟩ := hi i (by omega)
        obtain ⟨z, e⟩ := hone h2
        exact ⟨z, by rw [h1, e]⟩
      refine ⟨fun i => if h : i < len then (hel i h).choose else default, fun i hi => ?_⟩
      have := (hel i hi).choose_spec
      simp only [dif_pos hi]
      exact this
    rcases Nat.eq_zero_or_pos len with h0 | h0
    · subst h0
      exact ⟨some a, cap, [], rfl, (fun h => by cases h), hl, Or.inl rfl⟩
    · have g0 := hg 0 h0
      obtain ⟨b, off, spot⟩ := a
      have hspot : spot = none := by simpa [Addr.add] using World.cell?_spot g0
      subst hspot
      have hblt : b < W.heap.size := World.block_lt_of_cell? W _ g0
      have hadd : ∀ i, (⟨b, off, none⟩ : Addr).add i = ⟨b, off + i, none⟩ := fun i => by simp [Addr.add]
      refine ⟨some ⟨b, off, none⟩, cap, (List.range len).map g, by rw [List.length_map, List.length_range], (fun h => by cases h), by rw [List.length_map, List.length_range]; exact hl, Or.inr ⟨b, off, rfl, hblt, fun i hi => ?_⟩⟩
      rw [List.length_map, List.length_range] at hi
      rw [List.getElem_map, List.getElem_range, ← hadd]
      exact hg i hi
theorem strs_open {W : World} {base : Nat} {sp : Nat → Bool} {held : Bool} {fuel : Nat} {v : Value} {x : DataW H × List MemPlace} (h : DataW.trod enc Try.prog W base sp held fuel 22 [v] = some x) :
    ∃ (a : Option Addr) (c : Nat) (l : List ByteArray), v = .slice a l.length c ∧ (a = none → c = 0) ∧ l.length ≤ c ∧ StrSl W a l :=
  cel_open (f := Value.string) Try.underlying22 (by kernel_rfl) (fun h => by
    obtain ⟨t, e, _⟩ := DataW.trod_string Try.underlying9 h
    cases e; exact ⟨t, rfl⟩) h
theorem bools_open {W : World} {base : Nat} {sp : Nat → Bool} {held : Bool} {fuel : Nat} {v : Value} {x : DataW H × List MemPlace} (h : DataW.trod enc Try.prog W base sp held fuel 24 [v] = some x) :
    ∃ (a : Option Addr) (c : Nat) (l : List Bool), v = .slice a l.length c ∧ (a = none → c = 0) ∧ l.length ≤ c ∧ BoolSl W a l :=
  cel_open (f := Value.bool) Try.underlying24 (by kernel_rfl) (fun h => by
    obtain ⟨t, e, _⟩ := DataW.trod_bool Try.underlying4 h
    cases e; exact ⟨t, rfl⟩) h
theorem ints_open {W : World} {base : Nat} {sp : Nat → Bool} {held : Bool} {fuel : Nat} {v : Value} {x : DataW H × List MemPlace} (h : DataW.trod enc Try.prog W base sp held fuel 36 [v] = some x) :
    ∃ (a : Option Addr) (c : Nat) (l : List Int), v = .slice a l.length c ∧ (a = none → c = 0) ∧ l.length ≤ c ∧ IntSl W a l :=
  cel_open (f := Value.int .i64) Try.underlying36 (by kernel_rfl) (fun h => by
    obtain ⟨t, e, _⟩ := DataW.trod_int Try.underlying3 h
    cases e; exact ⟨t, rfl⟩) h
/-- Lists of numbers that come in. -/
theorem rows_open {W : World} {base : Nat} {sp : Nat → Bool} {held : Bool} {fuel : Nat} {v : Value} {x : DataW H × List MemPlace} (h : DataW.trod enc Try.prog W base sp held fuel 23 [v] = some x) :
    ∃ (a : Option Addr) (c : Nat) (l : List (List Int)), v = .slice a l.length c ∧ (a = none → c = 0) ∧ l.length ≤ c ∧ RowSl W a l := by
  rcases open_slice1 Try.underlying23 (by kernel_rfl) h with ⟨h0, _⟩ | ⟨a, len, cap, m, n, V, D, Pl, hcs, hb, hl, hm, hmm, hx, hi⟩
  · cases h0
    exact ⟨none, 0, [], rfl, fun _ => rfl, Nat.le_refl _, Or.inl rfl⟩
  · cases hcs
    have hlm : len ≤ m := by rw [hmm]; split <;> omega
    obtain ⟨g, hg⟩ : ∃ g : Nat → List Int, ∀ i, i < len → ∃ ra rc, W.cell? (a.add i) = some (.slice ra (g i).length rc) ∧ (ra = none → rc = 0) ∧ (g i).length ≤ rc ∧ IntSl W ra (g i) := by
      have hel : ∀ i, i < len → ∃ z : List Int, ∃ ra rc, W.cell? (a.add i) = some (.slice ra z.length rc) ∧ (ra = none → rc = 0) ∧ z.length ≤ rc ∧ IntSl W ra z := fun i hil => by
        obtain ⟨h1, h2⟩ := hi i (by omega)
        obtain ⟨ra, rc, z, e, q⟩ := ints_open h2
        exact ⟨z, ra, rc, by rw [h1, e], q⟩
      refine ⟨fun i => if h : i < len then (hel i h).choose else [], fun i hi => ?_⟩
      have := (hel i hi).choose_spec
      simp only [dif_pos hi]
      exact this
    rcases Nat.eq_zero_or_pos len with h0 | h0
    · subst h0
      exact ⟨some a, cap, [], rfl, (fun h => by cases h), hl, Or.inl rfl⟩
    · obtain ⟨_, _, g0, _⟩ := hg 0 h0
      obtain ⟨b, off, spot⟩ := a
      have hspot : spot = none := by simpa [Addr.add] using World.cell?_spot g0
      subst hspot
      have hblt : b < W.heap.size := World.block_lt_of_cell? W _ g0
      have hadd : ∀ i, (⟨b, off, none⟩ : Addr).add i = ⟨b, off + i, none⟩ := fun i => by simp [Addr.add]
      refine ⟨some ⟨b, off, none⟩, cap, (List.range len).map g, by rw [List.length_map, List.length_range], (fun h => by cases h), by rw [List.length_map, List.length_range]; exact hl, Or.inr ⟨b, off, rfl, hblt, fun i hi => ?_⟩⟩
      rw [List.length_map, List.length_range] at hi
      rw [List.getElem_map, List.getElem_range, ← hadd]
      exact hg i hi
theorem tb_cells : Try.prog.cellsOf 26 = 4 := by kernel_rfl
/-- A table that comes in. -/
theorem tb_open {W : World} {base b0 : Nat} {sp : Nat → Bool} {held : Bool} {r : Reach} {v : Value} {d : DataW H} {p : List MemPlace} (hv : Value.okWide Try.prog W r b0 26 v) (h : DataW.Trod enc Try.prog W base sp held 26 v d p) :
    ∃ (t : M.Tb) (q : Tp), v = tbV t q ∧ TbIn W t q := by
  obtain ⟨v0, v1, v2, v3, y0, y1, y2, y3, n, rfl, rfl, rfl, h0, h1, h2, h3⟩ := Go.Joins.open_agg4 Try.underlying26 (by kernel_rfl) tb_cells hv h
  have h0' : DataW.trod enc Try.prog W base sp held n 9 [v0] = some y0 := h0
  have h1' : DataW.trod enc Try.prog W base sp held n 22 [v1] = some y1 := h1
  have h2' : DataW.trod enc Try.prog W base sp held n 23 [v2] = some y2 := h2
  have h3' : DataW.trod enc Try.prog W base sp held n 24 [v3] = some y3 := h3
  obtain ⟨s, e0, _⟩ := DataW.trod_string Try.underlying9 h0'
  cases e0
  obtain ⟨ea, ec, el, rfl, e1, e2, e3⟩ := strs_open h1'
  obtain ⟨aa, ac, al, rfl, a1, a2, a3⟩ := rows_open h2'
  obtain ⟨wa, wc, wl, rfl, w1, w2, w3⟩ := bools_open h3'
  exact ⟨⟨s, el, al, wl⟩, ⟨ea, ec, aa, ac, wa, wc⟩, rfl, ⟨e3, a3, w3, e1, a1, w1, e2, a2, w2⟩⟩
end
end Go.Proofs.Ythacjdlohmkpoaa

namespace Go.Proofs.Ythacjdlohmkpoaa
open Go.RowKit

namespace M
theorem brk_inv {t : Tb} (h : (brk t).1 = 3 ∨ (brk t).1 = 4) : ∃ a b, brk t = (kindM t a b, a, b) ∧ a < b ∧ b < t.elems.length ∧ jn t a b = none ∧
    (∀ a', a' < a → ∀ b', a' < b' → b' < t.elems.length → jn t a' b' ≠ none) ∧ ∀ b', a < b' → b' < b → jn t a b' ≠ none := by
  have hb : ∀ x, brk t = x → x.1 = 3 ∨ x.1 = 4 := fun x e => by rw [← e]; exact h
  unfold brk at hb ⊢
  cases h1 : fstN t.elems.length fun a => stB t a a with
  | some a => rw [h1] at hb; have := hb _ rfl; simp at this
  | none =>
    rw [h1] at hb
    simp only at hb ⊢
    cases h2 : fstN t.elems.length fun a => !leB t 0 a with
    | some a => rw [h2] at hb; have := hb _ rfl; simp at this
    | none =>
      rw [h2] at hb
      simp only at hb ⊢
      cases h3 : fst2 t.elems.length fun a b => decide (a < b) && (jn t a b).isNone with
      | some x =>
        obtain ⟨a, b⟩ := x
        obtain ⟨q1, q2, q3, q4, q5⟩ := fst2_some h3
        simp only [Bool.and_eq_true, decide_eq_true_eq, Option.isNone_iff_eq_none] at q3
        refine ⟨a, b, rfl, q3.1, q2, q3.2, fun a' ha' b' hab hb' hj => ?_, fun b' hab hb' hj => ?_⟩
        · have := q4 a' ha' b' hb'
          simp [hab, hj] at this
        · have := q5 b' hb'
          simp [hab, hj] at this
      | none =>
        rw [h3] at hb
        simp only at hb
        have q := hb _ rfl
        split at q
        · simp at q
        · split at q <;> simp at q
theorem kindM_iff (t : Tb) (a b : Nat) : kindM t a b = 3 ↔ bnd t a b = [] := by
  unfold kindM
  split
  · rename_i h; simp [h]
  · rename_i h; simp [h]
/-- The first elements above two. -/
theorem lst_some {t : Tb} {L : List Nat} : (lst t L).isSome = L.any fun x => L.all fun y => leB t x y := by
  unfold lst
  rw [Bool.eq_iff_iff, List.find?_isSome, List.any_eq_true]
end M
end Go.Proofs.Ythacjdlohmkpoaa
