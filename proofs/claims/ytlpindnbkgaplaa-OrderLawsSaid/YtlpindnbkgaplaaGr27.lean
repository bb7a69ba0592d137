/- Texts of one's own, joined: OrdBh, OrdRow. -/
import Derived.Test.YtlpindnbkgaplaaGr13
import Derived.Test.YtlpindnbkgaplaaGr9
import Derived.Test.YtlpindnbkgaplaaRows
import Derived.Test.YtlpindnbkgaplaaGr1
import Derived.ProofKit
import Derived.OpenShut
import Derived.Deep.Slices
import Derived.Deep.Fields
import Derived.Lib.SmallJoins
import Derived.ChangeSame
import Derived.ChangeOld
import Derived.Carry
namespace Go.Proofs.Ytlpindnbkgaplaa
open Go.RowKit

namespace M
theorem filter_more (p : Nat → Bool) (n : Nat) (h : ∀ j, p j = true → j < n) : ∀ k, n ≤ k → (List.range k).filter p = (List.range n).filter p := by
  intro k hk
  obtain ⟨d, rfl⟩ := Nat.exists_eq_add_of_le hk
  clear hk
  induction d with
  | zero => rfl
  | succ d ih =>
    rw [show n + (d + 1) = (n + d) + 1 from by omega, List.range_succ, List.filter_append, ih]
    have hn : p (n + d) = false := by
      cases hp : p (n + d) with
      | false => rfl
      | true => have := h _ hp; omega
    simp [hn]
theorem up_list {t : Tb} (hf : form t) {a : Nat} (ha : a < t.elems.length) : listN (know t a) 12 = nats (bnd t a a) := by
  unfold listN nats bnd
  rw [filter_more (know t a).testBit t.elems.length (fun j hj => leB_lt hf ha hj) 12 hf.twelve]
  congr 2
  funext c
  show leB t a c = _
  rw [Bool.and_self]
end M

set_option maxHeartbeats 4000000 in
set_option maxRecDepth 100000 in
theorem refUp_any (t : M.Tb) (p : Tp) (a : Nat) (w : World) (ht : TbIn w t p) (hf : M.form t) (ha : a < t.elems.length) : Calls Try.prog 45 #[tbV t p, .int .i64 a] w (IntsPost (nats (M.bnd t a a)) w) := by
  have HC := Lib.hid (rel_any t p (w.alloc (.cells (tbA t p) 26)) (ht.below (below1 _ _)) hf)
  obtain ⟨c0, c1, c2, c3⟩ := tbBox (t := t) (p := p) (box_new w (tbA t p) 26)
  clear ht
  go_enter Try.func45, Try.ntmps45
  go_wp2_with fail
  refine HC.out.mono ?_
  rintro e w1 ⟨g, c, rfl, hc, hr, hB1⟩
  have HB := Lib.hid (below2 (below1 w (.cells (tbA t p) 26)) hB1)
  clear c0 c1 c2 c3 hB1 HC
  go_wp2_with fail
  refine (bounds_any t g c a a w1 hr hf.twelve ha ha).mono ?_
  rintro e w2 ⟨la, lc, rfl, h1, h2, h3, hB2⟩
  have hB := below2 HB.out hB2
  have H3 := Lib.hid h3
  clear h3 hB2
  go_wp2_with fail
  go_ret
  exact ⟨la, lc, by rw [nats_len]; rfl, h1, h2, H3.out, hB⟩

set_option maxHeartbeats 4000000 in
set_option maxRecDepth 100000 in
theorem refReach_any (t : M.Tb) (p : Tp) (a : Int) (w : World) (hs : t.name.size ≤ maxLen) (hes : ∀ s, s ∈ t.elems → s.size ≤ maxLen) (hal : ∀ l, l ∈ t.above → l.length ≤ 1000000) (hel : t.elems.length ≤ 1000000) (ht : TbIn w t p) :
    Calls Try.prog 17 #[tbV t p, .int .i64 a] w (ReachPost t a w) := by
  have HX := Lib.hid (tbBox (t := t) (p := p) (box_new w (tbA t p) 26))
  have HT := Lib.hid ht
  have HC := Lib.hid (refCheck_any t p (w.alloc (.cells (tbA t p) 26)) hs hes hal (ht.below (below1 _ _)))
  obtain ⟨c0, c1, c2, c3⟩ := HX.out
  clear ht hs hes hal
  go_enter Try.func17, Try.ntmps17
  go_wp2_with fail
  refine HC.out.mono ?_
  rintro e w1 ⟨⟨hf, rfl⟩ | ⟨hf, rfl⟩, hB1⟩
  · have HF := Lib.hid hf
    have HX := Lib.hid (HX.out.below hB1)
    have HB1 := Lib.hid (below2 (below1 w (.cells (tbA t p) 26)) hB1)
    clear c0 c1 c2 c3 hB1 HC hf
    obtain ⟨c0, c1, c2, c3⟩ := HX.out
    go_wp2_with fail
    refine (isElem_any t p a w1 hel).mono ?_
    rintro e w2 ⟨rfl, hB2⟩
    have HX := Lib.hid (HX.out.below hB2)
    have HB2 := Lib.hid (below2 HB1.out hB2)
    clear c0 c1 c2 c3 hB2 HB1
    obtain ⟨c0, c1, c2, c3⟩ := HX.out
    cases hin : M.inB t.elems.length a with
    | false =>
      have HIN := Lib.hid hin
      clear hin
      go_wp2_with fail
      go_ret2
      exact reach_2 HF.out HIN.out HB2.out
    | true =>
      have HIN := Lib.hid hin
      unfold M.inB at hin
      simp only [Bool.and_eq_true, decide_eq_true_eq] at hin
      obtain ⟨k, rfl⟩ : ∃ k : Nat, a = k := ⟨a.toNat, by omega⟩
      have hk : k < t.elems.length := by omega
      clear hin
      go_wp2_with fail
      refine (refUp_any t p k w2 (HT.out.below HB2.out) HF.out hk).mono ?_
      rintro e w3 ⟨la, lc, rfl, h1, h2, h3, hB3⟩
      have hB := below2 HB2.out hB3
      have H3 := Lib.hid h3
      clear h3 hB3
      go_wp2_with fail
      go_ret2
      have hu := M.up_list HF.out hk
      have h3 := H3.out
      show ReachPost t (k : Int) w (.returned (.tuple #[.slice la (M.bnd t k k).length lc, .int .i64 0])) w3
      have hlen : (M.bnd t k k).length = (M.listN (M.know t k) 12).length := by rw [hu, nats_len]
      rw [hlen]
      rw [← hu] at h3
      exact reach_3 (a := (k : Int)) HF.out HIN.out (by rw [Int.toNat_natCast]; exact h3) hB
  · have HF := Lib.hid hf
    have hB := below2 (below1 w (.cells (tbA t p) 26)) hB1
    clear hf hB1 c0 c1 c2 c3
    go_wp2_with fail
    go_ret2
    exact reach_1 HF.out hB

set_option maxHeartbeats 4000000 in
set_option maxRecDepth 100000 in
theorem refBelow_any (t : M.Tb) (p : Tp) (a b : Int) (w : World) (hs : t.name.size ≤ maxLen) (hes : ∀ s, s ∈ t.elems → s.size ≤ maxLen) (hal : ∀ l, l ∈ t.above → l.length ≤ 1000000) (hel : t.elems.length ≤ 1000000) (ht : TbIn w t p) :
    Calls Try.prog 18 #[tbV t p, .int .i64 a, .int .i64 b] w (BelowPost t a b w) := by
  have HX := Lib.hid (tbBox (t := t) (p := p) (box_new w (tbA t p) 26))
  have HT := Lib.hid ht
  have HC := Lib.hid (refCheck_any t p (w.alloc (.cells (tbA t p) 26)) hs hes hal (ht.below (below1 _ _)))
  obtain ⟨c0, c1, c2, c3⟩ := HX.out
  clear ht hs hes hal
  go_enter Try.func18, Try.ntmps18
  go_wp2_with fail
  refine HC.out.mono ?_
  rintro e w1 ⟨⟨hf, rfl⟩ | ⟨hf, rfl⟩, hB1⟩
  · have HF := Lib.hid hf
    have HX := Lib.hid (HX.out.below hB1)
    have HB1 := Lib.hid (below2 (below1 w (.cells (tbA t p) 26)) hB1)
    clear c0 c1 c2 c3 hB1 HC hf
    obtain ⟨c0, c1, c2, c3⟩ := HX.out
    go_wp2_with fail
    refine (isElem_any t p a w1 hel).mono ?_
    rintro e w2 ⟨rfl, hB2⟩
    have HX := Lib.hid (HX.out.below hB2)
    have HB2 := Lib.hid (below2 HB1.out hB2)
    clear c0 c1 c2 c3 hB2 HB1
    obtain ⟨c0, c1, c2, c3⟩ := HX.out
    cases hin : M.inB t.elems.length a with
    | false =>
      have HIN := Lib.hid hin
      clear hin
      go_wp2_with fail
      go_ret2
      exact bel_2 HF.out (by rw [HIN.out]; rfl) HB2.out
    | true =>
      have HIN := Lib.hid hin
      unfold M.inB at hin
      simp only [Bool.and_eq_true, decide_eq_true_eq] at hin
      obtain ⟨k, rfl⟩ : ∃ k : Nat, a = k := ⟨a.toNat, by omega⟩
      have hk : k < t.elems.length := by omega
      clear hin
      go_wp2_with fail
      refine (isElem_any t p b w2 hel).mono ?_
      rintro e w3 ⟨rfl, hB3⟩
      have HX := Lib.hid (HX.out.below hB3)
      have HB3 := Lib.hid (below2 HB2.out hB3)
      clear c0 c1 c2 c3 hB3 HB2
      obtain ⟨c0, c1, c2, c3⟩ := HX.out
      cases hib : M.inB t.elems.length b with
      | false =>
        have HIB := Lib.hid hib
        clear hib
        go_wp2_with fail
        go_ret2
        exact bel_2 HF.out (by rw [HIB.out, Bool.and_false]) HB3.out
      | true =>
        have HIB := Lib.hid hib
        unfold M.inB at hib
        simp only [Bool.and_eq_true, decide_eq_true_eq] at hib
        obtain ⟨j, rfl⟩ : ∃ j : Nat, b = j := ⟨b.toNat, by omega⟩
        have hj : j < t.elems.length := by omega
        clear hib
        go_wp2_with fail
        refine (isBelow_any t p k j w3 (HT.out.below HB3.out) HF.out hk hj).mono ?_
        rintro e w4 ⟨rfl, hB4⟩
        have hB := below2 HB3.out hB4
        clear hB4
        go_wp2_with fail
        go_ret2
        exact bel_3 (a := (k : Int)) (b := (j : Int)) HF.out (by rw [HIN.out, HIB.out]; rfl) hB
  · have HF := Lib.hid hf
    have hB := below2 (below1 w (.cells (tbA t p) 26)) hB1
    clear hf hB1 c0 c1 c2 c3
    go_wp2_with fail
    go_ret2
    exact bel_1 HF.out hB
end Go.Proofs.Ytlpindnbkgaplaa

namespace Go.Proofs.Ytlpindnbkgaplaa
set_option maxRecDepth 100000
open Go.RowKit Go.WideMaps Go.Maps
open Go.ChangeShapes Go.WideShapes Go.ChangeAt Go.WideElems Go.ChangeMaps Go.Deep

theorem own : ownKnob Try.prog.godebug = none := by kernel_rfl
section
variable {H : Type} {enc : TypeId × Value → H}
/-- A list of one-cell elements that comes in. -/
theorem cel_open {α : Type} {f : α → Value} [Inhabited α] {sT eT : TypeId} {W : World} {base : Nat} {sp : Nat → Bool} {held : Bool} {fuel : Nat} {v : Value} {x : DataW H × List MemPlace} (hu : Try.prog.underlying sT = some (.slice eT)) (hc : Try.prog.cellsOf eT = 1)
    (hone : ∀ {n : Nat} {c : Value} {y : DataW H × List MemPlace}, DataW.trod enc Try.prog W base sp held n eT [c] = some y → ∃ z : α, c = f z)
    (h : DataW.trod enc Try.prog W base sp held fuel sT [v] = some x) :
    ∃ (a : Option Addr) (c : Nat) (l : List α), v = .slice a l.length c ∧ (a = none → c = 0) ∧ l.length ≤ c ∧ CelSl f W a l := by
  rcases open_slice1 hu hc h with ⟨h0, _⟩ | ⟨a, len, cap, m, n, V, D, Pl, hcs, hb, hl, hm, hmm, hx, hi⟩
  · cases h0
    exact ⟨none, 0, [], rfl, fun _ => rfl, Nat.le_refl _, Or.inl rfl⟩
  · cases hcs
    have hlm : len ≤ m := by rw [hmm]; split <;> omega
    obtain ⟨g, hg⟩ : ∃ g : Nat → α, ∀ i, i < len → W.cell? (a.add i) = some (f (g i)) := by
      have hel : ∀ i, i < len → ∃ z : α, W.cell? (a.add i) = some (f z) := fun i hil => by
        obtain ⟨h1, h2⟩ := hi i (by omega)
        obtain ⟨z, e⟩ := hone h2
        exact ⟨z, by rw [h1, e]⟩
      refine ⟨fun i => if h : i < len then (hel i h).choose else default, fun i hi => ?_⟩
      have := (hel i hi).choose_spec
      simp only [dif_pos hi]
      exact this
    rcases Nat.eq_zero_or_pos len with h0 | h0
    · subst h0
      exact ⟨some a, cap, [], rfl, (fun h => by cases h), hl, Or.inl rfl⟩
    · have g0 := hg 0 h0
      obtain ⟨b, off, spot⟩ := a
      have hspot : spot = none := by simpa [Addr.add] using World.cell?_spot g0
      subst hspot
      have hblt : b < W.heap.size := World.block_lt_of_cell? W _ g0
      have hadd : ∀ i, (⟨b, off, none⟩ : Addr).add i = ⟨b, off + i, none⟩ := fun i => by simp [Addr.add]
      refine ⟨some ⟨b, off, none⟩, cap, (List.range len).map g, by rw [List.length_map, List.length_range], (fun h => by cases h), by rw [List.length_map, List.length_range]; exact hl, Or.inr ⟨b, off, rfl, hblt, fun i hi => ?_⟩⟩
      rw [List.length_map, List.length_range] at hi
      rw [List.getElem_map, List.getElem_range, ← hadd]
      exact hg i hi
theorem strs_open {W : World} {base : Nat} {sp : Nat → Bool} {held : Bool} {fuel : Nat} {v : Value} {x : DataW H × List MemPlace} (h : DataW.trod enc Try.prog W base sp held fuel 22 [v] = some x) :
    ∃ (a : Option Addr) (c : Nat) (l : List ByteArray), v = .slice a l.length c ∧ (a = none → c = 0) ∧ l.length ≤ c ∧ StrSl W a l :=
  cel_open (f := Value.string) Try.underlying22 (by kernel_rfl) (fun h => by
    obtain ⟨t, e, _⟩ := DataW.trod_string Try.underlying9 h
    cases e; exact ⟨t, rfl⟩) h
theorem bools_open {W : World} {base : Nat} {sp : Nat → Bool} {held : Bool} {fuel : Nat} {v : Value} {x : DataW H × List MemPlace} (h : DataW.trod enc Try.prog W base sp held fuel 24 [v] = some x) :
    ∃ (a : Option Addr) (c : Nat) (l : List Bool), v = .slice a l.length c ∧ (a = none → c = 0) ∧ l.length ≤ c ∧ BoolSl W a l :=
  cel_open (f := Value.bool) Try.underlying24 (by kernel_rfl) (fun h => by
    obtain ⟨t, e, _⟩ := DataW.trod_bool Try.underlying4 h
    cases e; exact ⟨t, rfl⟩) h
theorem ints_open {W : World} {base : Nat} {sp : Nat → Bool} {held : Bool} {fuel : Nat} {v : Value} {x : DataW H × List MemPlace} (h : DataW.trod enc Try.prog W base sp held fuel 39 [v] = some x) :
    ∃ (a : Option Addr) (c : Nat) (l : List Int), v = .slice a l.length c ∧ (a = none → c = 0) ∧ l.length ≤ c ∧ IntSl W a l :=
  cel_open (f := Value.int .i64) Try.underlying39 (by kernel_rfl) (fun h => by
    obtain ⟨t, e, _⟩ := DataW.trod_int Try.underlying3 h
    cases e; exact ⟨t, rfl⟩) h
/-- Lists of numbers that come in. -/
theorem rows_open {W : World} {base : Nat} {sp : Nat → Bool} {held : Bool} {fuel : Nat} {v : Value} {x : DataW H × List MemPlace} (h : DataW.trod enc Try.prog W base sp held fuel 23 [v] = some x) :
    ∃ (a : Option Addr) (c : Nat) (l : List (List Int)), v = .slice a l.length c ∧ (a = none → c = 0) ∧ l.length ≤ c ∧ RowSl W a l := by
  rcases open_slice1 Try.underlying23 (by kernel_rfl) h with ⟨h0, _⟩ | ⟨a, len, cap, m, n, V, D, Pl, hcs, hb, hl, hm, hmm, hx, hi⟩
  · cases h0
    exact ⟨none, 0, [], rfl, fun _ => rfl, Nat.le_refl _, Or.inl rfl⟩
  · cases hcs
    have hlm : len ≤ m := by rw [hmm]; split <;> omega
    obtain ⟨g, hg⟩ : ∃ g : Nat → List Int, ∀ i, i < len → ∃ ra rc, W.cell? (a.add i) = some (.slice ra (g i).length rc) ∧ (ra = none → rc = 0) ∧ (g i).length ≤ rc ∧ IntSl W ra (g i) := by
      have hel : ∀ i, i < len → ∃ z : List Int, ∃ ra rc, W.cell? (a.add i) = some (.slice ra z.length rc) ∧ (ra = none → rc = 0) ∧ z.length ≤ rc ∧ IntSl W ra z := fun i hil => by
        obtain ⟨h1, h2⟩ := hi i (by omega)
        obtain ⟨ra, rc, z, e, q⟩ := ints_open h2
        exact ⟨z, ra, rc, by rw [h1, e], q⟩
      refine ⟨fun i => if h : i < len then (hel i h).choose else [], fun i hi => ?_⟩
      have := (hel i hi).choose_spec
      simp only [dif_pos hi]
      exact this
    rcases Nat.eq_zero_or_pos len with h0 | h0
    · subst h0
      exact ⟨some a, cap, [], rfl, (fun h => by cases h), hl, Or.inl rfl⟩
    · obtain ⟨_, _, g0, _⟩ := hg 0 h0
      obtain ⟨b, off, spot⟩ := a
      have hspot : spot = none := by simpa [Addr.add] using World.cell?_spot g0
      subst hspot
      have hblt : b < W.heap.size := World.block_lt_of_cell? W _ g0
      have hadd : ∀ i, (⟨b, off, none⟩ : Addr).add i = ⟨b, off + i, none⟩ := fun i => by simp [Addr.add]
      refine ⟨some ⟨b, off, none⟩, cap, (List.range len).map g, by rw [List.length_map, List.length_range], (fun h => by cases h), by rw [List.length_map, List.length_range]; exact hl, Or.inr ⟨b, off, rfl, hblt, fun i hi => ?_⟩⟩
      rw [List.length_map, List.length_range] at hi
      rw [List.getElem_map, List.getElem_range, ← hadd]
      exact hg i hi
theorem tb_cells : Try.prog.cellsOf 26 = 4 := by kernel_rfl
/-- A table that comes in. -/
theorem tb_open {W : World} {base b0 : Nat} {sp : Nat → Bool} {held : Bool} {r : Reach} {v : Value} {d : DataW H} {p : List MemPlace} (hv : Value.okWide Try.prog W r b0 26 v) (h : DataW.Trod enc Try.prog W base sp held 26 v d p) :
    ∃ (t : M.Tb) (q : Tp), v = tbV t q ∧ TbIn W t q := by
  obtain ⟨v0, v1, v2, v3, y0, y1, y2, y3, n, rfl, rfl, rfl, h0, h1, h2, h3⟩ := Go.Joins.open_agg4 Try.underlying26 (by kernel_rfl) tb_cells hv h
  have h0' : DataW.trod enc Try.prog W base sp held n 9 [v0] = some y0 := h0
  have h1' : DataW.trod enc Try.prog W base sp held n 22 [v1] = some y1 := h1
  have h2' : DataW.trod enc Try.prog W base sp held n 23 [v2] = some y2 := h2
  have h3' : DataW.trod enc Try.prog W base sp held n 24 [v3] = some y3 := h3
  obtain ⟨s, e0, _⟩ := DataW.trod_string Try.underlying9 h0'
  cases e0
  obtain ⟨ea, ec, el, rfl, e1, e2, e3⟩ := strs_open h1'
  obtain ⟨aa, ac, al, rfl, a1, a2, a3⟩ := rows_open h2'
  obtain ⟨wa, wc, wl, rfl, w1, w2, w3⟩ := bools_open h3'
  exact ⟨⟨s, el, al, wl⟩, ⟨ea, ec, aa, ac, wa, wc⟩, rfl, ⟨e3, a3, w3, e1, a1, w1, e2, a2, w2⟩⟩
/-- A pair of elements that comes in. -/
theorem pr_open {W : World} {base b0 : Nat} {sp : Nat → Bool} {held : Bool} {r : Reach} {v : Value} {d : DataW H} {p : List MemPlace} (hv : Value.okWide Try.prog W r b0 38 v) (h : DataW.Trod enc Try.prog W base sp held 38 v d p) :
    ∃ (a b : Int), v = .agg #[.int .i64 a, .int .i64 b] := by
  obtain ⟨v0, v1, y0, y1, n, rfl, rfl, rfl, h0, h1⟩ := Go.Joins.open_agg2 Try.underlying38 (by kernel_rfl) (by kernel_rfl) hv h
  obtain ⟨a, e0, _⟩ := DataW.trod_int Try.underlying3 h0
  obtain ⟨b, e1, _⟩ := DataW.trod_int Try.underlying3 h1
  simp only [List.cons.injEq, and_true] at e0 e1
  exact ⟨a, b, by rw [e0, e1]⟩
end
end Go.Proofs.Ytlpindnbkgaplaa
