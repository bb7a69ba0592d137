/- Texts of one's own, joined: OrdO, OrdBh, OrdCa, OrdCb. -/
import Derived.Test.YtnhnjfoboepffaaGreatGr23
import Derived.Test.YtnhnjfoboepffaaGreatGr25
import Derived.Test.YtnhnjfoboepffaaGreatGr43
import Derived.Test.YtnhnjfoboepffaaGreatGr37
import Derived.Test.YtnhnjfoboepffaaGreatGr40
namespace Go.Proofs.YtnhnjfoboepffaaGreat
open Go.RowKit

/-- What Below comes to. -/
def BelowPost (t : M.Tb) (a b : Int) (w : World) (e : Ending) (w' : World) : Prop :=
  ((¬ M.form t ∧ e = .returned (.tuple #[.bool false, .int .i64 4])) ∨ (M.form t ∧ (M.inB t.elems.length a && M.inB t.elems.length b) = false ∧ e = .returned (.tuple #[.bool false, .int .i64 7])) ∨
    (M.form t ∧ (M.inB t.elems.length a && M.inB t.elems.length b) = true ∧ e = .returned (.tuple #[.bool ((M.know t a.toNat).testBit b.toNat), .int .i64 0]))) ∧ Below w.heap.size w w'
theorem bel_1 {t : M.Tb} {a b : Int} {w w' : World} (h : ¬ M.form t) (hB : Below w.heap.size w w') : BelowPost t a b w (.returned (.tuple #[.bool false, .int .i64 4])) w' := ⟨Or.inl ⟨h, rfl⟩, hB⟩
theorem bel_2 {t : M.Tb} {a b : Int} {w w' : World} (h : M.form t) (ha : (M.inB t.elems.length a && M.inB t.elems.length b) = false) (hB : Below w.heap.size w w') : BelowPost t a b w (.returned (.tuple #[.bool false, .int .i64 7])) w' := ⟨Or.inr (Or.inl ⟨h, ha, rfl⟩), hB⟩
theorem bel_3 {t : M.Tb} {a b : Int} {w w' : World} (h : M.form t) (ha : (M.inB t.elems.length a && M.inB t.elems.length b) = true) (hB : Below w.heap.size w w') : BelowPost t a b w (.returned (.tuple #[.bool ((M.know t a.toNat).testBit b.toNat), .int .i64 0])) w' := ⟨Or.inr (Or.inr ⟨h, ha, rfl⟩), hB⟩

end Go.Proofs.YtnhnjfoboepffaaGreat

namespace Go.Proofs.YtnhnjfoboepffaaGreat
open Go.RowKit

namespace M
theorem filter_more (p : Nat → Bool) (n : Nat) (h : ∀ j, p j = true → j < n) : ∀ k, n ≤ k → (List.range k).filter p = (List.range n).filter p := by
  intro k hk
  obtain ⟨d, rfl⟩ := Nat.exists_eq_add_of_le hk
  clear hk
  induction d with
  | zero => rfl
  | succ d ih =>
    rw [show n + (d + 1) = (n + d) + 1 from by omega, List.range_succ, List.filter_append, ih]
    have hn : p (n + d) = false := by
      cases hp : p (n + d) with
      | false => rfl
      | true => have := h _ hp; omega
    simp [hn]
theorem up_list {t : Tb} (hf : form t) {a : Nat} (ha : a < t.elems.length) : listN (know t a) 12 = nats (bnd t a a) := by
  unfold listN nats bnd
  rw [filter_more (know t a).testBit t.elems.length (fun j hj => leB_lt hf ha hj) 12 hf.twelve]
  congr 2
  funext c
  show leB t a c = _
  rw [Bool.and_self]
end M

end Go.Proofs.YtnhnjfoboepffaaGreat

namespace Go.Proofs.YtnhnjfoboepffaaGreat
open Go.RowKit

set_option maxHeartbeats 4000000 in
set_option maxRecDepth 100000 in
theorem refJoinOf_any (t : M.Tb) (p : Tp) (a b : Nat) (w : World) (hl : M.lat t) (ha : a < t.elems.length) (hb : b < t.elems.length) (ht : TbIn w t p) :
    Calls Tryz.prog 31 #[tbV t p, .int .i64 a, .int .i64 b] w fun e w' => e = .returned (.int .i64 (M.jnD t a b : Nat)) ∧ Below w.heap.size w w' := by
  have HC := Lib.hid (rel_any t p (w.alloc (.cells (tbA t p) 26)) (ht.below (below1 _ _)) hl.1)
  obtain ⟨c0, c1, c2, c3⟩ := tbBox (t := t) (p := p) (box_new w (tbA t p) 26)
  have h12 := hl.1.twelve
  have HJ := Lib.hid (show M.optI (M.lst t (M.bnd t a b)) = (M.jnD t a b : Nat) by
    obtain ⟨c, hc⟩ := M.jn_any (M.lat_good hl) ha hb
    have e : M.lst t (M.bnd t a b) = some c := hc
    unfold M.jnD
    rw [hc, e]; rfl)
  have HBL := Lib.hid (show (M.bnd t a b).length ≤ 12 from Nat.le_trans (M.bndTo_len t a b t.elems.length) h12)
  have HL := Lib.hid hl
  clear ht hl
  go_enter Tryz.func31, Tryz.ntmps31
  go_wp2_with fail
  refine HC.out.mono ?_
  rintro e w1 ⟨g, c, rfl, hc, hr, hB1⟩
  have HB := Lib.hid (below2 (below1 w (.cells (tbA t p) 26)) hB1)
  have HR := Lib.hid hr
  clear c0 c1 c2 c3 hB1 HC hr hc
  go_wp2_with fail
  refine (bounds_any t g c a b w1 HR.out h12 ha hb).mono ?_
  rintro e w2 ⟨la, lc, rfl, h1, h2, h3, hB2⟩
  rw [nats_len]
  have HB := Lib.hid (below2 HB.out hB2)
  have HR := Lib.hid (HR.out.below hB2)
  have H3 := Lib.hid h3
  clear h1 h2 h3 hB2
  go_wp2_with fail
  refine (least_any t g c lc la (M.bnd t a b) w2 HR.out h12 H3.out (fun x hx => (M.mem_bnd.1 hx).1) HBL.out).mono ?_
  rintro e w3 ⟨rfl, hB3⟩
  have hB := below2 HB.out hB3
  rw [HJ.out]
  clear hB3
  go_wp2_with fail
  go_ret
  exact ⟨rfl, hB⟩

set_option maxHeartbeats 4000000 in
set_option maxRecDepth 100000 in
theorem refJoin_any (t : M.Tb) (p : Tp) (a b : Int) (w : World) (hs : t.name.size ≤ maxLen) (hes : ∀ s, s ∈ t.elems → s.size ≤ maxLen) (hal : ∀ l, l ∈ t.above → l.length ≤ 1000000) (hel : t.elems.length ≤ 1000000) (ht : TbIn w t p) :
    Calls Tryz.prog 11 #[tbV t p, .int .i64 a, .int .i64 b] w (JoinPost t a b w) := by
  have HX := Lib.hid (tbBox (t := t) (p := p) (box_new w (tbA t p) 26))
  have HT := Lib.hid ht
  have HC := Lib.hid (refIsLattice_any t p (w.alloc (.cells (tbA t p) 26)) hs hes hal (ht.below (below1 _ _)))
  obtain ⟨c0, c1, c2, c3⟩ := HX.out
  clear ht hs hes hal
  go_enter Tryz.func11, Tryz.ntmps11
  go_wp2_with fail
  refine HC.out.mono ?_
  rintro e w1 ⟨⟨hf, rfl⟩ | ⟨hf, hk, rfl⟩ | ⟨hf, rfl⟩, hB1⟩
  · have HF := Lib.hid hf
    have hB := below2 (below1 w (.cells (tbA t p) 26)) hB1
    clear hf hB1 c0 c1 c2 c3
    go_wp2_with fail
    go_ret2
    exact jp_1 HF.out hB
  · have HF := Lib.hid hf
    have HK := Lib.hid hk
    have hB := below2 (below1 w (.cells (tbA t p) 26)) hB1
    clear hf hk hB1 c0 c1 c2 c3
    go_wp2_with fail
    go_ret2
    exact jp_2 HF.out HK.out hB
  · have HF := Lib.hid hf
    have HX := Lib.hid (HX.out.below hB1)
    have HB1 := Lib.hid (below2 (below1 w (.cells (tbA t p) 26)) hB1)
    clear c0 c1 c2 c3 hB1 HC hf
    obtain ⟨c0, c1, c2, c3⟩ := HX.out
    go_wp2_with fail
    refine (isElem_any t p a w1 hel).mono ?_
    rintro e w2 ⟨rfl, hB2⟩
    have HX := Lib.hid (HX.out.below hB2)
    have HB2 := Lib.hid (below2 HB1.out hB2)
    clear c0 c1 c2 c3 hB2 HB1
    obtain ⟨c0, c1, c2, c3⟩ := HX.out
    cases hin : M.inB t.elems.length a with
    | false =>
      have HIN := Lib.hid hin
      clear hin
      go_wp2_with fail
      go_ret2
      exact jp_3 HF.out (by rw [HIN.out]; rfl) HB2.out
    | true =>
      have HIN := Lib.hid hin
      unfold M.inB at hin
      simp only [Bool.and_eq_true, decide_eq_true_eq] at hin
      obtain ⟨k, rfl⟩ : ∃ k : Nat, a = k := ⟨a.toNat, by omega⟩
      have hk : k < t.elems.length := by omega
      clear hin
      go_wp2_with fail
      refine (isElem_any t p b w2 hel).mono ?_
      rintro e w3 ⟨rfl, hB3⟩
      have HX := Lib.hid (HX.out.below hB3)
      have HB3 := Lib.hid (below2 HB2.out hB3)
      clear c0 c1 c2 c3 hB3 HB2
      obtain ⟨c0, c1, c2, c3⟩ := HX.out
      cases hib : M.inB t.elems.length b with
      | false =>
        have HIB := Lib.hid hib
        clear hib
        go_wp2_with fail
        go_ret2
        exact jp_3 HF.out (by rw [HIB.out, Bool.and_false]) HB3.out
      | true =>
        have HIB := Lib.hid hib
        unfold M.inB at hib
        simp only [Bool.and_eq_true, decide_eq_true_eq] at hib
        obtain ⟨j, rfl⟩ : ∃ j : Nat, b = j := ⟨b.toNat, by omega⟩
        have hj : j < t.elems.length := by omega
        clear hib
        go_wp2_with fail
        refine (refJoinOf_any t p k j w3 HF.out hk hj (HT.out.below HB3.out)).mono ?_
        rintro e w4 ⟨rfl, hB4⟩
        have hB := below2 HB3.out hB4
        clear hB4
        go_wp2_with fail
        go_ret2
        exact jp_4 (a := (k : Int)) (b := (j : Int)) HF.out (by rw [HIN.out, HIB.out]; rfl) hB
end Go.Proofs.YtnhnjfoboepffaaGreat

namespace Go.Proofs.YtnhnjfoboepffaaGreat
open Go.RowKit

namespace M
/-- How far the greatest number of steps from an element on has been looked for. -/
structure Hi (t : Tb) (a b m : Nat) : Prop where
  has : m = 0 ∨ ∃ c k, c < t.elems.length ∧ stB t a c = true ∧ isH t c k ∧ m = k + 1
  all : ∀ c, c < b → stB t a c = true → ∃ k, isH t c k ∧ k + 1 ≤ m
theorem Hi.start (t : Tb) (a : Nat) : Hi t a 0 0 := ⟨Or.inl rfl, fun c hc => by omega⟩
theorem Hi.no {t : Tb} {a b m : Nat} (h : Hi t a b m) (hs : stB t a b = false) : Hi t a (b + 1) m :=
  ⟨h.has, fun c hc hst => by
    rcases Nat.lt_succ_iff_lt_or_eq.1 hc with q | rfl
    · exact h.all c q hst
    · rw [hs] at hst; cases hst⟩
theorem Hi.yes {t : Tb} {a b m k : Nat} (h : Hi t a b m) (hb : b < t.elems.length) (hs : stB t a b = true) (hk : isH t b k) : Hi t a (b + 1) (max m (1 + k)) := by
  refine ⟨?_, fun c hc hst => ?_⟩
  · rcases Nat.le_total m (1 + k) with q | q
    · exact Or.inr ⟨b, k, hb, hs, hk, by omega⟩
    · rw [Nat.max_eq_left q]; exact h.has
  · rcases Nat.lt_succ_iff_lt_or_eq.1 hc with q | rfl
    · obtain ⟨k', q1, q2⟩ := h.all c q hst
      exact ⟨k', q1, by omega⟩
    · exact ⟨k, hk, by omega⟩
theorem Hi.fin {t : Tb} (hf : form t) {a m : Nat} (ha : a < t.elems.length) (h : Hi t a t.elems.length m) : isH t a m := by
  refine ⟨?_, fun ⟨b, hb⟩ => ?_⟩
  · rcases h.has with rfl | ⟨c, k, _, q1, q2, rfl⟩
    · exact ⟨a, rfl⟩
    · obtain ⟨b, hb⟩ := q2.1
      exact ⟨b, chn_head q1 hb⟩
  · obtain ⟨c, q1, q2⟩ := chn_first hb
    obtain ⟨k, r1, r2⟩ := h.all c (stB_lt hf ha q1) q1
    exact r1.2 (chn_less (show k + 1 ≤ m by omega) ⟨b, q2⟩)
theorem Hi.le {t : Tb} (hf : form t) (hc : ∀ j, j < t.elems.length → stB t j j = false) {a b m : Nat} (h : Hi t a b m) : m ≤ 13 := by
  have h12 := hf.twelve
  rcases h.has with rfl | ⟨c, k, q0, _, q2, rfl⟩
  · omega
  · rcases Nat.lt_or_ge t.elems.length k with q | q
    · exact absurd q2.1 (chn_end hf hc q0 q)
    · omega
end M

theorem enters_high : ∀ args w, (callFunc 34 args).run Tryz.prog w = .ok (.enter 34 args) w := enters_of Tryz.func34 (by kernel_rfl) rfl

set_option maxHeartbeats 8000000 in
set_option maxRecDepth 100000 in
theorem high_any (t : M.Tb) (p : Tp) (hf : M.form t) (hc : ∀ j, j < t.elems.length → M.stB t j j = false) : ∀ (d a : Nat) (w : World), M.overs t a < d → a < t.elems.length → TbIn w t p →
    Calls Tryz.prog 34 #[tbV t p, .int .i64 a] w fun e w' => (∃ k : Nat, M.isH t a k ∧ e = .returned (.int .i64 k)) ∧ Below w.heap.size w w' := by
  intro d
  induction d with
  | zero => intro a w h; omega
  | succ d ih =>
    intro a w hd ha ht
    have h12 := hf.twelve
    have HX := Lib.hid (tbBox (t := t) (p := p) (box_new w (tbA t p) 26))
    have HT := Lib.hid (ht.below (below1 w (.cells (tbA t p) 26)))
    have HBW := Lib.hid (below1 w (.cells (tbA t p) 26))
    have HF := Lib.hid hf
    have HCY := Lib.hid hc
    have HIH := Lib.hid (show ∀ (b : Nat) (W : World), b < t.elems.length → M.stB t a b = true → TbIn W t p → Calls Tryz.prog 34 #[tbV t p, .int .i64 b] W fun e w' => (∃ k : Nat, M.isH t b k ∧ e = .returned (.int .i64 k)) ∧ Below W.heap.size W w' from
      fun b W hb hs hW => ih b W (by have := M.overs_lt hf hc ha hs; omega) hb hW)
    clear ih ht hd hf hc
    obtain ⟨c0, c1, c2, c3⟩ := HX.out
    go_enter Tryz.func34, Tryz.ntmps34
    go_wp2_with fail
    generalize hW0 : w.alloc (.cells (tbA t p) 26) = W0 at *
    clear hW0
    go_loopw [5, 6] (fun m i wr => ∃ b k : Nat, b ≤ t.elems.length ∧ i = .int .i64 b ∧ m = .int .i64 k ∧ Hid (M.Hi t a b k) ∧ Hid (Below W0.heap.size W0 wr)) (fun _ i _ => t.elems.length - (intOf i).toNat)
    case atStart => exact ⟨0, 0, by omega, rfl, rfl, Lib.hid (M.Hi.start t a), Lib.hid (Below.refl _ _)⟩
    case round =>
      clear c0 c1 c2 c3
      rename World => wr
      obtain ⟨b, m, hb, rfl, rfl, HH, HB⟩ := hrel
      obtain ⟨c0, c1, c2, c3⟩ := HX.out.below HB.out
      by_cases hbl : b < t.elems.length
      · have n1 : (b : Int) < (t.elems.length : Int) := by omega
        have n2 : (0 : Int) ≤ (b : Int) := by omega
        go_wp2_with fail
        refine (steps_any t p a b wr (HT.out.below HB.out) HF.out ha hbl).mono ?_
        rintro e w1 ⟨rfl, hB1⟩
        have HB := Lib.hid (below2 HB.out hB1)
        clear c0 c1 c2 c3 hB1
        obtain ⟨c0, c1, c2, c3⟩ := HX.out.below HB.out
        cases hs : M.stB t a b with
        | false =>
          have HN := Lib.hid (HH.out.no hs)
          clear hs
          go_wp2_with fail
          go_roundw
          case rel => exact ⟨b + 1, m, by omega, by go_num, rfl, HN, HB⟩
          case measure => simp [intOf]; omega
        | true =>
          have HS := Lib.hid hs
          clear hs
          go_wp2_with fail
          refine (HIH.out b w1 hbl HS.out (HT.out.below HB.out)).mono ?_
          rintro e w2 ⟨⟨k, hk, rfl⟩, hB2⟩
          have HB := Lib.hid (below2 HB.out hB2)
          have hN := HH.out.yes hbl HS.out hk
          have hm := hN.le HF.out HCY.out
          have HN := Lib.hid hN
          have hm' : (max (m : Int) (1 + (k : Int))) = ((max m (1 + k) : Nat) : Int) := by omega
          clear c0 c1 c2 c3 hB2 hk hN
          go_wp2_with fail
          go_roundw
          case rel => exact ⟨b + 1, max m (1 + k), by omega, by go_num, by go_num, HN, HB⟩
          case measure => simp [intOf]; omega
      · obtain rfl : b = t.elems.length := by omega
        have n1 : decide ((t.elems.length : Int) < (t.elems.length : Int)) = false := decide_eq_false (by omega)
        have HR := Lib.hid (HH.out.fin HF.out ha)
        have hB := below2 HBW.out HB.out
        go_wp2_with fail
        go_ret
        exact ⟨⟨m, HR.out, rfl⟩, hB⟩

set_option maxHeartbeats 4000000 in
set_option maxRecDepth 100000 in
theorem refHeight_any (t : M.Tb) (p : Tp) (w : World) (hs : t.name.size ≤ maxLen) (hes : ∀ s, s ∈ t.elems → s.size ≤ maxLen) (hal : ∀ l, l ∈ t.above → l.length ≤ 1000000) (ht : TbIn w t p) :
    Calls Tryz.prog 14 #[tbV t p] w (HeightPost t w) := by
  have HX := Lib.hid (tbBox (t := t) (p := p) (box_new w (tbA t p) 26))
  have HT := Lib.hid ht
  have HC := Lib.hid (refIsLattice_any t p (w.alloc (.cells (tbA t p) 26)) hs hes hal (ht.below (below1 _ _)))
  obtain ⟨c0, c1, c2, c3⟩ := HX.out
  clear ht hs hes hal
  go_enter Tryz.func14, Tryz.ntmps14
  go_wp2_with fail
  refine HC.out.mono ?_
  rintro e w1 ⟨⟨hf, rfl⟩ | ⟨hf, hk, rfl⟩ | ⟨hf, rfl⟩, hB1⟩
  · have HF := Lib.hid hf
    have hB := below2 (below1 w (.cells (tbA t p) 26)) hB1
    clear hf hB1 c0 c1 c2 c3
    go_wp2_with fail
    go_ret2
    exact hp_1 HF.out hB
  · have HF := Lib.hid hf
    have HK := Lib.hid hk
    have hB := below2 (below1 w (.cells (tbA t p) 26)) hB1
    clear hf hk hB1 c0 c1 c2 c3
    go_wp2_with fail
    go_ret2
    exact hp_2 HF.out HK.out hB
  · have HF := Lib.hid hf
    have HX := Lib.hid (HX.out.below hB1)
    have HB1 := Lib.hid (below2 (below1 w (.cells (tbA t p) 26)) hB1)
    have HG := Lib.hid (M.lat_good hf)
    clear c0 c1 c2 c3 hB1 HC hf
    obtain ⟨c0, c1, c2, c3⟩ := HX.out
    have HC0 := Lib.hid (high_any t p HF.out.1 HG.out.nb.cyc (M.overs t 0 + 1) 0 w1 (by omega) HF.out.1.one (HT.out.below HB1.out))
    go_wp2_with fail
    refine HC0.out.mono ?_
    rintro e w2 ⟨⟨k, hk, rfl⟩, hB2⟩
    have hB := below2 HB1.out hB2
    have HK := Lib.hid hk
    clear hB2 hk
    go_wp2_with fail
    go_ret2
    exact hp_3 HF.out HK.out hB
end Go.Proofs.YtnhnjfoboepffaaGreat
