/- DERIVED. The document's own Primes, Parts. -/
import Derived.Test.YtnhnjfoboepffaaGreatOrdFbC
import Derived.Test.YtnhnjfoboepffaaGreatGr46
import Derived.Test.YtnhnjfoboepffaaGreatGr26
namespace Go.Proofs.YtnhnjfoboepffaaGreat
open Go.RowKit

set_option maxHeartbeats 4000000 in
set_option maxRecDepth 100000 in
theorem refPrimes_any (t : M.Tb) (p : Tp) (w : World) (hs : t.name.size ≤ maxLen) (hes : ∀ s, s ∈ t.elems → s.size ≤ maxLen) (hal : ∀ l, l ∈ t.above → l.length ≤ 1000000) (ht : TbIn w t p) :
    Calls Tryz.prog 12 #[tbV t p] w (PrimesPostF t w) := by
  have HX := Lib.hid (tbBox (t := t) (p := p) (box_new w (tbA t p) 26))
  have HT := Lib.hid ht
  have HC := Lib.hid (refIsLattice_any t p (w.alloc (.cells (tbA t p) 26)) hs hes hal (ht.below (below1 _ _)))
  obtain ⟨c0, c1, c2, c3⟩ := HX.out
  clear ht hs hes hal
  go_enter Tryz.func12, Tryz.ntmps12
  go_wp2_with fail
  refine HC.out.mono ?_
  rintro e w1 ⟨⟨hf, rfl⟩ | ⟨hf, hk, rfl⟩ | ⟨hf, rfl⟩, hB1⟩
  · have HF := Lib.hid hf
    have hB := below2 (below1 w (.cells (tbA t p) 26)) hB1
    clear hf hB1 c0 c1 c2 c3
    go_wp2_with fail
    go_ret2
    exact pmF_1 HF.out hB
  · have HF := Lib.hid hf
    have HK := Lib.hid hk
    have hB := below2 (below1 w (.cells (tbA t p) 26)) hB1
    clear hf hk hB1 c0 c1 c2 c3
    go_wp2_with fail
    go_ret2
    exact pmF_2 HF.out HK.out hB
  · have HF := Lib.hid hf
    have HX := Lib.hid (HX.out.below hB1)
    have HB1 := Lib.hid (below2 (below1 w (.cells (tbA t p) 26)) hB1)
    clear c0 c1 c2 c3 hB1 HC hf
    obtain ⟨c0, c1, c2, c3⟩ := HX.out
    go_wp2_with fail
    refine (refPrimesOf_any t p w1 HF.out (HT.out.below HB1.out)).mono ?_
    rintro e w2 ⟨la, c, rfl, h1, h2, h3, hB2⟩
    have hB := below2 HB1.out hB2
    have H2 := Lib.hid h2
    have H3 := Lib.hid h3
    clear h1 h2 h3 hB2
    go_wp2_with fail
    go_ret2
    exact pmF_3 HF.out H2.out H3.out hB

set_option maxHeartbeats 4000000 in
set_option maxRecDepth 100000 in
theorem refParts_any (t : M.Tb) (p : Tp) (a : Int) (w : World) (hs : t.name.size ≤ maxLen) (hes : ∀ s, s ∈ t.elems → s.size ≤ maxLen) (hal : ∀ l, l ∈ t.above → l.length ≤ 1000000) (hel : t.elems.length ≤ 1000000) (ht : TbIn w t p) :
    Calls Tryz.prog 13 #[tbV t p, .int .i64 a] w (PartsPost t a w) := by
  have HX := Lib.hid (tbBox (t := t) (p := p) (box_new w (tbA t p) 26))
  have HT := Lib.hid ht
  have HC := Lib.hid (refIsLattice_any t p (w.alloc (.cells (tbA t p) 26)) hs hes hal (ht.below (below1 _ _)))
  obtain ⟨c0, c1, c2, c3⟩ := HX.out
  clear ht hs hes hal
  go_enter Tryz.func13, Tryz.ntmps13
  go_wp2_with fail
  refine HC.out.mono ?_
  rintro e w1 ⟨⟨hf, rfl⟩ | ⟨hf, hk, rfl⟩ | ⟨hf, rfl⟩, hB1⟩
  · have HF := Lib.hid hf
    have hB := below2 (below1 w (.cells (tbA t p) 26)) hB1
    clear hf hB1 c0 c1 c2 c3
    go_wp2_with fail
    go_ret2
    exact pp_1 HF.out hB
  · have HF := Lib.hid hf
    have HK := Lib.hid hk
    have hB := below2 (below1 w (.cells (tbA t p) 26)) hB1
    clear hf hk hB1 c0 c1 c2 c3
    go_wp2_with fail
    go_ret2
    exact pp_2 HF.out HK.out hB
  · have HF := Lib.hid hf
    have HX := Lib.hid (HX.out.below hB1)
    have HB1 := Lib.hid (below2 (below1 w (.cells (tbA t p) 26)) hB1)
    clear c0 c1 c2 c3 hB1 HC hf
    obtain ⟨c0, c1, c2, c3⟩ := HX.out
    go_wp2_with fail
    refine (isElem_any t p a w1 hel).mono ?_
    rintro e w2 ⟨rfl, hB2⟩
    have HX := Lib.hid (HX.out.below hB2)
    have HB2 := Lib.hid (below2 HB1.out hB2)
    clear c0 c1 c2 c3 hB2 HB1
    obtain ⟨c0, c1, c2, c3⟩ := HX.out
    cases hin : M.inB t.elems.length a with
    | false =>
      have HIN := Lib.hid hin
      clear hin
      go_wp2_with fail
      go_ret2
      exact pp_3 HF.out HIN.out HB2.out
    | true =>
      have HIN := Lib.hid hin
      unfold M.inB at hin
      simp only [Bool.and_eq_true, decide_eq_true_eq] at hin
      obtain ⟨k, rfl⟩ : ∃ k : Nat, a = k := ⟨a.toNat, by omega⟩
      have hk : k < t.elems.length := by omega
      clear hin
      go_wp2_with fail
      refine (refPartsOf_any t p k w2 HF.out hk (HT.out.below HB2.out)).mono ?_
      rintro e w3 ⟨la, c, rfl, h1, h2, h3, hB3⟩
      have hB := below2 HB2.out hB3
      have H1 := Lib.hid h1
      have H2 := Lib.hid h2
      have H3 := Lib.hid h3
      clear h1 h2 h3 hB3
      go_wp2_with fail
      go_ret2
      exact pp_4 (a := (k : Int)) HF.out HIN.out H1.out H2.out H3.out hB
end Go.Proofs.YtnhnjfoboepffaaGreat
