/- DERIVED. The statements' own join and below, at lattices. -/
import Derived.Test.YtlpindnbkgaplaaOrdBgC
import Derived.Test.YtlpindnbkgaplaaGr27
import Derived.Test.YtlpindnbkgaplaaGr22
namespace Go.Proofs.Ytlpindnbkgaplaa
open Go.RowKit

theorem inB_nat {n a : Nat} (h : a < n) : M.inB n (a : Int) = true := by unfold M.inB; simp; omega

set_option maxHeartbeats 4000000 in
set_option maxRecDepth 100000 in
theorem lawBelow_any (t : M.Tb) (p : Tp) (a b : Nat) (w : World) (hs : Small t) (hf : M.form t) (ha : a < t.elems.length) (hb : b < t.elems.length) (ht : TbIn w t p) :
    Calls Try.prog 26 #[tbV t p, .int .i64 a, .int .i64 b] w fun e w' => e = .returned (.bool (M.leB t a b)) ∧ Below w.heap.size w w' := by
  have HC := Lib.hid (copy_any t p (w.alloc (.cells (tbA t p) 26)) hs.h1 hs.h2 hs.h3 hs.h4 (ht.below (below1 _ _)))
  obtain ⟨c0, c1, c2, c3⟩ := tbBox (t := t) (p := p) (box_new w (tbA t p) 26)
  have HS := Lib.hid hs
  have HF := Lib.hid hf
  have HIN := Lib.hid (show (M.inB t.elems.length (a : Int) && M.inB t.elems.length (b : Int)) = true by rw [inB_nat ha, inB_nat hb]; rfl)
  clear ht hs hf
  go_enter Try.func26, Try.ntmps26
  go_wp2_with fail
  refine HC.out.mono ?_
  rintro e w1 ⟨p', rfl, ht1, hB1⟩
  have HB1 := Lib.hid (below2 (below1 w (.cells (tbA t p) 26)) hB1)
  clear c0 c1 c2 c3 hB1 HC
  go_wp2_with fail
  refine (below_any t p' a b w1 HS.out.h4 ht1).mono ?_
  rintro e w2 ⟨⟨h, _⟩ | ⟨_, h, _⟩ | ⟨_, _, rfl⟩, hB2⟩
  · exact absurd HF.out h
  · rw [HIN.out] at h; cases h
  · have hB := below2 HB1.out hB2
    rw [Int.toNat_natCast, Int.toNat_natCast]
    clear hB2 ht1
    go_wp2_with fail
    go_ret
    exact ⟨rfl, hB⟩

set_option maxHeartbeats 4000000 in
set_option maxRecDepth 100000 in
theorem lawJoin_any (t : M.Tb) (p : Tp) (a b : Nat) (w : World) (hs : Small t) (hl : M.lat t) (ha : a < t.elems.length) (hb : b < t.elems.length) (ht : TbIn w t p) :
    Calls Try.prog 25 #[tbV t p, .int .i64 a, .int .i64 b] w fun e w' => e = .returned (.int .i64 (M.jnD t a b : Nat)) ∧ Below w.heap.size w w' := by
  have HC := Lib.hid (copy_any t p (w.alloc (.cells (tbA t p) 26)) hs.h1 hs.h2 hs.h3 hs.h4 (ht.below (below1 _ _)))
  have HX := Lib.hid (tbBox (t := t) (p := p) (box_new w (tbA t p) 26))
  have HS := Lib.hid hs
  have HL := Lib.hid hl
  have HIN := Lib.hid (show (M.inB t.elems.length (a : Int) && M.inB t.elems.length (b : Int)) = true by rw [inB_nat ha, inB_nat hb]; rfl)
  have HJ := Lib.hid (inB_nat (M.jnD_is (M.lat_good hl) ha hb).lt)
  obtain ⟨c0, c1, c2, c3⟩ := HX.out
  clear ht hs hl
  go_enter Try.func25, Try.ntmps25
  go_wp2_with fail
  refine HC.out.mono ?_
  rintro e w1 ⟨p', rfl, ht1, hB1⟩
  have HX := Lib.hid (HX.out.below hB1)
  have HB1 := Lib.hid (below2 (below1 w (.cells (tbA t p) 26)) hB1)
  clear c0 c1 c2 c3 hB1 HC
  go_wp2_with fail
  refine (joinX_any t p' a b w1 HS.out.h4 ht1).mono ?_
  rintro e w2 ⟨⟨h, _⟩ | ⟨_, h, _⟩ | ⟨_, h, _⟩ | ⟨_, _, rfl⟩, hB2⟩
  · exact absurd HL.out.1 h
  · exact absurd (by rw [HL.out.2]) h
  · rw [HIN.out] at h; cases h
  · have HX := Lib.hid (HX.out.below hB2)
    have HB2 := Lib.hid (below2 HB1.out hB2)
    rw [Int.toNat_natCast, Int.toNat_natCast]
    clear hB2 ht1 HB1
    obtain ⟨c0, c1, c2, c3⟩ := HX.out
    go_wp2_with fail
    refine (isElem_any t p _ w2 HS.out.h1).mono ?_
    rintro e w3 ⟨rfl, hB3⟩
    have hB := below2 HB2.out hB3
    rw [HJ.out]
    clear c0 c1 c2 c3 hB3
    go_wp2_with fail
    go_ret
    exact ⟨rfl, hB⟩
end Go.Proofs.Ytlpindnbkgaplaa
