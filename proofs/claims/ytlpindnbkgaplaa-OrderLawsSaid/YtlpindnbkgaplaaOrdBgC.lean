/- DERIVED. The statement on proofs, walked. -/
import Derived.Test.YtlpindnbkgaplaaGr26
import Derived.Test.YtlpindnbkgaplaaGr13
namespace Go.Proofs.Ytlpindnbkgaplaa
open Go.RowKit

/-- What Check and Prove answer is told by the table. -/
theorem prove_one (t : M.Tb) : ∃ (c : Int) (x : Nat × Nat × Nat) (f : Int), (∀ w E w', ChkPost t w E w' → E = .returned (.int .i64 c) ∧ Below w.heap.size w w') ∧ (∀ w E w', ProvePost t w E w' → E = .returned (.tuple #[brkV x, .int .i64 f]) ∧ Below w.heap.size w w') := by
  by_cases hf : M.form t
  · by_cases hk : (M.brk t).1 = 0
    · refine ⟨0, (0, 0, 0), 0, ?_, ?_⟩
      · rintro w E w' ⟨⟨_, rfl⟩ | ⟨h, _⟩, hB⟩
        · exact ⟨rfl, hB⟩
        · exact absurd hf h
      · rintro w E w' ⟨⟨h, _⟩ | ⟨_, h, _⟩ | ⟨_, _, rfl⟩, hB⟩
        · exact absurd hf h
        · exact absurd hk h
        · exact ⟨rfl, hB⟩
    · refine ⟨0, M.brk t, 12, ?_, ?_⟩
      · rintro w E w' ⟨⟨_, rfl⟩ | ⟨h, _⟩, hB⟩
        · exact ⟨rfl, hB⟩
        · exact absurd hf h
      · rintro w E w' ⟨⟨h, _⟩ | ⟨_, _, rfl⟩ | ⟨_, h, _⟩, hB⟩
        · exact absurd hf h
        · exact ⟨rfl, hB⟩
        · exact absurd (by rw [h]) hk
  · refine ⟨4, (0, 0, 0), 4, ?_, ?_⟩
    · rintro w E w' ⟨⟨h, _⟩ | ⟨_, rfl⟩, hB⟩
      · exact absurd h hf
      · exact ⟨rfl, hB⟩
    · rintro w E w' ⟨⟨_, rfl⟩ | ⟨h, _⟩ | ⟨h, _⟩, hB⟩
      · exact ⟨rfl, hB⟩
      · exact absurd h hf
      · exact absurd h hf

/-- What a table that is not more than the statements look at keeps to. -/
structure Small (t : M.Tb) : Prop where
  h1 : t.elems.length ≤ 1000000
  h2 : t.above.length ≤ 1000000
  h3 : t.wrong.length ≤ 1000000
  h4 : ∀ l, l ∈ t.above → l.length ≤ 1000000
  hs : t.name.size ≤ maxLen
  hes : ∀ s, s ∈ t.elems → s.size ≤ maxLen
theorem small_of {t : M.Tb} (h : M.thinB t = true) : Small t := by
  obtain ⟨⟨a, b, c, d⟩, e, f⟩ := M.thin_parts.1 h
  exact ⟨by omega, by omega, by omega, fun l hl => by have := f l hl; omega, by unfold maxLen; omega, fun s hs => by have := e s hs; unfold maxLen; omega⟩

set_option maxHeartbeats 8000000 in
set_option maxRecDepth 100000 in
theorem orderProves_any (t : M.Tb) (p : Tp) (w : World) (ht : TbIn w t p) : Calls Try.prog 3 #[tbV t p] w fun e w' => e = .returned (.bool true) ∧ Below w.heap.size w w' := by
  have HX := Lib.hid (tbBox (t := t) (p := p) (box_new w (tbA t p) 26))
  have HT := Lib.hid ht
  have HC := Lib.hid (thinT_any t p (w.alloc (.cells (tbA t p) 26)) (ht.below (below1 _ _)))
  obtain ⟨c0, c1, c2, c3⟩ := HX.out
  clear ht
  go_enter Try.func3, Try.ntmps3
  go_wp2_with fail
  refine HC.out.mono ?_
  rintro e w1 ⟨rfl, hB1⟩
  have HB1 := Lib.hid (below2 (below1 _ _) hB1)
  have HX := Lib.hid (HX.out.below hB1)
  clear HC c0 c1 c2 c3 hB1
  cases hth : M.thinB t with
  | false =>
    go_wp2_with fail
    refine (awake_any _).mono ?_
    rintro e w2 ⟨rfl, hB2⟩
    have hB := below2 HB1.out hB2
    go_wp2_with fail
    go_ret
    exact ⟨rfl, hB⟩
  | true =>
    have HS := Lib.hid (small_of hth)
    obtain ⟨c, x, f, hc, hp⟩ := prove_one t
    have HCP := Lib.hid hc
    have HPP := Lib.hid hp
    clear hc hp hth
    obtain ⟨c0, c1, c2, c3⟩ := HX.out
    go_wp2_with fail
    refine (copy_any t p w1 HS.out.h1 HS.out.h2 HS.out.h3 HS.out.h4 (HT.out.below HB1.out)).mono ?_
    rintro e w2 ⟨p', rfl, ht2, hB2⟩
    have hbx := below2 hB2 (below1 w2 (.cells (tbA t p') 26))
    have HX := Lib.hid (HX.out.below hbx)
    have HB2 := Lib.hid (below2 HB1.out hbx)
    have HY := Lib.hid (tbBox (t := t) (p := p') (box_new w2 (tbA t p') 26))
    have HT2 := Lib.hid (ht2.below (below1 w2 (.cells (tbA t p') 26)))
    clear ht2 c0 c1 c2 c3 hB2 HB1 hbx
    obtain ⟨y0, y1, y2, y3⟩ := HY.out
    go_wp2_with fail
    refine (check_any t p' _ HS.out.h4 HT2.out).mono ?_
    intro e w3 hq
    obtain ⟨rfl, hB3⟩ := HCP.out _ _ _ hq
    have HX := Lib.hid (HX.out.below hB3)
    have HY := Lib.hid (HY.out.below hB3)
    have HT2 := Lib.hid (HT2.out.below hB3)
    have HB3 := Lib.hid (below2 HB2.out hB3)
    clear hq hB3 HB2 y0 y1 y2 y3
    obtain ⟨y0, y1, y2, y3⟩ := HY.out
    go_wp2_with fail
    refine (prove_any t p' _ HS.out.h4 HT2.out).mono ?_
    intro e w4 hq
    obtain ⟨rfl, hB4⟩ := HPP.out _ _ _ hq
    have hbx := below2 hB4 (below1 w4 (.cells #[.int .u8 x.1, .int .i64 x.2.1, .int .i64 x.2.2] 33))
    have HX := Lib.hid (HX.out.below hbx)
    have HY := Lib.hid (HY.out.below hbx)
    have HT2 := Lib.hid (HT2.out.below hbx)
    have HB4 := Lib.hid (below2 HB3.out hbx)
    have HZ := Lib.hid (box_new w4 #[.int .u8 x.1, .int .i64 x.2.1, .int .i64 x.2.2] 33)
    clear hq hB4 HB3 y0 y1 y2 y3 hbx
    obtain ⟨c0, c1, c2, c3⟩ := HX.out
    go_wp2_with fail
    refine (refProve_any t p _ HS.out.hs HS.out.hes HS.out.h4 (HT.out.below HB4.out)).mono ?_
    intro e w5 hq
    obtain ⟨rfl, hB5⟩ := HPP.out _ _ _ hq
    have hbx := below2 hB5 (below1 w5 (.cells #[.int .u8 x.1, .int .i64 x.2.1, .int .i64 x.2.2] 33))
    have HX := Lib.hid (HX.out.below hbx)
    have HY := Lib.hid (HY.out.below hbx)
    have HT2 := Lib.hid (HT2.out.below hbx)
    have HB5 := Lib.hid (below2 HB4.out hbx)
    have HZ := Lib.hid (heap_below HZ.out hbx)
    have HU := Lib.hid (box_new w5 #[.int .u8 x.1, .int .i64 x.2.1, .int .i64 x.2.2] 33)
    clear hq hB5 HB4 c0 c1 c2 c3 hbx
    obtain ⟨c0, c1, c2, c3⟩ := HX.out
    go_wp2_with fail
    refine (refCheck_any t p _ HS.out.hs HS.out.hes HS.out.h4 (HT.out.below HB5.out)).mono ?_
    intro e w6 hq
    obtain ⟨rfl, hB6⟩ := HCP.out _ _ _ hq
    have HX := Lib.hid (HX.out.below hB6)
    have HY := Lib.hid (HY.out.below hB6)
    have HT2 := Lib.hid (HT2.out.below hB6)
    have HB6 := Lib.hid (below2 HB5.out hB6)
    have HZ := Lib.hid (heap_below HZ.out hB6)
    have HU := Lib.hid (heap_below HU.out hB6)
    clear hq hB6 HB5 c0 c1 c2 c3
    obtain ⟨c0, c1, c2, c3⟩ := HX.out
    obtain ⟨y0, y1, y2, y3⟩ := HY.out
    have z0 : w6.cell? ⟨w4.heap.size, 0, none⟩ = some (.int .u8 x.1) := by rw [Lib.cell_of_heap HZ.out]; rfl
    have z1 : w6.cell? ⟨w4.heap.size, 1, none⟩ = some (.int .i64 x.2.1) := by rw [Lib.cell_of_heap HZ.out]; rfl
    have z2 : w6.cell? ⟨w4.heap.size, 2, none⟩ = some (.int .i64 x.2.2) := by rw [Lib.cell_of_heap HZ.out]; rfl
    have u0 : w6.cell? ⟨w5.heap.size, 0, none⟩ = some (.int .u8 x.1) := by rw [Lib.cell_of_heap HU.out]; rfl
    have u1 : w6.cell? ⟨w5.heap.size, 1, none⟩ = some (.int .i64 x.2.1) := by rw [Lib.cell_of_heap HU.out]; rfl
    have u2 : w6.cell? ⟨w5.heap.size, 2, none⟩ = some (.int .i64 x.2.2) := by rw [Lib.cell_of_heap HU.out]; rfl
    go_wp2_with fail
    refine (sameTable_same t p' p _ HS.out.h1 HS.out.h2 HS.out.h3 HS.out.h4 HT2.out (HT.out.below HB6.out)).mono ?_
    rintro e w7 ⟨rfl, hB7⟩
    have HB7 := Lib.hid (below2 HB6.out hB7)
    clear hB7
    go_wp2_with fail
    refine (awake_any _).mono ?_
    rintro e w8 ⟨rfl, hB8⟩
    have hB := below2 HB7.out hB8
    go_wp2_with fail
    go_ret
    exact ⟨rfl, hB⟩
end Go.Proofs.Ytlpindnbkgaplaa
