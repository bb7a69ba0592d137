/- DERIVED. The statement on joins, primes, parts and heights, walked. -/
import Derived.Test.YtnhnjfoboepffaaGreatOrdFcC
import Derived.Test.YtnhnjfoboepffaaGreatGr46
import Derived.Test.YtnhnjfoboepffaaGreatGr44
import Derived.Test.YtnhnjfoboepffaaGreatGr45
namespace Go.Proofs.YtnhnjfoboepffaaGreat
open Go.RowKit

theorem join_one (t : M.Tb) (a b : Int) : ∃ (n f : Int), ∀ w E w', JoinPost t a b w E w' → E = .returned (.tuple #[.int .i64 n, .int .i64 f]) ∧ Below w.heap.size w w' := by
  by_cases hf : M.form t
  · by_cases hk : (M.brk t).1 = 0
    · have hl : M.lat t := ⟨hf, M.brk_kind hk⟩
      cases hin : (M.inB t.elems.length a && M.inB t.elems.length b) with
      | false =>
        refine ⟨0, 7, ?_⟩
        rintro w E w' ⟨⟨h, _⟩ | ⟨_, h, _⟩ | ⟨_, _, rfl⟩ | ⟨_, h, _⟩, hB⟩
        · exact absurd hf h
        · exact absurd hk h
        · exact ⟨rfl, hB⟩
        · rw [hin] at h; cases h
      | true =>
        refine ⟨((M.jnD t a.toNat b.toNat : Nat) : Int), 0, ?_⟩
        rintro w E w' ⟨⟨h, _⟩ | ⟨_, h, _⟩ | ⟨_, h, _⟩ | ⟨_, _, rfl⟩, hB⟩
        · exact absurd hf h
        · exact absurd hk h
        · rw [hin] at h; cases h
        · exact ⟨rfl, hB⟩
    · refine ⟨0, 12, ?_⟩
      rintro w E w' ⟨⟨h, _⟩ | ⟨_, _, rfl⟩ | ⟨h, _⟩ | ⟨h, _⟩, hB⟩
      · exact absurd hf h
      · exact ⟨rfl, hB⟩
      · exact absurd (by rw [h.2]) hk
      · exact absurd (by rw [h.2]) hk
  · refine ⟨0, 4, ?_⟩
    rintro w E w' ⟨⟨_, rfl⟩ | ⟨h, _⟩ | ⟨h, _⟩ | ⟨h, _⟩, hB⟩
    · exact ⟨rfl, hB⟩
    · exact absurd h hf
    · exact absurd h.1 hf
    · exact absurd h.1 hf
theorem primes_one (t : M.Tb) : ∃ (l : List Int) (f : Int), l.length ≤ 1000000 ∧ ∀ w E w', PrimesPostF t w E w' → (∃ la c, E = .returned (.tuple #[.slice la l.length c, .int .i64 f]) ∧ IntSl w' la l) ∧ Below w.heap.size w w' := by
  by_cases hf : M.form t
  · by_cases hk : (M.brk t).1 = 0
    · refine ⟨M.listN (M.prm t) 12, 0, by have := M.listN_le (M.prm t) 12; omega, ?_⟩
      rintro w E w' ⟨⟨h, _⟩ | ⟨_, h, _⟩ | ⟨_, la, c, rfl, _, h⟩, hB⟩
      · exact absurd hf h
      · exact absurd hk h
      · exact ⟨⟨la, c, rfl, h⟩, hB⟩
    · refine ⟨[], 12, by simp, ?_⟩
      rintro w E w' ⟨⟨h, _⟩ | ⟨_, _, rfl⟩ | ⟨h, _⟩, hB⟩
      · exact absurd hf h
      · exact ⟨⟨none, 0, rfl, Or.inl rfl⟩, hB⟩
      · exact absurd (by rw [h.2]) hk
  · refine ⟨[], 4, by simp, ?_⟩
    rintro w E w' ⟨⟨_, rfl⟩ | ⟨h, _⟩ | ⟨h, _⟩, hB⟩
    · exact ⟨⟨none, 0, rfl, Or.inl rfl⟩, hB⟩
    · exact absurd h hf
    · exact absurd h.1 hf
theorem parts_one (t : M.Tb) (a : Int) : ∃ (l : List Int) (f : Int), l.length ≤ 1000000 ∧ ∀ w E w', PartsPost t a w E w' → (∃ la c, E = .returned (.tuple #[.slice la l.length c, .int .i64 f]) ∧ IntSl w' la l) ∧ Below w.heap.size w w' := by
  by_cases hf : M.form t
  · by_cases hk : (M.brk t).1 = 0
    · cases hin : M.inB t.elems.length a with
      | false =>
        refine ⟨[], 7, by simp, ?_⟩
        rintro w E w' ⟨⟨h, _⟩ | ⟨_, h, _⟩ | ⟨_, _, rfl⟩ | ⟨_, h, _⟩, hB⟩
        · exact absurd hf h
        · exact absurd hk h
        · exact ⟨⟨none, 0, rfl, Or.inl rfl⟩, hB⟩
        · rw [hin] at h; cases h
      | true =>
        refine ⟨M.listN (M.prt t a.toNat) 12, 0, by have := M.listN_le (M.prt t a.toNat) 12; omega, ?_⟩
        rintro w E w' ⟨⟨h, _⟩ | ⟨_, h, _⟩ | ⟨_, h, _⟩ | ⟨_, _, la, c, rfl, _, _, h⟩, hB⟩
        · exact absurd hf h
        · exact absurd hk h
        · rw [hin] at h; cases h
        · exact ⟨⟨la, c, rfl, h⟩, hB⟩
    · refine ⟨[], 12, by simp, ?_⟩
      rintro w E w' ⟨⟨h, _⟩ | ⟨_, _, rfl⟩ | ⟨h, _⟩ | ⟨h, _⟩, hB⟩
      · exact absurd hf h
      · exact ⟨⟨none, 0, rfl, Or.inl rfl⟩, hB⟩
      · exact absurd (by rw [h.2]) hk
      · exact absurd (by rw [h.2]) hk
  · refine ⟨[], 4, by simp, ?_⟩
    rintro w E w' ⟨⟨_, rfl⟩ | ⟨h, _⟩ | ⟨h, _⟩ | ⟨h, _⟩, hB⟩
    · exact ⟨⟨none, 0, rfl, Or.inl rfl⟩, hB⟩
    · exact absurd h hf
    · exact absurd h.1 hf
    · exact absurd h.1 hf
theorem parts_less {t : M.Tb} {a : Int} {w : World} {E : Ending} {w' : World} (h : PartsPostF t a w E w') : PartsPost t a w E w' := by
  obtain ⟨h, hB⟩ := h
  refine ⟨?_, hB⟩
  rcases h with h | h | h | ⟨h1, h2, la, c, e, q1, q2, q3, _⟩
  · exact Or.inl h
  · exact Or.inr (Or.inl h)
  · exact Or.inr (Or.inr (Or.inl h))
  · exact Or.inr (Or.inr (Or.inr ⟨h1, h2, la, c, e, q1, q2, q3⟩))
theorem height_one (t : M.Tb) : ∃ (n f : Int), ∀ w E w', HeightPost t w E w' → E = .returned (.tuple #[.int .i64 n, .int .i64 f]) ∧ Below w.heap.size w w' := by
  by_cases hf : M.form t
  · by_cases hk : (M.brk t).1 = 0
    · by_cases hh : ∃ k, M.isH t 0 k
      · obtain ⟨k, hk0⟩ := hh
        refine ⟨(k : Int), 0, ?_⟩
        rintro w E w' ⟨⟨h, _⟩ | ⟨_, h, _⟩ | ⟨_, j, h, rfl⟩, hB⟩
        · exact absurd hf h
        · exact absurd hk h
        · rw [M.isH_one h hk0]; exact ⟨rfl, hB⟩
      · refine ⟨0, 0, ?_⟩
        rintro w E w' ⟨⟨h, _⟩ | ⟨_, h, _⟩ | ⟨_, j, h, rfl⟩, hB⟩
        · exact absurd hf h
        · exact absurd hk h
        · exact absurd ⟨j, h⟩ hh
    · refine ⟨0, 12, ?_⟩
      rintro w E w' ⟨⟨h, _⟩ | ⟨_, _, rfl⟩ | ⟨h, _⟩, hB⟩
      · exact absurd hf h
      · exact ⟨rfl, hB⟩
      · exact absurd (by rw [h.2]) hk
  · refine ⟨0, 4, ?_⟩
    rintro w E w' ⟨⟨_, rfl⟩ | ⟨h, _⟩ | ⟨h, _⟩, hB⟩
    · exact ⟨rfl, hB⟩
    · exact absurd h hf
    · exact absurd h.1 hf
/-- A pair in its box. -/
structure PrBox (W : World) (B : Nat) (a b : Int) : Prop where
  c0 : W.cell? ⟨B, 0, none⟩ = some (.int .i64 a)
  c1 : W.cell? ⟨B, 1, none⟩ = some (.int .i64 b)
theorem prBox {W : World} {B : Nat} {a b : Int} {T : TypeId} (h : W.heap[B]? = some (.cells #[.int .i64 a, .int .i64 b] T (0, 0))) : PrBox W B a b :=
  ⟨by rw [Lib.cell_of_heap h]; rfl, by rw [Lib.cell_of_heap h]; rfl⟩
theorem PrBox.below {W W' : World} {B : Nat} {a b : Int} (h : PrBox W B a b) (hB : Below W.heap.size W W') : PrBox W' B a b := ⟨cell_below h.c0 hB, cell_below h.c1 hB⟩
abbrev prV (a b : Int) : Value := .agg #[.int .i64 a, .int .i64 b]

set_option maxHeartbeats 8000000 in
set_option maxRecDepth 100000 in
theorem orderJoins_any (t : M.Tb) (p : Tp) (a b : Int) (w : World) (ht : TbIn w t p) : Calls Tryz.prog 3 #[tbV t p, prV a b] w fun e w' => e = .returned (.bool true) ∧ Below w.heap.size w w' := by
  have hBB : Below w.heap.size w ((w.alloc (.cells (tbA t p) 26)).alloc (.cells #[.int .i64 a, .int .i64 b] 28)) := belowA (below1 _ _) _
  have HX := Lib.hid ((tbBox (t := t) (p := p) (box_new w (tbA t p) 26)).below (below1 _ (.cells #[.int .i64 a, .int .i64 b] 28)))
  have HP := Lib.hid (prBox (box_last w (.cells (tbA t p) 26) #[.int .i64 a, .int .i64 b] 28))
  have HT := Lib.hid ht
  have HC := Lib.hid (thinT_any t p _ (ht.below hBB))
  have HBB := Lib.hid hBB
  obtain ⟨c0, c1, c2, c3⟩ := HX.out
  clear ht hBB
  go_enter Tryz.func3, Tryz.ntmps3
  go_wp2_with fail
  refine HC.out.mono ?_
  rintro e w1 ⟨rfl, hB1⟩
  have HB := Lib.hid (below2 HBB.out hB1)
  have HX := Lib.hid (HX.out.below hB1)
  have HP := Lib.hid (HP.out.below hB1)
  clear HC c0 c1 c2 c3 hB1 HBB
  cases hth : M.thinB t with
  | false =>
    go_wp2_with fail
    refine (awake_any _).mono ?_
    rintro e w2 ⟨rfl, hB2⟩
    have hB := below2 HB.out hB2
    go_wp2_with fail
    go_ret
    exact ⟨rfl, hB⟩
  | true =>
    have HS := Lib.hid (small_of hth)
    obtain ⟨n1, f1, h1⟩ := join_one t a b
    obtain ⟨l2, f2, m2, h2⟩ := primes_one t
    obtain ⟨l3, f3, m3, h3⟩ := parts_one t a
    obtain ⟨n4, f4, h4⟩ := height_one t
    have H1 := Lib.hid h1
    have H2 := Lib.hid h2
    have H3 := Lib.hid h3
    have H4 := Lib.hid h4
    have M2 := Lib.hid m2
    have M3 := Lib.hid m3
    clear h1 h2 h3 h4 hth m2 m3
    obtain ⟨c0, c1, c2, c3⟩ := HX.out
    go_wp2_with fail
    refine (copy_any t p w1 HS.out.h1 HS.out.h2 HS.out.h3 HS.out.h4 (HT.out.below HB.out)).mono ?_
    rintro e w2 ⟨p', rfl, ht2, hB2⟩
    have hbx := below2 hB2 (below1 w2 (.cells (tbA t p') 26))
    have HX := Lib.hid (HX.out.below hbx)
    have HP := Lib.hid (HP.out.below hbx)
    have HB := Lib.hid (below2 HB.out hbx)
    have HY := Lib.hid (tbBox (t := t) (p := p') (box_new w2 (tbA t p') 26))
    have HT2 := Lib.hid (ht2.below (below1 w2 (.cells (tbA t p') 26)))
    clear ht2 c0 c1 c2 c3 hB2 hbx
    obtain ⟨c0, c1, c2, c3⟩ := HY.out
    obtain ⟨p0, p1⟩ := HP.out
    go_wp2_with fail
    refine (joinX_any t p' a b _ HS.out.h4 HT2.out).mono ?_
    intro e w3 hq
    obtain ⟨rfl, hB⟩ := H1.out _ _ _ hq
    have HX := Lib.hid (HX.out.below hB)
    have HP := Lib.hid (HP.out.below hB)
    have HY := Lib.hid (HY.out.below hB)
    have HT2 := Lib.hid (HT2.out.below hB)
    have HB := Lib.hid (below2 HB.out hB)
    clear hq hB c0 c1 c2 c3 p0 p1
    obtain ⟨c0, c1, c2, c3⟩ := HY.out
    go_wp2_with fail
    refine (primesF_any t p' _ HS.out.h4 HT2.out).mono ?_
    intro e w4 hq
    obtain ⟨⟨la, lc, rfl, hl⟩, hB⟩ := H2.out _ _ _ hq
    have HX := Lib.hid (HX.out.below hB)
    have HP := Lib.hid (HP.out.below hB)
    have HY := Lib.hid (HY.out.below hB)
    have HT2 := Lib.hid (HT2.out.below hB)
    have HB := Lib.hid (below2 HB.out hB)
    have HLla := Lib.hid hl
    clear hq hB c0 c1 c2 c3 hl
    obtain ⟨c0, c1, c2, c3⟩ := HY.out
    obtain ⟨p0, p1⟩ := HP.out
    go_wp2_with fail
    refine (partsF_any t p' a _ HS.out.h4 HT2.out).mono ?_
    intro e w5 hq
    obtain ⟨⟨ka, kc, rfl, hl⟩, hB⟩ := H3.out _ _ _ (parts_less hq)
    have HX := Lib.hid (HX.out.below hB)
    have HP := Lib.hid (HP.out.below hB)
    have HY := Lib.hid (HY.out.below hB)
    have HT2 := Lib.hid (HT2.out.below hB)
    have HB := Lib.hid (below2 HB.out hB)
    have HLla := Lib.hid (HLla.out.below hB)
    have HLka := Lib.hid hl
    clear hq hB c0 c1 c2 c3 p0 p1 hl
    obtain ⟨c0, c1, c2, c3⟩ := HY.out
    go_wp2_with fail
    refine (heightX_any t p' _ HS.out.h4 HT2.out).mono ?_
    intro e w6 hq
    obtain ⟨rfl, hB⟩ := H4.out _ _ _ hq
    have HX := Lib.hid (HX.out.below hB)
    have HP := Lib.hid (HP.out.below hB)
    have HY := Lib.hid (HY.out.below hB)
    have HT2 := Lib.hid (HT2.out.below hB)
    have HB := Lib.hid (below2 HB.out hB)
    have HLla := Lib.hid (HLla.out.below hB)
    have HLka := Lib.hid (HLka.out.below hB)
    clear hq hB c0 c1 c2 c3
    obtain ⟨c0, c1, c2, c3⟩ := HX.out
    obtain ⟨p0, p1⟩ := HP.out
    go_wp2_with fail
    refine (refJoin_any t p a b _ HS.out.hs HS.out.hes HS.out.h4 HS.out.h1 (HT.out.below HB.out)).mono ?_
    intro e w7 hq
    obtain ⟨rfl, hB⟩ := H1.out _ _ _ hq
    have HX := Lib.hid (HX.out.below hB)
    have HP := Lib.hid (HP.out.below hB)
    have HY := Lib.hid (HY.out.below hB)
    have HT2 := Lib.hid (HT2.out.below hB)
    have HB := Lib.hid (below2 HB.out hB)
    have HLla := Lib.hid (HLla.out.below hB)
    have HLka := Lib.hid (HLka.out.below hB)
    clear hq hB c0 c1 c2 c3 p0 p1
    obtain ⟨c0, c1, c2, c3⟩ := HX.out
    go_wp2_with fail
    refine (refPrimes_any t p _ HS.out.hs HS.out.hes HS.out.h4 (HT.out.below HB.out)).mono ?_
    intro e w8 hq
    obtain ⟨⟨ma, mc, rfl, hl⟩, hB⟩ := H2.out _ _ _ hq
    have HX := Lib.hid (HX.out.below hB)
    have HP := Lib.hid (HP.out.below hB)
    have HY := Lib.hid (HY.out.below hB)
    have HT2 := Lib.hid (HT2.out.below hB)
    have HB := Lib.hid (below2 HB.out hB)
    have HLla := Lib.hid (HLla.out.below hB)
    have HLka := Lib.hid (HLka.out.below hB)
    have HLma := Lib.hid hl
    clear hq hB c0 c1 c2 c3 hl
    obtain ⟨c0, c1, c2, c3⟩ := HX.out
    obtain ⟨p0, p1⟩ := HP.out
    go_wp2_with fail
    refine (refParts_any t p a _ HS.out.hs HS.out.hes HS.out.h4 HS.out.h1 (HT.out.below HB.out)).mono ?_
    intro e w9 hq
    obtain ⟨⟨na, nc, rfl, hl⟩, hB⟩ := H3.out _ _ _ hq
    have HX := Lib.hid (HX.out.below hB)
    have HP := Lib.hid (HP.out.below hB)
    have HY := Lib.hid (HY.out.below hB)
    have HT2 := Lib.hid (HT2.out.below hB)
    have HB := Lib.hid (below2 HB.out hB)
    have HLla := Lib.hid (HLla.out.below hB)
    have HLka := Lib.hid (HLka.out.below hB)
    have HLma := Lib.hid (HLma.out.below hB)
    have HLna := Lib.hid hl
    clear hq hB c0 c1 c2 c3 p0 p1 hl
    obtain ⟨c0, c1, c2, c3⟩ := HX.out
    go_wp2_with fail
    refine (refHeight_any t p _ HS.out.hs HS.out.hes HS.out.h4 (HT.out.below HB.out)).mono ?_
    intro e w10 hq
    obtain ⟨rfl, hB⟩ := H4.out _ _ _ hq
    have HX := Lib.hid (HX.out.below hB)
    have HP := Lib.hid (HP.out.below hB)
    have HY := Lib.hid (HY.out.below hB)
    have HT2 := Lib.hid (HT2.out.below hB)
    have HB := Lib.hid (below2 HB.out hB)
    have HLla := Lib.hid (HLla.out.below hB)
    have HLka := Lib.hid (HLka.out.below hB)
    have HLma := Lib.hid (HLma.out.below hB)
    have HLna := Lib.hid (HLna.out.below hB)
    clear hq hB c0 c1 c2 c3
    have e1 : (n1 == n1) = true := by simp
    have e2 : (f1 == f1) = true := by simp
    have e3 : (f2 == f2) = true := by simp
    have e4 : (f3 == f3) = true := by simp
    have e5 : (f4 == f4) = true := by simp
    have e6 : (n4 == n4) = true := by simp
    go_wp2_with fail
    refine (sameInts_any la ma lc mc l2 l2 _ M2.out HLla.out HLma.out).mono ?_
    rintro e v1 ⟨rfl, hB⟩
    rw [decide_eq_true rfl]
    have HX := Lib.hid (HX.out.below hB)
    have HY := Lib.hid (HY.out.below hB)
    have HT2 := Lib.hid (HT2.out.below hB)
    have HLka := Lib.hid (HLka.out.below hB)
    have HLna := Lib.hid (HLna.out.below hB)
    have HB := Lib.hid (below2 HB.out hB)
    clear hB
    go_wp2_with fail
    refine (sameInts_any ka na kc nc l3 l3 _ M3.out HLka.out HLna.out).mono ?_
    rintro e v2 ⟨rfl, hB⟩
    rw [decide_eq_true rfl]
    have HX := Lib.hid (HX.out.below hB)
    have HY := Lib.hid (HY.out.below hB)
    have HT2 := Lib.hid (HT2.out.below hB)
    have HB := Lib.hid (below2 HB.out hB)
    clear hB
    obtain ⟨c0, c1, c2, c3⟩ := HX.out
    obtain ⟨y0, y1, y2, y3⟩ := HY.out
    go_wp2_with fail
    refine (sameTable_same t p' p _ HS.out.h1 HS.out.h2 HS.out.h3 HS.out.h4 HT2.out (HT.out.below HB.out)).mono ?_
    rintro e v3 ⟨rfl, hB⟩
    have HB := Lib.hid (below2 HB.out hB)
    clear c0 c1 c2 c3 y0 y1 y2 y3 hB
    go_wp2_with fail
    refine (awake_any _).mono ?_
    rintro e v4 ⟨rfl, hB⟩
    have hB := below2 HB.out hB
    go_wp2_with fail
    go_ret
    exact ⟨rfl, hB⟩
end Go.Proofs.YtnhnjfoboepffaaGreat
