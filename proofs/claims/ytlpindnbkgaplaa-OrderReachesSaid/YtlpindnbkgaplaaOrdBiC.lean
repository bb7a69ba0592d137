/- DERIVED. The statement on what is above, walked. -/
import Derived.Test.YtlpindnbkgaplaaOrdBgC
import Derived.Test.YtlpindnbkgaplaaGr27
namespace Go.Proofs.Ytlpindnbkgaplaa
open Go.RowKit

/-- What Reach and Below answer is told by the table and the elements. -/
theorem reach_one (t : M.Tb) (a : Int) : ∃ (l : List Int) (f : Int), l.length ≤ 1000000 ∧ ∀ w E w', ReachPost t a w E w' → (∃ la c, E = .returned (.tuple #[.slice la l.length c, .int .i64 f]) ∧ IntSl w' la l) ∧ Below w.heap.size w w' := by
  by_cases hf : M.form t
  · cases hin : M.inB t.elems.length a with
    | false =>
      refine ⟨[], 7, by simp, ?_⟩
      rintro w E w' ⟨⟨h, _⟩ | ⟨_, _, rfl⟩ | ⟨_, h, _⟩, hB⟩
      · exact absurd hf h
      · exact ⟨⟨none, 0, rfl, Or.inl rfl⟩, hB⟩
      · rw [hin] at h; cases h
    | true =>
      refine ⟨M.listN (M.know t a.toNat) 12, 0, by have := M.listN_le (M.know t a.toNat) 12; omega, ?_⟩
      rintro w E w' ⟨⟨h, _⟩ | ⟨_, h, _⟩ | ⟨_, _, la, c, rfl, h⟩, hB⟩
      · exact absurd hf h
      · rw [hin] at h; cases h
      · exact ⟨⟨la, c, rfl, h⟩, hB⟩
  · refine ⟨[], 4, by simp, ?_⟩
    rintro w E w' ⟨⟨_, rfl⟩ | ⟨h, _⟩ | ⟨h, _⟩, hB⟩
    · exact ⟨⟨none, 0, rfl, Or.inl rfl⟩, hB⟩
    · exact absurd h hf
    · exact absurd h hf
theorem below_one (t : M.Tb) (a b : Int) : ∃ (x : Bool) (f : Int), ∀ w E w', BelowPost t a b w E w' → E = .returned (.tuple #[.bool x, .int .i64 f]) ∧ Below w.heap.size w w' := by
  by_cases hf : M.form t
  · cases hin : (M.inB t.elems.length a && M.inB t.elems.length b) with
    | false =>
      refine ⟨false, 7, ?_⟩
      rintro w E w' ⟨⟨h, _⟩ | ⟨_, _, rfl⟩ | ⟨_, h, _⟩, hB⟩
      · exact absurd hf h
      · exact ⟨rfl, hB⟩
      · rw [hin] at h; cases h
    | true =>
      refine ⟨(M.know t a.toNat).testBit b.toNat, 0, ?_⟩
      rintro w E w' ⟨⟨h, _⟩ | ⟨_, h, _⟩ | ⟨_, _, rfl⟩, hB⟩
      · exact absurd hf h
      · rw [hin] at h; cases h
      · exact ⟨rfl, hB⟩
  · refine ⟨false, 4, ?_⟩
    rintro w E w' ⟨⟨_, rfl⟩ | ⟨h, _⟩ | ⟨h, _⟩, hB⟩
    · exact ⟨rfl, hB⟩
    · exact absurd h hf
    · exact absurd h hf

/-- A pair in its box. -/
structure PrBox (W : World) (B : Nat) (a b : Int) : Prop where
  c0 : W.cell? ⟨B, 0, none⟩ = some (.int .i64 a)
  c1 : W.cell? ⟨B, 1, none⟩ = some (.int .i64 b)
theorem prBox {W : World} {B : Nat} {a b : Int} {T : TypeId} (h : W.heap[B]? = some (.cells #[.int .i64 a, .int .i64 b] T (0, 0))) : PrBox W B a b :=
  ⟨by rw [Lib.cell_of_heap h]; rfl, by rw [Lib.cell_of_heap h]; rfl⟩
theorem PrBox.below {W W' : World} {B : Nat} {a b : Int} (h : PrBox W B a b) (hB : Below W.heap.size W W') : PrBox W' B a b := ⟨cell_below h.c0 hB, cell_below h.c1 hB⟩
abbrev prV (a b : Int) : Value := .agg #[.int .i64 a, .int .i64 b]

set_option maxHeartbeats 8000000 in
set_option maxRecDepth 100000 in
theorem orderReaches_any (t : M.Tb) (p : Tp) (a b : Int) (w : World) (ht : TbIn w t p) : Calls Try.prog 4 #[tbV t p, prV a b] w fun e w' => e = .returned (.bool true) ∧ Below w.heap.size w w' := by
  have hmx : Try.prog.follows .mixedOrders = true := by kernel_rfl
  have hBB : Below w.heap.size w ((w.alloc (.cells (tbA t p) 26)).alloc (.cells #[.int .i64 a, .int .i64 b] 38)) := belowA (below1 _ _) _
  have HX := Lib.hid ((tbBox (t := t) (p := p) (box_new w (tbA t p) 26)).below (below1 _ (.cells #[.int .i64 a, .int .i64 b] 38)))
  have HP := Lib.hid (prBox (box_last w (.cells (tbA t p) 26) #[.int .i64 a, .int .i64 b] 38))
  have HT := Lib.hid ht
  have HC := Lib.hid (thinT_any t p _ (ht.below hBB))
  have HBB := Lib.hid hBB
  obtain ⟨c0, c1, c2, c3⟩ := HX.out
  clear ht hBB
  go_enter Try.func4, Try.ntmps4
  go_wp2_with fail
  refine HC.out.mono ?_
  rintro e w1 ⟨rfl, hB1⟩
  have HB1 := Lib.hid (below2 HBB.out hB1)
  have HX := Lib.hid (HX.out.below hB1)
  have HP := Lib.hid (HP.out.below hB1)
  clear HC c0 c1 c2 c3 hB1 HBB
  cases hth : M.thinB t with
  | false =>
    go_wp2_with fail
    refine (awake_any _).mono ?_
    rintro e w2 ⟨rfl, hB2⟩
    have hB := below2 HB1.out hB2
    go_wp2_with fail
    go_ret
    exact ⟨rfl, hB⟩
  | true =>
    have HS := Lib.hid (small_of hth)
    obtain ⟨l, f, hl6, hr⟩ := reach_one t a
    obtain ⟨x, g, hb⟩ := below_one t a b
    have HRP := Lib.hid hr
    have HBP := Lib.hid hb
    have HL6 := Lib.hid hl6
    clear hr hb hth hl6
    obtain ⟨c0, c1, c2, c3⟩ := HX.out
    obtain ⟨p0, p1⟩ := HP.out
    go_wp2_with fail
    -- REGIONS
    have HB := HB1
    clear HB1 c0 c1 c2 c3 p0 p1
    have hS := And.intro (HX.out.below (Below.refl _ _).drew) (HP.out.below (Below.refl _ _).drew)
    have HBD := Lib.hid (below2 HB.out (Below.refl _ _).drew)
    refine wp_region_held (S := fun W => TbBox W w.heap.size t p ∧ PrBox W (w.heap.size + 1) a b) hmx ?_
    change wpAnyH _ _ _ _ _ _ _ _ (w1).drew
    refine wpAnyH_take (i := 0) (v := tbV t p) rfl (by kernel_rfl) (by kernel_rfl) (by kernel_rfl) (fun _ _ _ h => h) (Or.inl ⟨by rfl, ?_⟩) hS ?_
    · intro W' hSw
      obtain ⟨⟨s0, s1, s2, s3⟩, ⟨r0, r1⟩⟩ := hSw
      go_simp
    dsimp only [List.getElem_toArray, List.getElem_cons_zero, List.getElem_cons_succ, Act.put, List.setIfInBounds_toArray, List.set_cons_zero, List.set_cons_succ]
    refine wpAnyH_take (i := 2) (v := .pointer (some ⟨w.heap.size + 1, 0, none⟩)) rfl (by kernel_rfl) (by kernel_rfl) (by kernel_rfl) (fun _ _ _ h => h) (Or.inl ⟨by rfl, ?_⟩) hS ?_
    · intro W' hSw
      obtain ⟨⟨s0, s1, s2, s3⟩, ⟨r0, r1⟩⟩ := hSw
      go_simp
    dsimp only [List.getElem_toArray, List.getElem_cons_zero, List.getElem_cons_succ, Act.put, List.setIfInBounds_toArray, List.set_cons_zero, List.set_cons_succ]
    refine wpAnyH_take (i := 3) (v := .int .i64 a) rfl (by kernel_rfl) (by kernel_rfl) (by kernel_rfl) (fun _ _ _ h => h) (Or.inl ⟨by rfl, ?_⟩) hS ?_
    · intro W' hSw
      obtain ⟨⟨s0, s1, s2, s3⟩, ⟨r0, r1⟩⟩ := hSw
      go_simp
    dsimp only [List.getElem_toArray, List.getElem_cons_zero, List.getElem_cons_succ, Act.put, List.setIfInBounds_toArray, List.set_cons_zero, List.set_cons_succ]
    refine wpAnyH_all (rs := [1]) (by kernel_rfl) (by simp) ?_
    intro i hi
    obtain rfl : i = 1 := by simpa using hi
    clear hi
    refine wpOp_walk rfl fun K' HK => ?_
    go_wp2_with fail
    refine (copy_any t p _ HS.out.h1 HS.out.h2 HS.out.h3 HS.out.h4 (HT.out.below HBD.out)).mono ?_
    rintro e v2 ⟨p', rfl, ht2, hB2⟩
    have hS := And.intro (hS.1.below hB2) (hS.2.below hB2)
    have HBE := Lib.hid (below2 HBD.out hB2)
    have HT2 := Lib.hid ht2
    have hBc := hB2
    clear ht2 hB2 HBD
    go_wp2_with fail
    refine HK.out _ _ ⟨hS, ?_⟩
    clear HK K'
    try dsimp only [List.getElem_toArray, List.getElem_cons_zero, List.getElem_cons_succ, Act.put, List.setIfInBounds_toArray, List.set_cons_zero, List.set_cons_succ]
    refine wpAnyH_all (rs := [4]) (by kernel_rfl) (by simp) ?_
    intro i hi
    obtain rfl : i = 4 := by simpa using hi
    clear hi
    refine wpOp_walk rfl fun K' HK => ?_
    go_wp2_with fail
    refine (reach_any t p' a _ HS.out.h4 HT2.out).mono ?_
    intro e w3 hq
    obtain ⟨⟨la, lc, rfl, hl⟩, hB3⟩ := HRP.out _ _ _ hq
    clear hq
    have hS := And.intro (hS.1.below hB3) (hS.2.below hB3)
    have HB := Lib.hid (below2 HBE.out hB3)
    have HL := Lib.hid hl
    clear hl
    clear hB3 hBc HBE HT2
    go_wp2_with fail
    refine HK.out _ _ ⟨hS, ?_⟩
    clear HK K'
    try dsimp only [List.getElem_toArray, List.getElem_cons_zero, List.getElem_cons_succ, Act.put, List.setIfInBounds_toArray, List.set_cons_zero, List.set_cons_succ]
    refine wpAnyH_take (i := 5) (v := .tuple #[.slice la l.length lc, .int .i64 f]) rfl (by kernel_rfl) (by kernel_rfl) (by kernel_rfl) (fun _ _ _ h => h) (Or.inl ⟨by rfl, ?_⟩) hS ?_
    · intro W' hSw
      obtain ⟨⟨s0, s1, s2, s3⟩, ⟨r0, r1⟩⟩ := hSw
      go_simp
    dsimp only [List.getElem_toArray, List.getElem_cons_zero, List.getElem_cons_succ, Act.put, List.setIfInBounds_toArray, List.set_cons_zero, List.set_cons_succ]
    refine wpAnyH_take (i := 6) (v := .slice la l.length lc) rfl (by kernel_rfl) (by kernel_rfl) (by kernel_rfl) (fun _ _ _ h => h) (Or.inl ⟨by rfl, ?_⟩) hS ?_
    · intro W' hSw
      obtain ⟨⟨s0, s1, s2, s3⟩, ⟨r0, r1⟩⟩ := hSw
      go_simp
    dsimp only [List.getElem_toArray, List.getElem_cons_zero, List.getElem_cons_succ, Act.put, List.setIfInBounds_toArray, List.set_cons_zero, List.set_cons_succ]
    refine wpAnyH_take (i := 7) (v := .int .i64 f) rfl (by kernel_rfl) (by kernel_rfl) (by kernel_rfl) (fun _ _ _ h => h) (Or.inl ⟨by rfl, ?_⟩) hS ?_
    · intro W' hSw
      obtain ⟨⟨s0, s1, s2, s3⟩, ⟨r0, r1⟩⟩ := hSw
      go_simp
    dsimp only [List.getElem_toArray, List.getElem_cons_zero, List.getElem_cons_succ, Act.put, List.setIfInBounds_toArray, List.set_cons_zero, List.set_cons_succ]
    refine wpAnyH_take (i := 8) (v := .slice la l.length lc) rfl (by kernel_rfl) (by kernel_rfl) (by kernel_rfl) (fun _ _ _ h => h) (Or.inl ⟨by rfl, ?_⟩) hS ?_
    · intro W' hSw
      obtain ⟨⟨s0, s1, s2, s3⟩, ⟨r0, r1⟩⟩ := hSw
      go_simp
    dsimp only [List.getElem_toArray, List.getElem_cons_zero, List.getElem_cons_succ, Act.put, List.setIfInBounds_toArray, List.set_cons_zero, List.set_cons_succ]
    refine wpAnyH_take (i := 9) (v := .int .i64 f) rfl (by kernel_rfl) (by kernel_rfl) (by kernel_rfl) (fun _ _ _ h => h) (Or.inl ⟨by rfl, ?_⟩) hS ?_
    · intro W' hSw
      obtain ⟨⟨s0, s1, s2, s3⟩, ⟨r0, r1⟩⟩ := hSw
      go_simp
    dsimp only [List.getElem_toArray, List.getElem_cons_zero, List.getElem_cons_succ, Act.put, List.setIfInBounds_toArray, List.set_cons_zero, List.set_cons_succ]
    refine wpAnyH_done (by kernel_rfl) ?_ _
    have HX := Lib.hid hS.1
    have HP := Lib.hid hS.2
    clear hS
    go_wp2_with fail
    have hS := And.intro (HX.out.below (Below.refl _ _).drew) (HP.out.below (Below.refl _ _).drew)
    have HBD := Lib.hid (below2 HB.out (Below.refl _ _).drew)
    refine wp_region_held (S := fun W => TbBox W w.heap.size t p ∧ PrBox W (w.heap.size + 1) a b) hmx ?_
    change wpAnyH _ _ _ _ _ _ _ _ (w3).drew
    refine wpAnyH_take (i := 0) (v := tbV t p) rfl (by kernel_rfl) (by kernel_rfl) (by kernel_rfl) (fun _ _ _ h => h) (Or.inl ⟨by rfl, ?_⟩) hS ?_
    · intro W' hSw
      obtain ⟨⟨s0, s1, s2, s3⟩, ⟨r0, r1⟩⟩ := hSw
      go_simp
    dsimp only [List.getElem_toArray, List.getElem_cons_zero, List.getElem_cons_succ, Act.put, List.setIfInBounds_toArray, List.set_cons_zero, List.set_cons_succ]
    refine wpAnyH_take (i := 2) (v := .pointer (some ⟨w.heap.size + 1, 0, none⟩)) rfl (by kernel_rfl) (by kernel_rfl) (by kernel_rfl) (fun _ _ _ h => h) (Or.inl ⟨by rfl, ?_⟩) hS ?_
    · intro W' hSw
      obtain ⟨⟨s0, s1, s2, s3⟩, ⟨r0, r1⟩⟩ := hSw
      go_simp
    dsimp only [List.getElem_toArray, List.getElem_cons_zero, List.getElem_cons_succ, Act.put, List.setIfInBounds_toArray, List.set_cons_zero, List.set_cons_succ]
    refine wpAnyH_take (i := 3) (v := .int .i64 a) rfl (by kernel_rfl) (by kernel_rfl) (by kernel_rfl) (fun _ _ _ h => h) (Or.inl ⟨by rfl, ?_⟩) hS ?_
    · intro W' hSw
      obtain ⟨⟨s0, s1, s2, s3⟩, ⟨r0, r1⟩⟩ := hSw
      go_simp
    dsimp only [List.getElem_toArray, List.getElem_cons_zero, List.getElem_cons_succ, Act.put, List.setIfInBounds_toArray, List.set_cons_zero, List.set_cons_succ]
    refine wpAnyH_take (i := 4) (v := .pointer (some ⟨w.heap.size + 1, 1, none⟩)) rfl (by kernel_rfl) (by kernel_rfl) (by kernel_rfl) (fun _ _ _ h => h) (Or.inl ⟨by rfl, ?_⟩) hS ?_
    · intro W' hSw
      obtain ⟨⟨s0, s1, s2, s3⟩, ⟨r0, r1⟩⟩ := hSw
      go_simp
    dsimp only [List.getElem_toArray, List.getElem_cons_zero, List.getElem_cons_succ, Act.put, List.setIfInBounds_toArray, List.set_cons_zero, List.set_cons_succ]
    refine wpAnyH_take (i := 5) (v := .int .i64 b) rfl (by kernel_rfl) (by kernel_rfl) (by kernel_rfl) (fun _ _ _ h => h) (Or.inl ⟨by rfl, ?_⟩) hS ?_
    · intro W' hSw
      obtain ⟨⟨s0, s1, s2, s3⟩, ⟨r0, r1⟩⟩ := hSw
      go_simp
    dsimp only [List.getElem_toArray, List.getElem_cons_zero, List.getElem_cons_succ, Act.put, List.setIfInBounds_toArray, List.set_cons_zero, List.set_cons_succ]
    refine wpAnyH_all (rs := [1]) (by kernel_rfl) (by simp) ?_
    intro i hi
    obtain rfl : i = 1 := by simpa using hi
    clear hi
    refine wpOp_walk rfl fun K' HK => ?_
    go_wp2_with fail
    refine (copy_any t p _ HS.out.h1 HS.out.h2 HS.out.h3 HS.out.h4 (HT.out.below HBD.out)).mono ?_
    rintro e v3 ⟨p', rfl, ht2, hB2⟩
    have hS := And.intro (hS.1.below hB2) (hS.2.below hB2)
    have HBE := Lib.hid (below2 HBD.out hB2)
    have HT2 := Lib.hid ht2
    have hBc := hB2
    clear ht2 hB2 HBD
    go_wp2_with fail
    refine HK.out _ _ ⟨hS, ?_⟩
    clear HK K'
    try dsimp only [List.getElem_toArray, List.getElem_cons_zero, List.getElem_cons_succ, Act.put, List.setIfInBounds_toArray, List.set_cons_zero, List.set_cons_succ]
    refine wpAnyH_all (rs := [6]) (by kernel_rfl) (by simp) ?_
    intro i hi
    obtain rfl : i = 6 := by simpa using hi
    clear hi
    refine wpOp_walk rfl fun K' HK => ?_
    go_wp2_with fail
    refine (below_any t p' a b _ HS.out.h4 HT2.out).mono ?_
    intro e w4 hq
    obtain ⟨rfl, hB3⟩ := HBP.out _ _ _ hq
    clear hq
    have hS := And.intro (hS.1.below hB3) (hS.2.below hB3)
    have HB := Lib.hid (below2 HBE.out hB3)
    have HL := Lib.hid (HL.out.below (below2 (below2 (Below.refl _ _).drew hBc) hB3))
    clear hB3 hBc HBE HT2
    go_wp2_with fail
    refine HK.out _ _ ⟨hS, ?_⟩
    clear HK K'
    try dsimp only [List.getElem_toArray, List.getElem_cons_zero, List.getElem_cons_succ, Act.put, List.setIfInBounds_toArray, List.set_cons_zero, List.set_cons_succ]
    refine wpAnyH_take (i := 7) (v := .tuple #[.bool x, .int .i64 g]) rfl (by kernel_rfl) (by kernel_rfl) (by kernel_rfl) (fun _ _ _ h => h) (Or.inl ⟨by rfl, ?_⟩) hS ?_
    · intro W' hSw
      obtain ⟨⟨s0, s1, s2, s3⟩, ⟨r0, r1⟩⟩ := hSw
      go_simp
    dsimp only [List.getElem_toArray, List.getElem_cons_zero, List.getElem_cons_succ, Act.put, List.setIfInBounds_toArray, List.set_cons_zero, List.set_cons_succ]
    refine wpAnyH_take (i := 8) (v := .bool x) rfl (by kernel_rfl) (by kernel_rfl) (by kernel_rfl) (fun _ _ _ h => h) (Or.inl ⟨by rfl, ?_⟩) hS ?_
    · intro W' hSw
      obtain ⟨⟨s0, s1, s2, s3⟩, ⟨r0, r1⟩⟩ := hSw
      go_simp
    dsimp only [List.getElem_toArray, List.getElem_cons_zero, List.getElem_cons_succ, Act.put, List.setIfInBounds_toArray, List.set_cons_zero, List.set_cons_succ]
    refine wpAnyH_take (i := 9) (v := .int .i64 g) rfl (by kernel_rfl) (by kernel_rfl) (by kernel_rfl) (fun _ _ _ h => h) (Or.inl ⟨by rfl, ?_⟩) hS ?_
    · intro W' hSw
      obtain ⟨⟨s0, s1, s2, s3⟩, ⟨r0, r1⟩⟩ := hSw
      go_simp
    dsimp only [List.getElem_toArray, List.getElem_cons_zero, List.getElem_cons_succ, Act.put, List.setIfInBounds_toArray, List.set_cons_zero, List.set_cons_succ]
    refine wpAnyH_take (i := 10) (v := .bool x) rfl (by kernel_rfl) (by kernel_rfl) (by kernel_rfl) (fun _ _ _ h => h) (Or.inl ⟨by rfl, ?_⟩) hS ?_
    · intro W' hSw
      obtain ⟨⟨s0, s1, s2, s3⟩, ⟨r0, r1⟩⟩ := hSw
      go_simp
    dsimp only [List.getElem_toArray, List.getElem_cons_zero, List.getElem_cons_succ, Act.put, List.setIfInBounds_toArray, List.set_cons_zero, List.set_cons_succ]
    refine wpAnyH_take (i := 11) (v := .int .i64 g) rfl (by kernel_rfl) (by kernel_rfl) (by kernel_rfl) (fun _ _ _ h => h) (Or.inl ⟨by rfl, ?_⟩) hS ?_
    · intro W' hSw
      obtain ⟨⟨s0, s1, s2, s3⟩, ⟨r0, r1⟩⟩ := hSw
      go_simp
    dsimp only [List.getElem_toArray, List.getElem_cons_zero, List.getElem_cons_succ, Act.put, List.setIfInBounds_toArray, List.set_cons_zero, List.set_cons_succ]
    refine wpAnyH_done (by kernel_rfl) ?_ _
    have HX := Lib.hid hS.1
    have HP := Lib.hid hS.2
    clear hS
    obtain ⟨c0, c1, c2, c3⟩ := HX.out
    obtain ⟨p0, p1⟩ := HP.out
    go_wp2_with fail
    refine (refReach_any t p a _ HS.out.hs HS.out.hes HS.out.h4 HS.out.h1 (HT.out.below HB.out)).mono ?_
    intro e w5 hq
    obtain ⟨⟨ma, mc, rfl, hm⟩, hB5⟩ := HRP.out _ _ _ hq
    have HX := Lib.hid (HX.out.below hB5)
    have HP := Lib.hid (HP.out.below hB5)
    have HL := Lib.hid (HL.out.below hB5)
    have HM := Lib.hid hm
    have HB := Lib.hid (below2 HB.out hB5)
    clear c0 c1 c2 c3 p0 p1 hm hq hB5
    obtain ⟨c0, c1, c2, c3⟩ := HX.out
    obtain ⟨p0, p1⟩ := HP.out
    go_wp2_with fail
    refine (refBelow_any t p a b _ HS.out.hs HS.out.hes HS.out.h4 HS.out.h1 (HT.out.below HB.out)).mono ?_
    intro e w6 hq
    obtain ⟨rfl, hB6⟩ := HBP.out _ _ _ hq
    have HL := Lib.hid (HL.out.below hB6)
    have HM := Lib.hid (HM.out.below hB6)
    have HB := Lib.hid (below2 HB.out hB6)
    clear c0 c1 c2 c3 p0 p1 hq hB6
    go_wp2_with fail
    refine (sameInts_any la ma lc mc l l w6 HL6.out HL.out HM.out).mono ?_
    rintro e w7 ⟨rfl, hB7⟩
    have HB7 := Lib.hid (below2 HB.out hB7)
    rw [decide_eq_true rfl]
    clear hB7 HB
    go_wp2_with fail
    refine (awake_any _).mono ?_
    rintro e w8 ⟨rfl, hB8⟩
    have hB := below2 HB7.out hB8
    go_wp2_with fail
    go_ret
    exact ⟨rfl, hB⟩
end Go.Proofs.Ytlpindnbkgaplaa
