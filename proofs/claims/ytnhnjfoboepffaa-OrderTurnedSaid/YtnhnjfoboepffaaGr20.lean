/- Texts of one's own, joined: OrdBe. -/
import Derived.Test.YtnhnjfoboepffaaGr18
import Derived.Test.YtnhnjfoboepffaaGr1
import Derived.Test.YtnhnjfoboepffaaGr10
namespace Go.Proofs.Ytnhnjfoboepffaa
open Go.RowKit

theorem intsInfo : (Try.prog.info? 37).map (fun i => (i.zero, i.size, i.bytes)) = some (some (.slice none 0 0), 1, 24) := by kernel_rfl
theorem tabInfo : (Try.prog.info? 26).map (fun i => (i.zero, i.size, i.bytes)) = some (some (.agg tb0), 4, 88) := by kernel_rfl
set_option maxHeartbeats 8000000 in
set_option maxRecDepth 100000 in
theorem copyO_any (t : M.Tb) (p : Tp) (w : World) (h1 : t.elems.length ≤ 1000000) (h2 : t.above.length ≤ 1000000) (h3 : t.wrong.length ≤ 1000000) (h4 : ∀ l, l ∈ t.above → l.length ≤ 1000000) (ht : TbIn w t p) :
    Calls Try.prog 8 #[tbV t p] w fun e w' => ∃ p', e = .returned (tbV t p') ∧ TbOwn w.heap.size w' t p' ∧ Below w.heap.size w w' := by
  have hmx : Try.prog.follows .mixedOrders = true := by kernel_rfl
  obtain ⟨i0, hi, hz0, hz1, hz2⟩ := info_parts strInfo
  obtain ⟨j0, hj, hy0, hy1, hy2⟩ := info_parts boolInfo
  obtain ⟨t0, hti, htz, hts, _⟩ := info_parts tabInfo
  obtain ⟨q0, hq, hq0, hq1, hq2⟩ := info_parts intInfo
  obtain ⟨r0, hrr, hr0, hr1, hr2⟩ := info_parts intsInfo
  have HN0 := Lib.hid (And.intro hq (And.intro hq0 (And.intro hq1 hq2)))
  have HN1 := Lib.hid (And.intro hrr (And.intro hr0 (And.intro hr1 hr2)))
  clear hq hq0 hq1 hq2 hrr hr0 hr1 hr2
  have HI := Lib.hid (And.intro hi (And.intro hz0 (And.intro hz1 hz2)))
  have HJ := Lib.hid (And.intro hj (And.intro hy0 (And.intro hy1 hy2)))
  have HTI := Lib.hid (And.intro hti (And.intro htz hts))
  clear hi hz0 hz1 hz2 hj hy0 hy1 hy2 hti htz hts
  have hBB : Below w.heap.size w ((w.alloc (.cells (tbA t p) 26)).alloc (.cells tb0 26)) := belowA (below1 _ _) _
  have HX := Lib.hid ((tbBox (t := t) (p := p) (box_new w (tbA t p) 26)).below (below1 _ (.cells tb0 26)))
  have HY := Lib.hid (box_last w (.cells (tbA t p) 26) tb0 26)
  have HT := Lib.hid (ht.below hBB)
  have HBB := Lib.hid hBB
  have H1 := Lib.hid h1
  have H2 := Lib.hid h2
  have H3 := Lib.hid h3
  have H4 := Lib.hid h4
  clear ht h1 h2 h3 h4 hBB
  go_enter Try.func8, Try.ntmps8
  go_wp2_with fail
  have HSZ := Lib.hid (show ((w.alloc (.cells (tbA t p) 26)).alloc (.cells tb0 26)).heap.size = w.heap.size + 1 + 1 from by rw [World.size_alloc, World.size_alloc])
  generalize hW0 : (w.alloc (.cells (tbA t p) 26)).alloc (.cells tb0 26) = W0 at *
  have hS : ∀ W : World, Below W0.heap.size W0.drew W → W.cell? ⟨w.heap.size, 0, none⟩ = some (.string t.name) ∧ W.cell? ⟨w.heap.size, 1, none⟩ = some (.slice p.ea t.elems.length p.ec) ∧ W.cell? ⟨w.heap.size, 3, none⟩ = some (.slice p.wa t.wrong.length p.wc) := fun W hW => by
    have hb := (HX.out.below (Below.refl _ _).drew).below hW
    exact ⟨hb.c0, hb.c1, hb.c3⟩
  have HS := Lib.hid hS
  have hS0 := hS _ (Below.refl _ _)
  clear hS
  refine wp_region_held (S := fun W => W.cell? ⟨w.heap.size, 0, none⟩ = some (.string t.name) ∧ W.cell? ⟨w.heap.size, 1, none⟩ = some (.slice p.ea t.elems.length p.ec) ∧ W.cell? ⟨w.heap.size, 3, none⟩ = some (.slice p.wa t.wrong.length p.wc)) hmx ?_
  change wpAnyH _ _ _ _ _ _ _ _ W0.drew
  refine wpAnyH_take (i := 0) (v := .pointer (some ⟨w.heap.size, 0, none⟩)) rfl (by kernel_rfl) (by kernel_rfl) (by kernel_rfl) (fun _ _ _ h => h) (Or.inl ⟨by rfl, ?_⟩) hS0 ?_
  · intro W hSw
    obtain ⟨s0, s1, s3⟩ := hSw
    go_simp
  dsimp only [Act.put, List.setIfInBounds_toArray, List.set_cons_zero, List.set_cons_succ]
  refine wpAnyH_take (i := 1) (v := .string t.name) rfl (by kernel_rfl) (by kernel_rfl) (by kernel_rfl) (fun _ _ _ h => h) (Or.inl ⟨by rfl, ?_⟩) hS0 ?_
  · intro W hSw
    obtain ⟨s0, s1, s3⟩ := hSw
    go_simp
  dsimp only [Act.put, List.setIfInBounds_toArray, List.set_cons_zero, List.set_cons_succ]
  refine wpAnyH_take (i := 3) (v := .pointer (some ⟨w.heap.size, 1, none⟩)) rfl (by kernel_rfl) (by kernel_rfl) (by kernel_rfl) (fun _ _ _ h => h) (Or.inl ⟨by rfl, ?_⟩) hS0 ?_
  · intro W hSw
    obtain ⟨s0, s1, s3⟩ := hSw
    go_simp
  dsimp only [Act.put, List.setIfInBounds_toArray, List.set_cons_zero, List.set_cons_succ]
  refine wpAnyH_take (i := 4) (v := .slice p.ea t.elems.length p.ec) rfl (by kernel_rfl) (by kernel_rfl) (by kernel_rfl) (fun _ _ _ h => h) (Or.inl ⟨by rfl, ?_⟩) hS0 ?_
  · intro W hSw
    obtain ⟨s0, s1, s3⟩ := hSw
    go_simp
  dsimp only [Act.put, List.setIfInBounds_toArray, List.set_cons_zero, List.set_cons_succ]
  refine wpAnyH_take (i := 7) (v := .pointer (some ⟨w.heap.size, 3, none⟩)) rfl (by kernel_rfl) (by kernel_rfl) (by kernel_rfl) (fun _ _ _ h => h) (Or.inl ⟨by rfl, ?_⟩) hS0 ?_
  · intro W hSw
    obtain ⟨s0, s1, s3⟩ := hSw
    go_simp
  dsimp only [Act.put, List.setIfInBounds_toArray, List.set_cons_zero, List.set_cons_succ]
  refine wpAnyH_take (i := 8) (v := .slice p.wa t.wrong.length p.wc) rfl (by kernel_rfl) (by kernel_rfl) (by kernel_rfl) (fun _ _ _ h => h) (Or.inl ⟨by rfl, ?_⟩) hS0 ?_
  · intro W hSw
    obtain ⟨s0, s1, s3⟩ := hSw
    go_simp
  dsimp only [Act.put, List.setIfInBounds_toArray, List.set_cons_zero, List.set_cons_succ]
  refine wpAnyH_inv (fun L a W => ∃ b2 b5 b6 b9 b10 b11 b12 x3 x7 x10 x11 x14 x15 s r B, L = #[true, true, b2, true, true, b5, b6, true, true, b9, b10, b11, b12] ∧ a = ⟨#[tbV t p, .pointer (some ⟨w.heap.size, 0, none⟩), .pointer (some ⟨w.heap.size + 1, 0, none⟩), x3, undef, .pointer (some ⟨w.heap.size, 0, none⟩), .string t.name, x7, .pointer (some ⟨w.heap.size, 1, none⟩), .slice p.ea t.elems.length p.ec, x10, x11, .pointer (some ⟨w.heap.size, 3, none⟩), .slice p.wa t.wrong.length p.wc, x14, x15, undef, undef, undef, undef, undef, undef, undef, undef, undef, undef, undef, undef, undef, undef, undef, undef, undef, undef, undef, undef], []⟩ ∧ CpI t W0.drew W0.heap.size b2 b5 b6 b9 b10 b11 b12 x3 x7 x10 x11 x14 x15 s r B W) ?step ?stop _ _ _ _ (by decide) ?start
  case start =>
    refine ⟨false, false, false, false, false, false, false, undef, undef, undef, undef, undef, undef, undef, undef, 0, by kernel_rfl, by rfl, ?_⟩
    refine ⟨⟨by simp, by simp, by simp, by simp⟩, Nat.le_refl _, Below.refl _ _, by simp, by simp, by simp, by simp, by simp, by simp, by simp, by simp, by simp⟩
  case step =>
    rintro L a W ⟨b2, b5, b6, b9, b10, b11, b12, x3, x7, x10, x11, x14, x15, s, r, B, rfl, rfl, hI⟩ i hi
    have hr : (i = 2 ∧ b2 = false) ∨ (i = 5 ∧ b5 = false ∧ b2 = true) ∨ (i = 6 ∧ b6 = false) ∨ (i = 9 ∧ b9 = false ∧ b6 = true ∧ b5 = true) ∨ (i = 10 ∧ b10 = false ∧ b5 = true ∧ b9 = true) ∨ (i = 11 ∧ b11 = false) ∨ (i = 12 ∧ b12 = false ∧ b10 = true ∧ b11 = true) := by
      clear hI
      revert i b2 b5 b6 b9 b10 b11 b12
      set_option synthInstance.maxHeartbeats 1000000 in
      set_option synthInstance.maxSize 1000000 in
      decide +kernel
    clear hi
    rcases hr with ⟨rfl, rfl⟩ | ⟨rfl, rfl, rfl⟩ | ⟨rfl, rfl⟩ | ⟨rfl, rfl, rfl, rfl⟩ | ⟨rfl, rfl, rfl, rfl⟩ | ⟨rfl, rfl⟩ | ⟨rfl, rfl, rfl, rfl⟩
    · have HQ := Lib.hid hI.step2
      clear hI
      refine wpOp_walk rfl fun K' HK => ?_
      go_wp2_with fail
      exact HK.out _ _ ⟨HS.out _ HQ.out.below, _, _, _, _, _, _, _, _, _, _, _, _, _, _, _, _, by kernel_rfl, rfl, HQ.out⟩
    · obtain ⟨rfl, hn, how⟩ := hI.s1 rfl rfl
      have hsl := (HT.out.es.below (Below.refl _ _).drew).below hI.below
      have hle := hI.le
      have HQ := Lib.hid hI
      clear hI
      refine wpOp_walk rfl fun K' HK => ?_
      refine wpList_app_cel (f := Value.string) W (by rfl) _ _ _ (by rfl) _ i0 (.string ⟨#[]⟩) 16 Try.underlying22 HI.out.1 HI.out.2.1 HI.out.2.2.1 HI.out.2.2.2 rfl (by decide) (fun _ => rfl) W0.heap.size _ [] (by rfl) how hle p.ea p.ec t.elems (by rfl) HT.out.en hsl (by simpa using H1.out) ?_
      intro v w' k1 k2 k3 k4
      have HQ := Lib.hid (HQ.out.step5 k1 k2 k3 (k4 hn))
      exact HK.out _ _ ⟨HS.out _ HQ.out.below, _, _, _, _, _, _, _, _, _, _, _, _, _, _, _, _, by kernel_rfl, rfl, HQ.out⟩
    · have HQ := Lib.hid hI.step6
      clear hI
      refine wpOp_walk rfl fun K' HK => ?_
      go_wp2_with fail
      exact HK.out _ _ ⟨HS.out _ HQ.out.below, _, _, _, _, _, _, _, _, _, _, _, _, _, _, _, _, by kernel_rfl, rfl, HQ.out⟩
    · obtain ⟨rfl, hn, how⟩ := hI.r1 rfl rfl
      have hsl := (HT.out.ws.below (Below.refl _ _).drew).below hI.below
      have hle := hI.le
      have HQ := Lib.hid hI
      clear hI
      refine wpOp_walk rfl fun K' HK => ?_
      refine wpList_app_cel (f := Value.bool) W (by rfl) _ _ _ (by rfl) _ j0 (.bool false) 1 Try.underlying24 HJ.out.1 HJ.out.2.1 HJ.out.2.2.1 HJ.out.2.2.2 rfl (by decide) (fun _ => rfl) W0.heap.size _ [] (by rfl) how hle p.wa p.wc t.wrong (by rfl) HT.out.wn hsl (by simpa using H3.out) ?_
      intro v w' k1 k2 k3 k4
      have HQ := Lib.hid (HQ.out.step9 rfl k1 k2 k3 (k4 hn))
      exact HK.out _ _ ⟨HS.out _ HQ.out.below, _, _, _, _, _, _, _, _, _, _, _, _, _, _, _, _, by kernel_rfl, rfl, HQ.out⟩
    · obtain ⟨rfl, _, so⟩ := hI.s2 rfl
      obtain ⟨rfl, _, ro⟩ := hI.r2 rfl
      obtain ⟨sa, sc, rfl⟩ := own_slice' so
      obtain ⟨ra, rc, rfl⟩ := own_slice' ro
      have HQ := Lib.hid (hI.step10 rfl rfl)
      clear hI so ro
      refine wpOp_walk rfl fun K' HK => ?_
      go_wp2_with fail
      exact HK.out _ _ ⟨HS.out _ HQ.out.below, _, _, _, _, _, _, _, _, _, _, _, _, _, _, _, _, by kernel_rfl, rfl, HQ.out⟩
    · have HQ := Lib.hid hI.step11
      clear hI
      refine wpOp_walk rfl fun K' HK => ?_
      go_wp2_with fail
      exact HK.out _ _ ⟨HS.out _ HQ.out.below, _, _, _, _, _, _, _, _, _, _, _, _, _, _, _, _, by kernel_rfl, rfl, HQ.out⟩
    · obtain ⟨rfl, hB1, hbx⟩ := hI.bx rfl
      obtain rfl := hI.k rfl
      obtain ⟨sa, sc, e1⟩ := own_slice' hI.str
      obtain ⟨ra, rc, e2⟩ := own_slice' hI.row
      have HQ := Lib.hid hI
      clear hI
      refine wpOp_walk rfl fun K' HK => ?_
      refine wpList_store_row W (by rfl) 26 _ _ (by rfl) (by rfl) t0 HTI.out.1 B tb0 #[.string t.name, s, .slice none 0 0, r] 26 (by rfl) (by rfl) hbx (by rfl) HTI.out.2.2 ?_ ?_
      · intro v hv
        simp only [List.mem_cons, List.not_mem_nil, or_false] at hv
        rcases hv with rfl | rfl | rfl | rfl
        · rfl
        · rw [e1]; rfl
        · rfl
        · rw [e2]; rfl
      intro w' k1 k2
      have HQ := Lib.hid (HQ.out.step12 k1 k2)
      exact HK.out _ _ ⟨HS.out _ HQ.out.below, _, _, _, _, _, _, _, _, _, _, _, _, _, _, _, _, by kernel_rfl, rfl, HQ.out⟩
  case stop =>
    rintro L a W ⟨b2, b5, b6, b9, b10, b11, b12, x3, x7, x10, x11, x14, x15, s, r, B, rfl, rfl, hI⟩ hi
    have hr : b2 = true ∧ b5 = true ∧ b6 = true ∧ b9 = true ∧ b10 = true ∧ b11 = true ∧ b12 = true := by
      clear hI
      revert b2 b5 b6 b9 b10 b11 b12
      set_option synthInstance.maxHeartbeats 1000000 in
      set_option synthInstance.maxSize 1000000 in
      decide +kernel
    obtain ⟨rfl, rfl, rfl, rfl, rfl, rfl, rfl⟩ := hr
    clear hi
    obtain ⟨rfl, hB1, hbx⟩ := hI.bx rfl
    obtain ⟨rfl, _, _⟩ := hI.s2 rfl
    obtain ⟨rfl, _, _⟩ := hI.r2 rfl
    have HL := Lib.hid hI.done
    clear hI hB1 hbx
    go_wp2_with fail
    go_loopw [4] (fun c wr => ∃ (k : Nat) (v : Value), k ≤ t.above.length ∧ c = .int .i64 k ∧ Hid (CpL t W0.drew W0.heap.size x10 x14 B (t.above.take k) v v wr)) (fun c _ => t.above.length - (intOf c).toNat)
    case atStart => exact ⟨0, _, by omega, rfl, by rw [List.take_zero]; exact HL⟩
    case round =>
      clear HL
      rename World => wr
      obtain ⟨k, v, hk, rfl, HK⟩ := hrel
      have hbx := (HX.out.below (Below.refl _ _).drew).below HK.out.below
      have x2 := hbx.c2
      have H2' := H2.out
      clear hbx
      by_cases hkl : k < t.above.length
      · have n1 : (k : Int) < (t.above.length : Int) := by omega
        have n2 : (0 : Int) ≤ (k : Int) := by omega
        obtain ⟨ab, ao, epa, hra⟩ := HT.out.as_.at hkl
        obtain ⟨ra, rc, hra1, hra2, hra3, hra4⟩ := hra.at_ k hkl
        have hQS : ∀ W : World, Below W0.heap.size W0.drew W → W.cell? ⟨w.heap.size, 2, none⟩ = some (.slice (some ⟨ab, ao, none⟩) t.above.length p.ac) ∧ W.cell? ⟨ab, ao + k, none⟩ = some (.slice ra t.above[k].length rc) := fun W hW => by
          have hb := (HX.out.below (Below.refl _ _).drew).below hW
          exact ⟨by rw [← epa]; exact hb.c2, cell_below (cell_below hra1 (Below.refl _ _).drew) hW⟩
        have HQS := Lib.hid hQS
        rw [epa] at x2
        clear epa
        have HR2 := Lib.hid hra2
        have HR4 := Lib.hid hra4
        have HL4 := Lib.hid (H4.out _ (List.getElem_mem hkl))
        clear hra hra1 hra2 hra3 hra4 hQS
        go_wp2_with fail
        have HD := Lib.hid (HK.out.new (Below.refl wr.heap.size wr).drew)
        have hQ0 := HQS.out _ HD.out.below
        refine wp_region_held (S := fun W => W.cell? ⟨w.heap.size, 2, none⟩ = some (.slice (some ⟨ab, ao, none⟩) t.above.length p.ac) ∧ W.cell? ⟨ab, ao + k, none⟩ = some (.slice ra t.above[k].length rc)) hmx ?_
        change wpAnyH _ _ _ _ _ _ _ _ wr.drew
        refine wpAnyH_take (i := 0) (v := .pointer (some ⟨B, 2, none⟩)) rfl (by kernel_rfl) (by kernel_rfl) (by kernel_rfl) (fun _ _ _ h => h) (Or.inl ⟨by rfl, ?_⟩) hQ0 ?_
        · intro W' hSw
          obtain ⟨s0, s1⟩ := hSw
          go_simp
        dsimp only [Act.put, List.setIfInBounds_toArray, List.set_cons_zero, List.set_cons_succ]
        refine wpAnyH_take (i := 3) (v := .pointer (some ⟨w.heap.size, 2, none⟩)) rfl (by kernel_rfl) (by kernel_rfl) (by kernel_rfl) (fun _ _ _ h => h) (Or.inl ⟨by rfl, ?_⟩) hQ0 ?_
        · intro W' hSw
          obtain ⟨s0, s1⟩ := hSw
          go_simp
        dsimp only [Act.put, List.setIfInBounds_toArray, List.set_cons_zero, List.set_cons_succ]
        refine wpAnyH_take (i := 4) (v := .slice (some ⟨ab, ao, none⟩) t.above.length p.ac) rfl (by kernel_rfl) (by kernel_rfl) (by kernel_rfl) (fun _ _ _ h => h) (Or.inl ⟨by rfl, ?_⟩) hQ0 ?_
        · intro W' hSw
          obtain ⟨s0, s1⟩ := hSw
          go_simp
        dsimp only [Act.put, List.setIfInBounds_toArray, List.set_cons_zero, List.set_cons_succ]
        refine wpAnyH_take (i := 5) (v := .int .i64 k) rfl (by kernel_rfl) (by kernel_rfl) (by kernel_rfl) (fun _ _ _ h => h) (Or.inl ⟨by rfl, ?_⟩) hQ0 ?_
        · intro W' hSw
          obtain ⟨s0, s1⟩ := hSw
          go_simp
        dsimp only [Act.put, List.setIfInBounds_toArray, List.set_cons_zero, List.set_cons_succ]
        refine wpAnyH_take (i := 6) (v := .pointer (some ⟨ab, ao + k, none⟩)) rfl (by kernel_rfl) (by kernel_rfl) (by kernel_rfl) (fun _ _ _ h => h) (Or.inl ⟨by rfl, ?_⟩) hQ0 ?_
        · intro W' hSw
          obtain ⟨s0, s1⟩ := hSw
          go_simp
        dsimp only [Act.put, List.setIfInBounds_toArray, List.set_cons_zero, List.set_cons_succ]
        refine wpAnyH_take (i := 7) (v := .slice ra t.above[k].length rc) rfl (by kernel_rfl) (by kernel_rfl) (by kernel_rfl) (fun _ _ _ h => h) (Or.inl ⟨by rfl, ?_⟩) hQ0 ?_
        · intro W' hSw
          obtain ⟨s0, s1⟩ := hSw
          go_simp
        dsimp only [Act.put, List.setIfInBounds_toArray, List.set_cons_zero, List.set_cons_succ]
        refine wpAnyH_inv (fun L a W => ∃ c1 c2 c8 c9 c10 c11 c12 y24 y25 y31 y32 y33 y34, L = #[true, c1, c2, true, true, true, true, true, c8, c9, c10, c11, c12] ∧ a = ⟨#[tbV t p, .pointer (some ⟨w.heap.size, 0, none⟩), .pointer (some ⟨w.heap.size + 1, 0, none⟩), .pointer (some ⟨B, 0, none⟩), .int .i64 k, .pointer (some ⟨w.heap.size, 0, none⟩), .string t.name, x7, .pointer (some ⟨w.heap.size, 1, none⟩), .slice p.ea t.elems.length p.ec, x10, x11, .pointer (some ⟨w.heap.size, 3, none⟩), .slice p.wa t.wrong.length p.wc, x14, x15, .int .i64 k, .pointer (some ⟨w.heap.size, 2, none⟩), .slice (some ⟨ab, ao, none⟩) t.above.length p.ac, .int .i64 t.above.length, .bool true, u21, u22, .pointer (some ⟨B, 2, none⟩), y24, y25, .pointer (some ⟨w.heap.size, 2, none⟩), .slice (some ⟨ab, ao, none⟩) t.above.length p.ac, .int .i64 k, .pointer (some ⟨ab, ao + k, none⟩), .slice ra t.above[k].length rc, y31, y32, y33, y34, undef], []⟩ ∧ CpJ t W0.drew W0.heap.size x10 x14 B (t.above.take k) v t.above[k] wr.drew c1 c2 c8 c9 c10 c11 c12 y24 y25 y31 y32 y33 y34 W) ?step ?stop _ _ _ _ (by decide) ?start
        case start => exact ⟨false, false, false, false, false, false, false, u24, u25, u31, u32, u33, u34, by kernel_rfl, by rfl, CpJ.start HD.out⟩
        case step =>
          clear hQ0 x2
          rintro L a W ⟨c1, c2, c8, c9, c10, c11, c12, y24, y25, y31, y32, y33, y34, rfl, rfl, hI⟩ i hi
          have hr : (i = 1 ∧ c1 = false) ∨ (i = 2 ∧ c2 = false) ∨ (i = 8 ∧ c8 = false ∧ c2 = true) ∨ (i = 9 ∧ c9 = false ∧ c8 = true) ∨ (i = 10 ∧ c10 = false ∧ c9 = true ∧ c1 = true) ∨ (i = 11 ∧ c11 = false ∧ c10 = true) ∨ (i = 12 ∧ c12 = false ∧ c11 = true ∧ c10 = true) := by
            clear hI
            revert i c1 c2 c8 c9 c10 c11 c12
            set_option synthInstance.maxHeartbeats 1000000 in
            set_option synthInstance.maxSize 1000000 in
            decide +kernel
          clear hi
          rcases hr with ⟨rfl, rfl⟩ | ⟨rfl, rfl⟩ | ⟨rfl, rfl, rfl⟩ | ⟨rfl, rfl, rfl⟩ | ⟨rfl, rfl, rfl, rfl⟩ | ⟨rfl, rfl, rfl⟩ | ⟨rfl, rfl, rfl, rfl⟩
          · have hc := hI.cell
            have HQ := Lib.hid hI.step1
            clear hI
            refine wpOp_walk rfl fun K' HZ => ?_
            go_wp2_with fail
            exact HZ.out _ _ ⟨HQS.out _ HQ.out.below, _, _, _, _, _, _, _, _, _, _, _, _, _, by kernel_rfl, rfl, HQ.out⟩
          · have HQ := Lib.hid hI.step2
            clear hI
            refine wpOp_walk rfl fun K' HZ => ?_
            go_wp2_with fail
            exact HZ.out _ _ ⟨HQS.out _ HQ.out.below, _, _, _, _, _, _, _, _, _, _, _, _, _, by kernel_rfl, rfl, HQ.out⟩
          · obtain ⟨rfl, rfl, rfl, rfl⟩ := hI.no9
            obtain ⟨hn, how⟩ := hI.k2 rfl rfl
            have hle := (hI.bel rfl).size
            have hsl := (((HR4.out.below (Below.refl _ _).drew).below HD.out.below)).below (hI.bel rfl)
            have HQ := Lib.hid hI
            clear hI
            refine wpOp_walk rfl fun K' HZ => ?_
            refine wpList_app_cel (f := Value.int .i64) W (by rfl) _ _ _ (by rfl) _ q0 (.int .i64 0) 8 Try.underlying37 HN0.out.1 HN0.out.2.1 HN0.out.2.2.1 HN0.out.2.2.2 rfl (by decide) (fun _ => rfl) wr.drew.heap.size _ [] (by rfl) how hle ra rc t.above[k] (by rfl) HR2.out hsl (by simpa using HL4.out) ?_
            intro v' w' k1 k2 k3 k4
            have HQ := Lib.hid (HQ.out.step8 k1 k2)
            exact HZ.out _ _ ⟨HQS.out _ HQ.out.below, _, _, _, _, _, _, _, _, _, _, _, _, _, by kernel_rfl, rfl, HQ.out⟩
          · have HQ := Lib.hid hI.step9
            obtain ⟨rfl, rfl, rfl⟩ := hI.no10'
            obtain ⟨za, zc, rfl⟩ := own_slice' (hI.k8 rfl rfl)
            clear hI
            refine wpOp_walk rfl fun K' HZ => ?_
            go_wp2_with fail
            exact HZ.out _ _ ⟨HQS.out _ HQ.out.below, _, _, _, _, _, _, _, _, _, _, _, _, _, by kernel_rfl, rfl, HQ.out⟩
          · obtain ⟨rfl, hnst, hle, g, ga, gc, rfl, q1, q2, q3, q4⟩ := hI.for10
            obtain ⟨va, vc, ev⟩ := hnst.slice
            have HQ := Lib.hid hI
            clear hI
            refine wpOp_walk rfl fun K' HZ => ?_
            refine wpList_append_nestQ (f := Value.int .i64) W (by rfl) _ _ _ (by rfl) _ r0 Try.underlying23 HN1.out.1 HN1.out.2.1 HN1.out.2.2.1 HN1.out.2.2.2 W0.heap.size _ (t.above.take k) (by rfl) hnst hle ⟨g, 0, none⟩ 1 ga t.above[k] gc (by rfl) q1 (by rw [List.length_take]; have := H2.out; omega) q2 q3 q4 ?_
            intro g' c' w' k1 k2 k3
            have HQ := Lib.hid (HQ.out.step10 k1 k2 k3)
            exact HZ.out _ _ ⟨HQS.out _ HQ.out.below, _, _, _, _, _, _, _, _, _, _, _, _, _, by kernel_rfl, rfl, HQ.out⟩
          · have HQ := Lib.hid hI.step11
            clear hI
            refine wpOp_walk rfl fun K' HZ => ?_
            go_wp2_with fail
            exact HZ.out _ _ ⟨HQS.out _ HQ.out.below, _, _, _, _, _, _, _, _, _, _, _, _, _, by kernel_rfl, rfl, HQ.out⟩
          · obtain ⟨rfl, q1, q2, za, zn, zc, rfl⟩ := hI.for12
            have HQ := Lib.hid hI.step12
            clear hI
            refine wpOp_walk rfl fun K' HZ => ?_
            go_wp2_with fail
            exact HZ.out _ _ ⟨HQS.out _ HQ.out.below, _, _, _, _, _, _, _, _, _, _, _, _, _, by kernel_rfl, rfl, HQ.out⟩
        case stop =>
          rintro L a W ⟨c1, c2, c8, c9, c10, c11, c12, y24, y25, y31, y32, y33, y34, rfl, rfl, hI⟩ hi
          have hr : c1 = true ∧ c2 = true ∧ c8 = true ∧ c9 = true ∧ c10 = true ∧ c11 = true ∧ c12 = true := by
            clear hI
            revert c1 c2 c8 c9 c10 c11 c12
            set_option synthInstance.maxHeartbeats 1000000 in
            set_option synthInstance.maxSize 1000000 in
            decide +kernel
          obtain ⟨rfl, rfl, rfl, rfl, rfl, rfl, rfl⟩ := hr
          have HE := Lib.hid (hI.k12 rfl)
          clear hi hI hQ0 x2
          go_wp2_with fail
          go_roundw
          case rel => exact ⟨k + 1, _, by omega, by go_num, Lib.hid (by rw [List.take_succ_eq_append_getElem hkl]; exact HE.out)⟩
          case measure => simp [intOf]; omega
      · obtain rfl : k = t.above.length := by omega
        have m1 : decide ((t.above.length : Int) < (t.above.length : Int)) = false := decide_eq_false (by omega)
        have hKK := HK.out
        rw [List.take_length] at hKK
        have hN := hKK.nz
        have hsz := HSZ.out
        obtain ⟨p', hb', ht'⟩ := hKK.owned
        have hbl := hKK.below
        have ho : wr.heap[w.heap.size + 1]? = some (.cells tb0 26 (0, 0)) := by
          rw [hbl.block _ (by have := HSZ.out; omega)]
          exact HY.out
        have hne : B ≠ w.heap.size + 1 := by have := hKK.hB; have := HSZ.out; omega
        have HB' := Lib.hid hb'
        have HT' := Lib.hid ht'
        have HBL := Lib.hid hbl
        have HO := Lib.hid ho
        clear hb' ht' hbl ho hKK HK hN hsz
        go_wp2_with (first
          | (refine wpList_load_row _ rfl 26 _ rfl t0 HTI.out.1 (by kernel_rfl) B (tbA t p') 26 rfl HB'.out HTI.out.2.2 ?_)
          | (refine wpList_store_row _ rfl 26 _ _ rfl rfl t0 HTI.out.1 (w.heap.size + 1) tb0 (tbA t p') 26 rfl rfl HO.out rfl HTI.out.2.2 (by intro v hv; simp only [List.mem_cons, List.not_mem_nil, or_false] at hv; rcases hv with rfl | rfl | rfl | rfl <;> rfl) ?_; intro w3 h3 hg3; have H3 := Lib.hid h3; clear h3))
        obtain ⟨q0, q1, q2, q3⟩ := tbBox (t := t) (p := p') H3.out
        have hsz := HSZ.out
        have hBf : Below w.heap.size w w3 := (below2 HBB.out ((Below.refl _ _).drew.trans HBL.out)).grown hg3 (by have := HBL.out.size; simp at this; omega) (fun k e => by cases e; omega)
        exact bodyPost_ret (v := tbV t p') (by simp [results, Try.results8, go_sem, q0, q1, q2, q3]) rfl ⟨p', rfl, (HT'.out w3 hg3.size (fun g h1 h2 => hg3.block g h2 (fun e => by injection e with e; omega))).mono (by omega), hBf⟩
theorem copy_any (t : M.Tb) (p : Tp) (w : World) (h1 : t.elems.length ≤ 1000000) (h2 : t.above.length ≤ 1000000) (h3 : t.wrong.length ≤ 1000000) (h4 : ∀ l, l ∈ t.above → l.length ≤ 1000000) (ht : TbIn w t p) :
    Calls Try.prog 8 #[tbV t p] w fun e w' => ∃ p', e = .returned (tbV t p') ∧ TbIn w' t p' ∧ Below w.heap.size w w' :=
  (copyO_any t p w h1 h2 h3 h4 ht).mono fun _ _ ⟨p', e, h, hB⟩ => ⟨p', e, h.tb, hB⟩
end Go.Proofs.Ytnhnjfoboepffaa
