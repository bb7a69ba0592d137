/- DERIVED. The statement on slim tables, walked. -/
import Derived.Test.YtnhnjfoboepffaaGr46
import Derived.Test.YtnhnjfoboepffaaGr42
import Derived.Test.YtnhnjfoboepffaaGr21
import Derived.Test.YtnhnjfoboepffaaGr1
namespace Go.Proofs.Ytnhnjfoboepffaa
open Go.RowKit

theorem slim_lat {t : M.Tb} {w : World} {e : Ending} {w' : World} (hl : M.lat t) (h : SlimPost t w e w') : ∃ p', e = .returned (.tuple #[tbV (M.slm t) p', .int .i64 0]) ∧ TbIn w' (M.slm t) p' ∧ Below w.heap.size w w' := by
  rcases h with ⟨⟨h, _⟩ | ⟨_, h, _⟩ | ⟨_, p', h1, h2⟩, hB⟩
  · exact absurd hl.1 h
  · exact absurd (by rw [hl.2]) h
  · exact ⟨p', h1, h2, hB⟩
theorem lat_lat {t : M.Tb} {w : World} {e : Ending} {w' : World} (hl : M.lat t) (h : LatPost t w e w') : e = .returned (.int .i64 0) ∧ Below w.heap.size w w' := by
  rcases h with ⟨⟨h, _⟩ | ⟨_, h, _⟩ | ⟨_, h1⟩, hB⟩
  · exact absurd hl.1 h
  · exact absurd (by rw [hl.2]) h
  · exact ⟨h1, hB⟩
theorem reach_in {t : M.Tb} {a : Nat} {w : World} {e : Ending} {w' : World} (hf : M.form t) (ha : a < t.elems.length) (h : ReachPost t (a : Int) w e w') : ∃ la c, e = .returned (.tuple #[.slice la (M.listN (M.know t a) 12).length c, .int .i64 0]) ∧ IntSl w' la (M.listN (M.know t a) 12) ∧ Below w.heap.size w w' := by
  rcases h with ⟨⟨h, _⟩ | ⟨_, h, _⟩ | ⟨_, _, la, c, rfl, h⟩, hB⟩
  · exact absurd hf h
  · rw [inB_nat ha] at h; cases h
  · exact ⟨la, c, rfl, h, hB⟩
theorem slm_small {t : M.Tb} (hs : Small t) : Small (M.slm t) := by
  refine ⟨hs.h1, by rw [M.slm_len]; exact hs.h1, hs.h3, fun l hl => ?_, hs.hs, hs.hes⟩
  have hl' : l ∈ (List.range t.elems.length).map fun a => M.listN (M.slmR t a) 12 := hl
  obtain ⟨a, _, rfl⟩ := List.mem_map.1 hl'
  have := M.listN_le (M.slmR t a) 12
  omega
theorem celSl_drop {α : Type} {f : α → Value} {w : World} {b o : Nat} {l : List α} (h : CelAt f w b o l) (k : Nat) : CelSl f w (some ⟨b, o + k, none⟩) (l.drop k) :=
  Or.inr ⟨b, o + k, rfl, h.lt, fun i hi => by
    have hi' : k + i < l.length := by rw [List.length_drop] at hi; omega
    rw [Nat.add_assoc, h.at_ (k + i) hi', List.getElem_drop]⟩

set_option maxHeartbeats 32000000 in
set_option maxRecDepth 100000 in
theorem orderSlim_any (t : M.Tb) (p : Tp) (w : World) (ht : TbIn w t p) : Calls Try.prog 4 #[tbV t p] w fun e w' => e = .returned (.bool true) ∧ Below w.heap.size w w' := by
  have hmx : Try.prog.follows .mixedOrders = true := by kernel_rfl
  obtain ⟨j0, hj, hy0, hy1, hy2⟩ := info_parts intInfo
  have HJ := Lib.hid (And.intro hj (And.intro hy0 (And.intro hy1 hy2)))
  have HX := Lib.hid (tbBox (t := t) (p := p) (box_new w (tbA t p) 26))
  have HT := Lib.hid (ht.below (below1 w (.cells (tbA t p) 26)))
  have HBW := Lib.hid (below1 w (.cells (tbA t p) 26))
  have HC := Lib.hid (right_any t p (w.alloc (.cells (tbA t p) 26)) HT.out)
  obtain ⟨c0, c1, c2, c3⟩ := HX.out
  clear ht hj hy0 hy1 hy2
  go_enter Try.func4, Try.ntmps4
  go_wp2_with fail
  generalize hW0 : w.alloc (.cells (tbA t p) 26) = W0 at *
  clear hW0
  refine HC.out.mono ?_
  rintro e w1 ⟨⟨hs, hl, rfl⟩ | rfl, hB1⟩
  rotate_left
  · have HB := Lib.hid hB1
    clear c0 c1 c2 c3 hB1 HC
    go_wp2_with fail
    refine (awake_any _).mono ?_
    rintro e w2 ⟨rfl, hB2⟩
    have hB := below2 HBW.out (below2 HB.out hB2)
    clear hB2
    go_wp2_with fail
    go_ret
    exact ⟨rfl, hB⟩
  have HB := Lib.hid hB1
  have HS := Lib.hid hs
  have HL := Lib.hid hl
  have HG := Lib.hid (M.lat_good hl)
  have h12 := HG.out.form.twelve
  have h01 := HG.out.form.one
  have HUG := Lib.hid (M.slm_good HG.out)
  have HUS := Lib.hid (slm_small hs)
  have HUU := Lib.hid (M.slm_slm HG.out)
  have HUK := Lib.hid (show ∀ a, a < t.elems.length → M.know (M.slm t) a = M.know t a from fun a ha => M.slm_know HG.out ha)
  have HUL := Lib.hid (show ∀ a i, a < t.elems.length → i < ((M.slm t).above.getD a []).length → M.listN (M.know (M.lss (M.slm t) a i) a) 12 ≠ M.listN (M.know t a) 12 from fun a i ha hi => by
    rw [← M.slm_know HG.out ha]; exact M.lss_less HG.out ha hi)
  have HUA := Lib.hid (M.slm_len t)
  clear c0 c1 c2 c3 hB1 HC hs hl
  have HX := Lib.hid (HX.out.below HB.out)
  have HT := Lib.hid (HT.out.below HB.out)
  have HBW := Lib.hid (below2 HBW.out HB.out)
  clear HB
  obtain ⟨A, hA⟩ : ∃ A, M.slm t = ⟨t.name, t.elems, A, t.wrong⟩ := ⟨(M.slm t).above, rfl⟩
  have HSL := Lib.hid (show ∀ w e w', SlimPost t w e w' → ∃ p', e = .returned (.tuple #[tbV ⟨t.name, t.elems, A, t.wrong⟩ p', .int .i64 0]) ∧ TbIn w' ⟨t.name, t.elems, A, t.wrong⟩ p' ∧ Below w.heap.size w w' from fun w e w' h => by
    have := slim_lat HL.out h
    rwa [hA] at this)
  have HSU := Lib.hid (show ∀ w e w', SlimPost ⟨t.name, t.elems, A, t.wrong⟩ w e w' → ∃ p', e = .returned (.tuple #[tbV ⟨t.name, t.elems, A, t.wrong⟩ p', .int .i64 0]) ∧ TbIn w' ⟨t.name, t.elems, A, t.wrong⟩ p' ∧ Below w.heap.size w w' from fun w e w' h => by
    rw [← hA] at h
    have := slim_lat (M.good_lat HUG.out) h
    rwa [HUU.out, hA] at this)
  rw [hA] at HUG HUS HUA
  have HUK' := Lib.hid (show ∀ a, a < t.elems.length → M.know ⟨t.name, t.elems, A, t.wrong⟩ a = M.know t a from by rw [← hA]; exact HUK.out)
  have HUL' := Lib.hid (show ∀ a i, a < t.elems.length → i < (A.getD a []).length → M.listN (M.know (M.lss ⟨t.name, t.elems, A, t.wrong⟩ a i) a) 12 ≠ M.listN (M.know t a) 12 from by
    have := HUL.out; rw [hA] at this; exact this)
  have HAL := Lib.hid (show A.length = t.elems.length from HUA.out)
  clear HUK HUL HUU HUA hA
  obtain ⟨c0, c1, c2, c3⟩ := HX.out
  go_wp2_with fail
  refine (copy_any t p _ HS.out.h1 HS.out.h2 HS.out.h3 HS.out.h4 HT.out).mono ?_
  rintro e w2 ⟨p1, rfl, ht2, hB2⟩
  have HX := Lib.hid (HX.out.below hB2)
  have HT := Lib.hid (HT.out.below hB2)
  have HBW := Lib.hid (below2 HBW.out hB2)
  have HT2 := Lib.hid ht2
  clear c0 c1 c2 c3 hB2 ht2
  go_wp2_with fail
  refine (slimX_any t p1 _ HS.out.h4 HS.out.h3 HT2.out).mono ?_
  intro e w3 hq
  obtain ⟨ps, rfl, hts, hB3⟩ := HSL.out _ _ _ hq
  have hbx := below2 hB3 (below1 w3 (.cells (tbA ⟨t.name, t.elems, A, t.wrong⟩ ps) 26))
  have HX := Lib.hid (HX.out.below hbx)
  have HT := Lib.hid (HT.out.below hbx)
  have HBW := Lib.hid (below2 HBW.out hbx)
  have HY := Lib.hid (tbBox (t := ⟨t.name, t.elems, A, t.wrong⟩) (p := ps) (box_new w3 (tbA ⟨t.name, t.elems, A, t.wrong⟩ ps) 26))
  have HTS := Lib.hid (hts.below (below1 w3 (.cells (tbA ⟨t.name, t.elems, A, t.wrong⟩ ps) 26)))
  clear hq hB3 hts hbx HT2
  obtain ⟨c0, c1, c2, c3⟩ := HX.out
  obtain ⟨y0, y1, y2, y3⟩ := HY.out
  dsimp only at y0 y1 y2 y3
  go_wp2_with fail
  refine (refIsLattice_any ⟨t.name, t.elems, A, t.wrong⟩ ps _ HUS.out.hs HUS.out.hes HUS.out.h4 HTS.out).mono ?_
  intro e w4 hq
  obtain ⟨rfl, hB4⟩ := lat_lat (M.good_lat HUG.out) hq
  have HX := Lib.hid (HX.out.below hB4)
  have HT := Lib.hid (HT.out.below hB4)
  have HBW := Lib.hid (below2 HBW.out hB4)
  have HY := Lib.hid (HY.out.below hB4)
  have HTS := Lib.hid (HTS.out.below hB4)
  clear hq hB4 c0 c1 c2 c3 y0 y1 y2 y3
  obtain ⟨c0, c1, c2, c3⟩ := HX.out
  obtain ⟨y0, y1, y2, y3⟩ := HY.out
  dsimp only at y0 y1 y2 y3
  go_wp2_with fail
  refine (copy_any ⟨t.name, t.elems, A, t.wrong⟩ ps _ HUS.out.h1 HUS.out.h2 HUS.out.h3 HUS.out.h4 HTS.out).mono ?_
  rintro e w5 ⟨p2, rfl, ht5, hB5⟩
  have HX := Lib.hid (HX.out.below hB5)
  have HT := Lib.hid (HT.out.below hB5)
  have HBW := Lib.hid (below2 HBW.out hB5)
  have HY := Lib.hid (HY.out.below hB5)
  have HTS := Lib.hid (HTS.out.below hB5)
  have HT5 := Lib.hid ht5
  clear c0 c1 c2 c3 y0 y1 y2 y3 hB5 ht5
  go_wp2_with fail
  refine (slimX_any ⟨t.name, t.elems, A, t.wrong⟩ p2 _ HUS.out.h4 HUS.out.h3 HT5.out).mono ?_
  intro e w6 hq
  obtain ⟨pg, rfl, htg, hB6⟩ := HSU.out _ _ _ hq
  have hbx := below2 hB6 (below1 w6 (.cells (tbA ⟨t.name, t.elems, A, t.wrong⟩ pg) 26))
  have HX := Lib.hid (HX.out.below hbx)
  have HT := Lib.hid (HT.out.below hbx)
  have HBW := Lib.hid (below2 HBW.out hbx)
  have HY := Lib.hid (HY.out.below hbx)
  have HTS := Lib.hid (HTS.out.below hbx)
  have HTG := Lib.hid (htg.below (below1 w6 (.cells (tbA ⟨t.name, t.elems, A, t.wrong⟩ pg) 26)))
  obtain ⟨g0, g1, g2, g3⟩ := tbBox (t := ⟨t.name, t.elems, A, t.wrong⟩) (p := pg) (box_new w6 (tbA ⟨t.name, t.elems, A, t.wrong⟩ pg) 26)
  clear hq hB6 htg hbx HT5
  obtain ⟨y0, y1, y2, y3⟩ := HY.out
  dsimp only at y0 y1 y2 y3 g0 g1 g2 g3
  go_wp2_with fail
  refine (sameTable_same ⟨t.name, t.elems, A, t.wrong⟩ pg ps _ HUS.out.h1 HUS.out.h2 HUS.out.h3 HUS.out.h4 HTG.out HTS.out).mono ?_
  rintro e w7 ⟨rfl, hB7⟩
  have HX := Lib.hid (HX.out.below hB7)
  have HT := Lib.hid (HT.out.below hB7)
  have HBW := Lib.hid (below2 HBW.out hB7)
  have HY := Lib.hid (HY.out.below hB7)
  have HTS := Lib.hid (HTS.out.below hB7)
  clear hB7 HTG y0 y1 y2 y3 g0 g1 g2 g3
  go_wp2_with fail
  generalize hB3 : w3.heap.size = B3 at *
  clear hB3
  go_loopw [7] (fun i wr => ∃ a : Nat, a ≤ t.elems.length ∧ i = .int .i64 a ∧ Hid (Below w7.heap.size w7 wr)) (fun i _ => t.elems.length - (intOf i).toNat)
  case atStart => exact ⟨0, by omega, rfl, Lib.hid (Below.refl _ _)⟩
  case round =>
    rename World => wr
    obtain ⟨a, ha, rfl, HBr⟩ := hrel
    have HXr := Lib.hid (HX.out.below HBr.out)
    have HTr := Lib.hid (HT.out.below HBr.out)
    have HYr := Lib.hid (HY.out.below HBr.out)
    have HTSr := Lib.hid (HTS.out.below HBr.out)
    obtain ⟨c0, c1, c2, c3⟩ := HXr.out
    by_cases hal : a < t.elems.length
    · have a1 : (a : Int) < (t.elems.length : Int) := by omega
      have a2 : (0 : Int) ≤ (a : Int) := by omega
      go_wp2_with fail
      refine (copy_any t p _ HS.out.h1 HS.out.h2 HS.out.h3 HS.out.h4 HTr.out).mono ?_
      rintro e v1 ⟨q1, rfl, ht1, hB1⟩
      have HB := Lib.hid hB1
      have HT1 := Lib.hid ht1
      clear c0 c1 c2 c3 hB1 ht1
      go_wp2_with fail
      refine (reach_any t q1 (a : Int) v1 HS.out.h4 HT1.out).mono ?_
      intro e v2 hq
      obtain ⟨la, lc, rfl, hli, hB2⟩ := reach_in HG.out.form hal hq
      have HB := Lib.hid (below2 HB.out hB2)
      have HLI := Lib.hid hli
      clear hq hB2 hli HT1
      obtain ⟨y0, y1, y2, y3⟩ := HYr.out.below HB.out
      dsimp only at y0 y1 y2 y3
      go_wp2_with fail
      refine (copy_any ⟨t.name, t.elems, A, t.wrong⟩ ps _ HUS.out.h1 HUS.out.h2 HUS.out.h3 HUS.out.h4 (HTSr.out.below HB.out)).mono ?_
      rintro e v3 ⟨q3, rfl, ht3, hB3⟩
      have HB := Lib.hid (below2 HB.out hB3)
      have HLI := Lib.hid (HLI.out.below hB3)
      have HT3 := Lib.hid ht3
      clear y0 y1 y2 y3 hB3 ht3
      go_wp2_with fail
      refine (reach_any ⟨t.name, t.elems, A, t.wrong⟩ q3 (a : Int) v3 HUS.out.h4 HT3.out).mono ?_
      intro e v4 hq
      obtain ⟨ka, kc, rfl, hki, hB4⟩ := reach_in HUG.out.form hal hq
      rw [HUK'.out a hal] at hki ⊢
      have HB := Lib.hid (below2 HB.out hB4)
      have HLI := Lib.hid (HLI.out.below hB4)
      have HKI := Lib.hid hki
      clear hq hB4 hki HT3
      have hlk := M.listN_le (M.know t a) 12
      have HULa := Lib.hid (HUL'.out a)
      generalize hLK : M.listN (M.know t a) 12 = LK at *
      clear hLK
      have HXq := Lib.hid (HXr.out.below HB.out)
      have HTq := Lib.hid (HTr.out.below HB.out)
      have HYq := Lib.hid (HYr.out.below HB.out)
      have HTSq := Lib.hid (HTSr.out.below HB.out)
      have HBq := Lib.hid (below2 HBr.out HB.out)
      have haw : a < t.wrong.length := by rw [HG.out.form.wrong]; exact hal
      have haA : a < A.length := by rw [HAL.out]; exact hal
      have aw : (a : Int) < (t.wrong.length : Int) := by omega
      have aA : (a : Int) < (A.length : Int) := by omega
      obtain ⟨pea, pec, paa, pac, pwa, pwc⟩ := p
      obtain ⟨sea, sec, saa, sac, swa, swc⟩ := ps
      obtain ⟨teb, teo, e1, tea⟩ := HTq.out.es.at hal
      obtain ⟨twb, two, e2, twa⟩ := HTq.out.ws.at haw
      obtain ⟨ueb, ueo, e3, uea⟩ := HTSq.out.es.at hal
      obtain ⟨uwb, uwo, e4, uwa⟩ := HTSq.out.ws.at haw
      obtain ⟨uab, uao, e5, uaa⟩ := HTSq.out.as_.at haA
      dsimp only at e1 e2 e3 e4 e5
      subst e1 e2 e3 e4 e5
      have r1 := tea.at_ a hal
      have r2 := twa.at_ a haw
      have r3 := uea.at_ a hal
      have r4 := uwa.at_ a haw
      dsimp only at r3 r4
      obtain ⟨s0, hs0⟩ : ∃ s, t.elems[a] = s := ⟨_, rfl⟩
      obtain ⟨b0, hb0⟩ : ∃ s, t.wrong[a] = s := ⟨_, rfl⟩
      rw [hs0] at r1 r3
      rw [hb0] at r2 r4
      have HR := Lib.hid (And.intro r1 (And.intro r2 (And.intro r3 r4)))
      have HUAA := Lib.hid uaa
      have HSI := Lib.hid (show ∀ W, IntSl W la LK → IntSl W ka LK → Calls Try.prog 17 #[.slice la LK.length lc, .slice ka LK.length kc] W fun e w' => e = .returned (.bool true) ∧ Below W.heap.size W w' from fun W h1 h2 => by
        have := sameInts_any la ka lc kc LK LK W (by omega) h1 h2
        rwa [decide_eq_true rfl] at this)
      clear hs0 hb0 tea twa uea uwa uaa r1 r2 r3 r4
      go_upto_region 14 with fail
      have hS : TbBox v4.drew w.heap.size t ⟨some ⟨teb, teo, none⟩, pec, paa, pac, some ⟨twb, two, none⟩, pwc⟩ ∧ TbBox v4.drew B3 ⟨t.name, t.elems, A, t.wrong⟩ ⟨some ⟨ueb, ueo, none⟩, sec, some ⟨uab, uao, none⟩, sac, some ⟨uwb, uwo, none⟩, swc⟩ ∧ (v4.drew.cell? ⟨teb, teo + a, none⟩ = some (.string s0) ∧ v4.drew.cell? ⟨twb, two + a, none⟩ = some (.bool b0) ∧ v4.drew.cell? ⟨ueb, ueo + a, none⟩ = some (.string s0) ∧ v4.drew.cell? ⟨uwb, uwo + a, none⟩ = some (.bool b0)) ∧ Below v4.heap.size v4 v4.drew :=
        ⟨HXq.out.below (Below.refl _ _).drew, HYq.out.below (Below.refl _ _).drew, ⟨cell_below HR.out.1 (Below.refl _ _).drew, cell_below HR.out.2.1 (Below.refl _ _).drew, cell_below HR.out.2.2.1 (Below.refl _ _).drew, cell_below HR.out.2.2.2 (Below.refl _ _).drew⟩, (Below.refl _ _).drew⟩
      refine wp_region_held (S := (fun W => TbBox W w.heap.size t ⟨some ⟨teb, teo, none⟩, pec, paa, pac, some ⟨twb, two, none⟩, pwc⟩ ∧ TbBox W B3 ⟨t.name, t.elems, A, t.wrong⟩ ⟨some ⟨ueb, ueo, none⟩, sec, some ⟨uab, uao, none⟩, sac, some ⟨uwb, uwo, none⟩, swc⟩ ∧ (W.cell? ⟨teb, teo + a, none⟩ = some (.string s0) ∧ W.cell? ⟨twb, two + a, none⟩ = some (.bool b0) ∧ W.cell? ⟨ueb, ueo + a, none⟩ = some (.string s0) ∧ W.cell? ⟨uwb, uwo + a, none⟩ = some (.bool b0)) ∧ Below v4.heap.size v4 W)) hmx ?_
      change wpAnyH _ _ _ _ _ _ _ _ (v4).drew
      refine wpAnyH_take (i := 0) (v := .int .i64 0) rfl (by kernel_rfl) (by kernel_rfl) (by kernel_rfl) (fun _ _ _ h => h) (Or.inl ⟨by kernel_rfl, ?_⟩) hS ?_
      · intro W' hSw
        obtain ⟨⟨c0, c1, c2, c3⟩, ⟨y0, y1, y2, y3⟩, ⟨r1, r2, r3, r4⟩, _⟩ := hSw
        go_simp
      dsimp only [List.getElem_toArray, List.getElem_cons_zero, List.getElem_cons_succ, Act.put, List.setIfInBounds_toArray, List.set_cons_zero, List.set_cons_succ]
      refine wpAnyH_take (i := 1) (v := .bool false) rfl (by kernel_rfl) (by kernel_rfl) (by kernel_rfl) (fun _ _ _ h => h) (Or.inl ⟨by kernel_rfl, ?_⟩) hS ?_
      · intro W' hSw
        obtain ⟨⟨c0, c1, c2, c3⟩, ⟨y0, y1, y2, y3⟩, ⟨r1, r2, r3, r4⟩, _⟩ := hSw
        go_simp
      dsimp only [List.getElem_toArray, List.getElem_cons_zero, List.getElem_cons_succ, Act.put, List.setIfInBounds_toArray, List.set_cons_zero, List.set_cons_succ]
      refine wpAnyH_take (i := 2) (v := .bool false) rfl (by kernel_rfl) (by kernel_rfl) (by kernel_rfl) (fun _ _ _ h => h) (Or.inl ⟨by kernel_rfl, ?_⟩) hS ?_
      · intro W' hSw
        obtain ⟨⟨c0, c1, c2, c3⟩, ⟨y0, y1, y2, y3⟩, ⟨r1, r2, r3, r4⟩, _⟩ := hSw
        go_simp
      dsimp only [List.getElem_toArray, List.getElem_cons_zero, List.getElem_cons_succ, Act.put, List.setIfInBounds_toArray, List.set_cons_zero, List.set_cons_succ]
      refine wpAnyH_take (i := 3) (v := .int .i64 0) rfl (by kernel_rfl) (by kernel_rfl) (by kernel_rfl) (fun _ _ _ h => h) (Or.inl ⟨by kernel_rfl, ?_⟩) hS ?_
      · intro W' hSw
        obtain ⟨⟨c0, c1, c2, c3⟩, ⟨y0, y1, y2, y3⟩, ⟨r1, r2, r3, r4⟩, _⟩ := hSw
        go_simp
      dsimp only [List.getElem_toArray, List.getElem_cons_zero, List.getElem_cons_succ, Act.put, List.setIfInBounds_toArray, List.set_cons_zero, List.set_cons_succ]
      refine wpAnyH_take (i := 4) (v := .bool false) rfl (by kernel_rfl) (by kernel_rfl) (by kernel_rfl) (fun _ _ _ h => h) (Or.inl ⟨by kernel_rfl, ?_⟩) hS ?_
      · intro W' hSw
        obtain ⟨⟨c0, c1, c2, c3⟩, ⟨y0, y1, y2, y3⟩, ⟨r1, r2, r3, r4⟩, _⟩ := hSw
        go_simp
      dsimp only [List.getElem_toArray, List.getElem_cons_zero, List.getElem_cons_succ, Act.put, List.setIfInBounds_toArray, List.set_cons_zero, List.set_cons_succ]
      refine wpAnyH_take (i := 5) (v := .bool false) rfl (by kernel_rfl) (by kernel_rfl) (by kernel_rfl) (fun _ _ _ h => h) (Or.inl ⟨by kernel_rfl, ?_⟩) hS ?_
      · intro W' hSw
        obtain ⟨⟨c0, c1, c2, c3⟩, ⟨y0, y1, y2, y3⟩, ⟨r1, r2, r3, r4⟩, _⟩ := hSw
        go_simp
      dsimp only [List.getElem_toArray, List.getElem_cons_zero, List.getElem_cons_succ, Act.put, List.setIfInBounds_toArray, List.set_cons_zero, List.set_cons_succ]
      refine wpAnyH_take (i := 6) (v := .bool false) rfl (by kernel_rfl) (by kernel_rfl) (by kernel_rfl) (fun _ _ _ h => h) (Or.inl ⟨by kernel_rfl, ?_⟩) hS ?_
      · intro W' hSw
        obtain ⟨⟨c0, c1, c2, c3⟩, ⟨y0, y1, y2, y3⟩, ⟨r1, r2, r3, r4⟩, _⟩ := hSw
        go_simp
      dsimp only [List.getElem_toArray, List.getElem_cons_zero, List.getElem_cons_succ, Act.put, List.setIfInBounds_toArray, List.set_cons_zero, List.set_cons_succ]
      refine wpAnyH_take (i := 7) (v := .slice la LK.length lc) rfl (by kernel_rfl) (by kernel_rfl) (by kernel_rfl) (fun _ _ _ h => h) (Or.inl ⟨by kernel_rfl, ?_⟩) hS ?_
      · intro W' hSw
        obtain ⟨⟨c0, c1, c2, c3⟩, ⟨y0, y1, y2, y3⟩, ⟨r1, r2, r3, r4⟩, _⟩ := hSw
        go_simp
      dsimp only [List.getElem_toArray, List.getElem_cons_zero, List.getElem_cons_succ, Act.put, List.setIfInBounds_toArray, List.set_cons_zero, List.set_cons_succ]
      refine wpAnyH_take (i := 8) (v := .slice ka LK.length kc) rfl (by kernel_rfl) (by kernel_rfl) (by kernel_rfl) (fun _ _ _ h => h) (Or.inl ⟨by kernel_rfl, ?_⟩) hS ?_
      · intro W' hSw
        obtain ⟨⟨c0, c1, c2, c3⟩, ⟨y0, y1, y2, y3⟩, ⟨r1, r2, r3, r4⟩, _⟩ := hSw
        go_simp
      dsimp only [List.getElem_toArray, List.getElem_cons_zero, List.getElem_cons_succ, Act.put, List.setIfInBounds_toArray, List.set_cons_zero, List.set_cons_succ]
      refine wpAnyH_call 9 17 #[.slice la LK.length lc, .slice ka LK.length kc] (.bool true) (by kernel_rfl) rfl (by kernel_rfl) (by kernel_rfl) (HSI.out _ (HLI.out.below hS.2.2.2) (HKI.out.below hS.2.2.2)) ?_
      intro v5 hB
      have hS := And.intro (hS.1.below hB) (And.intro (hS.2.1.below hB) (And.intro (And.intro (cell_below hS.2.2.1.1 hB) (And.intro (cell_below hS.2.2.1.2.1 hB) (And.intro (cell_below hS.2.2.1.2.2.1 hB) (cell_below hS.2.2.1.2.2.2 hB)))) (below2 hS.2.2.2 hB)))
      clear hB
      refine ⟨⟨hS.1, hS.2.1, hS.2.2.1, hS.2.2.2⟩, ?_⟩
      dsimp only [List.getElem_toArray, List.getElem_cons_zero, List.getElem_cons_succ, Act.put, List.setIfInBounds_toArray, List.set_cons_zero, List.set_cons_succ]
      refine wpAnyH_take (i := 10) (v := .bool false) rfl (by kernel_rfl) (by kernel_rfl) (by kernel_rfl) (fun _ _ _ h => h) (Or.inl ⟨by kernel_rfl, ?_⟩) hS ?_
      · intro W' hSw
        obtain ⟨⟨c0, c1, c2, c3⟩, ⟨y0, y1, y2, y3⟩, ⟨r1, r2, r3, r4⟩, _⟩ := hSw
        go_simp
      dsimp only [List.getElem_toArray, List.getElem_cons_zero, List.getElem_cons_succ, Act.put, List.setIfInBounds_toArray, List.set_cons_zero, List.set_cons_succ]
      refine wpAnyH_take (i := 11) (v := .bool false) rfl (by kernel_rfl) (by kernel_rfl) (by kernel_rfl) (fun _ _ _ h => h) (Or.inl ⟨by kernel_rfl, ?_⟩) hS ?_
      · intro W' hSw
        obtain ⟨⟨c0, c1, c2, c3⟩, ⟨y0, y1, y2, y3⟩, ⟨r1, r2, r3, r4⟩, _⟩ := hSw
        go_simp
      dsimp only [List.getElem_toArray, List.getElem_cons_zero, List.getElem_cons_succ, Act.put, List.setIfInBounds_toArray, List.set_cons_zero, List.set_cons_succ]
      refine wpAnyH_take (i := 12) (v := .bool false) rfl (by kernel_rfl) (by kernel_rfl) (by kernel_rfl) (fun _ _ _ h => h) (Or.inl ⟨by kernel_rfl, ?_⟩) hS ?_
      · intro W' hSw
        obtain ⟨⟨c0, c1, c2, c3⟩, ⟨y0, y1, y2, y3⟩, ⟨r1, r2, r3, r4⟩, _⟩ := hSw
        go_simp
      dsimp only [List.getElem_toArray, List.getElem_cons_zero, List.getElem_cons_succ, Act.put, List.setIfInBounds_toArray, List.set_cons_zero, List.set_cons_succ]
      refine wpAnyH_take (i := 13) (v := .pointer (some ⟨B3, 1, none⟩)) rfl (by kernel_rfl) (by kernel_rfl) (by kernel_rfl) (fun _ _ _ h => h) (Or.inl ⟨by kernel_rfl, ?_⟩) hS ?_
      · intro W' hSw
        obtain ⟨⟨c0, c1, c2, c3⟩, ⟨y0, y1, y2, y3⟩, ⟨r1, r2, r3, r4⟩, _⟩ := hSw
        go_simp
      dsimp only [List.getElem_toArray, List.getElem_cons_zero, List.getElem_cons_succ, Act.put, List.setIfInBounds_toArray, List.set_cons_zero, List.set_cons_succ]
      refine wpAnyH_take (i := 14) (v := .slice (some ⟨ueb, ueo, none⟩) t.elems.length sec) rfl (by kernel_rfl) (by kernel_rfl) (by kernel_rfl) (fun _ _ _ h => h) (Or.inl ⟨by kernel_rfl, ?_⟩) hS ?_
      · intro W' hSw
        obtain ⟨⟨c0, c1, c2, c3⟩, ⟨y0, y1, y2, y3⟩, ⟨r1, r2, r3, r4⟩, _⟩ := hSw
        go_simp
      dsimp only [List.getElem_toArray, List.getElem_cons_zero, List.getElem_cons_succ, Act.put, List.setIfInBounds_toArray, List.set_cons_zero, List.set_cons_succ]
      refine wpAnyH_take (i := 15) (v := .int .i64 a) rfl (by kernel_rfl) (by kernel_rfl) (by kernel_rfl) (fun _ _ _ h => h) (Or.inl ⟨by kernel_rfl, ?_⟩) hS ?_
      · intro W' hSw
        obtain ⟨⟨c0, c1, c2, c3⟩, ⟨y0, y1, y2, y3⟩, ⟨r1, r2, r3, r4⟩, _⟩ := hSw
        go_simp
      dsimp only [List.getElem_toArray, List.getElem_cons_zero, List.getElem_cons_succ, Act.put, List.setIfInBounds_toArray, List.set_cons_zero, List.set_cons_succ]
      refine wpAnyH_take (i := 16) (v := .pointer (some ⟨ueb, ueo + a, none⟩)) rfl (by kernel_rfl) (by kernel_rfl) (by kernel_rfl) (fun _ _ _ h => h) (Or.inl ⟨by kernel_rfl, ?_⟩) hS ?_
      · intro W' hSw
        obtain ⟨⟨c0, c1, c2, c3⟩, ⟨y0, y1, y2, y3⟩, ⟨r1, r2, r3, r4⟩, _⟩ := hSw
        go_simp
      dsimp only [List.getElem_toArray, List.getElem_cons_zero, List.getElem_cons_succ, Act.put, List.setIfInBounds_toArray, List.set_cons_zero, List.set_cons_succ]
      refine wpAnyH_take (i := 17) (v := .string s0) rfl (by kernel_rfl) (by kernel_rfl) (by kernel_rfl) (fun _ _ _ h => h) (Or.inl ⟨by kernel_rfl, ?_⟩) hS ?_
      · intro W' hSw
        obtain ⟨⟨c0, c1, c2, c3⟩, ⟨y0, y1, y2, y3⟩, ⟨r1, r2, r3, r4⟩, _⟩ := hSw
        go_simp
      dsimp only [List.getElem_toArray, List.getElem_cons_zero, List.getElem_cons_succ, Act.put, List.setIfInBounds_toArray, List.set_cons_zero, List.set_cons_succ]
      refine wpAnyH_take (i := 18) (v := .pointer (some ⟨w.heap.size, 1, none⟩)) rfl (by kernel_rfl) (by kernel_rfl) (by kernel_rfl) (fun _ _ _ h => h) (Or.inl ⟨by kernel_rfl, ?_⟩) hS ?_
      · intro W' hSw
        obtain ⟨⟨c0, c1, c2, c3⟩, ⟨y0, y1, y2, y3⟩, ⟨r1, r2, r3, r4⟩, _⟩ := hSw
        go_simp
      dsimp only [List.getElem_toArray, List.getElem_cons_zero, List.getElem_cons_succ, Act.put, List.setIfInBounds_toArray, List.set_cons_zero, List.set_cons_succ]
      refine wpAnyH_take (i := 19) (v := .slice (some ⟨teb, teo, none⟩) t.elems.length pec) rfl (by kernel_rfl) (by kernel_rfl) (by kernel_rfl) (fun _ _ _ h => h) (Or.inl ⟨by kernel_rfl, ?_⟩) hS ?_
      · intro W' hSw
        obtain ⟨⟨c0, c1, c2, c3⟩, ⟨y0, y1, y2, y3⟩, ⟨r1, r2, r3, r4⟩, _⟩ := hSw
        go_simp
      dsimp only [List.getElem_toArray, List.getElem_cons_zero, List.getElem_cons_succ, Act.put, List.setIfInBounds_toArray, List.set_cons_zero, List.set_cons_succ]
      refine wpAnyH_take (i := 20) (v := .int .i64 a) rfl (by kernel_rfl) (by kernel_rfl) (by kernel_rfl) (fun _ _ _ h => h) (Or.inl ⟨by kernel_rfl, ?_⟩) hS ?_
      · intro W' hSw
        obtain ⟨⟨c0, c1, c2, c3⟩, ⟨y0, y1, y2, y3⟩, ⟨r1, r2, r3, r4⟩, _⟩ := hSw
        go_simp
      dsimp only [List.getElem_toArray, List.getElem_cons_zero, List.getElem_cons_succ, Act.put, List.setIfInBounds_toArray, List.set_cons_zero, List.set_cons_succ]
      refine wpAnyH_take (i := 21) (v := .pointer (some ⟨teb, teo + a, none⟩)) rfl (by kernel_rfl) (by kernel_rfl) (by kernel_rfl) (fun _ _ _ h => h) (Or.inl ⟨by kernel_rfl, ?_⟩) hS ?_
      · intro W' hSw
        obtain ⟨⟨c0, c1, c2, c3⟩, ⟨y0, y1, y2, y3⟩, ⟨r1, r2, r3, r4⟩, _⟩ := hSw
        go_simp
      dsimp only [List.getElem_toArray, List.getElem_cons_zero, List.getElem_cons_succ, Act.put, List.setIfInBounds_toArray, List.set_cons_zero, List.set_cons_succ]
      refine wpAnyH_take (i := 22) (v := .string s0) rfl (by kernel_rfl) (by kernel_rfl) (by kernel_rfl) (fun _ _ _ h => h) (Or.inl ⟨by kernel_rfl, ?_⟩) hS ?_
      · intro W' hSw
        obtain ⟨⟨c0, c1, c2, c3⟩, ⟨y0, y1, y2, y3⟩, ⟨r1, r2, r3, r4⟩, _⟩ := hSw
        go_simp
      dsimp only [List.getElem_toArray, List.getElem_cons_zero, List.getElem_cons_succ, Act.put, List.setIfInBounds_toArray, List.set_cons_zero, List.set_cons_succ]
      refine wpAnyH_take (i := 23) (v := .bool false) rfl (by kernel_rfl) (by kernel_rfl) (by kernel_rfl) (fun _ _ _ h => h) (Or.inl ⟨by kernel_rfl, ?_⟩) hS ?_
      · intro W' hSw
        obtain ⟨⟨c0, c1, c2, c3⟩, ⟨y0, y1, y2, y3⟩, ⟨r1, r2, r3, r4⟩, _⟩ := hSw
        go_simp
      dsimp only [List.getElem_toArray, List.getElem_cons_zero, List.getElem_cons_succ, Act.put, List.setIfInBounds_toArray, List.set_cons_zero, List.set_cons_succ]
      refine wpAnyH_take (i := 24) (v := .bool false) rfl (by kernel_rfl) (by kernel_rfl) (by kernel_rfl) (fun _ _ _ h => h) (Or.inl ⟨by kernel_rfl, ?_⟩) hS ?_
      · intro W' hSw
        obtain ⟨⟨c0, c1, c2, c3⟩, ⟨y0, y1, y2, y3⟩, ⟨r1, r2, r3, r4⟩, _⟩ := hSw
        go_simp
      dsimp only [List.getElem_toArray, List.getElem_cons_zero, List.getElem_cons_succ, Act.put, List.setIfInBounds_toArray, List.set_cons_zero, List.set_cons_succ]
      refine wpAnyH_take (i := 25) (v := .bool false) rfl (by kernel_rfl) (by kernel_rfl) (by kernel_rfl) (fun _ _ _ h => h) (Or.inl ⟨by kernel_rfl, ?_⟩) hS ?_
      · intro W' hSw
        obtain ⟨⟨c0, c1, c2, c3⟩, ⟨y0, y1, y2, y3⟩, ⟨r1, r2, r3, r4⟩, _⟩ := hSw
        go_simp
      dsimp only [List.getElem_toArray, List.getElem_cons_zero, List.getElem_cons_succ, Act.put, List.setIfInBounds_toArray, List.set_cons_zero, List.set_cons_succ]
      refine wpAnyH_take (i := 26) (v := .pointer (some ⟨B3, 3, none⟩)) rfl (by kernel_rfl) (by kernel_rfl) (by kernel_rfl) (fun _ _ _ h => h) (Or.inl ⟨by kernel_rfl, ?_⟩) hS ?_
      · intro W' hSw
        obtain ⟨⟨c0, c1, c2, c3⟩, ⟨y0, y1, y2, y3⟩, ⟨r1, r2, r3, r4⟩, _⟩ := hSw
        go_simp
      dsimp only [List.getElem_toArray, List.getElem_cons_zero, List.getElem_cons_succ, Act.put, List.setIfInBounds_toArray, List.set_cons_zero, List.set_cons_succ]
      refine wpAnyH_take (i := 27) (v := .slice (some ⟨uwb, uwo, none⟩) t.wrong.length swc) rfl (by kernel_rfl) (by kernel_rfl) (by kernel_rfl) (fun _ _ _ h => h) (Or.inl ⟨by kernel_rfl, ?_⟩) hS ?_
      · intro W' hSw
        obtain ⟨⟨c0, c1, c2, c3⟩, ⟨y0, y1, y2, y3⟩, ⟨r1, r2, r3, r4⟩, _⟩ := hSw
        go_simp
      dsimp only [List.getElem_toArray, List.getElem_cons_zero, List.getElem_cons_succ, Act.put, List.setIfInBounds_toArray, List.set_cons_zero, List.set_cons_succ]
      refine wpAnyH_take (i := 28) (v := .int .i64 a) rfl (by kernel_rfl) (by kernel_rfl) (by kernel_rfl) (fun _ _ _ h => h) (Or.inl ⟨by kernel_rfl, ?_⟩) hS ?_
      · intro W' hSw
        obtain ⟨⟨c0, c1, c2, c3⟩, ⟨y0, y1, y2, y3⟩, ⟨r1, r2, r3, r4⟩, _⟩ := hSw
        go_simp
      dsimp only [List.getElem_toArray, List.getElem_cons_zero, List.getElem_cons_succ, Act.put, List.setIfInBounds_toArray, List.set_cons_zero, List.set_cons_succ]
      refine wpAnyH_take (i := 29) (v := .pointer (some ⟨uwb, uwo + a, none⟩)) rfl (by kernel_rfl) (by kernel_rfl) (by kernel_rfl) (fun _ _ _ h => h) (Or.inl ⟨by kernel_rfl, ?_⟩) hS ?_
      · intro W' hSw
        obtain ⟨⟨c0, c1, c2, c3⟩, ⟨y0, y1, y2, y3⟩, ⟨r1, r2, r3, r4⟩, _⟩ := hSw
        go_simp
      dsimp only [List.getElem_toArray, List.getElem_cons_zero, List.getElem_cons_succ, Act.put, List.setIfInBounds_toArray, List.set_cons_zero, List.set_cons_succ]
      refine wpAnyH_take (i := 30) (v := .bool b0) rfl (by kernel_rfl) (by kernel_rfl) (by kernel_rfl) (fun _ _ _ h => h) (Or.inl ⟨by kernel_rfl, ?_⟩) hS ?_
      · intro W' hSw
        obtain ⟨⟨c0, c1, c2, c3⟩, ⟨y0, y1, y2, y3⟩, ⟨r1, r2, r3, r4⟩, _⟩ := hSw
        go_simp
      dsimp only [List.getElem_toArray, List.getElem_cons_zero, List.getElem_cons_succ, Act.put, List.setIfInBounds_toArray, List.set_cons_zero, List.set_cons_succ]
      refine wpAnyH_take (i := 31) (v := .pointer (some ⟨w.heap.size, 3, none⟩)) rfl (by kernel_rfl) (by kernel_rfl) (by kernel_rfl) (fun _ _ _ h => h) (Or.inl ⟨by kernel_rfl, ?_⟩) hS ?_
      · intro W' hSw
        obtain ⟨⟨c0, c1, c2, c3⟩, ⟨y0, y1, y2, y3⟩, ⟨r1, r2, r3, r4⟩, _⟩ := hSw
        go_simp
      dsimp only [List.getElem_toArray, List.getElem_cons_zero, List.getElem_cons_succ, Act.put, List.setIfInBounds_toArray, List.set_cons_zero, List.set_cons_succ]
      refine wpAnyH_take (i := 32) (v := .slice (some ⟨twb, two, none⟩) t.wrong.length pwc) rfl (by kernel_rfl) (by kernel_rfl) (by kernel_rfl) (fun _ _ _ h => h) (Or.inl ⟨by kernel_rfl, ?_⟩) hS ?_
      · intro W' hSw
        obtain ⟨⟨c0, c1, c2, c3⟩, ⟨y0, y1, y2, y3⟩, ⟨r1, r2, r3, r4⟩, _⟩ := hSw
        go_simp
      dsimp only [List.getElem_toArray, List.getElem_cons_zero, List.getElem_cons_succ, Act.put, List.setIfInBounds_toArray, List.set_cons_zero, List.set_cons_succ]
      refine wpAnyH_take (i := 33) (v := .int .i64 a) rfl (by kernel_rfl) (by kernel_rfl) (by kernel_rfl) (fun _ _ _ h => h) (Or.inl ⟨by kernel_rfl, ?_⟩) hS ?_
      · intro W' hSw
        obtain ⟨⟨c0, c1, c2, c3⟩, ⟨y0, y1, y2, y3⟩, ⟨r1, r2, r3, r4⟩, _⟩ := hSw
        go_simp
      dsimp only [List.getElem_toArray, List.getElem_cons_zero, List.getElem_cons_succ, Act.put, List.setIfInBounds_toArray, List.set_cons_zero, List.set_cons_succ]
      refine wpAnyH_take (i := 34) (v := .pointer (some ⟨twb, two + a, none⟩)) rfl (by kernel_rfl) (by kernel_rfl) (by kernel_rfl) (fun _ _ _ h => h) (Or.inl ⟨by kernel_rfl, ?_⟩) hS ?_
      · intro W' hSw
        obtain ⟨⟨c0, c1, c2, c3⟩, ⟨y0, y1, y2, y3⟩, ⟨r1, r2, r3, r4⟩, _⟩ := hSw
        go_simp
      dsimp only [List.getElem_toArray, List.getElem_cons_zero, List.getElem_cons_succ, Act.put, List.setIfInBounds_toArray, List.set_cons_zero, List.set_cons_succ]
      refine wpAnyH_take (i := 35) (v := .bool b0) rfl (by kernel_rfl) (by kernel_rfl) (by kernel_rfl) (fun _ _ _ h => h) (Or.inl ⟨by kernel_rfl, ?_⟩) hS ?_
      · intro W' hSw
        obtain ⟨⟨c0, c1, c2, c3⟩, ⟨y0, y1, y2, y3⟩, ⟨r1, r2, r3, r4⟩, _⟩ := hSw
        go_simp
      dsimp only [List.getElem_toArray, List.getElem_cons_zero, List.getElem_cons_succ, Act.put, List.setIfInBounds_toArray, List.set_cons_zero, List.set_cons_succ]
      refine wpAnyH_take (i := 36) (v := .bool false) rfl (by kernel_rfl) (by kernel_rfl) (by kernel_rfl) (fun _ _ _ h => h) (Or.inl ⟨by kernel_rfl, ?_⟩) hS ?_
      · intro W' hSw
        obtain ⟨⟨c0, c1, c2, c3⟩, ⟨y0, y1, y2, y3⟩, ⟨r1, r2, r3, r4⟩, _⟩ := hSw
        go_simp
      dsimp only [List.getElem_toArray, List.getElem_cons_zero, List.getElem_cons_succ, Act.put, List.setIfInBounds_toArray, List.set_cons_zero, List.set_cons_succ]
      refine wpAnyH_take (i := 37) (v := .bool false) rfl (by kernel_rfl) (by kernel_rfl) (by kernel_rfl) (fun _ _ _ h => h) (Or.inl ⟨by kernel_rfl, ?_⟩) hS ?_
      · intro W' hSw
        obtain ⟨⟨c0, c1, c2, c3⟩, ⟨y0, y1, y2, y3⟩, ⟨r1, r2, r3, r4⟩, _⟩ := hSw
        go_simp
      dsimp only [List.getElem_toArray, List.getElem_cons_zero, List.getElem_cons_succ, Act.put, List.setIfInBounds_toArray, List.set_cons_zero, List.set_cons_succ]
      try simp only [List.setIfInBounds_toArray, List.set_cons_succ, List.set_cons_zero]
      refine wpAnyH_done (by kernel_rfl) ?_ _
      have HB5 := Lib.hid hS.2.2.2
      clear hS HSI HR
      have HX5 := Lib.hid (HXq.out.below HB5.out)
      have HY5 := Lib.hid (HYq.out.below HB5.out)
      have HTS5 := Lib.hid (HTSq.out.below HB5.out)
      have HUA5 := Lib.hid (HUAA.out.below HB5.out)
      have HK5 := Lib.hid (HKI.out.below HB5.out)
      have HB5w := Lib.hid (below2 HBq.out HB5.out)
      have hgd : A.getD a [] = A[a] := getD_in _ _ _ haA
      have hlen0 : (A.getD a []).length ≤ 12 := row_short HUG.out.form hal
      have HULa' := HULa.out
      clear HULa
      obtain ⟨L, hLd⟩ : ∃ L, A.getD a [] = L := ⟨_, rfl⟩
      rw [hLd] at hgd hlen0 HULa'
      have HLL := Lib.hid hlen0
      have HULa := Lib.hid HULa'
      have HLD := Lib.hid hLd
      have HGD := Lib.hid hgd
      clear hLd HULa' hlen0 hgd
      clear HXr HTr HYr HTSr HXq HTq HYq HTSq HUAA HLI HKI HB HBq HB5 HBr
      go_wp2_with fail
      go_loopw [12] (fun i wo => ∃ j : Nat, j ≤ L.length ∧ i = .int .i64 j ∧ Hid (Below v5.heap.size v5 wo)) (fun i _ => L.length - (intOf i).toNat)
      case atStart => exact ⟨0, by omega, rfl, Lib.hid (Below.refl _ _)⟩
      case round =>
        rename World => wo
        obtain ⟨j, hj, rfl, HBo⟩ := hrel
        have HYo := Lib.hid (HY5.out.below HBo.out)
        obtain ⟨y0, y1, y2, y3⟩ := HYo.out
        dsimp only at y0 y1 y2 y3
        obtain ⟨ra, rc, r1, r2, r3, r4⟩ := (HUA5.out.below HBo.out).at_ a haA
        rw [← HGD.out] at r1 r3 r4
        by_cases hjl : j < L.length
        · have j1 : (j : Int) < (L.length : Int) := by omega
          obtain ⟨rb, ro, e6, hra⟩ := r4.at hjl
          subst e6
          have HRA := Lib.hid hra
          have HULj := Lib.hid (HULa.out j hal hjl)
          have HR1 := Lib.hid r1
          clear hra r2 r4
          go_wp2_with fail
          refine (copyO_any ⟨t.name, t.elems, A, t.wrong⟩ ⟨some ⟨ueb, ueo, none⟩, sec, some ⟨uab, uao, none⟩, sac, some ⟨uwb, uwo, none⟩, swc⟩ _ HUS.out.h1 HUS.out.h2 HUS.out.h3 HUS.out.h4 (HTS5.out.below HBo.out)).mono ?_
          rintro e v6 ⟨pl, rfl, hto, hB6⟩
          have HTO := Lib.hid hto
          have HB6 := Lib.hid hB6
          have hz6 := hB6.size
          have hne : A ≠ [] := fun e => by rw [e] at haA; simp at haA
          obtain ⟨g, vals, hsm⟩ := SmC.of hto hne hz6 (Nat.le_refl v6.heap.size) (by simp) (below1 v6 (.cells (tbA ⟨t.name, t.elems, A, t.wrong⟩ pl) 26)) (box_new v6 (tbA ⟨t.name, t.elems, A, t.wrong⟩ pl) 26)
          have HSM := Lib.hid hsm
          obtain ⟨z0, z1, z2, z3⟩ := tbBox (t := ⟨t.name, t.elems, A, t.wrong⟩) (p := pl) (box_new v6 (tbA ⟨t.name, t.elems, A, t.wrong⟩ pl) 26)
          have HCE := Lib.hid (show ∀ W, Below wo.heap.size v6 W → W.cell? ⟨B3, 2, none⟩ = some (.slice (some ⟨uab, uao, none⟩) A.length sac) ∧ W.cell? ⟨uab, uao + a, none⟩ = some (.slice (some ⟨rb, ro, none⟩) L.length rc) ∧ CelAt (Value.int .i64) W rb ro L from fun W hW => by
            have hb := HB6.out.trans hW
            exact ⟨(HYo.out.below hb).c2, cell_below HR1.out hb, HRA.out.below hb⟩)
          clear y0 y1 y2 y3 hto hB6 hsm r1
          dsimp only at z0 z1 z2 z3
          go_upto_region 20 with fail
          have HSd := Lib.hid (HSM.out.below2 (Below.refl (v6.alloc (.cells (tbA ⟨t.name, t.elems, A, t.wrong⟩ pl) 26)).heap.size (v6.alloc (.cells (tbA ⟨t.name, t.elems, A, t.wrong⟩ pl) 26))).drew)
          generalize hW7 : v6.alloc (.cells (tbA ⟨t.name, t.elems, A, t.wrong⟩ pl) 26) = W7 at *
          have hS := And.intro HSd.out.hdr (And.intro (HCE.out _ HSd.out.below).1 (HCE.out _ HSd.out.below).2.1)
          have hle : j + 1 ≤ rc := by omega
          have hLL := HLL.out
          have i1 : (j : Int) ≤ (rc : Int) := by omega
          have i2 : (0 : Int) ≤ (j : Int) := by omega
          have i3 : (j : Int) + 1 ≤ (L.length : Int) := by omega
          have i4 : (j : Int) + 1 ≤ (rc : Int) := by omega
          refine wp_region_held (S := (fun W => W.cell? ⟨v6.heap.size, 2, none⟩ = some (.slice (some ⟨g, 0, none⟩) A.length pl.ac) ∧ W.cell? ⟨B3, 2, none⟩ = some (.slice (some ⟨uab, uao, none⟩) A.length sac) ∧ W.cell? ⟨uab, uao + a, none⟩ = some (.slice (some ⟨rb, ro, none⟩) L.length rc))) hmx ?_
          change wpAnyH _ _ _ _ _ _ _ _ (W7).drew
          refine wpAnyH_take (i := 0) (v := .pointer (some ⟨v6.heap.size, 2, none⟩)) rfl (by kernel_rfl) (by kernel_rfl) (by kernel_rfl) (fun _ _ _ h => h) (Or.inl ⟨by kernel_rfl, ?_⟩) hS ?_
          · intro W' hSw
            obtain ⟨s0', s1', s2'⟩ := hSw
            go_simp
          dsimp only [List.getElem_toArray, List.getElem_cons_zero, List.getElem_cons_succ, Act.put, List.setIfInBounds_toArray, List.set_cons_zero, List.set_cons_succ]
          refine wpAnyH_take (i := 1) (v := .slice (some ⟨g, 0, none⟩) A.length pl.ac) rfl (by kernel_rfl) (by kernel_rfl) (by kernel_rfl) (fun _ _ _ h => h) (Or.inl ⟨by kernel_rfl, ?_⟩) hS ?_
          · intro W' hSw
            obtain ⟨s0', s1', s2'⟩ := hSw
            go_simp
          dsimp only [List.getElem_toArray, List.getElem_cons_zero, List.getElem_cons_succ, Act.put, List.setIfInBounds_toArray, List.set_cons_zero, List.set_cons_succ]
          refine wpAnyH_take (i := 2) (v := .int .i64 a) rfl (by kernel_rfl) (by kernel_rfl) (by kernel_rfl) (fun _ _ _ h => h) (Or.inl ⟨by kernel_rfl, ?_⟩) hS ?_
          · intro W' hSw
            obtain ⟨s0', s1', s2'⟩ := hSw
            go_simp
          dsimp only [List.getElem_toArray, List.getElem_cons_zero, List.getElem_cons_succ, Act.put, List.setIfInBounds_toArray, List.set_cons_zero, List.set_cons_succ]
          refine wpAnyH_take (i := 4) (v := .pointer (some ⟨B3, 2, none⟩)) rfl (by kernel_rfl) (by kernel_rfl) (by kernel_rfl) (fun _ _ _ h => h) (Or.inl ⟨by kernel_rfl, ?_⟩) hS ?_
          · intro W' hSw
            obtain ⟨s0', s1', s2'⟩ := hSw
            go_simp
          dsimp only [List.getElem_toArray, List.getElem_cons_zero, List.getElem_cons_succ, Act.put, List.setIfInBounds_toArray, List.set_cons_zero, List.set_cons_succ]
          refine wpAnyH_take (i := 5) (v := .slice (some ⟨uab, uao, none⟩) A.length sac) rfl (by kernel_rfl) (by kernel_rfl) (by kernel_rfl) (fun _ _ _ h => h) (Or.inl ⟨by kernel_rfl, ?_⟩) hS ?_
          · intro W' hSw
            obtain ⟨s0', s1', s2'⟩ := hSw
            go_simp
          dsimp only [List.getElem_toArray, List.getElem_cons_zero, List.getElem_cons_succ, Act.put, List.setIfInBounds_toArray, List.set_cons_zero, List.set_cons_succ]
          refine wpAnyH_take (i := 6) (v := .int .i64 a) rfl (by kernel_rfl) (by kernel_rfl) (by kernel_rfl) (fun _ _ _ h => h) (Or.inl ⟨by kernel_rfl, ?_⟩) hS ?_
          · intro W' hSw
            obtain ⟨s0', s1', s2'⟩ := hSw
            go_simp
          dsimp only [List.getElem_toArray, List.getElem_cons_zero, List.getElem_cons_succ, Act.put, List.setIfInBounds_toArray, List.set_cons_zero, List.set_cons_succ]
          refine wpAnyH_take (i := 7) (v := .pointer (some ⟨uab, uao + a, none⟩)) rfl (by kernel_rfl) (by kernel_rfl) (by kernel_rfl) (fun _ _ _ h => h) (Or.inl ⟨by kernel_rfl, ?_⟩) hS ?_
          · intro W' hSw
            obtain ⟨s0', s1', s2'⟩ := hSw
            go_simp
          dsimp only [List.getElem_toArray, List.getElem_cons_zero, List.getElem_cons_succ, Act.put, List.setIfInBounds_toArray, List.set_cons_zero, List.set_cons_succ]
          refine wpAnyH_take (i := 8) (v := .slice (some ⟨rb, ro, none⟩) L.length rc) rfl (by kernel_rfl) (by kernel_rfl) (by kernel_rfl) (fun _ _ _ h => h) (Or.inl ⟨by kernel_rfl, ?_⟩) hS ?_
          · intro W' hSw
            obtain ⟨s0', s1', s2'⟩ := hSw
            go_simp
          dsimp only [List.getElem_toArray, List.getElem_cons_zero, List.getElem_cons_succ, Act.put, List.setIfInBounds_toArray, List.set_cons_zero, List.set_cons_succ]
          refine wpAnyH_take (i := 9) (v := .int .i64 j) rfl (by kernel_rfl) (by kernel_rfl) (by kernel_rfl) (fun _ _ _ h => h) (Or.inl ⟨by kernel_rfl, ?_⟩) hS ?_
          · intro W' hSw
            obtain ⟨s0', s1', s2'⟩ := hSw
            go_simp
          dsimp only [List.getElem_toArray, List.getElem_cons_zero, List.getElem_cons_succ, Act.put, List.setIfInBounds_toArray, List.set_cons_zero, List.set_cons_succ]
          refine wpAnyH_take (i := 10) (v := .slice (some ⟨rb, ro, none⟩) j rc) rfl (by kernel_rfl) (by kernel_rfl) (by kernel_rfl) (fun _ _ _ h => h) (Or.inl ⟨by kernel_rfl, ?_⟩) hS ?_
          · intro W' hSw
            obtain ⟨s0', s1', s2'⟩ := hSw
            go_simp
          dsimp only [List.getElem_toArray, List.getElem_cons_zero, List.getElem_cons_succ, Act.put, List.setIfInBounds_toArray, List.set_cons_zero, List.set_cons_succ]
          refine wpAnyH_take (i := 12) (v := .pointer (some ⟨B3, 2, none⟩)) rfl (by kernel_rfl) (by kernel_rfl) (by kernel_rfl) (fun _ _ _ h => h) (Or.inl ⟨by kernel_rfl, ?_⟩) hS ?_
          · intro W' hSw
            obtain ⟨s0', s1', s2'⟩ := hSw
            go_simp
          dsimp only [List.getElem_toArray, List.getElem_cons_zero, List.getElem_cons_succ, Act.put, List.setIfInBounds_toArray, List.set_cons_zero, List.set_cons_succ]
          refine wpAnyH_take (i := 13) (v := .slice (some ⟨uab, uao, none⟩) A.length sac) rfl (by kernel_rfl) (by kernel_rfl) (by kernel_rfl) (fun _ _ _ h => h) (Or.inl ⟨by kernel_rfl, ?_⟩) hS ?_
          · intro W' hSw
            obtain ⟨s0', s1', s2'⟩ := hSw
            go_simp
          dsimp only [List.getElem_toArray, List.getElem_cons_zero, List.getElem_cons_succ, Act.put, List.setIfInBounds_toArray, List.set_cons_zero, List.set_cons_succ]
          refine wpAnyH_take (i := 14) (v := .int .i64 a) rfl (by kernel_rfl) (by kernel_rfl) (by kernel_rfl) (fun _ _ _ h => h) (Or.inl ⟨by kernel_rfl, ?_⟩) hS ?_
          · intro W' hSw
            obtain ⟨s0', s1', s2'⟩ := hSw
            go_simp
          dsimp only [List.getElem_toArray, List.getElem_cons_zero, List.getElem_cons_succ, Act.put, List.setIfInBounds_toArray, List.set_cons_zero, List.set_cons_succ]
          refine wpAnyH_take (i := 15) (v := .pointer (some ⟨uab, uao + a, none⟩)) rfl (by kernel_rfl) (by kernel_rfl) (by kernel_rfl) (fun _ _ _ h => h) (Or.inl ⟨by kernel_rfl, ?_⟩) hS ?_
          · intro W' hSw
            obtain ⟨s0', s1', s2'⟩ := hSw
            go_simp
          dsimp only [List.getElem_toArray, List.getElem_cons_zero, List.getElem_cons_succ, Act.put, List.setIfInBounds_toArray, List.set_cons_zero, List.set_cons_succ]
          refine wpAnyH_take (i := 16) (v := .slice (some ⟨rb, ro, none⟩) L.length rc) rfl (by kernel_rfl) (by kernel_rfl) (by kernel_rfl) (fun _ _ _ h => h) (Or.inl ⟨by kernel_rfl, ?_⟩) hS ?_
          · intro W' hSw
            obtain ⟨s0', s1', s2'⟩ := hSw
            go_simp
          dsimp only [List.getElem_toArray, List.getElem_cons_zero, List.getElem_cons_succ, Act.put, List.setIfInBounds_toArray, List.set_cons_zero, List.set_cons_succ]
          refine wpAnyH_take (i := 17) (v := .int .i64 j) rfl (by kernel_rfl) (by kernel_rfl) (by kernel_rfl) (fun _ _ _ h => h) (Or.inl ⟨by kernel_rfl, ?_⟩) hS ?_
          · intro W' hSw
            obtain ⟨s0', s1', s2'⟩ := hSw
            go_simp
          dsimp only [List.getElem_toArray, List.getElem_cons_zero, List.getElem_cons_succ, Act.put, List.setIfInBounds_toArray, List.set_cons_zero, List.set_cons_succ]
          refine wpAnyH_take (i := 18) (v := .int .i64 ((j : Int) + 1)) rfl (by kernel_rfl) (by kernel_rfl) (by kernel_rfl) (fun _ _ _ h => h) (Or.inl ⟨by kernel_rfl, ?_⟩) hS ?_
          · intro W' hSw
            obtain ⟨s0', s1', s2'⟩ := hSw
            go_simp
            exact IntWalk.i64_in _ (by omega)
          dsimp only [List.getElem_toArray, List.getElem_cons_zero, List.getElem_cons_succ, Act.put, List.setIfInBounds_toArray, List.set_cons_zero, List.set_cons_succ]
          have hlen1 : (L.take j).length = j := by rw [List.length_take]; omega
          have hlen2 : (L.drop (j + 1)).length = L.length - (j + 1) := List.length_drop
          have H1L := Lib.hid hlen1
          have H2L := Lib.hid hlen2
          clear hlen1 hlen2
          have HSe := Lib.hid (HSd.out.below2 (below1 W7.drew (.cells #[] 3)))
          have HO0 := Lib.hid (own_made W7.drew W7.drew.heap.size 3 1 (Nat.le_refl _))
          obtain ⟨v0, hv0⟩ := HSM.out.valsK haA
          have HV0 := Lib.hid hv0
          clear hv0
          have hcs : (j + 1 < rc ∨ (j + 1 = rc ∧ L.length = j + 1)) := by omega
          rcases hcs with hrc | ⟨hrc, hln⟩
          · have HRC := Lib.hid hrc
            clear hrc
            refine wpAnyH_take (i := 19) (v := .slice (some ⟨rb, ro + (j + 1), none⟩) (L.length - (j + 1)) (rc - (j + 1))) rfl (by kernel_rfl) (by kernel_rfl) (by kernel_rfl) (fun _ _ _ h => h) (Or.inl ⟨by kernel_rfl, ?_⟩) hS ?_
            · intro W' hSw
              obtain ⟨s0', s1', s2'⟩ := hSw
              go_simp
              have := HRC.out
              rw [if_pos (by omega), if_neg (by omega)]
            dsimp only [List.getElem_toArray, List.getElem_cons_zero, List.getElem_cons_succ, Act.put, List.setIfInBounds_toArray, List.set_cons_zero, List.set_cons_succ]
            refine wpAnyH_one 3 (by kernel_rfl) rfl fun K' HK => ?_
            go_wp2_with fail
            refine HK.out _ _ ⟨(And.intro HSe.out.hdr (And.intro (HCE.out _ HSe.out.below).1 (HCE.out _ HSe.out.below).2.1)), ?_⟩
            clear HK K' hS
            try dsimp only [List.getElem_toArray, List.getElem_cons_zero, List.getElem_cons_succ, Act.put, List.setIfInBounds_toArray, List.set_cons_zero, List.set_cons_succ]
            refine wpAnyH_one 11 (by kernel_rfl) rfl fun K' HK => ?_
            refine wpList_app_cel (f := Value.int .i64) _ (by rfl) _ _ _ (by rfl) _ j0 (.int .i64 0) 8 Try.underlying37 HJ.out.1 HJ.out.2.1 HJ.out.2.2.1 HJ.out.2.2.2 rfl (by decide) (fun _ => rfl) W7.drew.heap.size (.slice (some ⟨W7.drew.heap.size, 0, none⟩) 0 0) [] (by rfl) HO0.out (by simp) (some ⟨rb, ro, none⟩) rc (L.take j) (by rw [H1L.out]; rfl) (by simp) ?cel1 (by rw [H1L.out]; simp; omega) ?_
            case cel1 => exact CelSl.upto (Or.inr ⟨rb, ro, rfl, (HCE.out _ HSe.out.below).2.2⟩) j
            intro v1 w8 q1 q2 q3 q4
            have HB8 := Lib.hid (show Below W7.drew.heap.size W7.drew w8 from (below1 W7.drew (.cells #[] 3)).grown q2 (by simp) (fun k hk => by cases hk; exact Nat.le_refl _))
            have HS8 := Lib.hid (HSd.out.below2 HB8.out)
            have HO1 := Lib.hid (show w8.ownsRow W7.drew.heap.size 3 1 v1 (L.take j).length ((L.take j).map (Value.int .i64)) from q1)
            have hB8s := HB8.out.size
            obtain ⟨va, vc, rfl⟩ := own_slice' HO1.out
            clear q1 q2 q3 q4
            refine HK.out _ _ ⟨(And.intro HS8.out.hdr (And.intro (HCE.out _ HS8.out.below).1 (HCE.out _ HS8.out.below).2.1)), ?_⟩
            clear HK K'
            try dsimp only [List.getElem_toArray, List.getElem_cons_zero, List.getElem_cons_succ, Act.put, List.setIfInBounds_toArray, List.set_cons_zero, List.set_cons_succ]
            refine wpAnyH_one 20 (by kernel_rfl) rfl fun K' HK => ?_
            refine wpList_app_cel (f := Value.int .i64) _ (by rfl) _ _ _ (by rfl) _ j0 (.int .i64 0) 8 Try.underlying37 HJ.out.1 HJ.out.2.1 HJ.out.2.2.1 HJ.out.2.2.2 rfl (by decide) (fun _ => rfl) W7.drew.heap.size (.slice va (L.take j).length vc) (L.take j) (by rfl) HO1.out hB8s (some ⟨rb, ro + (j + 1), none⟩) (rc - (j + 1)) (L.drop (j + 1)) (by rw [H2L.out]; rfl) (by simp) ?cel2 (by rw [H1L.out, H2L.out]; omega) ?_
            case cel2 => exact celSl_drop (HCE.out _ HS8.out.below).2.2 (j + 1)
            intro v2 w9 q1 q2 q3 q4
            have HB9 := Lib.hid (show Below W7.drew.heap.size W7.drew w9 from HB8.out.grown q2 hB8s (fun k hk => (own_lt HO1.out hk).1))
            have HS9 := Lib.hid (HSd.out.below2 HB9.out)
            have HO2 := Lib.hid q1
            obtain ⟨m, hm⟩ : ∃ m, (L.take j ++ L.drop (j + 1)).length = m := ⟨_, rfl⟩
            obtain ⟨ua, uc, hv2⟩ := own_slice' q1
            rw [hm] at hv2
            have HMM := Lib.hid hm
            subst hv2
            have HN2 := Lib.hid (show ∀ x, (Value.slice ua m uc).ownBlock = some x → x ≠ g ∧ x ≠ v6.heap.size from fun x hx => by
              have l0 := (own_lt HO2.out hx).1
              have l1 := HSd.out.glt
              have l2 := heap_lt HSd.out.bx
              omega)
            clear q1 q2 q3 q4 hm
            refine HK.out _ _ ⟨(And.intro HS9.out.hdr (And.intro (HCE.out _ HS9.out.below).1 (HCE.out _ HS9.out.below).2.1)), ?_⟩
            clear HK K'
            have hS9 := (And.intro HS9.out.hdr (And.intro (HCE.out _ HS9.out.below).1 (HCE.out _ HS9.out.below).2.1))
            obtain ⟨k1, k2⟩ := HS9.out.cellV haA HV0.out
            have k3 := HS9.out.glt
            try dsimp only [List.getElem_toArray, List.getElem_cons_zero, List.getElem_cons_succ, Act.put, List.setIfInBounds_toArray, List.set_cons_zero, List.set_cons_succ]
            refine wpAnyH_take (i := 21) (v := .pointer (some ⟨g, a, none⟩)) rfl (by kernel_rfl) (by kernel_rfl) (by kernel_rfl) (fun _ _ _ h => h) (Or.inl ⟨by kernel_rfl, ?_⟩) hS9 ?_
            · intro W' hSw
              obtain ⟨s0', s1', s2'⟩ := hSw
              go_simp
            dsimp only [List.getElem_toArray, List.getElem_cons_zero, List.getElem_cons_succ, Act.put, List.setIfInBounds_toArray, List.set_cons_zero, List.set_cons_succ]
            have HSp := Lib.hid (HS9.out.put a (.slice ua m uc))
            have HOg := Lib.hid (show (w9.setCell ⟨g, a, none⟩ (.slice ua m uc)).ownsRow wo.heap.size 3 1 (.slice ua m uc) (L.take j ++ L.drop (j + 1)).length (intCs (L.take j ++ L.drop (j + 1))) from
              own_base (own_same HO2.out fun x hx => heap_set_other _ _ _ _ (HN2.out x hx).1) HSd.out.le)
            have hlss : M.lss ⟨t.name, t.elems, A, t.wrong⟩ a j = ⟨t.name, t.elems, A.set a (L.take j ++ L.drop (j + 1)), t.wrong⟩ := by rw [← HLD.out]; rfl
            have HFL := Lib.hid (M.lss_form HUG.out.form (i := j) hal)
            have HAT := Lib.hid (show (M.lss ⟨t.name, t.elems, A, t.wrong⟩ a j).above.getD a [] = L.take j ++ L.drop (j + 1) from by rw [← HLD.out]; exact M.lss_at ⟨t.name, t.elems, A, t.wrong⟩ (a := a) (i := j) haA)
            have HEL := Lib.hid (fun x (hx : x ≠ a) => M.lss_else ⟨t.name, t.elems, A, t.wrong⟩ (a := a) (i := j) hx)
            rw [hlss] at HFL HAT HEL
            have HUJ := Lib.hid (show M.listN (M.know ⟨t.name, t.elems, A.set a (L.take j ++ L.drop (j + 1)), t.wrong⟩ a) 12 ≠ LK from by rw [← hlss]; exact HULj.out)
            have hAs : (A.set a (L.take j ++ L.drop (j + 1))).length = A.length := List.length_set
            clear hlss
            obtain ⟨A', hA'⟩ : ∃ A', A.set a (L.take j ++ L.drop (j + 1)) = A' := ⟨_, rfl⟩
            rw [hA'] at HFL HAT HEL HUJ hAs
            have HAS := Lib.hid hAs
            have HSg := Lib.hid (HSp.out.close (k := a) (R' := fun i => A'.getD i []) (skip' := fun _ => False) (List.getElem?_set_self (by rw [HS9.out.row.1]; omega)) HOg.out HN2.out (fun i hi => HEL.out i hi) HAT.out (fun i hi _ => by simpa using hi))
            clear hA' hAs
            refine wpAnyH_one 22 (by kernel_rfl) rfl fun K' HK => ?_
            go_wp2_with fail
            refine HK.out _ _ ⟨(And.intro HSp.out.hdr (And.intro (HCE.out _ HSp.out.below).1 (HCE.out _ HSp.out.below).2.1)), ?_⟩
            clear HK K' k1 k2 k3 hS9
            try simp only [List.setIfInBounds_toArray, List.set_cons_succ, List.set_cons_zero]
            refine wpAnyH_done (by kernel_rfl) ?_ _
            have hbxl := HSg.out.bx
            rw [← HAS.out] at hbxl
            have HTL := Lib.hid (show TbIn (w9.setCell ⟨g, a, none⟩ (.slice ua m uc)) ⟨t.name, t.elems, A', t.wrong⟩ pl from
              HSg.out.table HTO.out.tb.en HTO.out.tb.wn HTO.out.tb.el HTO.out.tb.al HTO.out.tb.wl HAS.out (fun i hi => (getD_in _ _ _ hi).symm) (Nat.le_refl _) (fun _ _ _ _ => rfl))
            have HBL := Lib.hid (show Below wo.heap.size wo (w9.setCell ⟨g, a, none⟩ (.slice ua m uc)) from HB6.out.trans HSg.out.below)
            obtain ⟨z0, z1, z2, z3⟩ := tbBox (t := ⟨t.name, t.elems, A', t.wrong⟩) (p := pl) hbxl
            dsimp only at z0 z1 z2 z3
            clear hbxl
            generalize w9.setCell ⟨g, a, none⟩ (.slice ua m uc) = WL at *
            go_wp2_with fail
            refine (reach_any ⟨t.name, t.elems, A', t.wrong⟩ pl (a : Int) WL (fun l hl => ?hal) HTL.out).mono ?_
            case hal =>
              obtain ⟨x, hx, rfl⟩ := List.getElem_of_mem hl
              have hx1 : x < A'.length := hx
              have hx' : x < t.elems.length := by rw [← HFL.out.above]; exact hx
              have h3 : (A'.getD x []).length ≤ 12 := row_short HFL.out hx'
              rw [getD_in _ _ _ hx1] at h3
              exact Nat.le_trans h3 (by decide)
            intro e wa hq
            obtain ⟨oa, oc, rfl, hoi, hBa⟩ := reach_in HFL.out hal hq
            have HBa := Lib.hid (below2 HBL.out hBa)
            have HOI := Lib.hid hoi
            have hol := M.listN_le (M.know ⟨t.name, t.elems, A', t.wrong⟩ a) 12
            clear hq hBa hoi z0 z1 z2 z3
            generalize hOL : M.listN (M.know ⟨t.name, t.elems, A', t.wrong⟩ a) 12 = OL at *
            clear hOL
            have HSI := Lib.hid (show Calls Try.prog 17 #[.slice oa OL.length oc, .slice ka LK.length kc] wa fun e w' => e = .returned (.bool false) ∧ Below wa.heap.size wa w' from by
              have := sameInts_any oa ka oc kc OL LK wa (by omega) HOI.out (HK5.out.below (below2 HBo.out HBa.out))
              rwa [decide_eq_false HUJ.out] at this)
            go_wp2_with fail
            refine HSI.out.mono ?_
            rintro e wb ⟨rfl, hBb⟩
            have HBf := Lib.hid (below2 HBo.out (below2 HBa.out hBb))
            clear hBb
            go_wp2_with fail
            go_roundw
            case rel => exact ⟨j + 1, by omega, by go_num, HBf⟩
            case measure => simp [intOf]; omega
          · have HRC := Lib.hid hrc
            have HLN := Lib.hid hln
            clear hrc hln
            refine wpAnyH_take (i := 19) (v := .slice (some ⟨rb, ro, none⟩) (L.length - (j + 1)) (rc - (j + 1))) rfl (by kernel_rfl) (by kernel_rfl) (by kernel_rfl) (fun _ _ _ h => h) (Or.inl ⟨by kernel_rfl, ?_⟩) hS ?_
            · intro W' hSw
              obtain ⟨s0', s1', s2'⟩ := hSw
              go_simp
              have := HRC.out
              rw [if_pos (by omega), if_pos (by omega)]
            dsimp only [List.getElem_toArray, List.getElem_cons_zero, List.getElem_cons_succ, Act.put, List.setIfInBounds_toArray, List.set_cons_zero, List.set_cons_succ]
            refine wpAnyH_one 3 (by kernel_rfl) rfl fun K' HK => ?_
            go_wp2_with fail
            refine HK.out _ _ ⟨(And.intro HSe.out.hdr (And.intro (HCE.out _ HSe.out.below).1 (HCE.out _ HSe.out.below).2.1)), ?_⟩
            clear HK K' hS
            try dsimp only [List.getElem_toArray, List.getElem_cons_zero, List.getElem_cons_succ, Act.put, List.setIfInBounds_toArray, List.set_cons_zero, List.set_cons_succ]
            refine wpAnyH_one 11 (by kernel_rfl) rfl fun K' HK => ?_
            refine wpList_app_cel (f := Value.int .i64) _ (by rfl) _ _ _ (by rfl) _ j0 (.int .i64 0) 8 Try.underlying37 HJ.out.1 HJ.out.2.1 HJ.out.2.2.1 HJ.out.2.2.2 rfl (by decide) (fun _ => rfl) W7.drew.heap.size (.slice (some ⟨W7.drew.heap.size, 0, none⟩) 0 0) [] (by rfl) HO0.out (by simp) (some ⟨rb, ro, none⟩) rc (L.take j) (by rw [H1L.out]; rfl) (by simp) ?cel1 (by rw [H1L.out]; simp; omega) ?_
            case cel1 => exact CelSl.upto (Or.inr ⟨rb, ro, rfl, (HCE.out _ HSe.out.below).2.2⟩) j
            intro v1 w8 q1 q2 q3 q4
            have HB8 := Lib.hid (show Below W7.drew.heap.size W7.drew w8 from (below1 W7.drew (.cells #[] 3)).grown q2 (by simp) (fun k hk => by cases hk; exact Nat.le_refl _))
            have HS8 := Lib.hid (HSd.out.below2 HB8.out)
            have HO1 := Lib.hid (show w8.ownsRow W7.drew.heap.size 3 1 v1 (L.take j).length ((L.take j).map (Value.int .i64)) from q1)
            have hB8s := HB8.out.size
            obtain ⟨va, vc, rfl⟩ := own_slice' HO1.out
            clear q1 q2 q3 q4
            refine HK.out _ _ ⟨(And.intro HS8.out.hdr (And.intro (HCE.out _ HS8.out.below).1 (HCE.out _ HS8.out.below).2.1)), ?_⟩
            clear HK K'
            try dsimp only [List.getElem_toArray, List.getElem_cons_zero, List.getElem_cons_succ, Act.put, List.setIfInBounds_toArray, List.set_cons_zero, List.set_cons_succ]
            refine wpAnyH_one 20 (by kernel_rfl) rfl fun K' HK => ?_
            refine wpList_app_cel (f := Value.int .i64) _ (by rfl) _ _ _ (by rfl) _ j0 (.int .i64 0) 8 Try.underlying37 HJ.out.1 HJ.out.2.1 HJ.out.2.2.1 HJ.out.2.2.2 rfl (by decide) (fun _ => rfl) W7.drew.heap.size (.slice va (L.take j).length vc) (L.take j) (by rfl) HO1.out hB8s (some ⟨rb, ro, none⟩) (rc - (j + 1)) (L.drop (j + 1)) (by rw [H2L.out]; rfl) (by simp) ?cel2 (by rw [H1L.out, H2L.out]; omega) ?_
            case cel2 => exact Or.inl (List.drop_eq_nil_of_le (by have := HLN.out; omega))
            intro v2 w9 q1 q2 q3 q4
            have HB9 := Lib.hid (show Below W7.drew.heap.size W7.drew w9 from HB8.out.grown q2 hB8s (fun k hk => (own_lt HO1.out hk).1))
            have HS9 := Lib.hid (HSd.out.below2 HB9.out)
            have HO2 := Lib.hid q1
            obtain ⟨m, hm⟩ : ∃ m, (L.take j ++ L.drop (j + 1)).length = m := ⟨_, rfl⟩
            obtain ⟨ua, uc, hv2⟩ := own_slice' q1
            rw [hm] at hv2
            have HMM := Lib.hid hm
            subst hv2
            have HN2 := Lib.hid (show ∀ x, (Value.slice ua m uc).ownBlock = some x → x ≠ g ∧ x ≠ v6.heap.size from fun x hx => by
              have l0 := (own_lt HO2.out hx).1
              have l1 := HSd.out.glt
              have l2 := heap_lt HSd.out.bx
              omega)
            clear q1 q2 q3 q4 hm
            refine HK.out _ _ ⟨(And.intro HS9.out.hdr (And.intro (HCE.out _ HS9.out.below).1 (HCE.out _ HS9.out.below).2.1)), ?_⟩
            clear HK K'
            have hS9 := (And.intro HS9.out.hdr (And.intro (HCE.out _ HS9.out.below).1 (HCE.out _ HS9.out.below).2.1))
            obtain ⟨k1, k2⟩ := HS9.out.cellV haA HV0.out
            have k3 := HS9.out.glt
            try dsimp only [List.getElem_toArray, List.getElem_cons_zero, List.getElem_cons_succ, Act.put, List.setIfInBounds_toArray, List.set_cons_zero, List.set_cons_succ]
            refine wpAnyH_take (i := 21) (v := .pointer (some ⟨g, a, none⟩)) rfl (by kernel_rfl) (by kernel_rfl) (by kernel_rfl) (fun _ _ _ h => h) (Or.inl ⟨by kernel_rfl, ?_⟩) hS9 ?_
            · intro W' hSw
              obtain ⟨s0', s1', s2'⟩ := hSw
              go_simp
            dsimp only [List.getElem_toArray, List.getElem_cons_zero, List.getElem_cons_succ, Act.put, List.setIfInBounds_toArray, List.set_cons_zero, List.set_cons_succ]
            have HSp := Lib.hid (HS9.out.put a (.slice ua m uc))
            have HOg := Lib.hid (show (w9.setCell ⟨g, a, none⟩ (.slice ua m uc)).ownsRow wo.heap.size 3 1 (.slice ua m uc) (L.take j ++ L.drop (j + 1)).length (intCs (L.take j ++ L.drop (j + 1))) from
              own_base (own_same HO2.out fun x hx => heap_set_other _ _ _ _ (HN2.out x hx).1) HSd.out.le)
            have hlss : M.lss ⟨t.name, t.elems, A, t.wrong⟩ a j = ⟨t.name, t.elems, A.set a (L.take j ++ L.drop (j + 1)), t.wrong⟩ := by rw [← HLD.out]; rfl
            have HFL := Lib.hid (M.lss_form HUG.out.form (i := j) hal)
            have HAT := Lib.hid (show (M.lss ⟨t.name, t.elems, A, t.wrong⟩ a j).above.getD a [] = L.take j ++ L.drop (j + 1) from by rw [← HLD.out]; exact M.lss_at ⟨t.name, t.elems, A, t.wrong⟩ (a := a) (i := j) haA)
            have HEL := Lib.hid (fun x (hx : x ≠ a) => M.lss_else ⟨t.name, t.elems, A, t.wrong⟩ (a := a) (i := j) hx)
            rw [hlss] at HFL HAT HEL
            have HUJ := Lib.hid (show M.listN (M.know ⟨t.name, t.elems, A.set a (L.take j ++ L.drop (j + 1)), t.wrong⟩ a) 12 ≠ LK from by rw [← hlss]; exact HULj.out)
            have hAs : (A.set a (L.take j ++ L.drop (j + 1))).length = A.length := List.length_set
            clear hlss
            obtain ⟨A', hA'⟩ : ∃ A', A.set a (L.take j ++ L.drop (j + 1)) = A' := ⟨_, rfl⟩
            rw [hA'] at HFL HAT HEL HUJ hAs
            have HAS := Lib.hid hAs
            have HSg := Lib.hid (HSp.out.close (k := a) (R' := fun i => A'.getD i []) (skip' := fun _ => False) (List.getElem?_set_self (by rw [HS9.out.row.1]; omega)) HOg.out HN2.out (fun i hi => HEL.out i hi) HAT.out (fun i hi _ => by simpa using hi))
            clear hA' hAs
            refine wpAnyH_one 22 (by kernel_rfl) rfl fun K' HK => ?_
            go_wp2_with fail
            refine HK.out _ _ ⟨(And.intro HSp.out.hdr (And.intro (HCE.out _ HSp.out.below).1 (HCE.out _ HSp.out.below).2.1)), ?_⟩
            clear HK K' k1 k2 k3 hS9
            try simp only [List.setIfInBounds_toArray, List.set_cons_succ, List.set_cons_zero]
            refine wpAnyH_done (by kernel_rfl) ?_ _
            have hbxl := HSg.out.bx
            rw [← HAS.out] at hbxl
            have HTL := Lib.hid (show TbIn (w9.setCell ⟨g, a, none⟩ (.slice ua m uc)) ⟨t.name, t.elems, A', t.wrong⟩ pl from
              HSg.out.table HTO.out.tb.en HTO.out.tb.wn HTO.out.tb.el HTO.out.tb.al HTO.out.tb.wl HAS.out (fun i hi => (getD_in _ _ _ hi).symm) (Nat.le_refl _) (fun _ _ _ _ => rfl))
            have HBL := Lib.hid (show Below wo.heap.size wo (w9.setCell ⟨g, a, none⟩ (.slice ua m uc)) from HB6.out.trans HSg.out.below)
            obtain ⟨z0, z1, z2, z3⟩ := tbBox (t := ⟨t.name, t.elems, A', t.wrong⟩) (p := pl) hbxl
            dsimp only at z0 z1 z2 z3
            clear hbxl
            generalize w9.setCell ⟨g, a, none⟩ (.slice ua m uc) = WL at *
            go_wp2_with fail
            refine (reach_any ⟨t.name, t.elems, A', t.wrong⟩ pl (a : Int) WL (fun l hl => ?hal) HTL.out).mono ?_
            case hal =>
              obtain ⟨x, hx, rfl⟩ := List.getElem_of_mem hl
              have hx1 : x < A'.length := hx
              have hx' : x < t.elems.length := by rw [← HFL.out.above]; exact hx
              have h3 : (A'.getD x []).length ≤ 12 := row_short HFL.out hx'
              rw [getD_in _ _ _ hx1] at h3
              exact Nat.le_trans h3 (by decide)
            intro e wa hq
            obtain ⟨oa, oc, rfl, hoi, hBa⟩ := reach_in HFL.out hal hq
            have HBa := Lib.hid (below2 HBL.out hBa)
            have HOI := Lib.hid hoi
            have hol := M.listN_le (M.know ⟨t.name, t.elems, A', t.wrong⟩ a) 12
            clear hq hBa hoi z0 z1 z2 z3
            generalize hOL : M.listN (M.know ⟨t.name, t.elems, A', t.wrong⟩ a) 12 = OL at *
            clear hOL
            have HSI := Lib.hid (show Calls Try.prog 17 #[.slice oa OL.length oc, .slice ka LK.length kc] wa fun e w' => e = .returned (.bool false) ∧ Below wa.heap.size wa w' from by
              have := sameInts_any oa ka oc kc OL LK wa (by omega) HOI.out (HK5.out.below (below2 HBo.out HBa.out))
              rwa [decide_eq_false HUJ.out] at this)
            go_wp2_with fail
            refine HSI.out.mono ?_
            rintro e wb ⟨rfl, hBb⟩
            have HBf := Lib.hid (below2 HBo.out (below2 HBa.out hBb))
            clear hBb
            go_wp2_with fail
            go_roundw
            case rel => exact ⟨j + 1, by omega, by go_num, HBf⟩
            case measure => simp [intOf]; omega
        · obtain rfl : j = L.length := by omega
          have j1 : decide ((L.length : Int) < (L.length : Int)) = false := decide_eq_false (by omega)
          have HBf := Lib.hid (below2 HB5w.out HBo.out)
          go_wp2_with fail
          go_roundw
          case rel => exact ⟨a + 1, by omega, by go_num, HBf⟩
          case measure => simp [intOf]; omega
    · obtain rfl : a = t.elems.length := by omega
      have a1 : decide ((t.elems.length : Int) < (t.elems.length : Int)) = false := decide_eq_false (by omega)
      go_wp2_with fail
      refine (awake_any _).mono ?_
      rintro e w9 ⟨rfl, hB9⟩
      have hB := below2 HBW.out (below2 HBr.out hB9)
      clear hB9
      go_wp2_with fail
      go_ret
      exact ⟨rfl, hB⟩
end Go.Proofs.Ytnhnjfoboepffaa
