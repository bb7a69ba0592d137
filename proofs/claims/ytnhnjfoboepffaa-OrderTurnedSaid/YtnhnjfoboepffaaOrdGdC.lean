/- DERIVED. The statement on tables in another order, walked. -/
import Derived.Test.YtnhnjfoboepffaaOrdGcC
import Derived.Test.YtnhnjfoboepffaaGr42
import Derived.Test.YtnhnjfoboepffaaGr1
import Derived.Test.YtnhnjfoboepffaaGr5
namespace Go.Proofs.Ytnhnjfoboepffaa
open Go.RowKit

theorem small_form {u : M.Tb} (hf : M.form u) : Small u := by
  have h12 := hf.twelve
  have hn := hf.name
  unfold M.isTabB M.isNameB at hn
  simp only [Bool.and_eq_true, decide_eq_true_eq] at hn
  rw [M.size_list] at hn
  refine ⟨by omega, by rw [hf.above]; omega, by rw [hf.wrong]; omega, fun l hl => ?_, by unfold maxLen; have := hn.1.1.1.2; omega, fun s hs => ?_⟩
  · obtain ⟨i, hi, rfl⟩ := List.getElem_of_mem hl
    have h := row_short hf (a := i) (by rw [← hf.above]; exact hi)
    rw [getD_in _ _ _ hi] at h
    omega
  · obtain ⟨i, hi, rfl⟩ := List.getElem_of_mem hs
    have h := hf.names i hi
    unfold M.isNameB at h
    simp only [Bool.and_eq_true, decide_eq_true_eq] at h
    rw [M.size_list] at h
    have := h.1.1.2
    unfold maxLen; omega
theorem prove_two {t u : M.Tb} (hf : M.form t) (hu : M.form u) (hi : M.good t ↔ M.good u) : ∃ (x y : Nat × Nat × Nat) (f : Int), (∀ w E w', ProvePost t w E w' → E = .returned (.tuple #[brkV x, .int .i64 f]) ∧ Below w.heap.size w w') ∧ (∀ w E w', ProvePost u w E w' → E = .returned (.tuple #[brkV y, .int .i64 f]) ∧ Below w.heap.size w w') ∧ (f = 0 ∧ M.lat t ∨ f = 12) := by
  by_cases hk : (M.brk t).1 = 0
  · have hl : M.lat t := ⟨hf, M.brk_kind hk⟩
    have hlu : M.lat u := M.good_lat (hi.1 (M.lat_good hl))
    refine ⟨(0, 0, 0), (0, 0, 0), 0, ?_, ?_, Or.inl ⟨rfl, hl⟩⟩
    · rintro w E w' ⟨⟨h, _⟩ | ⟨_, h, _⟩ | ⟨_, _, rfl⟩, hB⟩
      · exact absurd hf h
      · exact absurd hk h
      · exact ⟨rfl, hB⟩
    · rintro w E w' ⟨⟨h, _⟩ | ⟨_, h, _⟩ | ⟨_, _, rfl⟩, hB⟩
      · exact absurd hu h
      · exact absurd (by rw [hlu.2]) h
      · exact ⟨rfl, hB⟩
  · have hku : (M.brk u).1 ≠ 0 := fun q => hk (by
      have hlu : M.lat u := ⟨hu, M.brk_kind q⟩
      have := M.good_lat (hi.2 (M.lat_good hlu))
      rw [this.2])
    refine ⟨M.brk t, M.brk u, 12, ?_, ?_, Or.inr rfl⟩
    · rintro w E w' ⟨⟨h, _⟩ | ⟨_, _, rfl⟩ | ⟨_, h, _⟩, hB⟩
      · exact absurd hf h
      · exact ⟨rfl, hB⟩
      · exact absurd (by rw [h]) hk
    · rintro w E w' ⟨⟨h, _⟩ | ⟨_, _, rfl⟩ | ⟨_, h, _⟩, hB⟩
      · exact absurd hu h
      · exact ⟨rfl, hB⟩
      · exact absurd (by rw [h]) hku

set_option maxHeartbeats 16000000 in
set_option maxRecDepth 100000 in
theorem orderTurned_any (t : M.Tb) (p : Tp) (y : Option Addr) (c : Nat) (l : List (Fin 256)) (w : World) (ht : TbIn w t p) (_hn : y = none → c = 0) (hy : CelSl bytV w y l) :
    Calls Try.prog 5 #[tbV t p, .slice y l.length c] w fun e w' => e = .returned (.bool true) ∧ Below w.heap.size w w' := by
  have hmx : Try.prog.follows .mixedOrders = true := by kernel_rfl
  have HX := Lib.hid (tbBox (t := t) (p := p) (box_new w (tbA t p) 26))
  have HT := Lib.hid (ht.below (below1 w (.cells (tbA t p) 26)))
  have HY := Lib.hid (hy.below (below1 w (.cells (tbA t p) 26)))
  have HB := Lib.hid (below1 w (.cells (tbA t p) 26))
  have HC := Lib.hid (thinT_any t p _ HT.out)
  obtain ⟨c0, c1, c2, c3⟩ := HX.out
  clear ht hy _hn
  go_enter Try.func5, Try.ntmps5
  go_wp2_with fail
  refine HC.out.mono ?_
  rintro e w1 ⟨rfl, hB1⟩
  have HX := Lib.hid (HX.out.below hB1)
  have HT := Lib.hid (HT.out.below hB1)
  have HY := Lib.hid (HY.out.below hB1)
  have HB := Lib.hid (below2 HB.out hB1)
  clear HC c0 c1 c2 c3 hB1
  cases hth : M.thinB t with
  | false =>
    go_wp2_with fail
    refine (awake_any _).mono ?_
    rintro e w2 ⟨rfl, hB2⟩
    have hB := below2 HB.out hB2
    go_wp2_with fail
    go_ret
    exact ⟨rfl, hB⟩
  | true =>
    have HS := Lib.hid (small_of hth)
    clear hth
    obtain ⟨c0, c1, c2, c3⟩ := HX.out
    go_wp2_with fail
    refine (refCheck_any t p _ HS.out.hs HS.out.hes HS.out.h4 HT.out).mono ?_
    rintro e w2 ⟨⟨hf, rfl⟩ | ⟨hf, rfl⟩, hB2⟩
    rotate_left
    · have HBe := Lib.hid (below2 HB.out hB2)
      clear c0 c1 c2 c3 hf hB2
      go_wp2_with fail
      refine (awake_any _).mono ?_
      rintro e w3 ⟨rfl, hB3⟩
      have hB := below2 HBe.out hB3
      go_wp2_with fail
      go_ret
      exact ⟨rfl, hB⟩
    have HF := Lib.hid hf
    have HX := Lib.hid (HX.out.below hB2)
    have HT := Lib.hid (HT.out.below hB2)
    have HY := Lib.hid (HY.out.below hB2)
    have HB := Lib.hid (below2 HB.out hB2)
    clear c0 c1 c2 c3 hf hB2
    obtain ⟨c0, c1, c2, c3⟩ := HX.out
    go_wp2_with fail
    refine (turned_any t p y c l w2 HF.out HT.out HY.out).mono ?_
    rintro e w3 ⟨f, g, pu, Bt, ct, hinv, rfl, htu, hto, hB3⟩
    have hiso := M.trn_iso HF.out hinv
    have hfu := M.trn_form HF.out hinv
    have HJ := Lib.hid (fun (hg : M.good t) a b (ha : a < t.elems.length) (hb : b < t.elems.length) => hiso.jn_ hfu hg ha hb)
    have HGL := Lib.hid (fun a (ha : a < t.elems.length) => hinv.gl a ha)
    have HLN := Lib.hid (M.trn_len t f)
    have hgi := hiso.good_iff HF.out hfu
    clear hiso
    generalize hu : M.trn t f = u at *
    clear hu
    obtain ⟨x, z, F, hp1, hp2, hF⟩ := prove_two HF.out hfu hgi
    have HFU := Lib.hid hfu
    have HSU := Lib.hid (small_form hfu)
    have HGI := Lib.hid hgi
    have HP1 := Lib.hid hp1
    have HP2 := Lib.hid hp2
    have hbx := below2 hB3 (below1 w3 (.cells (tbA u pu) 26))
    have HX := Lib.hid (HX.out.below hbx)
    have HT := Lib.hid (HT.out.below hbx)
    have HB := Lib.hid (below2 HB.out hbx)
    have HU := Lib.hid (tbBox (t := u) (p := pu) (box_new w3 (tbA u pu) 26))
    have HTU := Lib.hid (htu.below (below1 w3 (.cells (tbA u pu) 26)))
    have HTO := Lib.hid (show ∀ i, i < t.elems.length → (w3.alloc (.cells (tbA u pu) 26)).cell? ⟨Bt, i, none⟩ = some (.int .i64 (g i : Nat)) from fun i hi => cell_below (hto i hi) (below1 _ _))
    clear c0 c1 c2 c3 hp1 hp2 hfu hgi hB3 hbx htu hto hinv HY
    obtain ⟨c0, c1, c2, c3⟩ := HX.out
    go_wp2_with fail
    refine (copy_any t p _ HS.out.h1 HS.out.h2 HS.out.h3 HS.out.h4 HT.out).mono ?_
    rintro e w4 ⟨p4, rfl, ht4, hB4⟩
    have HX := Lib.hid (HX.out.below hB4)
    have HT := Lib.hid (HT.out.below hB4)
    have HB := Lib.hid (below2 HB.out hB4)
    have HU := Lib.hid (HU.out.below hB4)
    have HTU := Lib.hid (HTU.out.below hB4)
    have HTO := Lib.hid (fun i hi => cell_below (HTO.out i hi) hB4)
    have HT4 := Lib.hid ht4
    clear c0 c1 c2 c3 hB4 ht4
    go_wp2_with fail
    refine (prove_any t p4 _ HS.out.h4 HT4.out).mono ?_
    intro e w5 hq
    obtain ⟨rfl, hB5⟩ := HP1.out _ _ _ hq
    have hbx := below2 hB5 (below1 w5 (.cells #[.int .u8 x.1, .int .i64 x.2.1, .int .i64 x.2.2] 45))
    have HX := Lib.hid (HX.out.below hbx)
    have HT := Lib.hid (HT.out.below hbx)
    have HB := Lib.hid (below2 HB.out hbx)
    have HU := Lib.hid (HU.out.below hbx)
    have HTU := Lib.hid (HTU.out.below hbx)
    have HTO := Lib.hid (fun i hi => cell_below (HTO.out i hi) hbx)
    clear hq hB5 hbx HT4
    obtain ⟨u0, u1, u2, u3⟩ := HU.out
    go_wp2_with fail
    refine (copy_any u pu _ HSU.out.h1 HSU.out.h2 HSU.out.h3 HSU.out.h4 HTU.out).mono ?_
    rintro e w6 ⟨p6, rfl, ht6, hB6⟩
    have HX := Lib.hid (HX.out.below hB6)
    have HT := Lib.hid (HT.out.below hB6)
    have HB := Lib.hid (below2 HB.out hB6)
    have HU := Lib.hid (HU.out.below hB6)
    have HTU := Lib.hid (HTU.out.below hB6)
    have HTO := Lib.hid (fun i hi => cell_below (HTO.out i hi) hB6)
    have HT6 := Lib.hid ht6
    clear u0 u1 u2 u3 hB6 ht6
    go_wp2_with fail
    refine (prove_any u p6 _ HSU.out.h4 HT6.out).mono ?_
    intro e w7 hq
    obtain ⟨rfl, hB7⟩ := HP2.out _ _ _ hq
    have hbx := below2 hB7 (below1 w7 (.cells #[.int .u8 z.1, .int .i64 z.2.1, .int .i64 z.2.2] 45))
    have HX := Lib.hid (HX.out.below hbx)
    have HT := Lib.hid (HT.out.below hbx)
    have HB := Lib.hid (below2 HB.out hbx)
    have HU := Lib.hid (HU.out.below hbx)
    have HTU := Lib.hid (HTU.out.below hbx)
    have HTO := Lib.hid (fun i hi => cell_below (HTO.out i hi) hbx)
    clear hq hB7 hbx HT6
    rcases hF with ⟨rfl, hl⟩ | rfl
    rotate_left
    · have h01 := HF.out.one
      have k1 : (0 : Int) < (t.elems.length : Int) := by omega
      go_wp2_with fail
      go_loopw [11] (fun i wr => i = .int .i64 0 ∧ Hid (Below w.heap.size w wr)) (fun _ _ => 0)
      case atStart => exact ⟨rfl, HB⟩
      case round =>
        rename World => wr
        obtain ⟨rfl, HBr⟩ := hrel
        go_wp2_with fail
        refine (awake_any _).mono ?_
        rintro e w9 ⟨rfl, hB9⟩
        have hB := below2 HBr.out hB9
        go_wp2_with fail
        go_ret
        exact ⟨rfl, hB⟩
    have h12 := HF.out.twelve
    have HL := Lib.hid hl
    have HG := Lib.hid (M.lat_good hl)
    have HLU := Lib.hid (M.good_lat (HGI.out.1 (M.lat_good hl)))
    clear hl
    go_wp2_with fail
    generalize hW : w7.alloc (.cells #[.int .u8 z.1, .int .i64 z.2.1, .int .i64 z.2.2] 45) = w8 at *
    clear hW
    go_loopw [11] (fun i wr => ∃ a : Nat, a ≤ t.elems.length ∧ i = .int .i64 a ∧ Hid (Below w8.heap.size w8 wr)) (fun i _ => t.elems.length - (intOf i).toNat)
    case atStart => exact ⟨0, by omega, rfl, Lib.hid (Below.refl _ _)⟩
    case round =>
      rename World => wr
      obtain ⟨a, ha, rfl, HBr⟩ := hrel
      by_cases hal : a < t.elems.length
      · have a1 : (a : Int) < (t.elems.length : Int) := by omega
        have a2 : (0 : Int) ≤ (a : Int) := by omega
        go_wp2_with fail
        go_loopw [12] (fun i wo => ∃ b : Nat, b ≤ t.elems.length ∧ i = .int .i64 b ∧ Hid (Below w8.heap.size w8 wo)) (fun i _ => t.elems.length - (intOf i).toNat)
        case atStart => exact ⟨0, by omega, rfl, HBr⟩
        case round =>
          rename World => wo
          obtain ⟨b, hb, rfl, HBo⟩ := hrel
          by_cases hbl : b < t.elems.length
          · have b1 : (b : Int) < (t.elems.length : Int) := by omega
            have b2 : (0 : Int) ≤ (b : Int) := by omega
            have HJT := Lib.hid (show ∀ W, TbIn W t p → Calls Try.prog 21 #[tbV t p, .int .i64 a, .int .i64 b] W fun e w' => e = .returned (.int .i64 (M.jnD t a b : Nat)) ∧ Below W.heap.size W w' from fun W hW => lawJoin_any t p a b W HS.out HL.out hal hbl hW)
            have HJU := Lib.hid (show ∀ W, TbIn W u pu → Calls Try.prog 21 #[tbV u pu, .int .i64 (g a : Nat), .int .i64 (g b : Nat)] W fun e w' => e = .returned (.int .i64 (g (M.jnD t a b) : Nat)) ∧ Below W.heap.size W w' from fun W hW => by
              have h := lawJoin_any u pu (g a) (g b) W HSU.out HLU.out (by rw [HLN.out]; exact HGL.out a hal) (by rw [HLN.out]; exact HGL.out b hbl) hW
              rwa [HJ.out HG.out a b hal hbl] at h)
            have hjl := (M.jnD_is HG.out hal hbl).lt
            generalize hjn : M.jnD t a b = jn at *
            clear hjn
            go_upto_region 14 with fail
            have HBd := Lib.hid (belowN HBo.out 1)
            have hS := And.intro (HX.out.below HBo.out |>.below (Below.refl _ _).drew) (And.intro (HU.out.below HBo.out |>.below (Below.refl _ _).drew) (And.intro (And.intro (cell_below (cell_below (HTO.out a hal) HBo.out) (Below.refl _ _).drew) (cell_below (cell_below (HTO.out b hbl) HBo.out) (Below.refl _ _).drew)) (below2 HBo.out (Below.refl _ _).drew)))
            refine wp_region_held (S := (fun W => TbBox W w.heap.size t p ∧ TbBox W w3.heap.size u pu ∧ (W.cell? ⟨Bt, a, none⟩ = some (.int .i64 (g a : Nat)) ∧ W.cell? ⟨Bt, b, none⟩ = some (.int .i64 (g b : Nat))) ∧ Below w8.heap.size w8 W)) hmx ?_
            change wpAnyH _ _ _ _ _ _ _ _ (wo).drew
            refine wpAnyH_take (i := 0) (v := tbV t p) rfl (by kernel_rfl) (by kernel_rfl) (by kernel_rfl) (fun _ _ _ h => h) (Or.inl ⟨by kernel_rfl, ?_⟩) hS ?_
            · intro W' hSw
              obtain ⟨⟨c0, c1, c2, c3⟩, ⟨u0, u1, u2, u3⟩, ⟨r1, r2⟩, _⟩ := hSw
              go_simp
            dsimp only [List.getElem_toArray, List.getElem_cons_zero, List.getElem_cons_succ, Act.put, List.setIfInBounds_toArray, List.set_cons_zero, List.set_cons_succ]
            refine wpAnyH_take (i := 1) (v := .int .i64 a) rfl (by kernel_rfl) (by kernel_rfl) (by kernel_rfl) (fun _ _ _ h => h) (Or.inl ⟨by kernel_rfl, ?_⟩) hS ?_
            · intro W' hSw
              obtain ⟨⟨c0, c1, c2, c3⟩, ⟨u0, u1, u2, u3⟩, ⟨r1, r2⟩, _⟩ := hSw
              go_simp
            dsimp only [List.getElem_toArray, List.getElem_cons_zero, List.getElem_cons_succ, Act.put, List.setIfInBounds_toArray, List.set_cons_zero, List.set_cons_succ]
            refine wpAnyH_take (i := 2) (v := .int .i64 b) rfl (by kernel_rfl) (by kernel_rfl) (by kernel_rfl) (fun _ _ _ h => h) (Or.inl ⟨by kernel_rfl, ?_⟩) hS ?_
            · intro W' hSw
              obtain ⟨⟨c0, c1, c2, c3⟩, ⟨u0, u1, u2, u3⟩, ⟨r1, r2⟩, _⟩ := hSw
              go_simp
            dsimp only [List.getElem_toArray, List.getElem_cons_zero, List.getElem_cons_succ, Act.put, List.setIfInBounds_toArray, List.set_cons_zero, List.set_cons_succ]
            refine wpAnyH_take (i := 4) (v := tbV u pu) rfl (by kernel_rfl) (by kernel_rfl) (by kernel_rfl) (fun _ _ _ h => h) (Or.inl ⟨by kernel_rfl, ?_⟩) hS ?_
            · intro W' hSw
              obtain ⟨⟨c0, c1, c2, c3⟩, ⟨u0, u1, u2, u3⟩, ⟨r1, r2⟩, _⟩ := hSw
              go_simp
            dsimp only [List.getElem_toArray, List.getElem_cons_zero, List.getElem_cons_succ, Act.put, List.setIfInBounds_toArray, List.set_cons_zero, List.set_cons_succ]
            refine wpAnyH_take (i := 5) (v := .slice (some ⟨Bt, 0, none⟩) t.elems.length ct) rfl (by kernel_rfl) (by kernel_rfl) (by kernel_rfl) (fun _ _ _ h => h) (Or.inl ⟨by kernel_rfl, ?_⟩) hS ?_
            · intro W' hSw
              obtain ⟨⟨c0, c1, c2, c3⟩, ⟨u0, u1, u2, u3⟩, ⟨r1, r2⟩, _⟩ := hSw
              go_simp
            dsimp only [List.getElem_toArray, List.getElem_cons_zero, List.getElem_cons_succ, Act.put, List.setIfInBounds_toArray, List.set_cons_zero, List.set_cons_succ]
            refine wpAnyH_take (i := 6) (v := .int .i64 a) rfl (by kernel_rfl) (by kernel_rfl) (by kernel_rfl) (fun _ _ _ h => h) (Or.inl ⟨by kernel_rfl, ?_⟩) hS ?_
            · intro W' hSw
              obtain ⟨⟨c0, c1, c2, c3⟩, ⟨u0, u1, u2, u3⟩, ⟨r1, r2⟩, _⟩ := hSw
              go_simp
            dsimp only [List.getElem_toArray, List.getElem_cons_zero, List.getElem_cons_succ, Act.put, List.setIfInBounds_toArray, List.set_cons_zero, List.set_cons_succ]
            refine wpAnyH_take (i := 7) (v := .pointer (some ⟨Bt, a, none⟩)) rfl (by kernel_rfl) (by kernel_rfl) (by kernel_rfl) (fun _ _ _ h => h) (Or.inl ⟨by kernel_rfl, ?_⟩) hS ?_
            · intro W' hSw
              obtain ⟨⟨c0, c1, c2, c3⟩, ⟨u0, u1, u2, u3⟩, ⟨r1, r2⟩, _⟩ := hSw
              go_simp
            dsimp only [List.getElem_toArray, List.getElem_cons_zero, List.getElem_cons_succ, Act.put, List.setIfInBounds_toArray, List.set_cons_zero, List.set_cons_succ]
            refine wpAnyH_take (i := 8) (v := .int .i64 (g a : Nat)) rfl (by kernel_rfl) (by kernel_rfl) (by kernel_rfl) (fun _ _ _ h => h) (Or.inl ⟨by kernel_rfl, ?_⟩) hS ?_
            · intro W' hSw
              obtain ⟨⟨c0, c1, c2, c3⟩, ⟨u0, u1, u2, u3⟩, ⟨r1, r2⟩, _⟩ := hSw
              go_simp
            dsimp only [List.getElem_toArray, List.getElem_cons_zero, List.getElem_cons_succ, Act.put, List.setIfInBounds_toArray, List.set_cons_zero, List.set_cons_succ]
            refine wpAnyH_take (i := 9) (v := .slice (some ⟨Bt, 0, none⟩) t.elems.length ct) rfl (by kernel_rfl) (by kernel_rfl) (by kernel_rfl) (fun _ _ _ h => h) (Or.inl ⟨by kernel_rfl, ?_⟩) hS ?_
            · intro W' hSw
              obtain ⟨⟨c0, c1, c2, c3⟩, ⟨u0, u1, u2, u3⟩, ⟨r1, r2⟩, _⟩ := hSw
              go_simp
            dsimp only [List.getElem_toArray, List.getElem_cons_zero, List.getElem_cons_succ, Act.put, List.setIfInBounds_toArray, List.set_cons_zero, List.set_cons_succ]
            refine wpAnyH_take (i := 10) (v := .int .i64 b) rfl (by kernel_rfl) (by kernel_rfl) (by kernel_rfl) (fun _ _ _ h => h) (Or.inl ⟨by kernel_rfl, ?_⟩) hS ?_
            · intro W' hSw
              obtain ⟨⟨c0, c1, c2, c3⟩, ⟨u0, u1, u2, u3⟩, ⟨r1, r2⟩, _⟩ := hSw
              go_simp
            dsimp only [List.getElem_toArray, List.getElem_cons_zero, List.getElem_cons_succ, Act.put, List.setIfInBounds_toArray, List.set_cons_zero, List.set_cons_succ]
            refine wpAnyH_take (i := 11) (v := .pointer (some ⟨Bt, b, none⟩)) rfl (by kernel_rfl) (by kernel_rfl) (by kernel_rfl) (fun _ _ _ h => h) (Or.inl ⟨by kernel_rfl, ?_⟩) hS ?_
            · intro W' hSw
              obtain ⟨⟨c0, c1, c2, c3⟩, ⟨u0, u1, u2, u3⟩, ⟨r1, r2⟩, _⟩ := hSw
              go_simp
            dsimp only [List.getElem_toArray, List.getElem_cons_zero, List.getElem_cons_succ, Act.put, List.setIfInBounds_toArray, List.set_cons_zero, List.set_cons_succ]
            refine wpAnyH_take (i := 12) (v := .int .i64 (g b : Nat)) rfl (by kernel_rfl) (by kernel_rfl) (by kernel_rfl) (fun _ _ _ h => h) (Or.inl ⟨by kernel_rfl, ?_⟩) hS ?_
            · intro W' hSw
              obtain ⟨⟨c0, c1, c2, c3⟩, ⟨u0, u1, u2, u3⟩, ⟨r1, r2⟩, _⟩ := hSw
              go_simp
            dsimp only [List.getElem_toArray, List.getElem_cons_zero, List.getElem_cons_succ, Act.put, List.setIfInBounds_toArray, List.set_cons_zero, List.set_cons_succ]
            refine wpAnyH_call 3 21 #[tbV t p, .int .i64 a, .int .i64 b] (.int .i64 jn) (by kernel_rfl) rfl (by kernel_rfl) (by kernel_rfl) (HJT.out _ ((HT.out.below hS.2.2.2))) ?_
            intro wp1 hB
            have hS := And.intro (hS.1.below hB) (And.intro (hS.2.1.below hB) (And.intro (And.intro (cell_below hS.2.2.1.1 hB) (cell_below hS.2.2.1.2 hB)) (below2 hS.2.2.2 hB)))
            clear hB
            refine ⟨⟨hS.1, hS.2.1, hS.2.2.1, hS.2.2.2⟩, ?_⟩
            dsimp only [List.getElem_toArray, List.getElem_cons_zero, List.getElem_cons_succ, Act.put, List.setIfInBounds_toArray, List.set_cons_zero, List.set_cons_succ]
            refine wpAnyH_call 13 21 #[tbV u pu, .int .i64 (g a : Nat), .int .i64 (g b : Nat)] (.int .i64 (g jn : Nat)) (by kernel_rfl) rfl (by kernel_rfl) (by kernel_rfl) (HJU.out _ ((HTU.out.below hS.2.2.2))) ?_
            intro wp2 hB
            have hS := And.intro (hS.1.below hB) (And.intro (hS.2.1.below hB) (And.intro (And.intro (cell_below hS.2.2.1.1 hB) (cell_below hS.2.2.1.2 hB)) (below2 hS.2.2.2 hB)))
            clear hB
            refine ⟨⟨hS.1, hS.2.1, hS.2.2.1, hS.2.2.2⟩, ?_⟩
            dsimp only [List.getElem_toArray, List.getElem_cons_zero, List.getElem_cons_succ, Act.put, List.setIfInBounds_toArray, List.set_cons_zero, List.set_cons_succ]
            refine wpAnyH_take (i := 14) (v := .int .i64 jn) rfl (by kernel_rfl) (by kernel_rfl) (by kernel_rfl) (fun _ _ _ h => h) (Or.inl ⟨by kernel_rfl, ?_⟩) hS ?_
            · intro W' hSw
              obtain ⟨⟨c0, c1, c2, c3⟩, ⟨u0, u1, u2, u3⟩, ⟨r1, r2⟩, _⟩ := hSw
              go_simp
            dsimp only [List.getElem_toArray, List.getElem_cons_zero, List.getElem_cons_succ, Act.put, List.setIfInBounds_toArray, List.set_cons_zero, List.set_cons_succ]
            refine wpAnyH_take (i := 15) (v := .int .i64 (g jn : Nat)) rfl (by kernel_rfl) (by kernel_rfl) (by kernel_rfl) (fun _ _ _ h => h) (Or.inl ⟨by kernel_rfl, ?_⟩) hS ?_
            · intro W' hSw
              obtain ⟨⟨c0, c1, c2, c3⟩, ⟨u0, u1, u2, u3⟩, ⟨r1, r2⟩, _⟩ := hSw
              go_simp
            dsimp only [List.getElem_toArray, List.getElem_cons_zero, List.getElem_cons_succ, Act.put, List.setIfInBounds_toArray, List.set_cons_zero, List.set_cons_succ]
            refine wpAnyH_done (by kernel_rfl) ?_ _
            have HBn := Lib.hid hS.2.2.2
            have r1 := cell_below (HTO.out jn hjl) HBn.out
            have j1 : (jn : Int) < (t.elems.length : Int) := by omega
            have j2 : (0 : Int) ≤ (jn : Int) := by omega
            have j3 : ¬ (jn : Int) < 0 := by omega
            have j4 : decide ((jn : Int) < 0) = false := decide_eq_false j3
            clear hS HJT HJU HBd
            go_wp2_with fail
            go_roundw
            case rel => exact ⟨b + 1, by omega, by go_num, HBn⟩
            case measure => simp [intOf]; omega
          · obtain rfl : b = t.elems.length := by omega
            have b1 : decide ((t.elems.length : Int) < (t.elems.length : Int)) = false := decide_eq_false (by omega)
            go_wp2_with fail
            go_roundw
            case rel => exact ⟨a + 1, by omega, by go_num, HBo⟩
            case measure => simp [intOf]; omega
      · obtain rfl : a = t.elems.length := by omega
        have a1 : decide ((t.elems.length : Int) < (t.elems.length : Int)) = false := decide_eq_false (by omega)
        go_wp2_with fail
        refine (awake_any _).mono ?_
        rintro e w9 ⟨rfl, hB9⟩
        have hB := below2 HB.out (below2 HBr.out hB9)
        clear hB9
        go_wp2_with fail
        go_ret
        exact ⟨rfl, hB⟩
end Go.Proofs.Ytnhnjfoboepffaa
