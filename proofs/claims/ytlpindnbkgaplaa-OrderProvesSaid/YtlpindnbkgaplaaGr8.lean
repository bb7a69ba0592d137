/- Texts of one's own, joined: OrdX, OrdAa, OrdY, OrdAb. -/
import Derived.Test.YtlpindnbkgaplaaGr7
import Derived.Deep.DeepCutAuto
import Derived.Deep.RegionWith
namespace Go.Proofs.Ytlpindnbkgaplaa
open Go.RowKit

abbrev brkV (x : Nat × Nat × Nat) : Value := .agg #[.int .u8 x.1, .int .i64 x.2.1, .int .i64 x.2.2]
abbrev br0 : Array Value := #[.int .u8 0, .int .i64 0, .int .i64 0]
/-- A break of no kind in its box. -/
structure Z3 (W : World) (B : Nat) : Prop where
  c0 : W.cell? ⟨B, 0, none⟩ = some (.int .u8 0)
  c1 : W.cell? ⟨B, 1, none⟩ = some (.int .i64 0)
  c2 : W.cell? ⟨B, 2, none⟩ = some (.int .i64 0)
  f0 : W.frozen? ⟨B, 0, none⟩ = false
  f1 : W.frozen? ⟨B, 1, none⟩ = false
  f2 : W.frozen? ⟨B, 2, none⟩ = false
theorem z3_of {W : World} {B : Nat} {T : TypeId} (h : W.heap[B]? = some (.cells br0 T (0, 0))) : Z3 W B :=
  ⟨by rw [Lib.cell_of_heap h]; rfl, by rw [Lib.cell_of_heap h]; rfl, by rw [Lib.cell_of_heap h]; rfl, Lib.frozen_of_heap h 0, Lib.frozen_of_heap h 1, Lib.frozen_of_heap h 2⟩
theorem Z3.below {W W' : World} {B n : Nat} (h : Z3 W B) (hB : Below n W W') (hn : B < n) : Z3 W' B :=
  ⟨(hB.cell (p := ⟨B, 0, none⟩) hn).trans h.c0, (hB.cell (p := ⟨B, 1, none⟩) hn).trans h.c1, (hB.cell (p := ⟨B, 2, none⟩) hn).trans h.c2, (hB.frozen (p := ⟨B, 0, none⟩) hn).trans h.f0, (hB.frozen (p := ⟨B, 1, none⟩) hn).trans h.f1, (hB.frozen (p := ⟨B, 2, none⟩) hn).trans h.f2⟩

set_option maxHeartbeats 8000000 in
set_option maxRecDepth 100000 in
theorem refBreak_any (t : M.Tb) (p : Tp) (w : World) (ht : TbIn w t p) (hf : M.form t) :
    Calls Try.prog 36 #[tbV t p] w fun e w' => e = .returned (brkV (M.brk t)) ∧ Below w.heap.size w w' := by
  obtain ⟨pea, pec, paa, pac, pwa, pwc⟩ := p
  have h12 := hf.twelve
  have hone := hf.one
  have hwl := hf.wrong
  have HF := Lib.hid hf
  have hBB : Below w.heap.size w ((w.alloc (.cells (tbA t ⟨pea, pec, paa, pac, pwa, pwc⟩) 26)).alloc (.cells br0 33)) := belowA (below1 _ _) _
  have HT := Lib.hid (ht.below hBB)
  have HX := Lib.hid ((tbBox (t := t) (p := ⟨pea, pec, paa, pac, pwa, pwc⟩) (box_new w (tbA t ⟨pea, pec, paa, pac, pwa, pwc⟩) 26)).below (below1 _ (.cells br0 33)))
  have HZ := Lib.hid (z3_of (box_last w (.cells (tbA t ⟨pea, pec, paa, pac, pwa, pwc⟩) 26) br0 33))
  have HBB := Lib.hid hBB
  have HWL := Lib.hid hwl
  clear ht hf hBB hwl
  go_enter Try.func36, Try.ntmps36
  go_upto_region 1 with fail
  generalize hW0 : (w.alloc (.cells (tbA t ⟨pea, pec, paa, pac, pwa, pwc⟩) 26)).alloc (.cells br0 33) = W0 at *
  have hz0 : w.heap.size + 2 ≤ W0.heap.size := by rw [← hW0]; simp
  clear hW0
  obtain ⟨x0, x1, x2, x3⟩ := HX.out
  go_cut [3, 4] (fun c d wx => c = .int .i64 t.elems.length ∧ ∃ g cc, d = .slice (some ⟨g, 0, none⟩) t.elems.length cc ∧ Hid (RelAt wx t g) ∧ Below W0.heap.size W0 wx)
  case first =>
    go_region_with (go_at_call 70; refine (rel_any t ⟨pea, pec, paa, pac, pwa, pwc⟩ _ (HT.out.below (by first | exact Below.refl _ _ | exact (Below.refl _ _).drew | exact (Below.refl _ _).drew.drew)) HF.out).mono ?_; rintro e w1 ⟨g, c, rfl, hc, hr, hB1⟩; have y1 := cell_below (w := W0.drew) x1 hB1)
    all_goals
      have HR := Lib.hid hr
      have hB := below2 ((Below.refl W0.heap.size W0).drew) hB1
      clear hr hB1
      go_wp2_with fail
      go_meet
      exact ⟨rfl, g, c, rfl, HR.out, hB⟩
  case rest =>
    obtain ⟨rfl, g, cc, rfl, HR, hB⟩ := hcut
    clear x0 x1 x2 x3
    go_wp2_with fail
    go_loopw [5] (fun i wr => ∃ k : Nat, k ≤ t.elems.length ∧ i = .int .i64 k ∧ Hid (∀ j, j < k → M.stB t j j = false) ∧ Hid (RelAt wr t g) ∧ Below W0.heap.size W0 wr) (fun i _ => t.elems.length - (intOf i).toNat)
    case atStart => exact ⟨0, by omega, rfl, Lib.hid (fun j hj => by omega), HR, hB⟩
    case round =>
      clear hB HR
      rename World => wr
      obtain ⟨k, hk, rfl, H1, HR, hB⟩ := hrel
      obtain ⟨x0, x1, x2, x3⟩ := HX.out.below hB
      by_cases hkl : k < t.elems.length
      · have n1 : (k : Int) < (t.elems.length : Int) := by omega
        have HC := Lib.hid (steps_any t ⟨pea, pec, paa, pac, pwa, pwc⟩ k k wr (HT.out.below hB) HF.out hkl hkl)
        cases hs : M.stB t k k with
        | true =>
          have HS := Lib.hid hs
          clear hs
          go_wp2_with fail
          refine HC.out.mono ?_
          rintro e w1 ⟨rfl, hB1⟩
          rw [HS.out]
          have hB2 := below2 hB hB1
          clear hB1
          obtain ⟨r0, r1, r2, g0, g1, g2⟩ := HZ.out.below hB2 (by omega)
          obtain ⟨q0, q1, q2⟩ := set3_at w1 (w.heap.size + 1) (.int .u8 1) (.int .i64 k) (.int .i64 0) _ _ _ r0 r1 r2
          have hBU := below_set3 (W := w1) (R := w.heap.size + 1) (HBB.out.trans (hB2.mono (by omega))) (by omega) (.int .u8 1) (.int .i64 k) (.int .i64 0)
          have HRES := Lib.hid (M.brk_cycle hkl HS.out H1.out)
          go_wp2_with fail
          exact bodyPost_ret (v := .agg #[.int .u8 1, .int .i64 k, .int .i64 0]) (by simp [results, Try.results36, go_sem, q0, q1, q2]) rfl ⟨by rw [HRES.out]; rfl, hBU⟩
        | false =>
          have HS := Lib.hid hs
          have HN := Lib.hid (show ∀ j, j < k + 1 → M.stB t j j = false from fun j hj => by
            rcases Nat.lt_succ_iff_lt_or_eq.1 hj with h | rfl
            · exact H1.out j h
            · exact HS.out)
          clear hs
          go_wp2_with fail
          refine HC.out.mono ?_
          rintro e w1 ⟨rfl, hB1⟩
          rw [HS.out]
          have hB2 := below2 hB hB1
          have HR2 := Lib.hid (HR.out.below hB1)
          clear hB1
          go_wp2_with fail
          go_roundw
          case rel => exact ⟨k + 1, by omega, by go_num, HN, HR2, hB2⟩
          case measure => simp [intOf]; omega
      · obtain rfl : k = t.elems.length := by omega
        have m1 : decide ((t.elems.length : Int) < (t.elems.length : Int)) = false := decide_eq_false (by omega)
        clear x0 x1 x2 x3
        go_wp2_with fail
        go_loopw [6] (fun i wr => ∃ k : Nat, k ≤ t.elems.length ∧ i = .int .i64 k ∧ Hid (∀ j, j < k → M.leB t 0 j = true) ∧ Hid (RelAt wr t g) ∧ Below W0.heap.size W0 wr) (fun i _ => t.elems.length - (intOf i).toNat)
        case atStart => exact ⟨0, by omega, rfl, Lib.hid (fun j hj => by omega), HR, hB⟩
        case round =>
          clear hB HR
          rename World => wr
          obtain ⟨k, hk, rfl, H2, HR, hB⟩ := hrel
          by_cases hkl : k < t.elems.length
          · have n1 : (k : Int) < (t.elems.length : Int) := by omega
            have n2 : (0 : Int) ≤ (k : Int) := by omega
            have n3 : (0 : Int) < (t.elems.length : Int) := by omega
            obtain ⟨rb, ro, rc, r1, _, r3⟩ := HR.out.at_ 0 (by omega)
            have r4 := r3 k hkl
            clear r3
            cases hs : M.leB t 0 k with
            | false =>
              rw [hs] at r4
              have HS := Lib.hid hs
              have z0 := r1
              clear hs
              obtain ⟨e0, e1, e2, g0, g1, g2⟩ := HZ.out.below hB (by omega)
              obtain ⟨q0, q1, q2⟩ := set3_at wr (w.heap.size + 1) (.int .u8 2) (.int .i64 k) (.int .i64 0) _ _ _ e0 e1 e2
              have hBU := below_set3 (W := wr) (R := w.heap.size + 1) (HBB.out.trans (hB.mono (by omega))) (by omega) (.int .u8 2) (.int .i64 k) (.int .i64 0)
              have HRES := Lib.hid (M.brk_base H1.out hkl HS.out H2.out)
              go_wp2_with fail
              exact bodyPost_ret (v := .agg #[.int .u8 2, .int .i64 k, .int .i64 0]) (by simp [results, Try.results36, go_sem, q0, q1, q2]) rfl ⟨by rw [HRES.out]; rfl, hBU⟩
            | true =>
              rw [hs] at r4
              have HN := Lib.hid (show ∀ j, j < k + 1 → M.leB t 0 j = true from fun j hj => by
                rcases Nat.lt_succ_iff_lt_or_eq.1 hj with h | rfl
                · exact H2.out j h
                · exact hs)
              clear hs
              go_wp2_with fail
              go_roundw
              case rel => exact ⟨k + 1, by omega, by go_num, HN, HR, hB⟩
              case measure => simp [intOf]; omega
          · obtain rfl : k = t.elems.length := by omega
            go_wp2_with fail
            go_loopw [7] (fun i wr => ∃ k : Nat, k ≤ t.elems.length ∧ i = .int .i64 k ∧ Hid (∀ a', a' < k → ∀ b', a' < b' → b' < t.elems.length → M.jn t a' b' ≠ none) ∧ Hid (RelAt wr t g) ∧ Below W0.heap.size W0 wr) (fun i _ => t.elems.length - (intOf i).toNat)
            case atStart => exact ⟨0, by omega, rfl, Lib.hid (fun j hj => by omega), HR, hB⟩
            case round =>
              clear hB HR
              rename World => wr
              obtain ⟨k, hk, rfl, H3, HR, hB⟩ := hrel
              by_cases hkl : k < t.elems.length
              · have n1 : (k : Int) < (t.elems.length : Int) := by omega
                have n2 : (0 : Int) ≤ (k : Int) := by omega
                go_wp2_with fail
                go_loopw [8] (fun i wr => ∃ q : Nat, k < q ∧ q ≤ t.elems.length ∧ i = .int .i64 q ∧ Hid (∀ b', k < b' → b' < q → M.jn t k b' ≠ none) ∧ Hid (RelAt wr t g) ∧ Below W0.heap.size W0 wr) (fun i _ => t.elems.length - (intOf i).toNat)
                case atStart => exact ⟨k + 1, by omega, by omega, by simp, Lib.hid (fun j h1 h2 => by omega), HR, hB⟩
                case round =>
                  clear hB HR
                  rename World => wr
                  obtain ⟨q, hkq, hq, rfl, H4, HR, hB⟩ := hrel
                  by_cases hql : q < t.elems.length
                  · have m2 : (q : Int) < (t.elems.length : Int) := by omega
                    have HC := Lib.hid (bounds_any t g cc k q wr HR.out h12 hkl hql)
                    have HBL := Lib.hid (show (M.bnd t k q).length ≤ 12 from Nat.le_trans (M.bndTo_len t k q t.elems.length) h12)
                    go_wp2_with fail
                    refine HC.out.mono ?_
                    rintro e w1 ⟨la, lc, rfl, _, _, hls, hB1⟩
                    rw [nats_len]
                    have HLS := Lib.hid hls
                    have hB2 := below2 hB hB1
                    have HR2 := Lib.hid (HR.out.below hB1)
                    clear hls hB1
                    by_cases hnil : M.bnd t k q = []
                    · have hl0 : (M.bnd t k q).length = 0 := by rw [hnil]; rfl
                      have k1 : (((M.bnd t k q).length : Int) == 0) = true := by rw [hl0]; rfl
                      have k2 : ((M.bnd t k q).length == 0) = true := by rw [hl0]; rfl
                      have HNIL := Lib.hid hnil
                      clear hl0 hnil
                      obtain ⟨r0, r1, r2, g0, g1, g2⟩ := HZ.out.below hB2 (by omega)
                      obtain ⟨q0, q1, q2⟩ := set3_at w1 (w.heap.size + 1) (.int .u8 3) (.int .i64 k) (.int .i64 q) _ _ _ r0 r1 r2
                      have hBU := below_set3 (W := w1) (R := w.heap.size + 1) (HBB.out.trans (hB2.mono (by omega))) (by omega) (.int .u8 3) (.int .i64 k) (.int .i64 q)
                      have HRES := Lib.hid ((M.brk_pair H1.out H2.out hkq hql (M.jn_nil HNIL.out) H3.out H4.out).trans (show (M.kindM t k q, k, q) = (3, k, q) from by unfold M.kindM; rw [if_pos HNIL.out]))
                      go_wp2_with fail
                      exact bodyPost_ret (v := .agg #[.int .u8 3, .int .i64 k, .int .i64 q]) (by simp [results, Try.results36, go_sem, q0, q1, q2]) rfl ⟨by rw [HRES.out]; rfl, hBU⟩
                    · have hl0 : 0 < (M.bnd t k q).length := List.length_pos_iff.2 hnil
                      have k1 : (((M.bnd t k q).length : Int) == 0) = false := by rw [beq_eq_false_iff_ne]; omega
                      have k2 : ((M.bnd t k q).length == 0) = false := by rw [beq_eq_false_iff_ne]; omega
                      have HNIL := Lib.hid hnil
                      have hls := HLS.out
                      have HC2 := Lib.hid fun W (hW : Below w1.heap.size w1 W) => least_any t g cc lc la (M.bnd t k q) W (HR2.out.below hW) h12 (hls.below hW) (fun x hx => (M.mem_bnd.1 hx).1) HBL.out
                      clear hl0 hnil hls
                      go_wp2_with fail
                      refine (HC2.out _ (Below.refl _ _)).mono ?_
                      rintro e w2 ⟨rfl, hB3⟩
                      have hB4 := below2 hB2 hB3
                      have HR3 := Lib.hid (HR2.out.below hB3)
                      have HJ := Lib.hid (show M.optI (M.lst t (M.bnd t k q)) = M.optI (M.jn t k q) from rfl)
                      rw [HJ.out]
                      clear hB3
                      cases hj : M.jn t k q with
                      | none =>
                        have HJN := Lib.hid hj
                        have k3 : decide ((-1 : Int) < 0) = true := by decide
                        clear hj
                        rw [show M.optI none = -1 from rfl]
                        obtain ⟨r0, r1, r2, g0, g1, g2⟩ := HZ.out.below hB4 (by omega)
                        obtain ⟨q0, q1, q2⟩ := set3_at w2 (w.heap.size + 1) (.int .u8 4) (.int .i64 k) (.int .i64 q) _ _ _ r0 r1 r2
                        have hBU := below_set3 (W := w2) (R := w.heap.size + 1) (HBB.out.trans (hB4.mono (by omega))) (by omega) (.int .u8 4) (.int .i64 k) (.int .i64 q)
                        have HRES := Lib.hid ((M.brk_pair H1.out H2.out hkq hql HJN.out H3.out H4.out).trans (show (M.kindM t k q, k, q) = (4, k, q) from by unfold M.kindM; rw [if_neg HNIL.out]))
                        go_wp2_with fail
                        exact bodyPost_ret (v := .agg #[.int .u8 4, .int .i64 k, .int .i64 q]) (by simp [results, Try.results36, go_sem, q0, q1, q2]) rfl ⟨by rw [HRES.out]; rfl, hBU⟩
                      | some c =>
                        have k3 : decide ((c : Int) < 0) = false := decide_eq_false (by omega)
                        have HN := Lib.hid (show ∀ b', k < b' → b' < q + 1 → M.jn t k b' ≠ none from fun b' h1 h2 => by
                          rcases Nat.lt_succ_iff_lt_or_eq.1 h2 with h | rfl
                          · exact H4.out b' h1 h
                          · rw [hj]; simp)
                        clear hj
                        rw [show M.optI (some c) = (c : Int) from rfl]
                        go_wp2_with fail
                        go_roundw
                        case rel => exact ⟨q + 1, by omega, by omega, by go_num, HN, HR3, hB4⟩
                        case measure => simp [intOf]; omega
                  · obtain rfl : q = t.elems.length := by omega
                    have HN := Lib.hid (show ∀ a', a' < k + 1 → ∀ b', a' < b' → b' < t.elems.length → M.jn t a' b' ≠ none from fun a' h1 b' h2 h3 => by
                      rcases Nat.lt_succ_iff_lt_or_eq.1 h1 with h | rfl
                      · exact H3.out a' h b' h2 h3
                      · exact H4.out b' h2 h3)
                    go_wp2_with fail
                    go_roundw
                    case rel => exact ⟨k + 1, by omega, by go_num, HN, HR, hB⟩
                    case measure => simp [intOf]; omega
              · obtain rfl : k = t.elems.length := by omega
                have HNB := Lib.hid (show M.noBrk t from ⟨H1.out, H2.out, fun a ha b hab hb => H3.out a ha b hab hb⟩)
                obtain ⟨x0, x1, x2, x3⟩ := HX.out.below hB
                obtain ⟨vb, vo, ev, hv⟩ := HT.out.ws.at (i := 0) (by have := HWL.out; omega)
                dsimp only at ev
                subst ev
                have HV := Lib.hid hv
                have hwl := HWL.out
                rw [hwl] at x3
                have v0 := cell_below (hv.at_ 0 (by omega)) hB
                rw [← getD_in t.wrong false 0 (by omega), Nat.add_zero] at v0
                have n3 : (0 : Int) < (t.elems.length : Int) := by omega
                clear hv
                cases h0 : t.wrong.getD 0 false with
                | true =>
                  rw [h0] at v0
                  have H0 := Lib.hid (show M.wr t 0 = true from h0)
                  clear h0
                  obtain ⟨r0, r1, r2, g0, g1, g2⟩ := HZ.out.below hB (by omega)
                  obtain ⟨q0, q1, q2⟩ := set3_at wr (w.heap.size + 1) (.int .u8 5) (.int .i64 0) (.int .i64 0) _ _ _ r0 r1 r2
                  have hBU := below_set3 (W := wr) (R := w.heap.size + 1) (HBB.out.trans (hB.mono (by omega))) (by omega) (.int .u8 5) (.int .i64 0) (.int .i64 0)
                  have HRES := Lib.hid (M.brk_zero HNB.out H0.out)
                  go_wp2_with fail
                  exact bodyPost_ret (v := .agg #[.int .u8 5, .int .i64 0, .int .i64 0]) (by simp [results, Try.results36, go_sem, q0, q1, q2]) rfl ⟨by rw [HRES.out]; rfl, hBU⟩
                | false =>
                  rw [h0] at v0
                  have H0 := Lib.hid (show M.wr t 0 = false from h0)
                  clear h0
                  go_wp2_with fail
                  clear x0 x1 x2 x3 v0
                  go_loopw [10] (fun i wr => ∃ k : Nat, k ≤ t.elems.length ∧ i = .int .i64 k ∧ Hid (∀ a', a' < k → ∀ b', b' < t.elems.length → M.wr t a' = true → M.leB t a' b' = true → M.wr t b' = true) ∧ Hid (RelAt wr t g) ∧ Below W0.heap.size W0 wr) (fun i _ => t.elems.length - (intOf i).toNat)
                  case atStart => exact ⟨0, by omega, rfl, Lib.hid (fun j hj => by omega), HR, hB⟩
                  case round =>
                    clear hB HR
                    rename World => wr
                    obtain ⟨k, hk, rfl, H5, HR, hB⟩ := hrel
                    by_cases hkl : k < t.elems.length
                    · have n1 : (k : Int) < (t.elems.length : Int) := by omega
                      have n2 : (0 : Int) ≤ (k : Int) := by omega
                      go_wp2_with fail
                      go_loopw [11] (fun i wr => ∃ q : Nat, q ≤ t.elems.length ∧ i = .int .i64 q ∧ Hid (∀ b', b' < q → M.wr t k = true → M.leB t k b' = true → M.wr t b' = true) ∧ Hid (RelAt wr t g) ∧ Below W0.heap.size W0 wr) (fun i _ => t.elems.length - (intOf i).toNat)
                      case atStart => exact ⟨0, by omega, rfl, Lib.hid (fun j h1 h2 => by omega), HR, hB⟩
                      case round =>
                        clear hB HR
                        rename World => wr
                        obtain ⟨q, hq, rfl, H6, HR, hB⟩ := hrel
                        obtain ⟨x0, x1, x2, x3⟩ := HX.out.below hB
                        dsimp only at x3
                        rw [HWL.out] at x3
                        by_cases hql : q < t.elems.length
                        · have m2 : (q : Int) < (t.elems.length : Int) := by omega
                          have m3 : (0 : Int) ≤ (q : Int) := by omega
                          have v1 := cell_below (HV.out.at_ k (by have := HWL.out; omega)) hB
                          rw [← getD_in t.wrong false k (by have := HWL.out; omega)] at v1
                          have v2 := cell_below (HV.out.at_ q (by have := HWL.out; omega)) hB
                          rw [← getD_in t.wrong false q (by have := HWL.out; omega)] at v2
                          obtain ⟨rb, ro, rc, r1, _, r3⟩ := HR.out.at_ k hkl
                          have r4 := r3 q hql
                          clear r3
                          have hnx : (M.wr t k = true → M.leB t k q = true → M.wr t q = true) → ∀ b', b' < q + 1 → M.wr t k = true → M.leB t k b' = true → M.wr t b' = true := fun h b' h1 => by
                            rcases Nat.lt_succ_iff_lt_or_eq.1 h1 with h' | rfl
                            · exact H6.out b' h'
                            · exact h
                          have HNX := Lib.hid hnx
                          clear hnx
                          cases hw1 : t.wrong.getD k false with
                          | false =>
                            rw [hw1] at v1
                            have HN := Lib.hid (HNX.out fun h => by unfold M.wr at h; rw [hw1] at h; cases h)
                            clear hw1
                            go_wp2_with fail
                            go_roundw
                            case rel => exact ⟨q + 1, by omega, by go_num, HN, HR, hB⟩
                            case measure => simp [intOf]; omega
                          | true =>
                            rw [hw1] at v1
                            have HW1 := Lib.hid (show M.wr t k = true from hw1)
                            cases hw2 : t.wrong.getD q false with
                            | true =>
                              rw [hw2] at v2
                              have HN := Lib.hid (HNX.out fun _ _ => hw2)
                              clear hw1 hw2
                              go_wp2_with fail
                              go_roundw
                              case rel => exact ⟨q + 1, by omega, by go_num, HN, HR, hB⟩
                              case measure => simp [intOf]; omega
                            | false =>
                              rw [hw2] at v2
                              have HW2 := Lib.hid (show M.wr t q = false from hw2)
                              cases hl : M.leB t k q with
                              | false =>
                                rw [hl] at r4
                                have HN := Lib.hid (HNX.out fun _ h => by rw [hl] at h; cases h)
                                clear hw1 hw2 hl
                                go_wp2_with fail
                                go_roundw
                                case rel => exact ⟨q + 1, by omega, by go_num, HN, HR, hB⟩
                                case measure => simp [intOf]; omega
                              | true =>
                                rw [hl] at r4
                                have HLL := Lib.hid hl
                                clear hw1 hw2 hl
                                obtain ⟨e0, e1, e2, g0, g1, g2⟩ := HZ.out.below hB (by omega)
                                obtain ⟨q0, q1, q2⟩ := set3_at wr (w.heap.size + 1) (.int .u8 5) (.int .i64 k) (.int .i64 q) _ _ _ e0 e1 e2
                                have hBU := below_set3 (W := wr) (R := w.heap.size + 1) (HBB.out.trans (hB.mono (by omega))) (by omega) (.int .u8 5) (.int .i64 k) (.int .i64 q)
                                have HRES := Lib.hid (M.brk_wrong HNB.out H0.out hkl hql HW1.out HW2.out HLL.out H5.out (fun b' h => H6.out b' h HW1.out))
                                go_wp2_with fail
                                exact bodyPost_ret (v := .agg #[.int .u8 5, .int .i64 k, .int .i64 q]) (by simp [results, Try.results36, go_sem, q0, q1, q2]) rfl ⟨by rw [HRES.out]; rfl, hBU⟩
                        · obtain rfl : q = t.elems.length := by omega
                          have HN := Lib.hid (show ∀ a', a' < k + 1 → ∀ b', b' < t.elems.length → M.wr t a' = true → M.leB t a' b' = true → M.wr t b' = true from fun a' h1 b' h2 => by
                            rcases Nat.lt_succ_iff_lt_or_eq.1 h1 with h | rfl
                            · exact H5.out a' h b' h2
                            · exact H6.out b' h2)
                          go_wp2_with fail
                          go_roundw
                          case rel => exact ⟨k + 1, by omega, by go_num, HN, HR, hB⟩
                          case measure => simp [intOf]; omega
                    · obtain rfl : k = t.elems.length := by omega
                      obtain ⟨r0, r1, r2, g0, g1, g2⟩ := HZ.out.below hB (by omega)
                      obtain ⟨q0, q1, q2⟩ := set3_at wr (w.heap.size + 1) (.int .u8 0) (.int .i64 0) (.int .i64 0) _ _ _ r0 r1 r2
                      have hBU := below_set3 (W := wr) (R := w.heap.size + 1) (HBB.out.trans (hB.mono (by omega))) (by omega) (.int .u8 0) (.int .i64 0) (.int .i64 0)
                      have HRES := Lib.hid (M.brk_ok HNB.out H0.out (fun a ha b hb => H5.out a ha b hb))
                      go_wp2_with fail
                      exact bodyPost_ret (v := .agg #[.int .u8 0, .int .i64 0, .int .i64 0]) (by simp [results, Try.results36, go_sem, q0, q1, q2]) rfl ⟨by rw [HRES.out]; rfl, hBU⟩
end Go.Proofs.Ytlpindnbkgaplaa

namespace Go.Proofs.Ytlpindnbkgaplaa
open Go.RowKit Go.Shelf

theorem M.comes_stB (t : M.Tb) (a : Nat) : (!M.allN (fun i => !(M.know t ((t.above.getD a []).getD i 0).toNat).testBit a) (t.above.getD a []).length) = M.stB t a a := by
  unfold M.allN M.stB M.leB
  obtain ⟨l, hl⟩ : ∃ l, t.above.getD a [] = l := ⟨_, rfl⟩
  rw [hl, Bool.eq_iff_iff, Bool.not_eq_true', List.all_eq_false, List.any_eq_true]
  constructor
  · rintro ⟨i, hi, h⟩
    have hi' := List.mem_range.1 hi
    rw [getD_in _ _ _ hi'] at h
    exact ⟨l[i], List.getElem_mem hi', by simpa using h⟩
  · rintro ⟨x, hx, h⟩
    obtain ⟨i, hi, rfl⟩ := List.getElem_of_mem hx
    refine ⟨i, List.mem_range.2 hi, ?_⟩
    rw [getD_in _ _ _ hi]
    simp [h]
theorem row_short {t : M.Tb} (hf : M.form t) {a : Nat} (ha : a < t.elems.length) : (t.above.getD a []).length ≤ 12 := by
  have ha' : a < t.above.length := by rw [hf.above]; exact ha
  rw [getD_in _ _ _ ha']
  have h := hf.rows a ha'
  have hall : ∀ j, (hj : j < t.above[a].length) → (j : Int) ≤ t.above[a][j] := fun j => by
    induction j with
    | zero => intro hj; exact (h 0 hj).1
    | succ j ih =>
      intro hj
      have h1 := ih (by omega)
      have h2 := (h (j + 1) hj).2.2 (by omega)
      have h3 : t.above[a][j] < t.above[a][j + 1] := h2
      omega
  rcases Nat.lt_or_ge 12 t.above[a].length with q | q
  · have h1 := hall 12 q
    have h2 := (h 12 q).2.1
    have := hf.twelve
    omega
  · exact q
/-- Between two rounds over pairs: all those that have come have joins. -/
def BrI (t : M.Tb) (w2 : World) (pre : List (Prs t.elems.length)) (W : World) : Prop := (∀ x, x ∈ pre → M.jn t x.1.1 x.1.2 ≠ none) ∧ Below w2.heap.size w2 W
theorem brI_own (t : M.Tb) (w2 : World) : OwnFrom w2.heap.size (BrI t w2) := fun _ _ _ _ hs hg hr => ⟨hs.1, hs.2.grown hg hs.2.size (fun k e => (hr k e).1)⟩
/-- When a pair without a join has come. -/
def BrIx (t : M.Tb) (w2 : World) (B : Nat) (c : Code) (pre : List (Prs t.elems.length)) (W : World) : Prop :=
  c = .ret ∧ ∃ pr x, pre = pr ++ [x] ∧ (∀ y, y ∈ pr → M.jn t y.1.1 y.1.2 ≠ none) ∧ M.jn t x.1.1 x.1.2 = none ∧ W.cell? ⟨B, 0, none⟩ = some (.int .u8 (M.kindM t x.1.1 x.1.2)) ∧ W.cell? ⟨B, 1, none⟩ = some (.int .i64 x.1.1) ∧ W.cell? ⟨B, 2, none⟩ = some (.int .i64 x.1.2) ∧ Below B w2 W
theorem brIx_own (t : M.Tb) (w2 : World) (B N : Nat) (c : Code) (hB : B < N) (hN : N ≤ w2.heap.size) : OwnFrom N (BrIx t w2 B c) := by
  rintro s W W' row ⟨h0, pr, x, h1, h2, h3, c0, c1, c2, hb⟩ hg hr
  have hlt : B < W.heap.size := Nat.lt_of_lt_of_le hB (Nat.le_trans hN hb.size)
  have hk := hg.block B hlt (fun e => by have := (hr B e.symm).1; omega)
  exact ⟨h0, pr, x, h1, h2, h3, (World.cell?_of_block hk).trans c0, (World.cell?_of_block hk).trans c1, (World.cell?_of_block hk).trans c2, hb.grown hg (by omega) (fun k e => by have := (hr k e).1; omega)⟩

theorem postM_ret {F : Fence} {n : Nat} {P : Program} {fn : Func} {R : Ending → World → Prop} {tmps : Array Value} {W : World} {v : Value} (hr : (results fn tmps).run P W = .ok v W) (hR : R (.returned v) W) : bodyPostM F n P fn R .ret { tmps := tmps, defers := [] } W := ⟨v, hr, hR⟩

theorem keeps_below {W W' : World} (h : Below W.heap.size W W') : KeepsOthers W W' := ⟨h.size, fun k o hk _ => by rw [h.block k (Array.getElem?_eq_some_iff.1 hk).1]; exact hk⟩
theorem below_putO (B : Nat) (W : World) (l : Nat) (o : Obj) (h : B ≤ l) : Below B W (W.putObj l o) := ⟨rfl, rfl, rfl, by simp, fun k hk => World.putObj_heap_other (by omega)⟩
/-- Behind a loop over a function: its rounds' deferred calls are none; a result of three cells is read. -/
theorem mark_end3 {n B : Nat} {w U : World} {D : Nat} {tmps : Array Value} {r0 r1 r2 v : Value} {fn : Func} {Rr : Value}
    (hB : Below w.heap.size w U) (h1 : w.heap.size ≤ D) (h2 : B < D) (d : U.heap[D]? = some (.deferred (some [])))
    (u0 : U.cell? ⟨B, 0, none⟩ = some r0) (u1 : U.cell? ⟨B, 1, none⟩ = some r1) (u2 : U.cell? ⟨B, 2, none⟩ = some r2)
    (hr : ∀ V : World, V.cell? ⟨B, 0, none⟩ = some r0 → V.cell? ⟨B, 1, none⟩ = some r1 → V.cell? ⟨B, 2, none⟩ = some r2 → (results fn tmps).run Try.prog V = .ok v V)
    (hv : v = Rr) :
    bodyPostM Fence.wide n Try.prog fn (fun e w' => e = .returned Rr ∧ Below w.heap.size w w') .ret { tmps := tmps, defers := [{ target := .collected D, args := #[] }] } U := by
  have hc : ∀ j, (U.putObj D (.deferred none)).cell? ⟨B, j, none⟩ = U.cell? ⟨B, j, none⟩ := fun j => World.cell?_of_block (w := U) (a := ⟨B, j, none⟩) (World.putObj_heap_other (by show B ≠ D; omega))
  refine ⟨by simp, .inl ⟨_, _, rfl, run_takeDeferred d, ?_⟩⟩
  exact ⟨v, hr _ ((hc _).trans u0) ((hc _).trans u1) ((hc _).trans u2), by rw [hv], hB.trans (below_putO _ _ _ _ h1)⟩
theorem wrong_brk {t : M.Tb} (hn : M.noBrk t) {w w' : World} {e : Ending} (h12 : t.elems.length ≤ 12) (h : WrongPost t (M.know t) w e w') : e = .returned (brkV (M.brk t)) ∧ Below w.heap.size w w' := by
  obtain ⟨⟨h0, rfl⟩ | ⟨h0, a, b, ha, hb, hw, hl, hnw, h1, h2, rfl⟩ | ⟨h0, h1, rfl⟩, hB⟩ := h
  · exact ⟨by rw [M.brk_zero hn h0]; rfl, hB⟩
  · refine ⟨?_, hB⟩
    rw [M.brk_wrong hn h0 ha hb hw hnw hl (fun a' ha' b' hb' q1 q2 => h1 a' ha' q1 b' (by omega) q2) (fun b' hb' q => h2 b' hb' q)]
    rfl
  · refine ⟨?_, hB⟩
    rw [M.brk_ok hn h0 (fun a ha b hb q1 q2 => h1 a ha q1 b (by omega) q2)]
    rfl
theorem kind_ne (t : M.Tb) (a b : Nat) : ((M.kindM t a b : Nat) : Int) ≠ 0 := by unfold M.kindM; split <;> decide

attribute [local go_sem] Oper.semAt_some

set_option maxHeartbeats 8000000 in
set_option maxRecDepth 100000 in
theorem breakOf_any (t : M.Tb) (p : Tp) (w : World) (ht : TbIn w t p) (hf : M.form t) :
    Calls Try.prog 35 #[knV t p (M.know t)] w fun e w' => e = .returned (brkV (M.brk t)) ∧ Below w.heap.size w w' := by
  have h12 := hf.twelve
  have hone := hf.one
  have HF := Lib.hid hf
  have hBB : Below w.heap.size w ((w.alloc (.cells (knA t p (M.know t)) 64)).alloc (.cells br0 33)) := belowA (below1 _ _) _
  have HT := Lib.hid (ht.below hBB)
  have HK := Lib.hid ((knBox (t := t) (p := p) (r := M.know t) (box_new w (knA t p (M.know t)) 64)).below (below1 _ (.cells br0 33)))
  have HZ := Lib.hid (z3_of (box_last w (.cells (knA t p (M.know t)) 64) br0 33))
  have HBB := Lib.hid hBB
  have HKL := Lib.hid (M.know_lt hf)
  clear ht hf hBB
  obtain ⟨W0, hW0⟩ : ∃ W0, (w.alloc (.cells (knA t p (M.know t)) 64)).alloc (.cells br0 33) = W0 := ⟨_, rfl⟩
  have hz0 : w.heap.size + 2 ≤ W0.heap.size := by rw [← hW0]; simp
  rw [hW0] at HT HK HZ HBB
  have k1 := HK.out.c1
  refine (callsIn_wide (n := 9)).1 ?_
  refine callsIn_of_wp_marks Try.func35 rfl trivial ?_ rfl
  simp only [Try.ntmps35, List.size_toArray, List.length_cons, List.length_nil, Nat.reduceAdd, Nat.reduceSub, Array.replicate_succ, Array.replicate_zero, List.push_toArray, List.append_toArray, List.nil_append, List.cons_append]
  gi_wp2_with fail
  clear hW0 k1
  gi_loopw [13] (fun i wr => ∃ k : Nat, k ≤ t.elems.length ∧ i = .int .i64 k ∧ Hid (∀ j, j < k → M.stB t j j = false) ∧ Below W0.heap.size W0 wr) (fun i _ => t.elems.length - (intOf i).toNat)
  case atStart => exact ⟨0, by omega, rfl, Lib.hid (fun j hj => by omega), Below.refl _ _⟩
  case round =>
    rename_i wr
    obtain ⟨k, hk, rfl, H1, hB⟩ := hrel
    obtain ⟨x0, x1, x2, x3, xm, _⟩ := HK.out.below hB
    by_cases hkl : k < t.elems.length
    · have n1 : (k : Int) < (t.elems.length : Int) := by omega
      have z0 := xm 0 (by omega)
      have z1 := xm 1 (by omega)
      have z2 := xm 2 (by omega)
      have z3 := xm 3 (by omega)
      have z4 := xm 4 (by omega)
      have z5 := xm 5 (by omega)
      have z6 := xm 6 (by omega)
      have z7 := xm 7 (by omega)
      have z8 := xm 8 (by omega)
      have z9 := xm 9 (by omega)
      have z10 := xm 10 (by omega)
      have z11 := xm 11 (by omega)
      clear xm
      have hcall := comesBack_any t p k wr (HT.out.below hB) HF.out hkl (Nat.le_trans (row_short HF.out hkl) (by omega))
      rw [M.comes_stB] at hcall
      have HC := Lib.hid hcall
      clear hcall
      gi_wp2_with fail
      refine ⟨trivial, callsIn_wide.2 (HC.out.mono ?_)⟩
      rintro e w1 ⟨rfl, hB1⟩
      have hB2 := below2 hB hB1
      clear hB1 x0 x1 x2 x3 z0 z1 z2 z3 z4 z5 z6 z7 z8 z9 z10 z11
      cases hs : M.stB t k k with
      | true =>
        have HS := Lib.hid hs
        clear hs
        obtain ⟨r0, r1, r2, g0, g1, g2⟩ := HZ.out.below hB2 (by omega)
        obtain ⟨q0, q1, q2⟩ := set3_at w1 (w.heap.size + 1) (.int .u8 1) (.int .i64 k) (.int .i64 0) _ _ _ r0 r1 r2
        have hBU := below_set3 (W := w1) (R := w.heap.size + 1) (HBB.out.trans (hB2.mono (by omega))) (by omega) (.int .u8 1) (.int .i64 k) (.int .i64 0)
        have HRES := Lib.hid (M.brk_cycle hkl HS.out H1.out)
        gi_wp2_with fail
        exact postM_ret (v := .agg #[.int .u8 1, .int .i64 k, .int .i64 0]) (by simp [results, Try.results35, go_sem, q0, q1, q2]) ⟨by rw [HRES.out]; rfl, hBU⟩
      | false =>
        have HN := Lib.hid (show ∀ j, j < k + 1 → M.stB t j j = false from fun j hj => by
          rcases Nat.lt_succ_iff_lt_or_eq.1 hj with h | rfl
          · exact H1.out j h
          · exact hs)
        clear hs
        gi_wp2_with fail
        exact ⟨⟨k + 1, by omega, by go_num, HN, hB2⟩, by simp [intOf]; omega⟩
    · obtain rfl : k = t.elems.length := by omega
      have m1 : decide ((t.elems.length : Int) < (t.elems.length : Int)) = false := decide_eq_false (by omega)
      clear xm
      gi_wp2_with fail
      gi_loopw [26] (fun i wr => ∃ k : Nat, k ≤ t.elems.length ∧ i = .int .i64 k ∧ Hid (∀ j, j < k → M.leB t 0 j = true) ∧ Below W0.heap.size W0 wr) (fun i _ => t.elems.length - (intOf i).toNat)
      case atStart => exact ⟨0, by omega, rfl, Lib.hid (fun j hj => by omega), hB⟩
      case round =>
        clear hB x0 x1 x2 x3
        rename World => wr
        obtain ⟨k, hk, rfl, H2, hB⟩ := hrel
        by_cases hkl : k < t.elems.length
        · have n1 : (k : Int) < (t.elems.length : Int) := by omega
          have z0 := (HK.out.below hB).m 0 (by omega)
          have HC := Lib.hid (has_any (M.know t 0) k wr (Nat.lt_trans (HKL.out 0) (by omega)) (by omega))
          gi_wp2_with fail
          refine ⟨trivial, callsIn_wide.2 (HC.out.mono ?_)⟩
          rintro e w1 ⟨rfl, rfl⟩
          clear z0
          cases hs : (M.know t 0).testBit k with
          | false =>
            have HS := Lib.hid (show M.leB t 0 k = false from hs)
            clear hs
            obtain ⟨r0, r1, r2, g0, g1, g2⟩ := HZ.out.below hB (by omega)
            obtain ⟨q0, q1, q2⟩ := set3_at wr (w.heap.size + 1) (.int .u8 2) (.int .i64 k) (.int .i64 0) _ _ _ r0 r1 r2
            have hBU := below_set3 (W := wr) (R := w.heap.size + 1) (HBB.out.trans (hB.mono (by omega))) (by omega) (.int .u8 2) (.int .i64 k) (.int .i64 0)
            have HRES := Lib.hid (M.brk_base H1.out hkl HS.out H2.out)
            gi_wp2_with fail
            exact postM_ret (v := .agg #[.int .u8 2, .int .i64 k, .int .i64 0]) (by simp [results, Try.results35, go_sem, q0, q1, q2]) ⟨by rw [HRES.out]; rfl, hBU⟩
          | true =>
            have HN := Lib.hid (show ∀ j, j < k + 1 → M.leB t 0 j = true from fun j hj => by
              rcases Nat.lt_succ_iff_lt_or_eq.1 hj with h | rfl
              · exact H2.out j h
              · exact hs)
            clear hs
            gi_wp2_with fail
            exact ⟨⟨k + 1, by omega, by go_num, HN, hB⟩, by simp [intOf]; omega⟩
        · obtain rfl : k = t.elems.length := by omega
          obtain ⟨x0, x1, x2, x3, xm, _⟩ := HK.out.below hB
          have z0 := xm 0 (by omega)
          have z1 := xm 1 (by omega)
          have z2 := xm 2 (by omega)
          have z3 := xm 3 (by omega)
          have z4 := xm 4 (by omega)
          have z5 := xm 5 (by omega)
          have z6 := xm 6 (by omega)
          have z7 := xm 7 (by omega)
          have z8 := xm 8 (by omega)
          have z9 := xm 9 (by omega)
          have z10 := xm 10 (by omega)
          have z11 := xm 11 (by omega)
          clear xm
          gi_wp2_with fail
          refine ⟨trivial, callsIn_wide.2 ((pairs_any t p (M.know t) _).mono ?_)⟩
          rintro e w2 ⟨rfl, hw2⟩
          clear x0 x1 x2 x3 z0 z1 z2 z3 z4 z5 z6 z7 z8 z9 z10 z11
          gi_wp2_with fail
          rw [← hw2]
          have hz2 : w2.heap.size = wr.heap.size + 1 := by rw [hw2]; simp
          have HK2 := Lib.hid (show KnBox w2 wr.heap.size t p (M.know t) from by rw [hw2]; exact knBox (box_new wr (knA t p (M.know t)) 64))
          have hB2 : Below W0.heap.size W0 w2 := below2 hB (by rw [hw2]; exact below1 _ _)
          have hwr := hB.size
          clear hw2
          refine wpIn_rangeFunc_ownF (α := Prs t.elems.length) rfl (by omega) (gf := 99) (lb := #[.pointer (some ⟨wr.heap.size, 0, none⟩)]) rfl trivial enters_pairs1
            (pairs_stops 8 wr.heap.size t p (M.know t) w2 (by omega) h12 (by omega) HK2.out) (fun h k => ⟨Nat.le_trans h.1 k.1, k.2.trans h.2⟩) (fun W l o o' hl ho _ _ => ⟨by simp, World.putObj_heap_other (by omega)⟩) (Below.refl _ _) (fun _ => rfl)
            (BrI t w2) (BrIx t w2 (w.heap.size + 1)) (brI_own t w2) (fun c => brIx_own t w2 _ _ c (by omega) (Nat.le_refl _)) ⟨fun x hx => by simp at hx, Below.refl _ _⟩
            (fun x => { tmps := #[knV t p (M.know t), .pointer (some ⟨w.heap.size, 0, none⟩), .pointer (some ⟨w.heap.size + 1, 0, none⟩), u3, u4, .int .i64 x.1.1, .int .i64 x.1.2, undef, undef,
              .pointer (some ⟨w.heap.size, 0, none⟩), .pointer (some ⟨w.heap.size, 1, none⟩), .slice p.ea t.elems.length p.ec, .int .i64 t.elems.length, .int .i64 t.elems.length, .bool false, u15, u16, u17, u18, u19, u20, u21,
              .pointer (some ⟨w.heap.size, 0, none⟩), .pointer (some ⟨w.heap.size, 1, none⟩), .slice p.ea t.elems.length p.ec, .int .i64 t.elems.length, .int .i64 t.elems.length, .bool false, u28, u29, u30, u31, u32, u33, u34, u35, u36, u37,
              knV t p (M.know t), .func (.func 99) #[] #[.pointer (some ⟨wr.heap.size, 0, none⟩)], .int .i64 x.1.1, .int .i64 x.1.2, undef, undef, undef, undef, undef, undef, undef, undef, undef, undef, undef, undef, undef, undef, undef], defers := [] })
            ?assign ?body ?done ?stop
          case assign =>
            intro l x W K hK
            gi_wp2_with fail
            exact hK
          case body =>
            rintro l pre ⟨⟨a, b⟩, hab, hbn⟩ W ⟨hne, hBW⟩ hlen
            dsimp only at hab hbn ⊢
            have hB3 := below2 hB2 hBW
            have hWz := hBW.size
            obtain ⟨x0, x1, x2, x3, xm, _⟩ := HK.out.below hB3
            have z0 := xm 0 (by omega)
            have z1 := xm 1 (by omega)
            have z2 := xm 2 (by omega)
            have z3 := xm 3 (by omega)
            have z4 := xm 4 (by omega)
            have z5 := xm 5 (by omega)
            have z6 := xm 6 (by omega)
            have z7 := xm 7 (by omega)
            have z8 := xm 8 (by omega)
            have z9 := xm 9 (by omega)
            have z10 := xm 10 (by omega)
            have z11 := xm 11 (by omega)
            clear xm
            have hcall := join_any t p (M.know t) a b W HKL.out h12 (by omega) (by omega)
            rw [M.joinM_jn HF.out (show a < t.elems.length by omega) hbn] at hcall
            cases hj : M.jn t a b with
            | some c =>
              rw [hj] at hcall
              dsimp only at hcall
              have HC := Lib.hid hcall
              have HNE := Lib.hid (show ∀ x, x ∈ pre ++ [(⟨(a, b), hab, hbn⟩ : Prs t.elems.length)] → M.jn t x.1.1 x.1.2 ≠ none from fun x hx => by
                rcases List.mem_append.1 hx with h | h
                · exact hne x h
                · have : x = ⟨(a, b), hab, hbn⟩ := by simpa using h
                  subst this; show M.jn t a b ≠ none; rw [hj]; simp)
              clear hcall hj hne
              gi_wp2_with fail
              refine ⟨trivial, CallsIn.inRound l (callsIn_wide.2 (HC.out.mono ?_))⟩
              rintro e w3 ⟨rfl, hB4⟩
              clear x0 x1 x2 x3 z0 z1 z2 z3 z4 z5 z6 z7 z8 z9 z10 z11
              have HE := Lib.hid (show KeepsOthers W w3 ∧ KeepB wr.heap.size W w3 ∧ BrI t w2 (pre ++ [(⟨(a, b), hab, hbn⟩ : Prs t.elems.length)]) w3 from
                ⟨keeps_below hB4, ⟨hB4.size, hB4.block _ (by omega)⟩, HNE.out, hBW.trans (hB4.mono hWz)⟩)
              gi_wp2_with fail
              exact HE.out
            | none =>
              rw [hj] at hcall
              dsimp only at hcall
              have HC := Lib.hid hcall
              have HJ := Lib.hid hj
              have HNE := Lib.hid hne
              have k1 : (((M.kindM t a b : Nat) : Int) == 0) = false := by rw [beq_eq_false_iff_ne]; exact kind_ne t a b
              have k2 : (((M.kindM t a b : Nat) : Int) != 0) = true := by rw [bne_iff_ne]; exact kind_ne t a b
              clear hcall hj hne
              gi_wp2_with fail
              refine ⟨trivial, CallsIn.inRound l (callsIn_wide.2 (HC.out.mono ?_))⟩
              rintro e w3 ⟨rfl, hB4⟩
              clear x0 x1 x2 x3 z0 z1 z2 z3 z4 z5 z6 z7 z8 z9 z10 z11
              have hB5 := below2 hB3 hB4
              obtain ⟨r0, r1, r2, g0, g1, g2⟩ := HZ.out.below hB5 (by omega)
              obtain ⟨q0, q1, q2⟩ := set3_at w3 (w.heap.size + 1) (.int .u8 (M.kindM t a b)) (.int .i64 a) (.int .i64 b) _ _ _ r0 r1 r2
              have HE := Lib.hid (show KeepsOthers W (((w3.setCell ⟨w.heap.size + 1, 0, none⟩ (.int .u8 (M.kindM t a b))).setCell ⟨w.heap.size + 1, 1, none⟩ (.int .i64 a)).setCell ⟨w.heap.size + 1, 2, none⟩ (.int .i64 b)) ∧
                  BrIx t w2 (w.heap.size + 1) .ret (pre ++ [(⟨(a, b), hab, hbn⟩ : Prs t.elems.length)]) (((w3.setCell ⟨w.heap.size + 1, 0, none⟩ (.int .u8 (M.kindM t a b))).setCell ⟨w.heap.size + 1, 1, none⟩ (.int .i64 a)).setCell ⟨w.heap.size + 1, 2, none⟩ (.int .i64 b)) from
                ⟨(keeps_below hB4).trans (((KeepsOthers.setCell _ _ _).trans (KeepsOthers.setCell _ _ _)).trans (KeepsOthers.setCell _ _ _)), rfl, pre, ⟨(a, b), hab, hbn⟩, rfl, HNE.out, HJ.out, q0, q1, q2,
                  ((((hBW.trans (hB4.mono hWz)).mono (show w.heap.size + 1 ≤ w2.heap.size by omega)).setCell (p := ⟨w.heap.size + 1, 0, none⟩) (Nat.le_refl _) _).setCell (p := ⟨w.heap.size + 1, 1, none⟩) (Nat.le_refl _) _).setCell (p := ⟨w.heap.size + 1, 2, none⟩) (Nat.le_refl _) _⟩)
              gi_wp2_with fail
              exact HE.out
          case done =>
            rintro D xs W hD hxs ⟨hne, hBW⟩ hDef
            have hnb : M.noBrk t := ⟨H1.out, H2.out, fun a ha b hab hb => by
              have hm : (a, b) ∈ xs.map (·.1) := by rw [hxs]; exact M.mem_prs.2 ⟨hab, hb⟩
              obtain ⟨y, hy, e⟩ := List.mem_map.1 hm
              have := hne y hy
              rw [e] at this; exact this⟩
            have HNB := Lib.hid hnb
            have HDEF := Lib.hid hDef
            clear hnb hDef hxs hne
            have hB3 := below2 hB2 hBW
            obtain ⟨x0, x1, x2, x3, xm, _⟩ := HK.out.below hB3
            have z0 := xm 0 (by omega)
            have z1 := xm 1 (by omega)
            have z2 := xm 2 (by omega)
            have z3 := xm 3 (by omega)
            have z4 := xm 4 (by omega)
            have z5 := xm 5 (by omega)
            have z6 := xm 6 (by omega)
            have z7 := xm 7 (by omega)
            have z8 := xm 8 (by omega)
            have z9 := xm 9 (by omega)
            have z10 := xm 10 (by omega)
            have z11 := xm 11 (by omega)
            clear xm
            gi_wp2_with fail
            refine ⟨trivial, callsIn_wide.2 ((wrongBreak_any t p W (HT.out.below hB3) HF.out).mono ?_)⟩
            intro e w3 hw
            obtain ⟨rfl, hB4⟩ := wrong_brk HNB.out h12 hw
            clear hw x0 x1 x2 x3 z0 z1 z2 z3 z4 z5 z6 z7 z8 z9 z10 z11
            have hB5 := below2 hB3 hB4
            obtain ⟨r0, r1, r2, g0, g1, g2⟩ := HZ.out.below hB5 (by omega)
            obtain ⟨q0, q1, q2⟩ := set3_at w3 (w.heap.size + 1) (.int .u8 (M.brk t).1) (.int .i64 (M.brk t).2.1) (.int .i64 (M.brk t).2.2) _ _ _ r0 r1 r2
            have hBU := below_set3 (W := w3) (R := w.heap.size + 1) (HBB.out.trans (hB5.mono (by omega))) (by omega) (.int .u8 (M.brk t).1) (.int .i64 (M.brk t).2.1) (.int .i64 (M.brk t).2.2)
            have hDlt : D < W.heap.size := (Array.getElem?_eq_some_iff.1 HDEF.out).1
            have hd : (((w3.setCell ⟨w.heap.size + 1, 0, none⟩ (.int .u8 (M.brk t).1)).setCell ⟨w.heap.size + 1, 1, none⟩ (.int .i64 (M.brk t).2.1)).setCell ⟨w.heap.size + 1, 2, none⟩ (.int .i64 (M.brk t).2.2)).heap[D]? = some (.deferred (some [])) := by
              rw [Below.heap_setCell _ _ _ _ (by show D ≠ w.heap.size + 1; omega), Below.heap_setCell _ _ _ _ (by show D ≠ w.heap.size + 1; omega), Below.heap_setCell _ _ _ _ (by show D ≠ w.heap.size + 1; omega), hB4.block D hDlt]
              exact HDEF.out
            have HD := Lib.hid hd
            clear hd
            gi_wp2_with fail
            exact mark_end3 (v := brkV (M.brk t)) hBU (by omega) (by omega) HD.out q0 q1 q2 (fun V v0 v1 v2 => by simp [results, Try.results35, go_sem, v0, v1, v2]) rfl
          case stop =>
            rintro D c pre W hD hp ⟨rfl, pr, ⟨⟨a, b⟩, hab, hbn⟩, rfl, hne, hno, c0, c1, c2, hb⟩ hDef
            dsimp only at hab hbn hno c0 c1 c2
            rw [List.map_append] at hp
            have hbef : ∀ y : Nat × Nat, y.1 < y.2 → y.2 < t.elems.length → M.lexB y (a, b) → M.jn t y.1 y.2 ≠ none := fun y h1 h2 h3 => by
              have hm := M.prs_before hp (M.mem_prs.2 ⟨h1, h2⟩) h3
              obtain ⟨z, hz, e⟩ := List.mem_map.1 hm
              have := hne z hz
              rw [e] at this; exact this
            have HRES := Lib.hid (M.brk_pair H1.out H2.out hab hbn hno (fun a' ha' b' h1 h2 => hbef (a', b') h1 h2 (Or.inl ha')) (fun b' h1 h2 => hbef (a, b') h1 (by show b' < t.elems.length; omega) (Or.inr ⟨rfl, h2⟩)))
            have HDEF := Lib.hid hDef
            have hBf : Below w.heap.size w W := HBB.out.trans ((hB2.mono (by omega)).trans (hb.mono (by omega)))
            clear hp hbef hDef hne hno
            gi_wp2_with fail
            exact mark_end3 (v := .agg #[.int .u8 (M.kindM t a b), .int .i64 a, .int .i64 b]) hBf (by omega) (by omega) HDEF.out c0 c1 c2 (fun V v0 v1 v2 => by simp [results, Try.results35, go_sem, v0, v1, v2]) (by rw [HRES.out])
end Go.Proofs.Ytlpindnbkgaplaa

namespace Go.Proofs.Ytlpindnbkgaplaa
open Go.RowKit

namespace M
theorem brk_kind {t : Tb} (h : (brk t).1 = 0) : brk t = (0, 0, 0) := by
  unfold brk at h ⊢
  split at h
  · simp at h
  · split at h
    · simp at h
    · split at h
      · simp only at h; unfold kindM at h; split at h <;> omega
      · split at h
        · simp at h
        · split at h
          · simp at h
          · rename_i h1 _ h2 _ h3 h4 _ h5
            simp_all
end M
/-- What Prove comes to. -/
def ProvePost (t : M.Tb) (w : World) (e : Ending) (w' : World) : Prop :=
  ((¬ M.form t ∧ e = .returned (.tuple #[brkV (0, 0, 0), .int .i64 4])) ∨ (M.form t ∧ (M.brk t).1 ≠ 0 ∧ e = .returned (.tuple #[brkV (M.brk t), .int .i64 12])) ∨
    (M.form t ∧ M.brk t = (0, 0, 0) ∧ e = .returned (.tuple #[brkV (0, 0, 0), .int .i64 0]))) ∧ Below w.heap.size w w'
theorem prove_1 {t : M.Tb} {w w' : World} (h : ¬ M.form t) (hB : Below w.heap.size w w') : ProvePost t w (.returned (.tuple #[brkV (0, 0, 0), .int .i64 4])) w' := ⟨Or.inl ⟨h, rfl⟩, hB⟩
theorem prove_2 {t : M.Tb} {w w' : World} (h : M.form t) (hk : (M.brk t).1 ≠ 0) (hB : Below w.heap.size w w') : ProvePost t w (.returned (.tuple #[brkV (M.brk t), .int .i64 12])) w' := ⟨Or.inr (Or.inl ⟨h, hk, rfl⟩), hB⟩
theorem prove_3 {t : M.Tb} {w w' : World} (h : M.form t) (hk : M.brk t = (0, 0, 0)) (hB : Below w.heap.size w w') : ProvePost t w (.returned (.tuple #[brkV (0, 0, 0), .int .i64 0])) w' := ⟨Or.inr (Or.inr ⟨h, hk, rfl⟩), hB⟩

set_option maxHeartbeats 8000000 in
set_option maxRecDepth 100000 in
theorem refProve_any (t : M.Tb) (p : Tp) (w : World) (hs : t.name.size ≤ maxLen) (hes : ∀ s, s ∈ t.elems → s.size ≤ maxLen) (hal : ∀ l, l ∈ t.above → l.length ≤ 1000000) (ht : TbIn w t p) :
    Calls Try.prog 12 #[tbV t p] w (ProvePost t w) := by
  have hBB : Below w.heap.size w ((w.alloc (.cells (tbA t p) 26)).alloc (.cells br0 33)) := belowA (below1 _ _) _
  have HT := Lib.hid (ht.below hBB)
  have HX := Lib.hid ((tbBox (t := t) (p := p) (box_new w (tbA t p) 26)).below (below1 _ (.cells br0 33)))
  have HZ := Lib.hid (z3_of (box_last w (.cells (tbA t p) 26) br0 33))
  have HC := Lib.hid (refCheck_any t p ((w.alloc (.cells (tbA t p) 26)).alloc (.cells br0 33)) hs hes hal (ht.below hBB))
  have HBB := Lib.hid hBB
  clear ht hBB hs hes hal
  obtain ⟨x0, x1, x2, x3⟩ := HX.out
  go_enter Try.func12, Try.ntmps12
  go_wp2_with fail
  refine HC.out.mono ?_
  clear x0 x1 x2 x3
  rintro e w1 ⟨⟨hf, rfl⟩ | ⟨hf, rfl⟩, hB1⟩
  · have HF := Lib.hid hf
    have HT1 := Lib.hid (HT.out.below hB1)
    have hBw := below2 HBB.out hB1
    have HZ1 := Lib.hid (HZ.out.below hB1 (by simp))
    have hw1 := hB1.size
    simp only [World.size_alloc] at hw1
    obtain ⟨x0, x1, x2, x3⟩ := HX.out.below hB1
    clear hf hB1
    go_wp2_with fail
    refine (refBreak_any t p _ HT1.out HF.out).mono ?_
    rintro e w2 ⟨rfl, hB2⟩
    have hBw2 := below2 hBw hB2
    have hw2 := hB2.size
    clear x0 x1 x2 x3
    have HZ2 := Lib.hid ((HZ1.out.below hB2 (by omega)).below (below1 w2 (.cells #[.int .u8 (M.brk t).1, .int .i64 (M.brk t).2.1, .int .i64 (M.brk t).2.2] 33)) (by omega))
    have hBw3 := belowA hBw2 (.cells #[.int .u8 (M.brk t).1, .int .i64 (M.brk t).2.1, .int .i64 (M.brk t).2.2] 33)
    clear hB2
    obtain ⟨r0, r1, r2, g0, g1, g2⟩ := HZ2.out
    by_cases hk : (M.brk t).1 = 0
    · have hb0 := M.brk_kind hk
      have k1 : (((M.brk t).1 : Int) == 0) = true := by rw [hk]; rfl
      have k2 : (((M.brk t).1 : Int) != 0) = false := by rw [hk]; rfl
      have HK := Lib.hid hb0
      clear hk hb0
      obtain ⟨q0, q1, q2⟩ := set3_at _ (w.heap.size + 1) (.int .u8 0) (.int .i64 0) (.int .i64 0) _ _ _ r0 r1 r2
      have hBU := below_set3 (R := w.heap.size + 1) hBw3 (by omega) (.int .u8 0) (.int .i64 0) (.int .i64 0)
      go_wp2_with fail
      exact bodyPost_ret (v := .tuple #[brkV (0, 0, 0), .int .i64 0]) (by simp [results, Try.results12, go_sem, q0, q1, q2]) rfl (prove_3 HF.out HK.out hBU)
    · have k1 : (((M.brk t).1 : Int) == 0) = false := by rw [beq_eq_false_iff_ne]; omega
      have k2 : (((M.brk t).1 : Int) != 0) = true := by rw [bne_iff_ne]; omega
      have HK := Lib.hid hk
      clear hk
      obtain ⟨q0, q1, q2⟩ := set3_at _ (w.heap.size + 1) (.int .u8 (M.brk t).1) (.int .i64 (M.brk t).2.1) (.int .i64 (M.brk t).2.2) _ _ _ r0 r1 r2
      have hBU := below_set3 (R := w.heap.size + 1) hBw3 (by omega) (.int .u8 (M.brk t).1) (.int .i64 (M.brk t).2.1) (.int .i64 (M.brk t).2.2)
      go_wp2_with fail
      exact bodyPost_ret (v := .tuple #[brkV (M.brk t), .int .i64 12]) (by simp [results, Try.results12, go_sem, q0, q1, q2]) rfl (prove_2 HF.out HK.out hBU)
  · have HF := Lib.hid hf
    have hBw := below2 HBB.out hB1
    have hw1 := hB1.size
    simp only [World.size_alloc] at hw1
    obtain ⟨r0, r1, r2, g0, g1, g2⟩ := HZ.out.below hB1 (by simp)
    obtain ⟨q0, q1, q2⟩ := set3_at _ (w.heap.size + 1) (.int .u8 0) (.int .i64 0) (.int .i64 0) _ _ _ r0 r1 r2
    have hBU := below_set3 (R := w.heap.size + 1) hBw (by omega) (.int .u8 0) (.int .i64 0) (.int .i64 0)
    clear hf hB1
    go_wp2_with fail
    exact bodyPost_ret (v := .tuple #[brkV (0, 0, 0), .int .i64 4]) (by simp [results, Try.results12, go_sem, q0, q1, q2]) rfl (prove_1 HF.out hBU)

/-- Whether a table is a lattice. -/
def M.lat (t : M.Tb) : Prop := M.form t ∧ M.brk t = (0, 0, 0)
/-- The error of a table that must be a lattice. -/
def LatPost (t : M.Tb) (w : World) (e : Ending) (w' : World) : Prop :=
  ((¬ M.form t ∧ e = .returned (.int .i64 4)) ∨ (M.form t ∧ (M.brk t).1 ≠ 0 ∧ e = .returned (.int .i64 12)) ∨ (M.lat t ∧ e = .returned (.int .i64 0))) ∧ Below w.heap.size w w'
theorem lat_1 {t : M.Tb} {w w' : World} (h : ¬ M.form t) (hB : Below w.heap.size w w') : LatPost t w (.returned (.int .i64 4)) w' := ⟨Or.inl ⟨h, rfl⟩, hB⟩
theorem lat_2 {t : M.Tb} {w w' : World} (h : M.form t) (hk : (M.brk t).1 ≠ 0) (hB : Below w.heap.size w w') : LatPost t w (.returned (.int .i64 12)) w' := ⟨Or.inr (Or.inl ⟨h, hk, rfl⟩), hB⟩
theorem lat_3 {t : M.Tb} {w w' : World} (h : M.lat t) (hB : Below w.heap.size w w') : LatPost t w (.returned (.int .i64 0)) w' := ⟨Or.inr (Or.inr ⟨h, rfl⟩), hB⟩

set_option maxHeartbeats 4000000 in
set_option maxRecDepth 100000 in
theorem refIsLattice_any (t : M.Tb) (p : Tp) (w : World) (hs : t.name.size ≤ maxLen) (hes : ∀ s, s ∈ t.elems → s.size ≤ maxLen) (hal : ∀ l, l ∈ t.above → l.length ≤ 1000000) (ht : TbIn w t p) :
    Calls Try.prog 51 #[tbV t p] w (LatPost t w) := by
  have HC := Lib.hid (refProve_any t p (w.alloc (.cells (tbA t p) 26)) hs hes hal (ht.below (below1 _ _)))
  obtain ⟨x0, x1, x2, x3⟩ := tbBox (t := t) (p := p) (box_new w (tbA t p) 26)
  clear ht hs hes hal
  go_enter Try.func51, Try.ntmps51
  go_wp2_with fail
  refine HC.out.mono ?_
  clear x0 x1 x2 x3
  rintro e w1 ⟨⟨hf, rfl⟩ | ⟨hf, hk, rfl⟩ | ⟨hf, hk, rfl⟩, hB1⟩
  · have HF := Lib.hid hf
    have hB := below2 (below1 w (.cells (tbA t p) 26)) hB1
    clear hf hB1
    go_wp2_with fail
    go_ret
    exact lat_1 HF.out (belowA hB _)
  · have HF := Lib.hid hf
    have HK := Lib.hid hk
    have hB := below2 (below1 w (.cells (tbA t p) 26)) hB1
    clear hf hk hB1
    go_wp2_with fail
    go_ret
    exact lat_2 HF.out HK.out (belowA hB _)
  · have HF := Lib.hid hf
    have HK := Lib.hid hk
    have hB := below2 (below1 w (.cells (tbA t p) 26)) hB1
    clear hf hk hB1
    go_wp2_with fail
    go_ret
    exact lat_3 ⟨HF.out, HK.out⟩ (belowA hB _)
end Go.Proofs.Ytlpindnbkgaplaa

namespace Go.Proofs.Ytlpindnbkgaplaa
open Go.RowKit

set_option maxHeartbeats 4000000 in
set_option maxRecDepth 100000 in
theorem isLattice_any (t : M.Tb) (p : Tp) (w : World) (ht : TbIn w t p) (hf : M.form t) :
    Calls Try.prog 76 #[knV t p (M.know t)] w fun e w' => e = .returned (.bool (decide ((M.brk t).1 = 0))) ∧ Below w.heap.size w w' := by
  have HC := Lib.hid (breakOf_any t p (w.alloc (.cells (knA t p (M.know t)) 64)) (ht.below (below1 _ _)) hf)
  have hfd : ∀ W : World, (Instr.field 33 (brkV (M.brk t)) 0).run Try.prog W = .ok (.int .u8 (M.brk t).1) W := fun _ => by kernel_rfl
  clear ht hf
  go_enter Try.func76, Try.ntmps76
  go_wp2_with fail
  refine HC.out.mono ?_
  rintro e w1 ⟨rfl, hB1⟩
  have hB := below2 (below1 w (.cells (knA t p (M.know t)) 64)) hB1
  have HR := Lib.hid (show (((M.brk t).1 : Int) == 0) = decide ((M.brk t).1 = 0) from by rw [Bool.eq_iff_iff, beq_iff_eq, decide_eq_true_eq]; omega)
  go_wp2_with fail
  go_ret
  exact ⟨ret_bool (by first | exact HR.out | (rw [← HR.out]; rfl) | simp), hB⟩

set_option maxHeartbeats 8000000 in
set_option maxRecDepth 100000 in
theorem prove_any (t : M.Tb) (p : Tp) (w : World) (hal : ∀ l, l ∈ t.above → l.length ≤ 1000000) (ht : TbIn w t p) :
    Calls Try.prog 11 #[tbV t p] w (ProvePost t w) := by
  have hBB : Below w.heap.size w ((w.alloc (.cells (tbA t p) 26)).alloc (.cells br0 33)) := belowA (below1 _ _) _
  have HT := Lib.hid (ht.below hBB)
  have HX := Lib.hid ((tbBox (t := t) (p := p) (box_new w (tbA t p) 26)).below (below1 _ (.cells br0 33)))
  have HZ := Lib.hid (z3_of (box_last w (.cells (tbA t p) 26) br0 33))
  have HC := Lib.hid (formed_any t p ((w.alloc (.cells (tbA t p) 26)).alloc (.cells br0 33)) hal (ht.below hBB))
  have HBB := Lib.hid hBB
  clear ht hBB hal
  obtain ⟨x0, x1, x2, x3⟩ := HX.out
  go_enter Try.func11, Try.ntmps11
  go_wp2_with fail
  refine HC.out.mono ?_
  clear x0 x1 x2 x3
  rintro e w1 ⟨⟨hf, rfl⟩ | ⟨hf, rfl⟩, hB1⟩
  · have HF := Lib.hid hf
    have HT1 := Lib.hid (HT.out.below hB1)
    have hBw := below2 HBB.out hB1
    have HZ1 := Lib.hid (HZ.out.below hB1 (by simp))
    have hw1 := hB1.size
    simp only [World.size_alloc] at hw1
    clear hf hB1
    go_wp2_with fail
    refine (breakOf_any t p _ (HT1.out.below (below1 _ _)) HF.out).mono ?_
    rintro e w2 ⟨rfl, hB2⟩
    have hB2' := below2 (below1 w1 (.cells (knA t p (M.know t)) 64)) hB2
    have hBw2 := below2 hBw hB2'
    have hw2 := hB2'.size
    have HZ2 := Lib.hid ((HZ1.out.below hB2' (by omega)).below (below1 w2 (.cells #[.int .u8 (M.brk t).1, .int .i64 (M.brk t).2.1, .int .i64 (M.brk t).2.2] 33)) (by omega))
    have hBw3 := belowA hBw2 (.cells #[.int .u8 (M.brk t).1, .int .i64 (M.brk t).2.1, .int .i64 (M.brk t).2.2] 33)
    clear hB2 hB2'
    obtain ⟨r0, r1, r2, g0, g1, g2⟩ := HZ2.out
    by_cases hk : (M.brk t).1 = 0
    · have hb0 := M.brk_kind hk
      have k1 : (((M.brk t).1 : Int) == 0) = true := by rw [hk]; rfl
      have k2 : (((M.brk t).1 : Int) != 0) = false := by rw [hk]; rfl
      have HK := Lib.hid hb0
      clear hk hb0
      obtain ⟨q0, q1, q2⟩ := set3_at _ (w.heap.size + 1) (.int .u8 0) (.int .i64 0) (.int .i64 0) _ _ _ r0 r1 r2
      have hBU := below_set3 (R := w.heap.size + 1) hBw3 (by omega) (.int .u8 0) (.int .i64 0) (.int .i64 0)
      go_wp2_with fail
      exact bodyPost_ret (v := .tuple #[brkV (0, 0, 0), .int .i64 0]) (by simp [results, Try.results11, go_sem, q0, q1, q2]) rfl (prove_3 HF.out HK.out hBU)
    · have k1 : (((M.brk t).1 : Int) == 0) = false := by rw [beq_eq_false_iff_ne]; omega
      have k2 : (((M.brk t).1 : Int) != 0) = true := by rw [bne_iff_ne]; omega
      have HK := Lib.hid hk
      clear hk
      obtain ⟨q0, q1, q2⟩ := set3_at _ (w.heap.size + 1) (.int .u8 (M.brk t).1) (.int .i64 (M.brk t).2.1) (.int .i64 (M.brk t).2.2) _ _ _ r0 r1 r2
      have hBU := below_set3 (R := w.heap.size + 1) hBw3 (by omega) (.int .u8 (M.brk t).1) (.int .i64 (M.brk t).2.1) (.int .i64 (M.brk t).2.2)
      go_wp2_with fail
      exact bodyPost_ret (v := .tuple #[brkV (M.brk t), .int .i64 12]) (by simp [results, Try.results11, go_sem, q0, q1, q2]) rfl (prove_2 HF.out HK.out hBU)
  · have HF := Lib.hid hf
    have hBw := belowA (below2 HBB.out hB1) (.cells kn0 64)
    have hw1 := hB1.size
    simp only [World.size_alloc] at hw1
    obtain ⟨r0, r1, r2, g0, g1, g2⟩ := (HZ.out.below hB1 (by simp)).below (below1 w1 (.cells kn0 64)) (by omega)
    obtain ⟨q0, q1, q2⟩ := set3_at _ (w.heap.size + 1) (.int .u8 0) (.int .i64 0) (.int .i64 0) _ _ _ r0 r1 r2
    have hBU := below_set3 (R := w.heap.size + 1) hBw (by omega) (.int .u8 0) (.int .i64 0) (.int .i64 0)
    clear hf hB1
    go_wp2_with fail
    exact bodyPost_ret (v := .tuple #[brkV (0, 0, 0), .int .i64 4]) (by simp [results, Try.results11, go_sem, q0, q1, q2]) rfl (prove_1 HF.out hBU)

end Go.Proofs.Ytlpindnbkgaplaa
