/- Texts of one's own, joined: OrdX. -/
import Derived.Test.YtnhnjfoboepffaaGr19
import Derived.Test.YtnhnjfoboepffaaGr23
import Derived.Deep.DeepCutAuto
import Derived.Deep.RegionWith
namespace Go.Proofs.Ytnhnjfoboepffaa
open Go.RowKit

abbrev brkV (x : Nat × Nat × Nat) : Value := .agg #[.int .u8 x.1, .int .i64 x.2.1, .int .i64 x.2.2]
abbrev br0 : Array Value := #[.int .u8 0, .int .i64 0, .int .i64 0]
/-- A break of no kind in its box. -/
structure Z3 (W : World) (B : Nat) : Prop where
  c0 : W.cell? ⟨B, 0, none⟩ = some (.int .u8 0)
  c1 : W.cell? ⟨B, 1, none⟩ = some (.int .i64 0)
  c2 : W.cell? ⟨B, 2, none⟩ = some (.int .i64 0)
  f0 : W.frozen? ⟨B, 0, none⟩ = false
  f1 : W.frozen? ⟨B, 1, none⟩ = false
  f2 : W.frozen? ⟨B, 2, none⟩ = false
theorem z3_of {W : World} {B : Nat} {T : TypeId} (h : W.heap[B]? = some (.cells br0 T (0, 0))) : Z3 W B :=
  ⟨by rw [Lib.cell_of_heap h]; rfl, by rw [Lib.cell_of_heap h]; rfl, by rw [Lib.cell_of_heap h]; rfl, Lib.frozen_of_heap h 0, Lib.frozen_of_heap h 1, Lib.frozen_of_heap h 2⟩
theorem Z3.below {W W' : World} {B n : Nat} (h : Z3 W B) (hB : Below n W W') (hn : B < n) : Z3 W' B :=
  ⟨(hB.cell (p := ⟨B, 0, none⟩) hn).trans h.c0, (hB.cell (p := ⟨B, 1, none⟩) hn).trans h.c1, (hB.cell (p := ⟨B, 2, none⟩) hn).trans h.c2, (hB.frozen (p := ⟨B, 0, none⟩) hn).trans h.f0, (hB.frozen (p := ⟨B, 1, none⟩) hn).trans h.f1, (hB.frozen (p := ⟨B, 2, none⟩) hn).trans h.f2⟩

set_option maxHeartbeats 8000000 in
set_option maxRecDepth 100000 in
theorem refBreak_any (t : M.Tb) (p : Tp) (w : World) (ht : TbIn w t p) (hf : M.form t) :
    Calls Try.prog 59 #[tbV t p] w fun e w' => e = .returned (brkV (M.brk t)) ∧ Below w.heap.size w w' := by
  obtain ⟨pea, pec, paa, pac, pwa, pwc⟩ := p
  have h12 := hf.twelve
  have hone := hf.one
  have hwl := hf.wrong
  have HF := Lib.hid hf
  have hBB : Below w.heap.size w ((w.alloc (.cells (tbA t ⟨pea, pec, paa, pac, pwa, pwc⟩) 26)).alloc (.cells br0 45)) := belowA (below1 _ _) _
  have HT := Lib.hid (ht.below hBB)
  have HX := Lib.hid ((tbBox (t := t) (p := ⟨pea, pec, paa, pac, pwa, pwc⟩) (box_new w (tbA t ⟨pea, pec, paa, pac, pwa, pwc⟩) 26)).below (below1 _ (.cells br0 45)))
  have HZ := Lib.hid (z3_of (box_last w (.cells (tbA t ⟨pea, pec, paa, pac, pwa, pwc⟩) 26) br0 45))
  have HBB := Lib.hid hBB
  have HWL := Lib.hid hwl
  clear ht hf hBB hwl
  go_enter Try.func59, Try.ntmps59
  go_upto_region 1 with fail
  generalize hW0 : (w.alloc (.cells (tbA t ⟨pea, pec, paa, pac, pwa, pwc⟩) 26)).alloc (.cells br0 45) = W0 at *
  have hz0 : w.heap.size + 2 ≤ W0.heap.size := by rw [← hW0]; simp
  clear hW0
  obtain ⟨x0, x1, x2, x3⟩ := HX.out
  go_cut [3, 4] (fun c d wx => c = .int .i64 t.elems.length ∧ ∃ g cc, d = .slice (some ⟨g, 0, none⟩) t.elems.length cc ∧ Hid (RelAt wx t g) ∧ Below W0.heap.size W0 wx)
  case first =>
    go_region_with (go_at_call 84; refine (rel_any t ⟨pea, pec, paa, pac, pwa, pwc⟩ _ (HT.out.below (by first | exact Below.refl _ _ | exact (Below.refl _ _).drew | exact (Below.refl _ _).drew.drew)) HF.out).mono ?_; rintro e w1 ⟨g, c, rfl, hc, hr, hB1⟩; have y1 := cell_below (w := W0.drew) x1 hB1)
    all_goals
      have HR := Lib.hid hr
      have hB := below2 ((Below.refl W0.heap.size W0).drew) hB1
      clear hr hB1
      go_wp2_with fail
      go_meet
      exact ⟨rfl, g, c, rfl, HR.out, hB⟩
  case rest =>
    obtain ⟨rfl, g, cc, rfl, HR, hB⟩ := hcut
    clear x0 x1 x2 x3
    go_wp2_with fail
    go_loopw [5] (fun i wr => ∃ k : Nat, k ≤ t.elems.length ∧ i = .int .i64 k ∧ Hid (∀ j, j < k → M.stB t j j = false) ∧ Hid (RelAt wr t g) ∧ Below W0.heap.size W0 wr) (fun i _ => t.elems.length - (intOf i).toNat)
    case atStart => exact ⟨0, by omega, rfl, Lib.hid (fun j hj => by omega), HR, hB⟩
    case round =>
      clear hB HR
      rename World => wr
      obtain ⟨k, hk, rfl, H1, HR, hB⟩ := hrel
      obtain ⟨x0, x1, x2, x3⟩ := HX.out.below hB
      by_cases hkl : k < t.elems.length
      · have n1 : (k : Int) < (t.elems.length : Int) := by omega
        have HC := Lib.hid (steps_any t ⟨pea, pec, paa, pac, pwa, pwc⟩ k k wr (HT.out.below hB) HF.out hkl hkl)
        cases hs : M.stB t k k with
        | true =>
          have HS := Lib.hid hs
          clear hs
          go_wp2_with fail
          refine HC.out.mono ?_
          rintro e w1 ⟨rfl, hB1⟩
          rw [HS.out]
          have hB2 := below2 hB hB1
          clear hB1
          obtain ⟨r0, r1, r2, g0, g1, g2⟩ := HZ.out.below hB2 (by omega)
          obtain ⟨q0, q1, q2⟩ := set3_at w1 (w.heap.size + 1) (.int .u8 1) (.int .i64 k) (.int .i64 0) _ _ _ r0 r1 r2
          have hBU := below_set3 (W := w1) (R := w.heap.size + 1) (HBB.out.trans (hB2.mono (by omega))) (by omega) (.int .u8 1) (.int .i64 k) (.int .i64 0)
          have HRES := Lib.hid (M.brk_cycle hkl HS.out H1.out)
          go_wp2_with fail
          exact bodyPost_ret (v := .agg #[.int .u8 1, .int .i64 k, .int .i64 0]) (by simp [results, Try.results59, go_sem, q0, q1, q2]) rfl ⟨by rw [HRES.out]; rfl, hBU⟩
        | false =>
          have HS := Lib.hid hs
          have HN := Lib.hid (show ∀ j, j < k + 1 → M.stB t j j = false from fun j hj => by
            rcases Nat.lt_succ_iff_lt_or_eq.1 hj with h | rfl
            · exact H1.out j h
            · exact HS.out)
          clear hs
          go_wp2_with fail
          refine HC.out.mono ?_
          rintro e w1 ⟨rfl, hB1⟩
          rw [HS.out]
          have hB2 := below2 hB hB1
          have HR2 := Lib.hid (HR.out.below hB1)
          clear hB1
          go_wp2_with fail
          go_roundw
          case rel => exact ⟨k + 1, by omega, by go_num, HN, HR2, hB2⟩
          case measure => simp [intOf]; omega
      · obtain rfl : k = t.elems.length := by omega
        have m1 : decide ((t.elems.length : Int) < (t.elems.length : Int)) = false := decide_eq_false (by omega)
        clear x0 x1 x2 x3
        go_wp2_with fail
        go_loopw [6] (fun i wr => ∃ k : Nat, k ≤ t.elems.length ∧ i = .int .i64 k ∧ Hid (∀ j, j < k → M.leB t 0 j = true) ∧ Hid (RelAt wr t g) ∧ Below W0.heap.size W0 wr) (fun i _ => t.elems.length - (intOf i).toNat)
        case atStart => exact ⟨0, by omega, rfl, Lib.hid (fun j hj => by omega), HR, hB⟩
        case round =>
          clear hB HR
          rename World => wr
          obtain ⟨k, hk, rfl, H2, HR, hB⟩ := hrel
          by_cases hkl : k < t.elems.length
          · have n1 : (k : Int) < (t.elems.length : Int) := by omega
            have n2 : (0 : Int) ≤ (k : Int) := by omega
            have n3 : (0 : Int) < (t.elems.length : Int) := by omega
            obtain ⟨rb, ro, rc, r1, _, r3⟩ := HR.out.at_ 0 (by omega)
            have r4 := r3 k hkl
            clear r3
            cases hs : M.leB t 0 k with
            | false =>
              rw [hs] at r4
              have HS := Lib.hid hs
              have z0 := r1
              clear hs
              obtain ⟨e0, e1, e2, g0, g1, g2⟩ := HZ.out.below hB (by omega)
              obtain ⟨q0, q1, q2⟩ := set3_at wr (w.heap.size + 1) (.int .u8 2) (.int .i64 k) (.int .i64 0) _ _ _ e0 e1 e2
              have hBU := below_set3 (W := wr) (R := w.heap.size + 1) (HBB.out.trans (hB.mono (by omega))) (by omega) (.int .u8 2) (.int .i64 k) (.int .i64 0)
              have HRES := Lib.hid (M.brk_base H1.out hkl HS.out H2.out)
              go_wp2_with fail
              exact bodyPost_ret (v := .agg #[.int .u8 2, .int .i64 k, .int .i64 0]) (by simp [results, Try.results59, go_sem, q0, q1, q2]) rfl ⟨by rw [HRES.out]; rfl, hBU⟩
            | true =>
              rw [hs] at r4
              have HN := Lib.hid (show ∀ j, j < k + 1 → M.leB t 0 j = true from fun j hj => by
                rcases Nat.lt_succ_iff_lt_or_eq.1 hj with h | rfl
                · exact H2.out j h
                · exact hs)
              clear hs
              go_wp2_with fail
              go_roundw
              case rel => exact ⟨k + 1, by omega, by go_num, HN, HR, hB⟩
              case measure => simp [intOf]; omega
          · obtain rfl : k = t.elems.length := by omega
            go_wp2_with fail
            go_loopw [7] (fun i wr => ∃ k : Nat, k ≤ t.elems.length ∧ i = .int .i64 k ∧ Hid (∀ a', a' < k → ∀ b', a' < b' → b' < t.elems.length → M.jn t a' b' ≠ none) ∧ Hid (RelAt wr t g) ∧ Below W0.heap.size W0 wr) (fun i _ => t.elems.length - (intOf i).toNat)
            case atStart => exact ⟨0, by omega, rfl, Lib.hid (fun j hj => by omega), HR, hB⟩
            case round =>
              clear hB HR
              rename World => wr
              obtain ⟨k, hk, rfl, H3, HR, hB⟩ := hrel
              by_cases hkl : k < t.elems.length
              · have n1 : (k : Int) < (t.elems.length : Int) := by omega
                have n2 : (0 : Int) ≤ (k : Int) := by omega
                go_wp2_with fail
                go_loopw [8] (fun i wr => ∃ q : Nat, k < q ∧ q ≤ t.elems.length ∧ i = .int .i64 q ∧ Hid (∀ b', k < b' → b' < q → M.jn t k b' ≠ none) ∧ Hid (RelAt wr t g) ∧ Below W0.heap.size W0 wr) (fun i _ => t.elems.length - (intOf i).toNat)
                case atStart => exact ⟨k + 1, by omega, by omega, by simp, Lib.hid (fun j h1 h2 => by omega), HR, hB⟩
                case round =>
                  clear hB HR
                  rename World => wr
                  obtain ⟨q, hkq, hq, rfl, H4, HR, hB⟩ := hrel
                  by_cases hql : q < t.elems.length
                  · have m2 : (q : Int) < (t.elems.length : Int) := by omega
                    have HC := Lib.hid (bounds_any t g cc k q wr HR.out h12 hkl hql)
                    have HBL := Lib.hid (show (M.bnd t k q).length ≤ 12 from Nat.le_trans (M.bndTo_len t k q t.elems.length) h12)
                    go_wp2_with fail
                    refine HC.out.mono ?_
                    rintro e w1 ⟨la, lc, rfl, _, _, hls, hB1⟩
                    rw [nats_len]
                    have HLS := Lib.hid hls
                    have hB2 := below2 hB hB1
                    have HR2 := Lib.hid (HR.out.below hB1)
                    clear hls hB1
                    by_cases hnil : M.bnd t k q = []
                    · have hl0 : (M.bnd t k q).length = 0 := by rw [hnil]; rfl
                      have k1 : (((M.bnd t k q).length : Int) == 0) = true := by rw [hl0]; rfl
                      have k2 : ((M.bnd t k q).length == 0) = true := by rw [hl0]; rfl
                      have HNIL := Lib.hid hnil
                      clear hl0 hnil
                      obtain ⟨r0, r1, r2, g0, g1, g2⟩ := HZ.out.below hB2 (by omega)
                      obtain ⟨q0, q1, q2⟩ := set3_at w1 (w.heap.size + 1) (.int .u8 3) (.int .i64 k) (.int .i64 q) _ _ _ r0 r1 r2
                      have hBU := below_set3 (W := w1) (R := w.heap.size + 1) (HBB.out.trans (hB2.mono (by omega))) (by omega) (.int .u8 3) (.int .i64 k) (.int .i64 q)
                      have HRES := Lib.hid ((M.brk_pair H1.out H2.out hkq hql (M.jn_nil HNIL.out) H3.out H4.out).trans (show (M.kindM t k q, k, q) = (3, k, q) from by unfold M.kindM; rw [if_pos HNIL.out]))
                      go_wp2_with fail
                      exact bodyPost_ret (v := .agg #[.int .u8 3, .int .i64 k, .int .i64 q]) (by simp [results, Try.results59, go_sem, q0, q1, q2]) rfl ⟨by rw [HRES.out]; rfl, hBU⟩
                    · have hl0 : 0 < (M.bnd t k q).length := List.length_pos_iff.2 hnil
                      have k1 : (((M.bnd t k q).length : Int) == 0) = false := by rw [beq_eq_false_iff_ne]; omega
                      have k2 : ((M.bnd t k q).length == 0) = false := by rw [beq_eq_false_iff_ne]; omega
                      have HNIL := Lib.hid hnil
                      have hls := HLS.out
                      have HC2 := Lib.hid fun W (hW : Below w1.heap.size w1 W) => least_any t g cc lc la (M.bnd t k q) W (HR2.out.below hW) h12 (hls.below hW) (fun x hx => (M.mem_bnd.1 hx).1) HBL.out
                      clear hl0 hnil hls
                      go_wp2_with fail
                      refine (HC2.out _ (Below.refl _ _)).mono ?_
                      rintro e w2 ⟨rfl, hB3⟩
                      have hB4 := below2 hB2 hB3
                      have HR3 := Lib.hid (HR2.out.below hB3)
                      have HJ := Lib.hid (show M.optI (M.lst t (M.bnd t k q)) = M.optI (M.jn t k q) from rfl)
                      rw [HJ.out]
                      clear hB3
                      cases hj : M.jn t k q with
                      | none =>
                        have HJN := Lib.hid hj
                        have k3 : decide ((-1 : Int) < 0) = true := by decide
                        clear hj
                        rw [show M.optI none = -1 from rfl]
                        obtain ⟨r0, r1, r2, g0, g1, g2⟩ := HZ.out.below hB4 (by omega)
                        obtain ⟨q0, q1, q2⟩ := set3_at w2 (w.heap.size + 1) (.int .u8 4) (.int .i64 k) (.int .i64 q) _ _ _ r0 r1 r2
                        have hBU := below_set3 (W := w2) (R := w.heap.size + 1) (HBB.out.trans (hB4.mono (by omega))) (by omega) (.int .u8 4) (.int .i64 k) (.int .i64 q)
                        have HRES := Lib.hid ((M.brk_pair H1.out H2.out hkq hql HJN.out H3.out H4.out).trans (show (M.kindM t k q, k, q) = (4, k, q) from by unfold M.kindM; rw [if_neg HNIL.out]))
                        go_wp2_with fail
                        exact bodyPost_ret (v := .agg #[.int .u8 4, .int .i64 k, .int .i64 q]) (by simp [results, Try.results59, go_sem, q0, q1, q2]) rfl ⟨by rw [HRES.out]; rfl, hBU⟩
                      | some c =>
                        have k3 : decide ((c : Int) < 0) = false := decide_eq_false (by omega)
                        have HN := Lib.hid (show ∀ b', k < b' → b' < q + 1 → M.jn t k b' ≠ none from fun b' h1 h2 => by
                          rcases Nat.lt_succ_iff_lt_or_eq.1 h2 with h | rfl
                          · exact H4.out b' h1 h
                          · rw [hj]; simp)
                        clear hj
                        rw [show M.optI (some c) = (c : Int) from rfl]
                        go_wp2_with fail
                        go_roundw
                        case rel => exact ⟨q + 1, by omega, by omega, by go_num, HN, HR3, hB4⟩
                        case measure => simp [intOf]; omega
                  · obtain rfl : q = t.elems.length := by omega
                    have HN := Lib.hid (show ∀ a', a' < k + 1 → ∀ b', a' < b' → b' < t.elems.length → M.jn t a' b' ≠ none from fun a' h1 b' h2 h3 => by
                      rcases Nat.lt_succ_iff_lt_or_eq.1 h1 with h | rfl
                      · exact H3.out a' h b' h2 h3
                      · exact H4.out b' h2 h3)
                    go_wp2_with fail
                    go_roundw
                    case rel => exact ⟨k + 1, by omega, by go_num, HN, HR, hB⟩
                    case measure => simp [intOf]; omega
              · obtain rfl : k = t.elems.length := by omega
                have HNB := Lib.hid (show M.noBrk t from ⟨H1.out, H2.out, fun a ha b hab hb => H3.out a ha b hab hb⟩)
                obtain ⟨x0, x1, x2, x3⟩ := HX.out.below hB
                obtain ⟨vb, vo, ev, hv⟩ := HT.out.ws.at (i := 0) (by have := HWL.out; omega)
                dsimp only at ev
                subst ev
                have HV := Lib.hid hv
                have hwl := HWL.out
                rw [hwl] at x3
                have v0 := cell_below (hv.at_ 0 (by omega)) hB
                rw [← getD_in t.wrong false 0 (by omega), Nat.add_zero] at v0
                have n3 : (0 : Int) < (t.elems.length : Int) := by omega
                clear hv
                cases h0 : t.wrong.getD 0 false with
                | true =>
                  rw [h0] at v0
                  have H0 := Lib.hid (show M.wr t 0 = true from h0)
                  clear h0
                  obtain ⟨r0, r1, r2, g0, g1, g2⟩ := HZ.out.below hB (by omega)
                  obtain ⟨q0, q1, q2⟩ := set3_at wr (w.heap.size + 1) (.int .u8 5) (.int .i64 0) (.int .i64 0) _ _ _ r0 r1 r2
                  have hBU := below_set3 (W := wr) (R := w.heap.size + 1) (HBB.out.trans (hB.mono (by omega))) (by omega) (.int .u8 5) (.int .i64 0) (.int .i64 0)
                  have HRES := Lib.hid (M.brk_zero HNB.out H0.out)
                  go_wp2_with fail
                  exact bodyPost_ret (v := .agg #[.int .u8 5, .int .i64 0, .int .i64 0]) (by simp [results, Try.results59, go_sem, q0, q1, q2]) rfl ⟨by rw [HRES.out]; rfl, hBU⟩
                | false =>
                  rw [h0] at v0
                  have H0 := Lib.hid (show M.wr t 0 = false from h0)
                  clear h0
                  go_wp2_with fail
                  clear x0 x1 x2 x3 v0
                  go_loopw [10] (fun i wr => ∃ k : Nat, k ≤ t.elems.length ∧ i = .int .i64 k ∧ Hid (∀ a', a' < k → ∀ b', b' < t.elems.length → M.wr t a' = true → M.leB t a' b' = true → M.wr t b' = true) ∧ Hid (RelAt wr t g) ∧ Below W0.heap.size W0 wr) (fun i _ => t.elems.length - (intOf i).toNat)
                  case atStart => exact ⟨0, by omega, rfl, Lib.hid (fun j hj => by omega), HR, hB⟩
                  case round =>
                    clear hB HR
                    rename World => wr
                    obtain ⟨k, hk, rfl, H5, HR, hB⟩ := hrel
                    by_cases hkl : k < t.elems.length
                    · have n1 : (k : Int) < (t.elems.length : Int) := by omega
                      have n2 : (0 : Int) ≤ (k : Int) := by omega
                      go_wp2_with fail
                      go_loopw [11] (fun i wr => ∃ q : Nat, q ≤ t.elems.length ∧ i = .int .i64 q ∧ Hid (∀ b', b' < q → M.wr t k = true → M.leB t k b' = true → M.wr t b' = true) ∧ Hid (RelAt wr t g) ∧ Below W0.heap.size W0 wr) (fun i _ => t.elems.length - (intOf i).toNat)
                      case atStart => exact ⟨0, by omega, rfl, Lib.hid (fun j h1 h2 => by omega), HR, hB⟩
                      case round =>
                        clear hB HR
                        rename World => wr
                        obtain ⟨q, hq, rfl, H6, HR, hB⟩ := hrel
                        obtain ⟨x0, x1, x2, x3⟩ := HX.out.below hB
                        dsimp only at x3
                        rw [HWL.out] at x3
                        by_cases hql : q < t.elems.length
                        · have m2 : (q : Int) < (t.elems.length : Int) := by omega
                          have m3 : (0 : Int) ≤ (q : Int) := by omega
                          have v1 := cell_below (HV.out.at_ k (by have := HWL.out; omega)) hB
                          rw [← getD_in t.wrong false k (by have := HWL.out; omega)] at v1
                          have v2 := cell_below (HV.out.at_ q (by have := HWL.out; omega)) hB
                          rw [← getD_in t.wrong false q (by have := HWL.out; omega)] at v2
                          obtain ⟨rb, ro, rc, r1, _, r3⟩ := HR.out.at_ k hkl
                          have r4 := r3 q hql
                          clear r3
                          have hnx : (M.wr t k = true → M.leB t k q = true → M.wr t q = true) → ∀ b', b' < q + 1 → M.wr t k = true → M.leB t k b' = true → M.wr t b' = true := fun h b' h1 => by
                            rcases Nat.lt_succ_iff_lt_or_eq.1 h1 with h' | rfl
                            · exact H6.out b' h'
                            · exact h
                          have HNX := Lib.hid hnx
                          clear hnx
                          cases hw1 : t.wrong.getD k false with
                          | false =>
                            rw [hw1] at v1
                            have HN := Lib.hid (HNX.out fun h => by unfold M.wr at h; rw [hw1] at h; cases h)
                            clear hw1
                            go_wp2_with fail
                            go_roundw
                            case rel => exact ⟨q + 1, by omega, by go_num, HN, HR, hB⟩
                            case measure => simp [intOf]; omega
                          | true =>
                            rw [hw1] at v1
                            have HW1 := Lib.hid (show M.wr t k = true from hw1)
                            cases hw2 : t.wrong.getD q false with
                            | true =>
                              rw [hw2] at v2
                              have HN := Lib.hid (HNX.out fun _ _ => hw2)
                              clear hw1 hw2
                              go_wp2_with fail
                              go_roundw
                              case rel => exact ⟨q + 1, by omega, by go_num, HN, HR, hB⟩
                              case measure => simp [intOf]; omega
                            | false =>
                              rw [hw2] at v2
                              have HW2 := Lib.hid (show M.wr t q = false from hw2)
                              cases hl : M.leB t k q with
                              | false =>
                                rw [hl] at r4
                                have HN := Lib.hid (HNX.out fun _ h => by rw [hl] at h; cases h)
                                clear hw1 hw2 hl
                                go_wp2_with fail
                                go_roundw
                                case rel => exact ⟨q + 1, by omega, by go_num, HN, HR, hB⟩
                                case measure => simp [intOf]; omega
                              | true =>
                                rw [hl] at r4
                                have HLL := Lib.hid hl
                                clear hw1 hw2 hl
                                obtain ⟨e0, e1, e2, g0, g1, g2⟩ := HZ.out.below hB (by omega)
                                obtain ⟨q0, q1, q2⟩ := set3_at wr (w.heap.size + 1) (.int .u8 5) (.int .i64 k) (.int .i64 q) _ _ _ e0 e1 e2
                                have hBU := below_set3 (W := wr) (R := w.heap.size + 1) (HBB.out.trans (hB.mono (by omega))) (by omega) (.int .u8 5) (.int .i64 k) (.int .i64 q)
                                have HRES := Lib.hid (M.brk_wrong HNB.out H0.out hkl hql HW1.out HW2.out HLL.out H5.out (fun b' h => H6.out b' h HW1.out))
                                go_wp2_with fail
                                exact bodyPost_ret (v := .agg #[.int .u8 5, .int .i64 k, .int .i64 q]) (by simp [results, Try.results59, go_sem, q0, q1, q2]) rfl ⟨by rw [HRES.out]; rfl, hBU⟩
                        · obtain rfl : q = t.elems.length := by omega
                          have HN := Lib.hid (show ∀ a', a' < k + 1 → ∀ b', b' < t.elems.length → M.wr t a' = true → M.leB t a' b' = true → M.wr t b' = true from fun a' h1 b' h2 => by
                            rcases Nat.lt_succ_iff_lt_or_eq.1 h1 with h | rfl
                            · exact H5.out a' h b' h2
                            · exact H6.out b' h2)
                          go_wp2_with fail
                          go_roundw
                          case rel => exact ⟨k + 1, by omega, by go_num, HN, HR, hB⟩
                          case measure => simp [intOf]; omega
                    · obtain rfl : k = t.elems.length := by omega
                      obtain ⟨r0, r1, r2, g0, g1, g2⟩ := HZ.out.below hB (by omega)
                      obtain ⟨q0, q1, q2⟩ := set3_at wr (w.heap.size + 1) (.int .u8 0) (.int .i64 0) (.int .i64 0) _ _ _ r0 r1 r2
                      have hBU := below_set3 (W := wr) (R := w.heap.size + 1) (HBB.out.trans (hB.mono (by omega))) (by omega) (.int .u8 0) (.int .i64 0) (.int .i64 0)
                      have HRES := Lib.hid (M.brk_ok HNB.out H0.out (fun a ha b hb => H5.out a ha b hb))
                      go_wp2_with fail
                      exact bodyPost_ret (v := .agg #[.int .u8 0, .int .i64 0, .int .i64 0]) (by simp [results, Try.results59, go_sem, q0, q1, q2]) rfl ⟨by rw [HRES.out]; rfl, hBU⟩
end Go.Proofs.Ytnhnjfoboepffaa
