/- Texts of one's own, joined: OrdEc. -/
import Derived.Test.YtnhnjfoboepffaaGr36
import Derived.Test.YtnhnjfoboepffaaGr45
import Derived.Test.YtnhnjfoboepffaaGr25
import Derived.Test.YtnhnjfoboepffaaGr17
import Derived.Test.YtnhnjfoboepffaaGr1
namespace Go.Proofs.Ytnhnjfoboepffaa
open Go.RowKit

theorem wpAnyH_two {P : Program} {md : Region.Mode} {ops : Array Oper} {Q : Exit → Act → World → Prop} {S : World → Prop} {fuel : Nat} {listed : Array Bool} {a : Act} {w : World} (i j : Nat) {oi oj : Oper} (hr : Region.ready md ops listed = [i, j]) (hi : ops[i]? = some oi) (hj : ops[j]? = some oj)
    (h1 : ∀ K' : Act → World → Prop, Hid (∀ a w, (S w ∧ wpAnyH P md ops Q S fuel (listed.setIfInBounds i true) a w) → K' a w) → wpList P ops (then1 K' Q) [oi] a w)
    (h2 : ∀ K' : Act → World → Prop, Hid (∀ a w, (S w ∧ wpAnyH P md ops Q S fuel (listed.setIfInBounds j true) a w) → K' a w) → wpList P ops (then1 K' Q) [oj] a w) : wpAnyH P md ops Q S (fuel + 1) listed a w :=
  wpAnyH_all hr (by simp) (fun k hk => by
    simp only [List.mem_cons, List.not_mem_nil, or_false] at hk
    rcases hk with rfl | rfl
    · exact wpOp_walk hi h1
    · exact wpOp_walk hj h2)
theorem cel_one {w : World} {b : Nat} {x : Int} {e : TypeId} (h : w.heap[b]? = some (.cells #[.int .i64 x] e (0, 0))) : IntSl w (some ⟨b, 0, none⟩) [x] :=
  Or.inr ⟨b, 0, rfl, heap_lt h, fun i hi => by
    have : i = 0 := by simpa using hi
    subst this
    rw [Lib.cell_of_heap h]; rfl⟩

set_option maxHeartbeats 16000000 in
set_option maxRecDepth 100000 in
theorem refSlim_any (t : M.Tb) (p : Tp) (w : World) (h1 : t.elems.length ≤ 1000000) (h2 : t.above.length ≤ 1000000) (h3 : t.wrong.length ≤ 1000000) (hs : t.name.size ≤ maxLen) (hes : ∀ s, s ∈ t.elems → s.size ≤ maxLen) (hal : ∀ l, l ∈ t.above → l.length ≤ 1000000) (ht : TbIn w t p) :
    Calls Try.prog 11 #[tbV t p] w (SlimPost t w) := by
  have hmx : Try.prog.follows .mixedOrders = true := by kernel_rfl
  obtain ⟨t0, hti, htz, hts, _⟩ := info_parts tabInfo
  have HTI := Lib.hid (And.intro hti (And.intro htz hts))
  obtain ⟨j0, hj, hy0, hy1, hy2⟩ := info_parts intInfo
  have HJ := Lib.hid (And.intro hj (And.intro hy0 (And.intro hy1 hy2)))
  have hBB : Below w.heap.size w ((w.alloc (.cells (tbA t p) 26)).alloc (.cells tb0 26)) := belowA (below1 _ _) _
  have HC := Lib.hid (refIsLattice_any t p ((w.alloc (.cells (tbA t p) 26)).alloc (.cells tb0 26)) hs hes hal (ht.below hBB))
  have HT := Lib.hid (ht.below hBB)
  have HO := Lib.hid (box_last w (.cells (tbA t p) 26) tb0 26)
  have HX := Lib.hid ((tbBox (t := t) (p := p) (box_new w (tbA t p) 26)).below (below1 _ (.cells tb0 26)))
  obtain ⟨c0, c1, c2, c3⟩ := HX.out
  have HBB := Lib.hid hBB
  have HCP := Lib.hid (fun W => copyO_any t p W h1 h2 h3 hal)
  clear ht hj hy0 hy1 hy2 hti htz hts hBB h1 h2 h3 hs hes hal
  go_enter Try.func11, Try.ntmps11
  go_wp2_with fail
  generalize hW0 : (w.alloc (.cells (tbA t p) 26)).alloc (.cells tb0 26) = W0 at *
  have HW0 := Lib.hid (show W0.heap.size = w.heap.size + 1 + 1 by rw [← hW0, World.size_alloc, World.size_alloc])
  clear hW0
  refine HC.out.mono ?_
  rintro e w1 ⟨⟨hf, rfl⟩ | ⟨hf, hk, rfl⟩ | ⟨hf, rfl⟩, hB1⟩
  · have HF := Lib.hid hf
    skip
    have HB := Lib.hid (below2 HBB.out hB1)
    have HO1 := Lib.hid (show w1.heap[w.heap.size + 1]? = some (.cells tb0 26 (0, 0)) by
      rw [hB1.block _ (heap_lt HO.out)]; exact HO.out)
    clear hf hB1 c0 c1 c2 c3
    go_wp2_with (refine wpList_store_row _ rfl 26 _ _ rfl rfl t0 HTI.out.1 (w.heap.size + 1) tb0 tb0 26 rfl rfl HO1.out rfl HTI.out.2.2 (by intro v hv; simp only [List.mem_cons, List.not_mem_nil, or_false] at hv; rcases hv with rfl | rfl | rfl | rfl <;> rfl) ?_; intro w3 h3 hg3; have H3 := Lib.hid h3; clear h3)
    obtain ⟨q0, q1, q2, q3⟩ := tbBox (t := M.tz) (p := pz) H3.out
    have hBf : Below w.heap.size w w3 := HB.out.grown hg3 HB.out.size (fun k e => by cases e; omega)
    exact bodyPost_ret (v := .tuple #[tbV M.tz pz, .int .i64 4]) (by simp [results, Try.results11, go_sem, q0, q1, q2, q3]) rfl (sp_1 HF.out hBf)
  · have HF := Lib.hid hf
    have HK := Lib.hid hk
    have HB := Lib.hid (below2 HBB.out hB1)
    have HO1 := Lib.hid (show w1.heap[w.heap.size + 1]? = some (.cells tb0 26 (0, 0)) by
      rw [hB1.block _ (heap_lt HO.out)]; exact HO.out)
    clear hf hB1 c0 c1 c2 c3 hk
    go_wp2_with (refine wpList_store_row _ rfl 26 _ _ rfl rfl t0 HTI.out.1 (w.heap.size + 1) tb0 tb0 26 rfl rfl HO1.out rfl HTI.out.2.2 (by intro v hv; simp only [List.mem_cons, List.not_mem_nil, or_false] at hv; rcases hv with rfl | rfl | rfl | rfl <;> rfl) ?_; intro w3 h3 hg3; have H3 := Lib.hid h3; clear h3)
    obtain ⟨q0, q1, q2, q3⟩ := tbBox (t := M.tz) (p := pz) H3.out
    have hBf : Below w.heap.size w w3 := HB.out.grown hg3 HB.out.size (fun k e => by cases e; omega)
    exact bodyPost_ret (v := .tuple #[tbV M.tz pz, .int .i64 12]) (by simp [results, Try.results11, go_sem, q0, q1, q2, q3]) rfl (sp_2 HF.out HK.out hBf)
  · have HF := Lib.hid hf
    have HG := Lib.hid (M.lat_good hf)
    have h12 := HG.out.form.twelve
    have hone := HG.out.form.one
    have hab := HG.out.form.above
    have HAB := Lib.hid hab
    have HX1 := Lib.hid (HX.out.below hB1)
    have HT1 := Lib.hid (HT.out.below hB1)
    have HB := Lib.hid (below2 HBB.out hB1)
    have HO1 := Lib.hid (show w1.heap[w.heap.size + 1]? = some (.cells tb0 26 (0, 0)) by
      rw [hB1.block _ (heap_lt HO.out)]; exact HO.out)
    have hz1 : w.heap.size + 2 ≤ w1.heap.size := by have := hB1.size; have := HW0.out; omega
    clear c0 c1 c2 c3 hf hB1 HC hab
    obtain ⟨c0, c1, c2, c3⟩ := HX1.out
    go_wp2_with fail
    refine (HCP.out w1 HT1.out).mono ?_
    rintro e w2 ⟨p', rfl, hto, hB2⟩
    have HTO := Lib.hid hto
    have hz2 := hB2.size
    have HB2 := Lib.hid hB2
    have HXn := Lib.hid ((HX1.out.below hB2).below (below1 w2 (.cells tb0 26)))
    have HNB := Lib.hid (box_new w2 tb0 26)
    clear c0 c1 c2 c3 hto hB2 HCP
    go_wp2_with (refine wpList_store_row _ rfl 26 _ _ rfl rfl t0 HTI.out.1 w2.heap.size tb0 (tbA t p') 26 rfl rfl HNB.out rfl HTI.out.2.2 (by intro v hv; simp only [List.mem_cons, List.not_mem_nil, or_false] at hv; rcases hv with rfl | rfl | rfl | rfl <;> rfl) ?_; intro w3 h3 hg3; have H3 := Lib.hid h3; have HG3 := Lib.hid hg3; clear h3 hg3)
    have hB23 : Below w2.heap.size w2 w3 := (below1 w2 (.cells tb0 26)).grown HG3.out (by simp) (fun k e => by cases e; exact Nat.le_refl _)
    have hne : t.above ≠ [] := fun e => by have := HAB.out; rw [e] at this; simp at this; omega
    obtain ⟨g, vals, hsm⟩ := SmC.of HTO.out hne hz2 (Nat.le_refl w2.heap.size) hB23.size hB23 H3.out
    have HX3 := Lib.hid (show TbBox w3 w.heap.size t p from (HX1.out.below HB2.out).below hB23)
    have HT3 := Lib.hid (HT1.out.below (below2 HB2.out hB23))
    have HB3 := Lib.hid (below2 HB.out (below2 HB2.out hB23))
    have hz3 := hB23.size
    have HO3 := Lib.hid (show w3.heap[w.heap.size + 1]? = some (.cells tb0 26 (0, 0)) by
      rw [hB23.block _ (by omega), HB2.out.block _ (by omega)]; exact HO1.out)
    have HSM := Lib.hid (hsm.skips (skip' := fun _ => False) (R' := M.slR t 0) (fun i h => ⟨h, by unfold M.slR; rw [if_neg (by omega)]⟩))
    have HTP := Lib.hid HTO.out.tb
    clear hne hsm hB23
    go_wp2_with fail
    go_loopw [6] (fun i wr => ∃ (a : Nat) (vals : List Value), a ≤ t.elems.length ∧ i = .int .i64 a ∧ Hid (SmC t w2 w1.heap.size w2.heap.size g p' (fun _ => False) none t.above.length (M.slR t a) vals wr)) (fun i _ => t.elems.length - (intOf i).toNat)
    case atStart => exact ⟨0, vals, by omega, rfl, HSM⟩
    case round =>
      clear HSM vals
      rename World => wr
      obtain ⟨a, vals, ha, rfl, HS⟩ := hrel
      have HBr := Lib.hid (show Below w1.heap.size w2 wr from HS.out.below)
      have HBr1 := Lib.hid (show Below w1.heap.size w1 wr from HB2.out.trans HBr.out)
      have HXr := Lib.hid (show TbBox wr w.heap.size t p from HX1.out.below HBr1.out)
      obtain ⟨c0, c1, c2, c3⟩ := HXr.out
      by_cases hal : a < t.elems.length
      · have a1 : (a : Int) < (t.elems.length : Int) := by omega
        have a2 : (0 : Int) ≤ (a : Int) := by omega
        have a3 : a < t.above.length := by have := HAB.out; omega
        have a4 : (a : Int) < (t.above.length : Int) := by omega
        obtain ⟨v0, hv0⟩ := HS.out.valsK a3
        obtain ⟨k1, k2⟩ := HS.out.cellV a3 hv0
        have k3 := HS.out.glt
        have k4 : wr.cell? ⟨w2.heap.size, 2, none⟩ = some (.slice (some ⟨g, 0, none⟩) t.above.length p'.ac) := by rw [Lib.cell_of_heap HS.out.bx, HS.out.aa]; rfl
        have k5 := heap_lt HS.out.bx
        have HS2 := Lib.hid ((HS.out.put a (.slice none 0 0)).skips (skip' := fun i => i = a) (R' := M.slR t a) (fun i h => ⟨by simpa using h, rfl⟩))
        have hvl := HS.out.row.1
        have HV2 := Lib.hid (show (vals.set a (.slice none 0 0))[a]? = some (.slice none 0 0) from List.getElem?_set_self (by omega))
        clear hv0 hvl
        go_wp2_with fail
        clear k1 k2 k3 k4 k5 c0 c1 c2 c3
        go_loopw [7] (fun i wo => ∃ (b : Nat) (vk : Value) (vals : List Value), b ≤ t.elems.length ∧ i = .int .i64 b ∧ Hid (SmC t w2 w1.heap.size w2.heap.size g p' (fun i => i = a) vk.ownBlock t.above.length (M.slR t a) vals wo) ∧ Hid (vals[a]? = some vk) ∧ Hid (wo.ownsRow w1.heap.size 3 1 vk (M.cvl t a b).length (intCs (M.cvl t a b))) ∧ Hid (∀ x, vk.ownBlock = some x → x ≠ g ∧ x ≠ w2.heap.size)) (fun i _ => t.elems.length - (intOf i).toNat)
        case atStart => exact ⟨0, .slice none 0 0, _, by omega, rfl, HS2, HV2, Lib.hid ⟨rfl, Or.inl ⟨rfl, rfl⟩⟩, Lib.hid (fun x h => by cases h)⟩
        case round =>
          clear HS2 HV2 HS v0 HBr HBr1 HXr
          rename World => wo
          obtain ⟨b, vk, vals, hb, rfl, HS, HV, HO, HNE⟩ := hrel
          have HBr1 := Lib.hid (show Below w1.heap.size w1 wo from HB2.out.trans HS.out.below)
          have HXr := Lib.hid (show TbBox wo w.heap.size t p from HX1.out.below HBr1.out)
          have HTr := Lib.hid (show TbIn wo t p from HT1.out.below HBr1.out)
          obtain ⟨c0, c1, c2, c3⟩ := HXr.out
          by_cases hbl : b < t.elems.length
          · have b1 : (b : Int) < (t.elems.length : Int) := by omega
            have b2 : (0 : Int) ≤ (b : Int) := by omega
            go_wp2_with fail
            refine (steps_any t p a b wo HTr.out HG.out.form hal hbl).mono ?_
            rintro e w4 ⟨rfl, hB4⟩
            have HB4 := Lib.hid hB4
            clear hB4 c0 c1 c2 c3
            go_wp2_with fail
            go_loopw [8, 9] (fun r i wq => ∃ c : Nat, c ≤ t.elems.length ∧ i = .int .i64 c ∧ r = .bool (M.cvP t a b c) ∧ Hid (Below wo.heap.size wo wq)) (fun _ i _ => t.elems.length - (intOf i).toNat)
            case atStart => exact ⟨0, by omega, rfl, by rw [M.cvP_zero], HB4⟩
            case round =>
              clear HB4 w4
              rename World => wq
              obtain ⟨c, hc, rfl, rfl, HBq⟩ := hrel
              have HTq := Lib.hid (HTr.out.below HBq.out)
              obtain ⟨c0, c1, c2, c3⟩ := HXr.out.below HBq.out
              by_cases hcl : c < t.elems.length
              · have d1 : (c : Int) < (t.elems.length : Int) := by omega
                have hnx := M.cvP_next t a b c
                cases hr : M.cvP t a b c with
                | false =>
                  rw [hr, Bool.false_and] at hnx
                  have HNX := Lib.hid hnx
                  clear hnx hr
                  go_wp2_with fail
                  go_roundw
                  case rel => exact ⟨c + 1, by omega, by go_num, by rw [HNX.out], HBq⟩
                  case measure => simp [intOf]; omega
                | true =>
                  rw [hr, Bool.true_and] at hnx
                  clear hr
                  have HNX := Lib.hid hnx
                  clear hnx
                  go_wp2_with fail
                  refine (steps_any t p a c wq HTq.out HG.out.form hal hcl).mono ?_
                  rintro e w5 ⟨rfl, hB5⟩
                  have HB5 := Lib.hid (below2 HBq.out hB5)
                  have HTq5 := Lib.hid (HTq.out.below hB5)
                  obtain ⟨x0, x1, x2, x3⟩ := (HXr.out.below HBq.out).below hB5
                  clear hB5 c0 c1 c2 c3
                  cases hs : M.stB t a c with
                  | false =>
                    have HNX := Lib.hid (show M.cvP t a b (c + 1) = true by rw [HNX.out, hs]; rfl)
                    clear hs
                    go_wp2_with fail
                    go_roundw
                    case rel => exact ⟨c + 1, by omega, by go_num, by rw [HNX.out], HB5⟩
                    case measure => simp [intOf]; omega
                  | true =>
                    have HNX := Lib.hid (show M.cvP t a b (c + 1) = !M.stB t c b by rw [HNX.out, hs]; rfl)
                    clear hs
                    go_wp2_with fail
                    refine (steps_any t p c b w5 HTq5.out HG.out.form hcl hbl).mono ?_
                    rintro e w6 ⟨rfl, hB6⟩
                    have HB6 := Lib.hid (below2 HB5.out hB6)
                    clear hB6 x0 x1 x2 x3
                    go_wp2_with fail
                    go_roundw
                    case rel => exact ⟨c + 1, by omega, by go_num, by rw [HNX.out], HB6⟩
                    case measure => simp [intOf]; omega
              · obtain rfl : c = t.elems.length := by omega
                have d1 : decide ((t.elems.length : Int) < (t.elems.length : Int)) = false := decide_eq_false (by omega)
                have hcov : M.cvP t a b t.elems.length = M.covB t a b := rfl
                rw [hcov]
                have HSq := Lib.hid (HS.out.below2 HBq.out)
                have HOq := Lib.hid (own_below HO.out HBq.out)
                clear HS HO hcov
                cases hr : M.covB t a b with
                | false =>
                  have HCV := Lib.hid (M.cvl_no hr)
                  clear hr
                  go_wp2_with fail
                  go_roundw
                  case rel => exact ⟨b + 1, vk, vals, by omega, by go_num, HSq, HV, by rw [HCV.out]; exact HOq, HNE⟩
                  case measure => simp [intOf]; omega
                | true =>
                  have HCV := Lib.hid (M.cvl_yes hr)
                  clear hr
                  have k6 := M.cvl_len t a b
                  go_wp2_with fail
                  have HSd := Lib.hid (HSq.out.below2 (Below.refl wq.heap.size wq).drew)
                  have HOd := Lib.hid (own_below HOq.out (Below.refl wq.heap.size wq).drew)
                  have hS := HSd.out.hdr
                  have a2 : (0 : Int) ≤ (a : Int) := by omega
                  have a4 : (a : Int) < (t.above.length : Int) := by omega
                  clear c0 c1 c2 c3
                  refine wp_region_held (S := (fun W => W.cell? ⟨w2.heap.size, 2, none⟩ = some (.slice (some ⟨g, 0, none⟩) t.above.length p'.ac))) hmx ?_
                  change wpAnyH _ _ _ _ _ _ _ _ (wq).drew
                  refine wpAnyH_take (i := 0) (v := .pointer (some ⟨w2.heap.size, 2, none⟩)) rfl (by kernel_rfl) (by kernel_rfl) (by kernel_rfl) (fun _ _ _ h => h) (Or.inl ⟨by kernel_rfl, ?_⟩) hS ?_
                  · intro W' hSw
                    obtain s0 := hSw
                    go_simp
                  dsimp only [List.getElem_toArray, List.getElem_cons_zero, List.getElem_cons_succ, Act.put, List.setIfInBounds_toArray, List.set_cons_zero, List.set_cons_succ]
                  refine wpAnyH_take (i := 1) (v := .slice (some ⟨g, 0, none⟩) t.above.length p'.ac) rfl (by kernel_rfl) (by kernel_rfl) (by kernel_rfl) (fun _ _ _ h => h) (Or.inl ⟨by kernel_rfl, ?_⟩) hS ?_
                  · intro W' hSw
                    obtain s0 := hSw
                    go_simp
                  dsimp only [List.getElem_toArray, List.getElem_cons_zero, List.getElem_cons_succ, Act.put, List.setIfInBounds_toArray, List.set_cons_zero, List.set_cons_succ]
                  refine wpAnyH_take (i := 2) (v := .int .i64 a) rfl (by kernel_rfl) (by kernel_rfl) (by kernel_rfl) (fun _ _ _ h => h) (Or.inl ⟨by kernel_rfl, ?_⟩) hS ?_
                  · intro W' hSw
                    obtain s0 := hSw
                    go_simp
                  dsimp only [List.getElem_toArray, List.getElem_cons_zero, List.getElem_cons_succ, Act.put, List.setIfInBounds_toArray, List.set_cons_zero, List.set_cons_succ]
                  refine wpAnyH_take (i := 3) (v := .pointer (some ⟨w2.heap.size, 2, none⟩)) rfl (by kernel_rfl) (by kernel_rfl) (by kernel_rfl) (fun _ _ _ h => h) (Or.inl ⟨by kernel_rfl, ?_⟩) hS ?_
                  · intro W' hSw
                    obtain s0 := hSw
                    go_simp
                  dsimp only [List.getElem_toArray, List.getElem_cons_zero, List.getElem_cons_succ, Act.put, List.setIfInBounds_toArray, List.set_cons_zero, List.set_cons_succ]
                  refine wpAnyH_take (i := 4) (v := .slice (some ⟨g, 0, none⟩) t.above.length p'.ac) rfl (by kernel_rfl) (by kernel_rfl) (by kernel_rfl) (fun _ _ _ h => h) (Or.inl ⟨by kernel_rfl, ?_⟩) hS ?_
                  · intro W' hSw
                    obtain s0 := hSw
                    go_simp
                  dsimp only [List.getElem_toArray, List.getElem_cons_zero, List.getElem_cons_succ, Act.put, List.setIfInBounds_toArray, List.set_cons_zero, List.set_cons_succ]
                  refine wpAnyH_take (i := 5) (v := .int .i64 a) rfl (by kernel_rfl) (by kernel_rfl) (by kernel_rfl) (fun _ _ _ h => h) (Or.inl ⟨by kernel_rfl, ?_⟩) hS ?_
                  · intro W' hSw
                    obtain s0 := hSw
                    go_simp
                  dsimp only [List.getElem_toArray, List.getElem_cons_zero, List.getElem_cons_succ, Act.put, List.setIfInBounds_toArray, List.set_cons_zero, List.set_cons_succ]
                  refine wpAnyH_take (i := 6) (v := .pointer (some ⟨g, a, none⟩)) rfl (by kernel_rfl) (by kernel_rfl) (by kernel_rfl) (fun _ _ _ h => h) (Or.inl ⟨by kernel_rfl, ?_⟩) hS ?_
                  · intro W' hSw
                    obtain s0 := hSw
                    go_simp
                  dsimp only [List.getElem_toArray, List.getElem_cons_zero, List.getElem_cons_succ, Act.put, List.setIfInBounds_toArray, List.set_cons_zero, List.set_cons_succ]
                  refine wpAnyH_take (i := 8) (v := .int .i64 b) rfl (by kernel_rfl) (by kernel_rfl) (by kernel_rfl) (fun _ _ _ h => h) (Or.inl ⟨by kernel_rfl, ?_⟩) hS ?_
                  · intro W' hSw
                    obtain s0 := hSw
                    go_simp
                  dsimp only [List.getElem_toArray, List.getElem_cons_zero, List.getElem_cons_succ, Act.put, List.setIfInBounds_toArray, List.set_cons_zero, List.set_cons_succ]
                  have HSe := Lib.hid (HSd.out.below2 (below1 wq.drew (.cells #[.int .i64 (b : Nat)] 3)))
                  refine wpAnyH_two 7 9 (by kernel_rfl) rfl rfl ?_ ?_
                  · intro K' HK
                    have k1 := (HSd.out.cellV a3 HV.out).1
                    go_wp2_with fail
                    refine HK.out _ _ ⟨hS, ?_⟩
                    clear HK K' k1
                    try dsimp only [List.getElem_toArray, List.getElem_cons_zero, List.getElem_cons_succ, Act.put, List.setIfInBounds_toArray, List.set_cons_zero, List.set_cons_succ]
                    refine wpAnyH_one 9 (by kernel_rfl) rfl fun K' HK => ?_
                    go_wp2_with fail
                    refine HK.out _ _ ⟨HSe.out.hdr, ?_⟩
                    clear HK K'
                    try dsimp only [List.getElem_toArray, List.getElem_cons_zero, List.getElem_cons_succ, Act.put, List.setIfInBounds_toArray, List.set_cons_zero, List.set_cons_succ]
                    have HOe := Lib.hid (own_below HOd.out (below1 wq.drew (.cells #[.int .i64 (b : Nat)] 3)))
                    have hn1 : vk.ownBlock ≠ some g := fun e => (HNE.out g e).1 rfl
                    have hn2 : vk.ownBlock ≠ some w2.heap.size := fun e => (HNE.out _ e).2 rfl
                    refine wpAnyH_one 10 (by kernel_rfl) rfl fun K' HK => ?_
                    refine wpList_app_cel (f := Value.int .i64) _ (by rfl) _ _ _ (by rfl) _ j0 (.int .i64 0) 8 Try.underlying37 HJ.out.1 HJ.out.2.1 HJ.out.2.2.1 HJ.out.2.2.2 rfl (by decide) (fun _ => rfl) w1.heap.size vk (M.cvl t a b) (by rfl) HOe.out HSe.out.le (some ⟨wq.drew.heap.size, 0, none⟩) 1 [(b : Int)] (by rfl) (by simp) (cel_one (box_new wq.drew #[.int .i64 (b : Nat)] 3)) (by simp; omega) ?_
                    intro v' w7 q1 q2 q3 q4
                    have HSf := Lib.hid (HSe.out.grow q2 (fun k hk => (own_lt HOe.out hk).1) hn1 hn2 v'.ownBlock q3)
                    have HNf := Lib.hid (show ∀ x, v'.ownBlock = some x → x ≠ g ∧ x ≠ w2.heap.size from fun x hx => by
                      rcases q3 with q | q
                      · exact HNE.out x (by rw [← q]; exact hx)
                      · rw [q] at hx
                        have e : (wq.drew.alloc (.cells #[.int .i64 (b : Nat)] 3)).heap.size = x := by injection hx
                        have l1 := HSe.out.glt
                        have l2 := heap_lt HSe.out.bx
                        omega)
                    have HOf := Lib.hid q1
                    obtain ⟨va, vc, hv'⟩ := own_slice' q1
                    rw [show (M.cvl t a b ++ [(b : Int)]).length = (M.cvl t a b).length + 1 by simp] at hv'
                    subst hv'
                    clear q1 q2 q3 q4
                    refine HK.out _ _ ⟨HSf.out.hdr, ?_⟩
                    clear HK K'
                    have hSf := HSf.out.hdr
                    obtain ⟨k1, k2⟩ := HSf.out.cellV a3 HV.out
                    have k3 := HSf.out.glt
                    try dsimp only [List.getElem_toArray, List.getElem_cons_zero, List.getElem_cons_succ, Act.put, List.setIfInBounds_toArray, List.set_cons_zero, List.set_cons_succ]
                    refine wpAnyH_take (i := 11) (v := .pointer (some ⟨g, a, none⟩)) rfl (by kernel_rfl) (by kernel_rfl) (by kernel_rfl) (fun _ _ _ h => h) (Or.inl ⟨by kernel_rfl, ?_⟩) hSf ?_
                    · intro W' hSw
                      obtain s0 := hSw
                      go_simp
                    dsimp only [List.getElem_toArray, List.getElem_cons_zero, List.getElem_cons_succ, Act.put, List.setIfInBounds_toArray, List.set_cons_zero, List.set_cons_succ]
                    have HSg := Lib.hid ((HSf.out.put a (.slice va ((M.cvl t a b).length + 1) vc)).skips (skip' := fun i => i = a) (R' := M.slR t a) (fun i h => ⟨fun q => h (q.elim id id), rfl⟩))
                    have HVg := Lib.hid (show (vals.set a (.slice va ((M.cvl t a b).length + 1) vc))[a]? = some _ from List.getElem?_set_self (by have := HSf.out.row.1; omega))
                    have HOg := Lib.hid (show (w7.setCell ⟨g, a, none⟩ (.slice va ((M.cvl t a b).length + 1) vc)).ownsRow w1.heap.size 3 1 (.slice va ((M.cvl t a b).length + 1) vc) (M.cvl t a (b + 1)).length (intCs (M.cvl t a (b + 1))) from by
                      rw [HCV.out]
                      exact own_same HOf.out fun x hx => heap_set_other _ _ _ _ (HNf.out x hx).1)
                    refine wpAnyH_one 12 (by kernel_rfl) rfl fun K' HK => ?_
                    go_wp2_with fail
                    refine HK.out _ _ ⟨HSg.out.hdr, ?_⟩
                    clear HK K' k1 k2 k3
                    refine wpAnyH_done (by kernel_rfl) ?_ _
                    go_wp2_with fail
                    go_roundw
                    case rel => exact ⟨b + 1, _, _, by omega, by go_num, HSg, HVg, HOg, HNf⟩
                    case measure => simp [intOf]; omega
                  · intro K' HK
                    go_wp2_with fail
                    refine HK.out _ _ ⟨HSe.out.hdr, ?_⟩
                    clear HK K'
                    try dsimp only [List.getElem_toArray, List.getElem_cons_zero, List.getElem_cons_succ, Act.put, List.setIfInBounds_toArray, List.set_cons_zero, List.set_cons_succ]
                    have k1 : (wq.alloc (.cells #[.int .i64 (b : Nat)] 3)).drew.cell? ⟨g, a, none⟩ = some vk := (HSe.out.cellV a3 HV.out).1
                    refine wpAnyH_one 7 (by kernel_rfl) rfl fun K' HK => ?_
                    go_wp2_with fail
                    refine HK.out _ _ ⟨HSe.out.hdr, ?_⟩
                    clear HK K' k1
                    try dsimp only [List.getElem_toArray, List.getElem_cons_zero, List.getElem_cons_succ, Act.put, List.setIfInBounds_toArray, List.set_cons_zero, List.set_cons_succ]
                    have HOe := Lib.hid (own_below HOd.out (below1 wq.drew (.cells #[.int .i64 (b : Nat)] 3)))
                    have hn1 : vk.ownBlock ≠ some g := fun e => (HNE.out g e).1 rfl
                    have hn2 : vk.ownBlock ≠ some w2.heap.size := fun e => (HNE.out _ e).2 rfl
                    refine wpAnyH_one 10 (by kernel_rfl) rfl fun K' HK => ?_
                    refine wpList_app_cel (f := Value.int .i64) _ (by rfl) _ _ _ (by rfl) _ j0 (.int .i64 0) 8 Try.underlying37 HJ.out.1 HJ.out.2.1 HJ.out.2.2.1 HJ.out.2.2.2 rfl (by decide) (fun _ => rfl) w1.heap.size vk (M.cvl t a b) (by rfl) HOe.out HSe.out.le (some ⟨wq.drew.heap.size, 0, none⟩) 1 [(b : Int)] (by rfl) (by simp) (cel_one (box_new wq.drew #[.int .i64 (b : Nat)] 3)) (by simp; omega) ?_
                    intro v' w7 q1 q2 q3 q4
                    have HSf := Lib.hid (HSe.out.grow q2 (fun k hk => (own_lt HOe.out hk).1) hn1 hn2 v'.ownBlock q3)
                    have HNf := Lib.hid (show ∀ x, v'.ownBlock = some x → x ≠ g ∧ x ≠ w2.heap.size from fun x hx => by
                      rcases q3 with q | q
                      · exact HNE.out x (by rw [← q]; exact hx)
                      · rw [q] at hx
                        have e : (wq.drew.alloc (.cells #[.int .i64 (b : Nat)] 3)).heap.size = x := by injection hx
                        have l1 := HSe.out.glt
                        have l2 := heap_lt HSe.out.bx
                        omega)
                    have HOf := Lib.hid q1
                    obtain ⟨va, vc, hv'⟩ := own_slice' q1
                    rw [show (M.cvl t a b ++ [(b : Int)]).length = (M.cvl t a b).length + 1 by simp] at hv'
                    subst hv'
                    clear q1 q2 q3 q4
                    refine HK.out _ _ ⟨HSf.out.hdr, ?_⟩
                    clear HK K'
                    have hSf := HSf.out.hdr
                    obtain ⟨k1, k2⟩ := HSf.out.cellV a3 HV.out
                    have k3 := HSf.out.glt
                    try dsimp only [List.getElem_toArray, List.getElem_cons_zero, List.getElem_cons_succ, Act.put, List.setIfInBounds_toArray, List.set_cons_zero, List.set_cons_succ]
                    refine wpAnyH_take (i := 11) (v := .pointer (some ⟨g, a, none⟩)) rfl (by kernel_rfl) (by kernel_rfl) (by kernel_rfl) (fun _ _ _ h => h) (Or.inl ⟨by kernel_rfl, ?_⟩) hSf ?_
                    · intro W' hSw
                      obtain s0 := hSw
                      go_simp
                    dsimp only [List.getElem_toArray, List.getElem_cons_zero, List.getElem_cons_succ, Act.put, List.setIfInBounds_toArray, List.set_cons_zero, List.set_cons_succ]
                    have HSg := Lib.hid ((HSf.out.put a (.slice va ((M.cvl t a b).length + 1) vc)).skips (skip' := fun i => i = a) (R' := M.slR t a) (fun i h => ⟨fun q => h (q.elim id id), rfl⟩))
                    have HVg := Lib.hid (show (vals.set a (.slice va ((M.cvl t a b).length + 1) vc))[a]? = some _ from List.getElem?_set_self (by have := HSf.out.row.1; omega))
                    have HOg := Lib.hid (show (w7.setCell ⟨g, a, none⟩ (.slice va ((M.cvl t a b).length + 1) vc)).ownsRow w1.heap.size 3 1 (.slice va ((M.cvl t a b).length + 1) vc) (M.cvl t a (b + 1)).length (intCs (M.cvl t a (b + 1))) from by
                      rw [HCV.out]
                      exact own_same HOf.out fun x hx => heap_set_other _ _ _ _ (HNf.out x hx).1)
                    refine wpAnyH_one 12 (by kernel_rfl) rfl fun K' HK => ?_
                    go_wp2_with fail
                    refine HK.out _ _ ⟨HSg.out.hdr, ?_⟩
                    clear HK K' k1 k2 k3
                    refine wpAnyH_done (by kernel_rfl) ?_ _
                    go_wp2_with fail
                    go_roundw
                    case rel => exact ⟨b + 1, _, _, by omega, by go_num, HSg, HVg, HOg, HNf⟩
                    case measure => simp [intOf]; omega
          · obtain rfl : b = t.elems.length := by omega
            have b1 : decide ((t.elems.length : Int) < (t.elems.length : Int)) = false := decide_eq_false (by omega)
            have HCL := Lib.hid (M.cvl_all HG.out hal)
            have HSn := Lib.hid (HS.out.close (R' := M.slR t (a + 1)) (skip' := fun _ => False) HV.out HO.out HNE.out
              (fun i hi => by unfold M.slR; by_cases q : i < a <;> simp [q] <;> (try omega) <;> (rw [if_neg (by omega)]))
              (by unfold M.slR; rw [if_pos (by omega), HCL.out]) (fun i hi _ => hi))
            go_wp2_with fail
            go_roundw
            case rel => exact ⟨a + 1, vals, by omega, by go_num, HSn⟩
            case measure => simp [intOf]; omega
      · obtain rfl : a = t.elems.length := by omega
        have a1 : decide ((t.elems.length : Int) < (t.elems.length : Int)) = false := decide_eq_false (by omega)
        have HTF := Lib.hid (HS.out.bx)
        have hcs : (#[.string t.name, .slice p'.ea t.elems.length p'.ec, .slice p'.aa t.above.length p'.ac, .slice p'.wa t.wrong.length p'.wc] : Array Value) = tbA (M.slm t) p' := by
          show _ = (#[_, _, .slice p'.aa (M.slm t).above.length p'.ac, _] : Array Value)
          rw [M.slm_len, HAB.out]; rfl
        rw [hcs] at HTF
        have HOr := Lib.hid (show wr.heap[w.heap.size + 1]? = some (.cells tb0 26 (0, 0)) by
          rw [HBr1.out.block _ (by omega)]; exact HO1.out)
        have HBf := Lib.hid (show Below w.heap.size w wr from below2 HB.out HBr1.out)
        have hzr := HBr1.out.size
        clear hcs
        go_wp2_with (first
          | (refine wpList_load_row _ rfl 26 _ rfl t0 HTI.out.1 (by kernel_rfl) w2.heap.size (tbA (M.slm t) p') 26 rfl HTF.out HTI.out.2.2 ?_)
          | (refine wpList_store_row _ rfl 26 _ _ rfl rfl t0 HTI.out.1 (w.heap.size + 1) tb0 (tbA (M.slm t) p') 26 rfl rfl HOr.out rfl HTI.out.2.2 (by intro v hv; simp only [List.mem_cons, List.not_mem_nil, or_false] at hv; rcases hv with rfl | rfl | rfl | rfl <;> rfl) ?_; intro w8 h8 hg8; have H8 := Lib.hid h8; clear h8))
        obtain ⟨q0, q1, q2, q3⟩ := tbBox (t := M.slm t) (p := p') H8.out
        have hBf : Below w.heap.size w w8 := HBf.out.grown hg8 HBf.out.size (fun k e => by cases e; omega)
        have HT8 : TbIn w8 (M.slm t) p' := HS.out.table HTP.out.en HTP.out.wn HTP.out.el HTP.out.al HTP.out.wl (above := (M.slm t).above) (by rw [M.slm_len, HAB.out])
          (fun i hi => by
            have hi' : i < t.elems.length := by rw [M.slm_len] at hi; exact hi
            have h := M.slm_at t hi'
            rw [getD_in _ _ _ hi] at h
            rw [h]; unfold M.slR; rw [if_pos hi'])
          hg8.size (fun b k1 k2 k3 => hg8.block b k3 (fun e => by injection e with e; omega))
        exact bodyPost_ret (v := .tuple #[tbV (M.slm t) p', .int .i64 0]) (by simp [results, Try.results11, go_sem, q0, q1, q2, q3]) rfl (sp_3 HF.out HT8 hBf)
end Go.Proofs.Ytnhnjfoboepffaa
