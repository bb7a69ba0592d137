/- Texts of one's own, joined: OrdAk. -/
import Derived.Test.YtnhnjfoboepffaaGr35
import Derived.Test.YtnhnjfoboepffaaGr26
import Derived.Stop.RegionWithIn
import Derived.RangeFuncBox
import Derived.Sort.CutIn
namespace Go.Proofs.Ytnhnjfoboepffaa
open Go.RowKit Go.Shelf

namespace M
/-- Whether a pair's join is none of both. -/
def newJ (t : Tb) (x : Nat × Nat) : Bool := decide (jnD t x.1 x.2 ≠ x.1) && decide (jnD t x.1 x.2 ≠ x.2)
/-- The elements beyond 0 that are no join of the first pairs. -/
def prmM (t : Tb) (pre : List (Nat × Nat)) : Nat := pre.foldl (fun m x => if newJ t x then cut m (2 ^ jnD t x.1 x.2) else m) (cut (know t 0) 1)
theorem prmM_snoc (t : Tb) (pre : List (Nat × Nat)) (x : Nat × Nat) : prmM t (pre ++ [x]) = if newJ t x then cut (prmM t pre) (2 ^ jnD t x.1 x.2) else prmM t pre := by unfold prmM; rw [List.foldl_append]; rfl
theorem prmM_lt {t : Tb} (hf : form t) (pre : List (Nat × Nat)) : prmM t pre < 4096 := by
  unfold prmM
  suffices ∀ m, m < 4096 → pre.foldl (fun m x => if newJ t x then cut m (2 ^ jnD t x.1 x.2) else m) m < 4096 from this _ (cut_lt _ _ (know_lt hf 0))
  induction pre with
  | nil => intro m h; exact h
  | cons x l ih =>
    intro m h
    refine ih _ ?_
    show (if newJ t x = true then cut m (2 ^ jnD t x.1 x.2) else m) < 4096
    split
    · exact cut_lt _ _ h
    · exact h
theorem jnD_lt {t : Tb} (hf : form t) (a b : Nat) : jnD t a b < t.elems.length := by
  unfold jnD
  cases h : jn t a b with
  | none => exact hf.one
  | some c => exact (jn_some h).1
theorem prmM_bit {t : Tb} (hf : form t) (pre : List (Nat × Nat)) (j : Nat) : (prmM t pre).testBit j = true ↔ (leB t 0 j = true ∧ j ≠ 0 ∧ ∀ x, x ∈ pre → newJ t x = true → jnD t x.1 x.2 ≠ j) := by
  have h12 := hf.twelve
  have h4 : ∀ k, k < t.elems.length → 2 ^ k < 65536 := fun k hk => Nat.pow_lt_pow_right (a := 2) (n := 16) (by omega) (by omega)
  unfold prmM
  suffices ∀ m, m < 4096 → ((pre.foldl (fun m x => if newJ t x then cut m (2 ^ jnD t x.1 x.2) else m) m).testBit j = true ↔ (m.testBit j = true ∧ ∀ x, x ∈ pre → newJ t x = true → jnD t x.1 x.2 ≠ j)) by
    rw [this _ (cut_lt _ _ (know_lt hf 0)), cut_bit _ _ _ (Nat.lt_trans (know_lt hf 0) (by omega)) (by omega)]
    unfold leB
    rw [Bool.and_eq_true, Bool.not_eq_true', and_assoc]
    have : (Nat.testBit 1 j = false) ↔ j ≠ 0 := by
      cases j with
      | zero => simp
      | succ j => simp [Nat.testBit_lt_two_pow (Nat.one_lt_two_pow (n := j + 1) (by omega))]
    rw [this]
  induction pre with
  | nil => intro m _; simp
  | cons x l ih =>
    intro m hm
    rw [List.foldl_cons]
    cases hx : newJ t x with
    | false =>
      rw [if_neg (by simp), ih m hm]
      constructor
      · rintro ⟨h1, h2⟩
        refine ⟨h1, fun y hy hn => ?_⟩
        rcases List.mem_cons.1 hy with rfl | hy
        · rw [hx] at hn; cases hn
        · exact h2 y hy hn
      · rintro ⟨h1, h2⟩; exact ⟨h1, fun y hy => h2 y (List.mem_cons_of_mem _ hy)⟩
    | true =>
      rw [if_pos rfl, ih _ (cut_lt _ _ hm), cut_bit _ _ _ (Nat.lt_trans hm (by omega)) (h4 _ (jnD_lt hf _ _)), Bool.and_eq_true, Bool.not_eq_true', Nat.testBit_two_pow, decide_eq_false_iff_not]
      constructor
      · rintro ⟨⟨h1, h2⟩, h3⟩
        refine ⟨h1, fun y hy hn => ?_⟩
        rcases List.mem_cons.1 hy with rfl | hy
        · exact h2
        · exact h3 y hy hn
      · rintro ⟨h1, h2⟩; exact ⟨⟨h1, h2 x List.mem_cons_self hx⟩, fun y hy => h2 y (List.mem_cons_of_mem _ hy)⟩
/-- The primes of a lattice. -/
def prm (t : Tb) : Nat := prmM t (prs t.elems.length)
end M
/-- Between two rounds: the primes as far as they are known lie in their box. -/
def PrI (t : M.Tb) (B N : Nat) (w0 : World) (pre : List (Prs t.elems.length)) (W : World) : Prop := N ≤ W.heap.size ∧ W.heap[B]? = some (.cells #[.int .u16 (M.prmM t (pre.map (·.1)) : Nat)] 59 (0, 0)) ∧ Below w0.heap.size w0 W
theorem prI_own (t : M.Tb) (B N : Nat) (w0 : World) (hB : B < N) (hN : w0.heap.size ≤ N) : OwnFrom N (PrI t B N w0) := by
  rintro s W W' row ⟨h0, h1, h2⟩ hg hr
  exact ⟨Nat.le_trans h0 hg.size, (hg.block B (Array.getElem?_eq_some_iff.1 h1).1 (fun e => by have := (hr B e.symm).1; omega)).trans h1, h2.grown hg h2.size (fun k e => by have := (hr k e).1; omega)⟩

theorem of_zeroW (W : World) (g : Nat) (h : W.cell? ⟨g, 0, none⟩ = some (.int .i64 0)) : Calls Try.prog 54 #[.slice (some ⟨g, 0, none⟩) 1 1] W fun e w' => e = .returned (.int .u16 1) ∧ W = w' := of_one g 1 0 W (by decide) h

/-- A region that does not panic may be walked where whatever else is said of panics. -/
theorem quiet_exit {F : Fence} {n : Nat} {P : Program} {s : Code} {K : Act → World → Prop} {Q' : Exit → Act → World → Prop} {a : Act} {w : World} (h : s.wpIn F n P (Exit.then K (fun _ _ _ => False)) a w) : s.wpIn F n P (Exit.then K Q') a w := by
  refine wpIn_mono h ?_
  intro e a' w' hq
  cases e with
  | normal => exact hq
  | exit id => exact hq.elim
  | goto l => exact hq.elim
  | ret => exact hq.elim
  | panic ch => exact hq.elim
  | outgrown => exact hq.elim

attribute [local go_sem] Oper.semAt_some

set_option maxHeartbeats 8000000 in
set_option maxRecDepth 100000 in
theorem primes_any (t : M.Tb) (p : Tp) (w : World) (hf : M.form t) :
    Calls Try.prog 69 #[knV t p (M.know t)] w fun e w' => e = .returned (.int .u16 (M.prm t : Nat)) ∧ Below w.heap.size w w' := by
  have h12 := hf.twelve
  have hone := hf.one
  have HF := Lib.hid hf
  have HKN := Lib.hid (box_new w (knA t p (M.know t)) 62)
  have hB0 := below1 w (.cells (knA t p (M.know t)) 62)
  have HKL := Lib.hid (M.know_lt hf)
  clear hf
  obtain ⟨W0, hW0⟩ : ∃ W0, w.alloc (.cells (knA t p (M.know t)) 62) = W0 := ⟨_, rfl⟩
  have hz0 : W0.heap.size = w.heap.size + 1 := by rw [← hW0]; simp
  rw [hW0] at HKN hB0
  have HK := Lib.hid (knBox HKN.out)
  have k0 := HK.out.m 0 (by omega)
  have e1 : bits .andNot .u16 (M.know t 0 : Nat) (1 : Int) = ((M.cut (M.know t 0) 1 : Nat) : Int) := u16_andNot_nat _ 1 (Nat.lt_trans (HKL.out 0) (by omega)) (by omega)
  have hzz : w.heap.size < W0.heap.size := by omega
  refine (callsIn_wide (n := 9)).1 ?_
  refine callsIn_of_wp_marks Try.func69 rfl trivial ?_ rfl
  simp only [Try.ntmps69, List.size_toArray, List.length_cons, List.length_nil, Nat.reduceAdd, Nat.reduceSub, Array.replicate_succ, Array.replicate_zero, List.push_toArray, List.append_toArray, List.nil_append, List.cons_append]
  have hmx : Try.prog.follows .mixedOrders = true := by kernel_rfl
  gi_wp2_with fail
  clear hz0
  gi_cut [3] from 8 (fun c wx => ∃ B, c = .pointer (some ⟨B, 0, none⟩) ∧ W0.heap.size ≤ B ∧ wx.heap[B]? = some (.cells #[.int .u16 (M.cut (M.know t 0) 1 : Nat)] 59 (0, 0)) ∧ Below W0.heap.size W0 wx)
  case first =>
    refine quiet_exit ?_
    gi_region_with (refine ⟨trivial, ?_⟩; gi_at_call 54; refine callsIn_wide.2 ((of_zeroW _ _ (by simp)).mono ?_); rintro e w4 ⟨rfl, rfl⟩)
    all_goals
      gi_wp2_with fail
      gi_meet
      refine ⟨_, rfl, ?_, ?_, ?_⟩
      · omega
      · first
          | exact box_last W0 (.cells #[.int .i64 0] 3) _ _
          | exact (Below.heap_alloc _ _ _ (by simp)).trans (box_new W0 _ _)
      · exact (belowA (below1 W0 _) _).drew
  case rest =>
    obtain ⟨B, rfl, hWB, hbx, hB1⟩ := hcut
    clear hW0
    have HBX := Lib.hid hbx
    have hBlt : B < wc.heap.size := (Array.getElem?_eq_some_iff.1 hbx).1
    obtain ⟨x0, x1, x2, x3, xm, _⟩ := HK.out.below hB1
    have z0 := xm 0 (by omega)
    have z1 := xm 1 (by omega)
    have z2 := xm 2 (by omega)
    have z3 := xm 3 (by omega)
    have z4 := xm 4 (by omega)
    have z5 := xm 5 (by omega)
    have z6 := xm 6 (by omega)
    have z7 := xm 7 (by omega)
    have z8 := xm 8 (by omega)
    have z9 := xm 9 (by omega)
    have z10 := xm 10 (by omega)
    have z11 := xm 11 (by omega)
    clear xm hbx
    gi_wp2_with fail
    refine ⟨trivial, callsIn_wide.2 ((pairs_any t p (M.know t) wc).mono ?_)⟩
    rintro e w2 ⟨rfl, hw2⟩
    clear x0 x1 x2 x3 z0 z1 z2 z3 z4 z5 z6 z7 z8 z9 z10 z11
    gi_wp2_with fail
    rw [← hw2]
    have hz2 : w2.heap.size = wc.heap.size + 1 := by rw [hw2]; simp
    have HK2 := Lib.hid (show KnBox w2 wc.heap.size t p (M.know t) from by rw [hw2]; exact knBox (box_new wc (knA t p (M.know t)) 62))
    have hB2 : Below W0.heap.size W0 w2 := below2 hB1 (by rw [hw2]; exact below1 _ _)
    have hbx2 : w2.heap[B]? = some (.cells #[.int .u16 (M.cut (M.know t 0) 1 : Nat)] 59 (0, 0)) := by rw [hw2, Below.heap_alloc _ _ _ hBlt]; exact HBX.out
    clear hw2
    refine wpIn_rangeFunc_ownF (α := Prs t.elems.length) rfl (by omega) (gf := 90) (lb := #[.pointer (some ⟨wc.heap.size, 0, none⟩)]) rfl trivial enters_pairs1
      (pairs_stops 8 wc.heap.size t p (M.know t) w2 (by omega) h12 (by omega) HK2.out) (fun h k => ⟨Nat.le_trans h.1 k.1, k.2.trans h.2⟩) (fun W l o o' hl ho _ _ => ⟨by simp, World.putObj_heap_other (by omega)⟩) (Below.refl _ _) (fun _ => rfl)
      (PrI t B w2.heap.size W0) (fun _ _ _ => False) (prI_own t B w2.heap.size W0 (by omega) (by have := hB2.size; omega)) (fun c s W W' row hs _ _ => hs) ⟨Nat.le_refl _, hbx2, hB2⟩
      (fun x => { tmps := #[knV t p (M.know t), .pointer (some ⟨w.heap.size, 0, none⟩), .int .u16 0, .pointer (some ⟨B, 0, none⟩), .int .i64 x.1.1, .int .i64 x.1.2, undef, undef, u8, u9, u10, u11, u12, u13,
        knV t p (M.know t), .func (.func 90) #[] #[.pointer (some ⟨wc.heap.size, 0, none⟩)], .int .i64 x.1.1, .int .i64 x.1.2, u18, u19, u20, u21, u22, u23, u24, u25, u26, u27, u28, u29, u30, u31, u32, u33, u34, u35, u36, u37, u38], defers := [] })
      ?assign ?body ?done ?stop
    case assign =>
      intro l x W K hK
      gi_wp2_with fail
      exact hK
    case body =>
      rintro l pre ⟨⟨a, b⟩, hab, hbn⟩ W ⟨hNW, hbx, hBW⟩ hlen
      dsimp only at hab hbn ⊢
      have hWz := hBW.size
      have hBW2 : B < W.heap.size := (Array.getElem?_eq_some_iff.1 hbx).1
      have hsn := M.prmM_snoc t (pre.map (·.1)) (a, b)
      have hmap : (pre ++ [(⟨(a, b), hab, hbn⟩ : Prs t.elems.length)]).map (·.1) = pre.map (·.1) ++ [(a, b)] := by rw [List.map_append]; rfl
      rw [← hmap] at hsn
      have hmlt := M.prmM_lt HF.out (pre.map (·.1))
      obtain ⟨m, hm⟩ : ∃ m, M.prmM t (pre.map (·.1)) = m := ⟨_, rfl⟩
      rw [hm] at hbx hsn hmlt
      have hjl := M.jnD_lt HF.out a b
      obtain ⟨c, hc⟩ : ∃ c, M.jnD t a b = c := ⟨_, rfl⟩
      have hnj : M.newJ t (a, b) = (decide (c ≠ a) && decide (c ≠ b)) := by unfold M.newJ; rw [hc]
      dsimp only at hsn
      rw [hc] at hsn hjl
      have HSN := Lib.hid hsn
      have HBX := Lib.hid (show Boxed W B 59 (.int .u16 m) from hbx)
      have HBW := Lib.hid hBW
      have HNJ := Lib.hid hnj
      obtain ⟨x0, x1, x2, x3, xm, _⟩ := HK.out.below hBW
      have z0 := xm 0 (by omega)
      have z1 := xm 1 (by omega)
      have z2 := xm 2 (by omega)
      have z3 := xm 3 (by omega)
      have z4 := xm 4 (by omega)
      have z5 := xm 5 (by omega)
      have z6 := xm 6 (by omega)
      have z7 := xm 7 (by omega)
      have z8 := xm 8 (by omega)
      have z9 := xm 9 (by omega)
      have z10 := xm 10 (by omega)
      have z11 := xm 11 (by omega)
      have hcall := join_any t p (M.know t) a b W HKL.out h12 (by omega) (by omega)
      rw [M.joinM_fst HF.out (show a < t.elems.length by omega) hbn, hc] at hcall
      obtain ⟨kd, hkd⟩ : ∃ kd, (M.joinM (M.know t) t.elems.length a b).2 = kd := ⟨_, rfl⟩
      rw [hkd] at hcall
      have HC := Lib.hid hcall
      have HWC := Lib.hid (show wc.heap.size < W.heap.size from by omega)
      clear hcall hkd hc hnj hsn hm hmap hbx xm
      gi_wp2_with fail
      refine ⟨trivial, CallsIn.inRound l (callsIn_wide.2 (HC.out.mono ?_))⟩
      rintro e w3 ⟨rfl, hB4⟩
      clear x0 x1 x2 x3 z0 z1 z2 z3 z4 z5 z6 z7 z8 z9 z10 z11
      have hw3 := hB4.size
      have HB4 := Lib.hid hB4
      have HBX3 := Lib.hid (show Boxed w3 B 59 (.int .u16 m) from (hB4.block B hBW2).trans HBX.out)
      clear hB4
      by_cases hca : c = a
      · have k1 : ((c : Int) == (a : Int)) = true := by rw [hca]; exact beq_self_eq_true _
        have k2 : ((c : Int) != (a : Int)) = false := by rw [hca]; exact bne_self_eq_false _
        have hno : M.newJ t (a, b) = false := by rw [HNJ.out, decide_eq_false (fun q => q hca)]; rfl
        have HP := Lib.hid (show M.prmM t ((pre ++ [(⟨(a, b), hab, hbn⟩ : Prs t.elems.length)]).map (·.1)) = m from by rw [HSN.out, hno]; rfl)
        clear hca hno
        have HE := Lib.hid (show KeepsOthers W w3 ∧ KeepB wc.heap.size W w3 ∧ PrI t B w2.heap.size W0 (pre ++ [(⟨(a, b), hab, hbn⟩ : Prs t.elems.length)]) w3 from
          ⟨keeps_below HB4.out, ⟨HB4.out.size, HB4.out.block _ HWC.out⟩, Nat.le_trans hNW HB4.out.size, by rw [HP.out]; exact HBX3.out, HBW.out.trans (HB4.out.mono hWz)⟩)
        gi_wp2_with fail
        exact HE.out
      · have k1 : ((c : Int) == (a : Int)) = false := by rw [beq_eq_false_iff_ne]; omega
        have k2 : ((c : Int) != (a : Int)) = true := by rw [bne_iff_ne]; omega
        by_cases hcb : c = b
        · have k3 : ((c : Int) == (b : Int)) = true := by rw [hcb]; exact beq_self_eq_true _
          have k4 : ((c : Int) != (b : Int)) = false := by rw [hcb]; exact bne_self_eq_false _
          have hno : M.newJ t (a, b) = false := by rw [HNJ.out, decide_eq_false (p := c ≠ b) (fun q => q hcb), Bool.and_false]
          have HP := Lib.hid (show M.prmM t ((pre ++ [(⟨(a, b), hab, hbn⟩ : Prs t.elems.length)]).map (·.1)) = m from by rw [HSN.out, hno]; rfl)
          clear hca hcb hno
          have HE := Lib.hid (show KeepsOthers W w3 ∧ KeepB wc.heap.size W w3 ∧ PrI t B w2.heap.size W0 (pre ++ [(⟨(a, b), hab, hbn⟩ : Prs t.elems.length)]) w3 from
            ⟨keeps_below HB4.out, ⟨HB4.out.size, HB4.out.block _ HWC.out⟩, Nat.le_trans hNW HB4.out.size, by rw [HP.out]; exact HBX3.out, HBW.out.trans (HB4.out.mono hWz)⟩)
          gi_wp2_with fail
          exact HE.out
        · have k3 : ((c : Int) == (b : Int)) = false := by rw [beq_eq_false_iff_ne]; omega
          have k4 : ((c : Int) != (b : Int)) = true := by rw [bne_iff_ne]; omega
          have hyes : M.newJ t (a, b) = true := by rw [HNJ.out, decide_eq_true (p := c ≠ a) hca, decide_eq_true (p := c ≠ b) hcb]; rfl
          have h2 : 2 ^ c < 65536 := Nat.pow_lt_pow_right (a := 2) (n := 16) (by omega) (by omega)
          have hof := fun W g h => of_one g 1 c W (by omega) h
          have hp : M.prmM t ((pre ++ [(⟨(a, b), hab, hbn⟩ : Prs t.elems.length)]).map (·.1)) = M.cut m (2 ^ c) := by rw [HSN.out, hyes]; rfl
          obtain ⟨z, hz⟩ : ∃ z, 2 ^ c = z := ⟨_, rfl⟩
          rw [hz] at h2 hof hp
          have e2 : bits .andNot .u16 (m : Int) (z : Int) = ((M.cut m z : Nat) : Int) := u16_andNot_nat _ _ (Nat.lt_trans hmlt (by omega)) h2
          have HP := Lib.hid hp
          have HOF := Lib.hid hof
          have b0 := HBX3.out.cell
          have f0 := HBX3.out.frozen
          have hBlt3 : B < w3.heap.size := HBX3.out.lt
          clear hca hcb hyes hof hp hz
          gi_wp2_with fail
          gi_region_with_o (refine ⟨trivial, ?_⟩; gi_at_call 54; refine CallsIn.inRound l (callsIn_wide.2 ((HOF.out _ _ (by simp)).mono ?_)); rintro e w4 ⟨rfl, rfl⟩)
          all_goals
            have hW4 : Boxed ((w3.setCell ⟨B, 0, none⟩ (.int .u16 (M.cut m z : Nat))).alloc (.cells #[.int .i64 c] 3)) B 59 (.int .u16 (M.cut m z : Nat)) := (HBX3.out.set _).alloc _
            have hne : wc.heap.size ≠ B := by omega
            have HE := Lib.hid (show KeepsOthers W ((w3.setCell ⟨B, 0, none⟩ (.int .u16 (M.cut m z : Nat))).alloc (.cells #[.int .i64 c] 3)).drew ∧ KeepB wc.heap.size W ((w3.setCell ⟨B, 0, none⟩ (.int .u16 (M.cut m z : Nat))).alloc (.cells #[.int .i64 c] 3)).drew ∧
                PrI t B w2.heap.size W0 (pre ++ [(⟨(a, b), hab, hbn⟩ : Prs t.elems.length)]) ((w3.setCell ⟨B, 0, none⟩ (.int .u16 (M.cut m z : Nat))).alloc (.cells #[.int .i64 c] 3)).drew from by
              have hsz : ((w3.setCell ⟨B, 0, none⟩ (.int .u16 (M.cut m z : Nat))).alloc (.cells #[.int .i64 c] 3)).drew.heap.size = w3.heap.size + 1 := by show ((w3.setCell ⟨B, 0, none⟩ (.int .u16 (M.cut m z : Nat))).alloc (.cells #[.int .i64 c] 3)).heap.size = _; simp [World.setCell]
              refine ⟨(keeps_below HB4.out).trans (((KeepsOthers.setCell _ _ _).trans (KeepsOthers.alloc _ _)).trans (KeepsOthers.drew _)), ⟨by omega, ?_⟩, by omega, by rw [HP.out]; exact hW4, ?_⟩
              · show ((w3.setCell ⟨B, 0, none⟩ (.int .u16 (M.cut m z : Nat))).alloc (.cells #[.int .i64 c] 3)).heap[wc.heap.size]? = _
                have := HWC.out
                rw [Below.heap_alloc _ _ _ (by simp [World.setCell]; omega), Below.heap_setCell _ _ _ _ hne]
                exact HB4.out.block _ HWC.out
              · exact ((((HBW.out.trans (HB4.out.mono hWz)).setCell (p := ⟨B, 0, none⟩) hWB _).alloc (by simp [World.setCell]; omega) _).drew))
            gi_wp2_with fail
            exact HE.out
    case done =>
      rintro D xs W hD hxs ⟨_, hbx, hBW⟩ hDef
      have hr : M.prmM t (xs.map (·.1)) = M.prm t := by rw [hxs]; rfl
      rw [hr] at hbx
      have b0 := Boxed.cell (t := 59) hbx
      have HDEF := Lib.hid hDef
      have hBf : Below w.heap.size w W := hB0.trans (hBW.mono (by omega))
      clear hbx hr hxs hDef
      gi_wp2_with fail
      refine ⟨by simp, .inl ⟨_, _, rfl, run_takeDeferred HDEF.out, ?_⟩⟩
      exact ⟨_, results_tmp rfl _ _ _, rfl, hBf.trans (below_putO _ _ _ _ (by have := hB2.size; omega))⟩
    case stop =>
      intro D c pre W hD hp h _
      exact h.elim
end Go.Proofs.Ytnhnjfoboepffaa
