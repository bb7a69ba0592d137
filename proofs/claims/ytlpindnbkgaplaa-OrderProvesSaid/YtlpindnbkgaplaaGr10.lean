/- Texts of one's own, joined: OrdAk, OrdAl, OrdAn, OrdAo, OrdAm, OrdAp. -/
import Derived.Test.YtlpindnbkgaplaaGr9
import Derived.Test.YtlpindnbkgaplaaGr8
import Derived.Stop.RegionWithIn
import Derived.RangeFuncBox
import Derived.Sort.CutIn
import Derived.Test.YtlpindnbkgaplaaGr3
import Derived.Laws.Concat
namespace Go.Proofs.Ytlpindnbkgaplaa
open Go.RowKit Go.Shelf

namespace M
/-- Whether a pair's join is none of both. -/
def newJ (t : Tb) (x : Nat × Nat) : Bool := decide (jnD t x.1 x.2 ≠ x.1) && decide (jnD t x.1 x.2 ≠ x.2)
/-- The elements beyond 0 that are no join of the first pairs. -/
def prmM (t : Tb) (pre : List (Nat × Nat)) : Nat := pre.foldl (fun m x => if newJ t x then cut m (2 ^ jnD t x.1 x.2) else m) (cut (know t 0) 1)
theorem prmM_snoc (t : Tb) (pre : List (Nat × Nat)) (x : Nat × Nat) : prmM t (pre ++ [x]) = if newJ t x then cut (prmM t pre) (2 ^ jnD t x.1 x.2) else prmM t pre := by unfold prmM; rw [List.foldl_append]; rfl
theorem prmM_lt {t : Tb} (hf : form t) (pre : List (Nat × Nat)) : prmM t pre < 4096 := by
  unfold prmM
  suffices ∀ m, m < 4096 → pre.foldl (fun m x => if newJ t x then cut m (2 ^ jnD t x.1 x.2) else m) m < 4096 from this _ (cut_lt _ _ (know_lt hf 0))
  induction pre with
  | nil => intro m h; exact h
  | cons x l ih =>
    intro m h
    refine ih _ ?_
    show (if newJ t x = true then cut m (2 ^ jnD t x.1 x.2) else m) < 4096
    split
    · exact cut_lt _ _ h
    · exact h
theorem jnD_lt {t : Tb} (hf : form t) (a b : Nat) : jnD t a b < t.elems.length := by
  unfold jnD
  cases h : jn t a b with
  | none => exact hf.one
  | some c => exact (jn_some h).1
theorem prmM_bit {t : Tb} (hf : form t) (pre : List (Nat × Nat)) (j : Nat) : (prmM t pre).testBit j = true ↔ (leB t 0 j = true ∧ j ≠ 0 ∧ ∀ x, x ∈ pre → newJ t x = true → jnD t x.1 x.2 ≠ j) := by
  have h12 := hf.twelve
  have h4 : ∀ k, k < t.elems.length → 2 ^ k < 65536 := fun k hk => Nat.pow_lt_pow_right (a := 2) (n := 16) (by omega) (by omega)
  unfold prmM
  suffices ∀ m, m < 4096 → ((pre.foldl (fun m x => if newJ t x then cut m (2 ^ jnD t x.1 x.2) else m) m).testBit j = true ↔ (m.testBit j = true ∧ ∀ x, x ∈ pre → newJ t x = true → jnD t x.1 x.2 ≠ j)) by
    rw [this _ (cut_lt _ _ (know_lt hf 0)), cut_bit _ _ _ (Nat.lt_trans (know_lt hf 0) (by omega)) (by omega)]
    unfold leB
    rw [Bool.and_eq_true, Bool.not_eq_true', and_assoc]
    have : (Nat.testBit 1 j = false) ↔ j ≠ 0 := by
      cases j with
      | zero => simp
      | succ j => simp [Nat.testBit_lt_two_pow (Nat.one_lt_two_pow (n := j + 1) (by omega))]
    rw [this]
  induction pre with
  | nil => intro m _; simp
  | cons x l ih =>
    intro m hm
    rw [List.foldl_cons]
    cases hx : newJ t x with
    | false =>
      rw [if_neg (by simp), ih m hm]
      constructor
      · rintro ⟨h1, h2⟩
        refine ⟨h1, fun y hy hn => ?_⟩
        rcases List.mem_cons.1 hy with rfl | hy
        · rw [hx] at hn; cases hn
        · exact h2 y hy hn
      · rintro ⟨h1, h2⟩; exact ⟨h1, fun y hy => h2 y (List.mem_cons_of_mem _ hy)⟩
    | true =>
      rw [if_pos rfl, ih _ (cut_lt _ _ hm), cut_bit _ _ _ (Nat.lt_trans hm (by omega)) (h4 _ (jnD_lt hf _ _)), Bool.and_eq_true, Bool.not_eq_true', Nat.testBit_two_pow, decide_eq_false_iff_not]
      constructor
      · rintro ⟨⟨h1, h2⟩, h3⟩
        refine ⟨h1, fun y hy hn => ?_⟩
        rcases List.mem_cons.1 hy with rfl | hy
        · exact h2
        · exact h3 y hy hn
      · rintro ⟨h1, h2⟩; exact ⟨⟨h1, h2 x List.mem_cons_self hx⟩, fun y hy => h2 y (List.mem_cons_of_mem _ hy)⟩
/-- The primes of a lattice. -/
def prm (t : Tb) : Nat := prmM t (prs t.elems.length)
end M
/-- Between two rounds: the primes as far as they are known lie in their box. -/
def PrI (t : M.Tb) (B N : Nat) (w0 : World) (pre : List (Prs t.elems.length)) (W : World) : Prop := N ≤ W.heap.size ∧ W.heap[B]? = some (.cells #[.int .u16 (M.prmM t (pre.map (·.1)) : Nat)] 61 (0, 0)) ∧ Below w0.heap.size w0 W
theorem prI_own (t : M.Tb) (B N : Nat) (w0 : World) (hB : B < N) (hN : w0.heap.size ≤ N) : OwnFrom N (PrI t B N w0) := by
  rintro s W W' row ⟨h0, h1, h2⟩ hg hr
  exact ⟨Nat.le_trans h0 hg.size, (hg.block B (Array.getElem?_eq_some_iff.1 h1).1 (fun e => by have := (hr B e.symm).1; omega)).trans h1, h2.grown hg h2.size (fun k e => by have := (hr k e).1; omega)⟩

theorem of_zeroW (W : World) (g : Nat) (h : W.cell? ⟨g, 0, none⟩ = some (.int .i64 0)) : Calls Try.prog 80 #[.slice (some ⟨g, 0, none⟩) 1 1] W fun e w' => e = .returned (.int .u16 1) ∧ W = w' := of_one g 1 0 W (by decide) h

/-- A region that does not panic may be walked where whatever else is said of panics. -/
theorem quiet_exit {F : Fence} {n : Nat} {P : Program} {s : Code} {K : Act → World → Prop} {Q' : Exit → Act → World → Prop} {a : Act} {w : World} (h : s.wpIn F n P (Exit.then K (fun _ _ _ => False)) a w) : s.wpIn F n P (Exit.then K Q') a w := by
  refine wpIn_mono h ?_
  intro e a' w' hq
  cases e with
  | normal => exact hq
  | exit id => exact hq.elim
  | goto l => exact hq.elim
  | ret => exact hq.elim
  | panic ch => exact hq.elim
  | outgrown => exact hq.elim

attribute [local go_sem] Oper.semAt_some

set_option maxHeartbeats 8000000 in
set_option maxRecDepth 100000 in
theorem primes_any (t : M.Tb) (p : Tp) (w : World) (hf : M.form t) :
    Calls Try.prog 85 #[knV t p (M.know t)] w fun e w' => e = .returned (.int .u16 (M.prm t : Nat)) ∧ Below w.heap.size w w' := by
  have h12 := hf.twelve
  have hone := hf.one
  have HF := Lib.hid hf
  have HKN := Lib.hid (box_new w (knA t p (M.know t)) 64)
  have hB0 := below1 w (.cells (knA t p (M.know t)) 64)
  have HKL := Lib.hid (M.know_lt hf)
  clear hf
  obtain ⟨W0, hW0⟩ : ∃ W0, w.alloc (.cells (knA t p (M.know t)) 64) = W0 := ⟨_, rfl⟩
  have hz0 : W0.heap.size = w.heap.size + 1 := by rw [← hW0]; simp
  rw [hW0] at HKN hB0
  have HK := Lib.hid (knBox HKN.out)
  have k0 := HK.out.m 0 (by omega)
  have e1 : bits .andNot .u16 (M.know t 0 : Nat) (1 : Int) = ((M.cut (M.know t 0) 1 : Nat) : Int) := u16_andNot_nat _ 1 (Nat.lt_trans (HKL.out 0) (by omega)) (by omega)
  have hzz : w.heap.size < W0.heap.size := by omega
  refine (callsIn_wide (n := 9)).1 ?_
  refine callsIn_of_wp_marks Try.func85 rfl trivial ?_ rfl
  simp only [Try.ntmps85, List.size_toArray, List.length_cons, List.length_nil, Nat.reduceAdd, Nat.reduceSub, Array.replicate_succ, Array.replicate_zero, List.push_toArray, List.append_toArray, List.nil_append, List.cons_append]
  have hmx : Try.prog.follows .mixedOrders = true := by kernel_rfl
  gi_wp2_with fail
  clear hz0
  gi_cut [3] from 8 (fun c wx => ∃ B, c = .pointer (some ⟨B, 0, none⟩) ∧ W0.heap.size ≤ B ∧ wx.heap[B]? = some (.cells #[.int .u16 (M.cut (M.know t 0) 1 : Nat)] 61 (0, 0)) ∧ Below W0.heap.size W0 wx)
  case first =>
    refine quiet_exit ?_
    gi_region_with (refine ⟨trivial, ?_⟩; gi_at_call 80; refine callsIn_wide.2 ((of_zeroW _ _ (by simp)).mono ?_); rintro e w4 ⟨rfl, rfl⟩)
    all_goals
      gi_wp2_with fail
      gi_meet
      refine ⟨_, rfl, ?_, ?_, ?_⟩
      · omega
      · first
          | exact box_last W0 (.cells #[.int .i64 0] 3) _ _
          | exact (Below.heap_alloc _ _ _ (by simp)).trans (box_new W0 _ _)
      · exact (belowA (below1 W0 _) _).drew
  case rest =>
    obtain ⟨B, rfl, hWB, hbx, hB1⟩ := hcut
    clear hW0
    have HBX := Lib.hid hbx
    have hBlt : B < wc.heap.size := (Array.getElem?_eq_some_iff.1 hbx).1
    obtain ⟨x0, x1, x2, x3, xm, _⟩ := HK.out.below hB1
    have z0 := xm 0 (by omega)
    have z1 := xm 1 (by omega)
    have z2 := xm 2 (by omega)
    have z3 := xm 3 (by omega)
    have z4 := xm 4 (by omega)
    have z5 := xm 5 (by omega)
    have z6 := xm 6 (by omega)
    have z7 := xm 7 (by omega)
    have z8 := xm 8 (by omega)
    have z9 := xm 9 (by omega)
    have z10 := xm 10 (by omega)
    have z11 := xm 11 (by omega)
    clear xm hbx
    gi_wp2_with fail
    refine ⟨trivial, callsIn_wide.2 ((pairs_any t p (M.know t) wc).mono ?_)⟩
    rintro e w2 ⟨rfl, hw2⟩
    clear x0 x1 x2 x3 z0 z1 z2 z3 z4 z5 z6 z7 z8 z9 z10 z11
    gi_wp2_with fail
    rw [← hw2]
    have hz2 : w2.heap.size = wc.heap.size + 1 := by rw [hw2]; simp
    have HK2 := Lib.hid (show KnBox w2 wc.heap.size t p (M.know t) from by rw [hw2]; exact knBox (box_new wc (knA t p (M.know t)) 64))
    have hB2 : Below W0.heap.size W0 w2 := below2 hB1 (by rw [hw2]; exact below1 _ _)
    have hbx2 : w2.heap[B]? = some (.cells #[.int .u16 (M.cut (M.know t 0) 1 : Nat)] 61 (0, 0)) := by rw [hw2, Below.heap_alloc _ _ _ hBlt]; exact HBX.out
    clear hw2
    refine wpIn_rangeFunc_ownF (α := Prs t.elems.length) rfl (by omega) (gf := 99) (lb := #[.pointer (some ⟨wc.heap.size, 0, none⟩)]) rfl trivial enters_pairs1
      (pairs_stops 8 wc.heap.size t p (M.know t) w2 (by omega) h12 (by omega) HK2.out) (fun h k => ⟨Nat.le_trans h.1 k.1, k.2.trans h.2⟩) (fun W l o o' hl ho _ _ => ⟨by simp, World.putObj_heap_other (by omega)⟩) (Below.refl _ _) (fun _ => rfl)
      (PrI t B w2.heap.size W0) (fun _ _ _ => False) (prI_own t B w2.heap.size W0 (by omega) (by have := hB2.size; omega)) (fun c s W W' row hs _ _ => hs) ⟨Nat.le_refl _, hbx2, hB2⟩
      (fun x => { tmps := #[knV t p (M.know t), .pointer (some ⟨w.heap.size, 0, none⟩), .int .u16 0, .pointer (some ⟨B, 0, none⟩), .int .i64 x.1.1, .int .i64 x.1.2, undef, undef, u8, u9, u10, u11, u12, u13,
        knV t p (M.know t), .func (.func 99) #[] #[.pointer (some ⟨wc.heap.size, 0, none⟩)], .int .i64 x.1.1, .int .i64 x.1.2, u18, u19, u20, u21, u22, u23, u24, u25, u26, u27, u28, u29, u30, u31, u32, u33, u34, u35, u36, u37, u38], defers := [] })
      ?assign ?body ?done ?stop
    case assign =>
      intro l x W K hK
      gi_wp2_with fail
      exact hK
    case body =>
      rintro l pre ⟨⟨a, b⟩, hab, hbn⟩ W ⟨hNW, hbx, hBW⟩ hlen
      dsimp only at hab hbn ⊢
      have hWz := hBW.size
      have hBW2 : B < W.heap.size := (Array.getElem?_eq_some_iff.1 hbx).1
      have hsn := M.prmM_snoc t (pre.map (·.1)) (a, b)
      have hmap : (pre ++ [(⟨(a, b), hab, hbn⟩ : Prs t.elems.length)]).map (·.1) = pre.map (·.1) ++ [(a, b)] := by rw [List.map_append]; rfl
      rw [← hmap] at hsn
      have hmlt := M.prmM_lt HF.out (pre.map (·.1))
      obtain ⟨m, hm⟩ : ∃ m, M.prmM t (pre.map (·.1)) = m := ⟨_, rfl⟩
      rw [hm] at hbx hsn hmlt
      have hjl := M.jnD_lt HF.out a b
      obtain ⟨c, hc⟩ : ∃ c, M.jnD t a b = c := ⟨_, rfl⟩
      have hnj : M.newJ t (a, b) = (decide (c ≠ a) && decide (c ≠ b)) := by unfold M.newJ; rw [hc]
      dsimp only at hsn
      rw [hc] at hsn hjl
      have HSN := Lib.hid hsn
      have HBX := Lib.hid (show Boxed W B 61 (.int .u16 m) from hbx)
      have HBW := Lib.hid hBW
      have HNJ := Lib.hid hnj
      obtain ⟨x0, x1, x2, x3, xm, _⟩ := HK.out.below hBW
      have z0 := xm 0 (by omega)
      have z1 := xm 1 (by omega)
      have z2 := xm 2 (by omega)
      have z3 := xm 3 (by omega)
      have z4 := xm 4 (by omega)
      have z5 := xm 5 (by omega)
      have z6 := xm 6 (by omega)
      have z7 := xm 7 (by omega)
      have z8 := xm 8 (by omega)
      have z9 := xm 9 (by omega)
      have z10 := xm 10 (by omega)
      have z11 := xm 11 (by omega)
      have hcall := join_any t p (M.know t) a b W HKL.out h12 (by omega) (by omega)
      rw [M.joinM_fst HF.out (show a < t.elems.length by omega) hbn, hc] at hcall
      obtain ⟨kd, hkd⟩ : ∃ kd, (M.joinM (M.know t) t.elems.length a b).2 = kd := ⟨_, rfl⟩
      rw [hkd] at hcall
      have HC := Lib.hid hcall
      have HWC := Lib.hid (show wc.heap.size < W.heap.size from by omega)
      clear hcall hkd hc hnj hsn hm hmap hbx xm
      gi_wp2_with fail
      refine ⟨trivial, CallsIn.inRound l (callsIn_wide.2 (HC.out.mono ?_))⟩
      rintro e w3 ⟨rfl, hB4⟩
      clear x0 x1 x2 x3 z0 z1 z2 z3 z4 z5 z6 z7 z8 z9 z10 z11
      have hw3 := hB4.size
      have HB4 := Lib.hid hB4
      have HBX3 := Lib.hid (show Boxed w3 B 61 (.int .u16 m) from (hB4.block B hBW2).trans HBX.out)
      clear hB4
      by_cases hca : c = a
      · have k1 : ((c : Int) == (a : Int)) = true := by rw [hca]; exact beq_self_eq_true _
        have k2 : ((c : Int) != (a : Int)) = false := by rw [hca]; exact bne_self_eq_false _
        have hno : M.newJ t (a, b) = false := by rw [HNJ.out, decide_eq_false (fun q => q hca)]; rfl
        have HP := Lib.hid (show M.prmM t ((pre ++ [(⟨(a, b), hab, hbn⟩ : Prs t.elems.length)]).map (·.1)) = m from by rw [HSN.out, hno]; rfl)
        clear hca hno
        have HE := Lib.hid (show KeepsOthers W w3 ∧ KeepB wc.heap.size W w3 ∧ PrI t B w2.heap.size W0 (pre ++ [(⟨(a, b), hab, hbn⟩ : Prs t.elems.length)]) w3 from
          ⟨keeps_below HB4.out, ⟨HB4.out.size, HB4.out.block _ HWC.out⟩, Nat.le_trans hNW HB4.out.size, by rw [HP.out]; exact HBX3.out, HBW.out.trans (HB4.out.mono hWz)⟩)
        gi_wp2_with fail
        exact HE.out
      · have k1 : ((c : Int) == (a : Int)) = false := by rw [beq_eq_false_iff_ne]; omega
        have k2 : ((c : Int) != (a : Int)) = true := by rw [bne_iff_ne]; omega
        by_cases hcb : c = b
        · have k3 : ((c : Int) == (b : Int)) = true := by rw [hcb]; exact beq_self_eq_true _
          have k4 : ((c : Int) != (b : Int)) = false := by rw [hcb]; exact bne_self_eq_false _
          have hno : M.newJ t (a, b) = false := by rw [HNJ.out, decide_eq_false (p := c ≠ b) (fun q => q hcb), Bool.and_false]
          have HP := Lib.hid (show M.prmM t ((pre ++ [(⟨(a, b), hab, hbn⟩ : Prs t.elems.length)]).map (·.1)) = m from by rw [HSN.out, hno]; rfl)
          clear hca hcb hno
          have HE := Lib.hid (show KeepsOthers W w3 ∧ KeepB wc.heap.size W w3 ∧ PrI t B w2.heap.size W0 (pre ++ [(⟨(a, b), hab, hbn⟩ : Prs t.elems.length)]) w3 from
            ⟨keeps_below HB4.out, ⟨HB4.out.size, HB4.out.block _ HWC.out⟩, Nat.le_trans hNW HB4.out.size, by rw [HP.out]; exact HBX3.out, HBW.out.trans (HB4.out.mono hWz)⟩)
          gi_wp2_with fail
          exact HE.out
        · have k3 : ((c : Int) == (b : Int)) = false := by rw [beq_eq_false_iff_ne]; omega
          have k4 : ((c : Int) != (b : Int)) = true := by rw [bne_iff_ne]; omega
          have hyes : M.newJ t (a, b) = true := by rw [HNJ.out, decide_eq_true (p := c ≠ a) hca, decide_eq_true (p := c ≠ b) hcb]; rfl
          have h2 : 2 ^ c < 65536 := Nat.pow_lt_pow_right (a := 2) (n := 16) (by omega) (by omega)
          have hof := fun W g h => of_one g 1 c W (by omega) h
          have hp : M.prmM t ((pre ++ [(⟨(a, b), hab, hbn⟩ : Prs t.elems.length)]).map (·.1)) = M.cut m (2 ^ c) := by rw [HSN.out, hyes]; rfl
          obtain ⟨z, hz⟩ : ∃ z, 2 ^ c = z := ⟨_, rfl⟩
          rw [hz] at h2 hof hp
          have e2 : bits .andNot .u16 (m : Int) (z : Int) = ((M.cut m z : Nat) : Int) := u16_andNot_nat _ _ (Nat.lt_trans hmlt (by omega)) h2
          have HP := Lib.hid hp
          have HOF := Lib.hid hof
          have b0 := HBX3.out.cell
          have f0 := HBX3.out.frozen
          have hBlt3 : B < w3.heap.size := HBX3.out.lt
          clear hca hcb hyes hof hp hz
          gi_wp2_with fail
          gi_region_with_o (refine ⟨trivial, ?_⟩; gi_at_call 80; refine CallsIn.inRound l (callsIn_wide.2 ((HOF.out _ _ (by simp)).mono ?_)); rintro e w4 ⟨rfl, rfl⟩)
          all_goals
            have hW4 : Boxed ((w3.setCell ⟨B, 0, none⟩ (.int .u16 (M.cut m z : Nat))).alloc (.cells #[.int .i64 c] 3)) B 61 (.int .u16 (M.cut m z : Nat)) := (HBX3.out.set _).alloc _
            have hne : wc.heap.size ≠ B := by omega
            have HE := Lib.hid (show KeepsOthers W ((w3.setCell ⟨B, 0, none⟩ (.int .u16 (M.cut m z : Nat))).alloc (.cells #[.int .i64 c] 3)).drew ∧ KeepB wc.heap.size W ((w3.setCell ⟨B, 0, none⟩ (.int .u16 (M.cut m z : Nat))).alloc (.cells #[.int .i64 c] 3)).drew ∧
                PrI t B w2.heap.size W0 (pre ++ [(⟨(a, b), hab, hbn⟩ : Prs t.elems.length)]) ((w3.setCell ⟨B, 0, none⟩ (.int .u16 (M.cut m z : Nat))).alloc (.cells #[.int .i64 c] 3)).drew from by
              have hsz : ((w3.setCell ⟨B, 0, none⟩ (.int .u16 (M.cut m z : Nat))).alloc (.cells #[.int .i64 c] 3)).drew.heap.size = w3.heap.size + 1 := by show ((w3.setCell ⟨B, 0, none⟩ (.int .u16 (M.cut m z : Nat))).alloc (.cells #[.int .i64 c] 3)).heap.size = _; simp [World.setCell]
              refine ⟨(keeps_below HB4.out).trans (((KeepsOthers.setCell _ _ _).trans (KeepsOthers.alloc _ _)).trans (KeepsOthers.drew _)), ⟨by omega, ?_⟩, by omega, by rw [HP.out]; exact hW4, ?_⟩
              · show ((w3.setCell ⟨B, 0, none⟩ (.int .u16 (M.cut m z : Nat))).alloc (.cells #[.int .i64 c] 3)).heap[wc.heap.size]? = _
                have := HWC.out
                rw [Below.heap_alloc _ _ _ (by simp [World.setCell]; omega), Below.heap_setCell _ _ _ _ hne]
                exact HB4.out.block _ HWC.out
              · exact ((((HBW.out.trans (HB4.out.mono hWz)).setCell (p := ⟨B, 0, none⟩) hWB _).alloc (by simp [World.setCell]; omega) _).drew))
            gi_wp2_with fail
            exact HE.out
    case done =>
      rintro D xs W hD hxs ⟨_, hbx, hBW⟩ hDef
      have hr : M.prmM t (xs.map (·.1)) = M.prm t := by rw [hxs]; rfl
      rw [hr] at hbx
      have b0 := Boxed.cell (t := 61) hbx
      have HDEF := Lib.hid hDef
      have hBf : Below w.heap.size w W := hB0.trans (hBW.mono (by omega))
      clear hbx hr hxs hDef
      gi_wp2_with fail
      refine ⟨by simp, .inl ⟨_, _, rfl, run_takeDeferred HDEF.out, ?_⟩⟩
      exact ⟨_, results_tmp rfl _ _ _, rfl, hBf.trans (below_putO _ _ _ _ (by have := hB2.size; omega))⟩
    case stop =>
      intro D c pre W hD hp h _
      exact h.elim
end Go.Proofs.Ytlpindnbkgaplaa

namespace Go.Proofs.Ytlpindnbkgaplaa
open Go.RowKit

namespace M
def blwL (t : Tb) (a : Nat) (l : List Int) : Nat := l.foldl (fun (m : Nat) (x : Int) => if leB t x.toNat a then m ||| 2 ^ x.toNat else m) 0
theorem blwL_snoc (t : Tb) (a : Nat) (l : List Int) (x : Int) : blwL t a (l ++ [x]) = if leB t x.toNat a then blwL t a l ||| 2 ^ x.toNat else blwL t a l := by unfold blwL; rw [List.foldl_append]; rfl
theorem blwL_bit (t : Tb) (a : Nat) (l : List Int) (hl : ∀ x, x ∈ l → 0 ≤ x) (j : Nat) : (blwL t a l).testBit j = true ↔ ((j : Int) ∈ l ∧ leB t j a = true) := by
  suffices ∀ m, (l.foldl (fun (m : Nat) (x : Int) => if leB t x.toNat a then m ||| 2 ^ x.toNat else m) m).testBit j = true ↔ (m.testBit j = true ∨ ((j : Int) ∈ l ∧ leB t j a = true)) by
    have := this 0
    simpa [blwL] using this
  induction l with
  | nil => intro m; simp
  | cons x l ih =>
    intro m
    obtain ⟨b, rfl⟩ : ∃ b : Nat, x = b := ⟨x.toNat, by have := hl x List.mem_cons_self; omega⟩
    rw [List.foldl_cons, ih (fun y hy => hl y (List.mem_cons_of_mem _ hy)), Int.toNat_natCast, List.mem_cons]
    by_cases hb : leB t b a = true
    · rw [if_pos hb, Nat.testBit_or, Bool.or_eq_true, Nat.testBit_two_pow, decide_eq_true_eq]
      constructor
      · rintro ((q | q) | ⟨q1, q2⟩)
        · exact Or.inl q
        · subst q; exact Or.inr ⟨Or.inl rfl, hb⟩
        · exact Or.inr ⟨Or.inr q1, q2⟩
      · rintro (q | ⟨q | q1, q2⟩)
        · exact Or.inl (Or.inl q)
        · exact Or.inl (Or.inr (by omega))
        · exact Or.inr ⟨q1, q2⟩
    · rw [if_neg hb]
      constructor
      · rintro (q | ⟨q1, q2⟩)
        · exact Or.inl q
        · exact Or.inr ⟨Or.inr q1, q2⟩
      · rintro (q | ⟨q | q1, q2⟩)
        · exact Or.inl q
        · have : j = b := by omega
          subst this; exact absurd q2 hb
        · exact Or.inr ⟨q1, q2⟩
theorem blwL_lt (t : Tb) (a : Nat) (l : List Int) (hl : ∀ x, x ∈ l → 0 ≤ x ∧ x < 12) : blwL t a l < 4096 := by
  suffices ∀ m, m < 4096 → l.foldl (fun (m : Nat) (x : Int) => if leB t x.toNat a then m ||| 2 ^ x.toNat else m) m < 4096 from this 0 (by omega)
  induction l with
  | nil => intro m h; exact h
  | cons x l ih =>
    intro m h
    refine ih (fun y hy => hl y (List.mem_cons_of_mem _ hy)) _ ?_
    have := hl x List.mem_cons_self
    show (if leB t x.toNat a = true then m ||| 2 ^ x.toNat else m) < 4096
    split
    · exact Nat.or_lt_two_pow (n := 12) h (Nat.pow_lt_pow_right (a := 2) (by omega) (by omega))
    · exact h
/-- The primes below an element. -/
def blw (t : Tb) (a : Nat) : Nat := blwL t a (listN (prm t) 12)
def prtL (t : Tb) (b : Nat) (l : List Int) : Nat := l.foldl (fun (m : Nat) (x : Int) => if (know t x.toNat &&& b) ≠ 2 ^ x.toNat then cut m (2 ^ x.toNat) else m) b
theorem prtL_snoc (t : Tb) (b : Nat) (l : List Int) (x : Int) : prtL t b (l ++ [x]) = if (know t x.toNat &&& b) ≠ 2 ^ x.toNat then cut (prtL t b l) (2 ^ x.toNat) else prtL t b l := by unfold prtL; rw [List.foldl_append]; rfl
theorem prtL_lt (t : Tb) (b : Nat) (hb : b < 4096) (l : List Int) : prtL t b l < 4096 := by
  unfold prtL
  suffices ∀ m, m < 4096 → l.foldl (fun (m : Nat) (x : Int) => if (know t x.toNat &&& b) ≠ 2 ^ x.toNat then cut m (2 ^ x.toNat) else m) m < 4096 from this b hb
  induction l with
  | nil => intro m h; exact h
  | cons x l ih =>
    intro m h
    refine ih _ ?_
    show (if (know t x.toNat &&& b) ≠ 2 ^ x.toNat then cut m (2 ^ x.toNat) else m) < 4096
    split
    · exact cut_lt _ _ h
    · exact h
theorem prtL_bit (t : Tb) (b : Nat) (hb : b < 4096) (l : List Int) (hl : ∀ x, x ∈ l → 0 ≤ x ∧ x < 12) (j : Nat) : (prtL t b l).testBit j = true ↔ (b.testBit j = true ∧ ((j : Int) ∈ l → (know t j &&& b) = 2 ^ j)) := by
  unfold prtL
  suffices ∀ m, m < 4096 → ((l.foldl (fun (m : Nat) (x : Int) => if (know t x.toNat &&& b) ≠ 2 ^ x.toNat then cut m (2 ^ x.toNat) else m) m).testBit j = true ↔ (m.testBit j = true ∧ ((j : Int) ∈ l → (know t j &&& b) = 2 ^ j))) from this b hb
  induction l with
  | nil => intro m _; simp
  | cons x l ih =>
    intro m hm
    have hx := hl x List.mem_cons_self
    obtain ⟨c, rfl⟩ : ∃ c : Nat, x = c := ⟨x.toNat, by omega⟩
    have h2 : 2 ^ c < 65536 := Nat.pow_lt_pow_right (a := 2) (n := 16) (by omega) (by omega)
    rw [List.foldl_cons, Int.toNat_natCast]
    by_cases hc : (know t c &&& b) ≠ 2 ^ c
    · rw [if_pos hc, ih (fun y hy => hl y (List.mem_cons_of_mem _ hy)) _ (cut_lt _ _ hm), cut_bit _ _ _ (Nat.lt_trans hm (by omega)) h2, Bool.and_eq_true, Bool.not_eq_true', Nat.testBit_two_pow, decide_eq_false_iff_not, List.mem_cons]
      constructor
      · rintro ⟨⟨h1, h3⟩, h4⟩
        refine ⟨h1, fun q => ?_⟩
        rcases q with q | q
        · exact absurd (show c = j by omega) h3
        · exact h4 q
      · rintro ⟨h1, h4⟩
        refine ⟨⟨h1, fun e => ?_⟩, fun q => h4 (Or.inr q)⟩
        subst e
        exact hc (h4 (Or.inl rfl))
    · rw [if_neg hc, ih (fun y hy => hl y (List.mem_cons_of_mem _ hy)) _ hm, List.mem_cons]
      constructor
      · rintro ⟨h1, h4⟩
        refine ⟨h1, fun q => ?_⟩
        rcases q with q | q
        · have : j = c := by omega
          subst this; exact Classical.not_not.1 hc
        · exact h4 q
      · rintro ⟨h1, h4⟩; exact ⟨h1, fun q => h4 (Or.inr q)⟩
/-- The parts of an element. -/
def prt (t : Tb) (a : Nat) : Nat := prtL t (blw t a) (listN (blw t a) 12)
theorem blw_lt (t : Tb) (a : Nat) : blw t a < 4096 := blwL_lt t a _ (listN_in _)
theorem listN_nat (m j : Nat) : (j : Int) ∈ listN m 12 ↔ j < 12 ∧ m.testBit j = true := by
  rw [listN_mem]
  constructor
  · rintro ⟨i, e, h1, h2⟩
    have : j = i := by omega
    subst this; exact ⟨h1, h2⟩
  · rintro ⟨h1, h2⟩; exact ⟨j, rfl, h1, h2⟩
theorem bit_lt {m j : Nat} (hm : m < 4096) (h : m.testBit j = true) : j < 12 := by
  rcases Nat.lt_or_ge j 12 with q | q
  · exact q
  · rw [Nat.testBit_lt_two_pow (Nat.lt_of_lt_of_le hm (show 2 ^ 12 ≤ 2 ^ j from Nat.pow_le_pow_right (by omega) q))] at h; cases h
theorem prm_lt {t : Tb} (hf : form t) : prm t < 4096 := prmM_lt hf _
theorem blw_bit {t : Tb} (hf : form t) (a j : Nat) : (blw t a).testBit j = true ↔ ((prm t).testBit j = true ∧ leB t j a = true) := by
  unfold blw
  rw [blwL_bit t a _ (fun x hx => (listN_in _ x hx).1), listN_nat]
  constructor
  · rintro ⟨⟨_, h1⟩, h2⟩; exact ⟨h1, h2⟩
  · rintro ⟨h1, h2⟩; exact ⟨⟨bit_lt (prm_lt hf) h1, h1⟩, h2⟩
theorem prt_bit (t : Tb) (a j : Nat) : (prt t a).testBit j = true ↔ ((blw t a).testBit j = true ∧ (know t j &&& blw t a) = 2 ^ j) := by
  unfold prt
  rw [prtL_bit t _ (blw_lt t a) _ (listN_in _), listN_nat]
  constructor
  · rintro ⟨h1, h2⟩; exact ⟨h1, h2 ⟨bit_lt (blw_lt t a) h1, h1⟩⟩
  · rintro ⟨h1, h2⟩; exact ⟨h1, fun _ => h2⟩
theorem prt_lt (t : Tb) (a : Nat) : prt t a < 4096 := prtL_lt t _ (blw_lt t a) _
end M

set_option maxHeartbeats 8000000 in
set_option maxRecDepth 100000 in
theorem parts_any (t : M.Tb) (p : Tp) (a : Nat) (w : World) (hf : M.form t) (ha : a < t.elems.length) :
    Calls Try.prog 55 #[knV t p (M.know t), .int .i64 a] w fun e w' => e = .returned (.int .u16 (M.prt t a : Nat)) ∧ Below w.heap.size w w' := by
  obtain ⟨ik, hik, hks⟩ := Option.map_eq_some_iff.1 knInfo
  have HIK := Lib.hid hik
  have HKS := Lib.hid hks
  have h12 := hf.twelve
  have HKN := Lib.hid (box_new w (knA t p (M.know t)) 64)
  have HK := Lib.hid (knBox HKN.out)
  have HP := Lib.hid (primes_any t p (w.alloc (.cells (knA t p (M.know t)) 64)) hf)
  have HKL := Lib.hid (M.know_lt hf)
  have HPL := Lib.hid (M.prm_lt hf)
  have ha12 : a < 16 := by omega
  clear hf hik hks
  go_enter Try.func55, Try.ntmps55
  go_wp2_with (refine wpList_load_row _ rfl 64 _ rfl ik HIK.out (knAgg _) w.heap.size (knA t p (M.know t)) 64 rfl HKN.out HKS.out ?_)
  refine HP.out.mono ?_
  rintro e w0 ⟨rfl, hB0⟩
  go_wp2_with fail
  refine (list_any (M.prm t) _ (Nat.lt_trans HPL.out (by omega))).mono ?_
  rintro e w1 ⟨la, lc, rfl, _, _, hl, hB1⟩
  have HL := Lib.hid hl
  have HB1 := Lib.hid (below2 hB0 hB1)
  have HLI := Lib.hid (M.listN_in (M.prm t))
  have HLE := Lib.hid (M.listN_le (M.prm t) 12)
  have HRES := Lib.hid (show M.blw t a = M.blwL t a (M.listN (M.prm t) 12) from rfl)
  obtain ⟨L, hL⟩ : ∃ L, M.listN (M.prm t) 12 = L := ⟨_, rfl⟩
  rw [hL] at HL HLI HLE HRES ⊢
  clear hl hB0 hB1 hL
  go_wp2_with fail
  go_loopw [5, 15] (fun u i wr => ∃ k : Nat, k ≤ L.length ∧ i = .int .i64 k ∧ u = .int .u16 (M.blwL t a (L.take k) : Nat) ∧ Below w1.heap.size w1 wr) (fun _ i _ => L.length - (intOf i).toNat)
  case atStart => exact ⟨0, by omega, rfl, rfl, Below.refl _ _⟩
  case round =>
    rename_i wr
    obtain ⟨k, hk, rfl, rfl, hB⟩ := hrel
    have hle := HLE.out
    by_cases hkl : k < L.length
    · obtain ⟨lb, lo, rfl, hlat⟩ := (HL.out.below hB).at hkl
      have hx := HLI.out L[k] (List.getElem_mem hkl)
      have r0 := hlat.at_ k hkl
      have hsn := M.blwL_snoc t a (L.take k) L[k]
      rw [← List.take_succ_eq_append_getElem hkl] at hsn
      have hlt := M.blwL_lt t a (L.take k) (fun x hx => HLI.out x (List.mem_of_mem_take hx))
      obtain ⟨m, hm⟩ : ∃ m, M.blwL t a (L.take k) = m := ⟨_, rfl⟩
      obtain ⟨x, hxe⟩ : ∃ x : Nat, L[k] = (x : Int) := ⟨(L[k]).toNat, by omega⟩
      rw [hxe] at hx r0 hsn
      rw [Int.toNat_natCast, hm] at hsn
      rw [hm] at hlt ⊢
      have n1 : (k : Int) < (L.length : Int) := by omega
      have n2 : (0 : Int) ≤ (k : Int) := by omega
      have n3 : (x : Int) < 12 := by omega
      have n4 : (0 : Int) ≤ (x : Int) := by omega
      have hx12 : x < 12 := by omega
      have y0 := (HK.out.below (below2 HB1.out hB)).m x hx12
      have hzz : w.heap.size < wr.heap.size := World.block_lt_of_cell? _ _ y0
      have HH := Lib.hid fun W => has_any (M.know t x) a W (Nat.lt_trans (HKL.out x) (by omega)) ha12
      have HSN := Lib.hid hsn
      have hlz := hlat.lt
      clear hsn hx hlat hxe hm
      cases hb : M.leB t x a with
      | false =>
        have HN := Lib.hid (show M.blwL t a (L.take (k + 1)) = m from by rw [HSN.out, hb]; rfl)
        have HB0 := Lib.hid (show (M.know t x).testBit a = false from hb)
        clear hb
        go_wp2_with fail
        refine (HH.out _).mono ?_
        rintro e w3 ⟨rfl, rfl⟩
        rw [HB0.out]
        go_wp2_with fail
        go_roundw
        case rel => exact ⟨k + 1, by omega, by go_num, by rw [HN.out], hB⟩
        case measure => simp [intOf]; omega
      | true =>
        have hn : M.blwL t a (L.take (k + 1)) = m ||| 2 ^ x := by rw [HSN.out, hb]; rfl
        have HB0 := Lib.hid (show (M.know t x).testBit a = true from hb)
        have h2 : 2 ^ x < 65536 := Nat.pow_lt_pow_right (a := 2) (n := 16) (by omega) (by omega)
        have hof := fun W => of_new x W hx12
        obtain ⟨z, hz⟩ : ∃ z, 2 ^ x = z := ⟨_, rfl⟩
        rw [hz] at h2 hn hof
        have HOF := Lib.hid hof
        have HE := Lib.hid (show bits .or .u16 (m : Int) (z : Int) = ((M.blwL t a (L.take (k + 1)) : Nat) : Int) from by rw [hn]; exact u16_or_nat _ _ (Nat.lt_trans hlt (by omega)) h2)
        clear hb hn hof hz
        go_wp2_with fail
        refine (HH.out _).mono ?_
        rintro e w3 ⟨rfl, rfl⟩
        rw [HB0.out]
        go_wp2_with fail
        refine (HOF.out _).mono ?_
        rintro e w3 ⟨rfl, rfl⟩
        go_wp2_with fail
        rw [HE.out]
        go_roundw
        case rel => exact ⟨k + 1, by omega, by go_num, rfl, belowA hB _⟩
        case measure => simp [intOf]; omega
    · obtain rfl : k = L.length := by omega
      have m1 : decide ((L.length : Int) < (L.length : Int)) = false := decide_eq_false (by omega)
      rw [List.take_length, ← HRES.out]
      have hbl := M.blw_lt t a
      have HLB := Lib.hid (list_any (M.blw t a) wr (Nat.lt_trans hbl (by omega)))
      have HRES2 := Lib.hid (show M.prt t a = M.prtL t (M.blw t a) (M.listN (M.blw t a) 12) from rfl)
      have HLI2 := Lib.hid (M.listN_in (M.blw t a))
      have HLE2 := Lib.hid (M.listN_le (M.blw t a) 12)
      obtain ⟨b, hb⟩ : ∃ b, M.blw t a = b := ⟨_, rfl⟩
      rw [hb] at hbl HLB HRES2 HLI2 HLE2 ⊢
      clear hb HRES HLI HLE
      go_wp2_with fail
      refine HLB.out.mono ?_
      rintro e w2 ⟨l2, c2, rfl, _, _, hl2, hB2⟩
      have HL2 := Lib.hid hl2
      have HB2 := Lib.hid (below2 (below2 HB1.out hB) hB2)
      obtain ⟨L2, hL2⟩ : ∃ L2, M.listN b 12 = L2 := ⟨_, rfl⟩
      rw [hL2] at HL2 HLI2 HLE2 HRES2 ⊢
      clear hl2 hB2 hB hL2 HL
      go_wp2_with fail
      go_loopw [8, 35] (fun u i wr => ∃ k : Nat, k ≤ L2.length ∧ i = .int .i64 k ∧ u = .int .u16 (M.prtL t b (L2.take k) : Nat) ∧ Below w2.heap.size w2 wr) (fun _ i _ => L2.length - (intOf i).toNat)
      case atStart => exact ⟨0, by omega, rfl, rfl, Below.refl _ _⟩
      case round =>
        rename World => wr
        obtain ⟨k, hk, rfl, rfl, hB⟩ := hrel
        have hle := HLE2.out
        by_cases hkl : k < L2.length
        · obtain ⟨lb, lo, rfl, hlat⟩ := (HL2.out.below hB).at hkl
          have hx := HLI2.out L2[k] (List.getElem_mem hkl)
          have r0 := hlat.at_ k hkl
          have hsn := M.prtL_snoc t b (L2.take k) L2[k]
          rw [← List.take_succ_eq_append_getElem hkl] at hsn
          have hlt := M.prtL_lt t b hbl (L2.take k)
          obtain ⟨m, hm⟩ : ∃ m, M.prtL t b (L2.take k) = m := ⟨_, rfl⟩
          obtain ⟨x, hxe⟩ : ∃ x : Nat, L2[k] = (x : Int) := ⟨(L2[k]).toNat, by omega⟩
          rw [hxe] at hx r0 hsn
          rw [Int.toNat_natCast, hm] at hsn
          rw [hm] at hlt ⊢
          have n1 : (k : Int) < (L2.length : Int) := by omega
          have n2 : (0 : Int) ≤ (k : Int) := by omega
          have n3 : (x : Int) < 12 := by omega
          have n4 : (0 : Int) ≤ (x : Int) := by omega
          have hx12 : x < 12 := by omega
          have hBw := below2 HB2.out hB
          have y0 := (HK.out.below hBw).m x hx12
          have hzz : w.heap.size < wr.heap.size := World.block_lt_of_cell? _ _ y0
          have h2 : 2 ^ x < 65536 := Nat.pow_lt_pow_right (a := 2) (n := 16) (by omega) (by omega)
          have hof := fun W => of_new x W hx12
          obtain ⟨z, hz⟩ : ∃ z, 2 ^ x = z := ⟨_, rfl⟩
          rw [hz] at h2 hof hsn
          have HOF := Lib.hid hof
          have hand : bits .and .u16 (M.know t x : Nat) (b : Nat) = ((M.know t x &&& b : Nat) : Int) := u16_and_nat _ _ (Nat.lt_trans (HKL.out x) (by omega)) (Nat.lt_trans hbl (by omega))
          obtain ⟨v, hv⟩ : ∃ v, (M.know t x &&& b) = v := ⟨_, rfl⟩
          rw [hv] at hand hsn
          have HSN := Lib.hid hsn
          have hlz := hlat.lt
          clear hsn hx hlat hxe hm hof hz hv
          by_cases hq : v = z
          · have k1 : ((v : Int) == (z : Int)) = true := by rw [hq]; exact beq_self_eq_true _
            have k2 : ((v : Int) != (z : Int)) = false := by rw [hq]; exact bne_self_eq_false _
            have HN := Lib.hid (show M.prtL t b (L2.take (k + 1)) = m from by rw [HSN.out, if_neg (fun q => q hq)])
            clear hq
            go_upto_region 12 with fail
            go_cut [35, 48] from 35 to 54 (fun i c wx => i = .int .i64 k ∧ c = .bool false ∧ Below w2.heap.size w2 wx)
            case first =>
              go_region_with (go_at_call 80; refine (HOF.out wr.drew).mono ?_; rintro e w4 ⟨rfl, rfl⟩)
              all_goals
                go_wp2_with fail
                go_meet
                exact ⟨rfl, rfl, belowA hB.drew _⟩
            case rest =>
              obtain ⟨rfl, rfl, hB3⟩ := hcut
              go_wp2_with fail
              go_roundw
              case rel => exact ⟨k + 1, by omega, by go_num, by rw [HN.out], hB3⟩
              case measure => simp [intOf]; omega
          · have k1 : ((v : Int) == (z : Int)) = false := by rw [beq_eq_false_iff_ne]; omega
            have k2 : ((v : Int) != (z : Int)) = true := by rw [bne_iff_ne]; omega
            have hn : M.prtL t b (L2.take (k + 1)) = M.cut m z := by rw [HSN.out, if_pos hq]
            have HE := Lib.hid (show bits .andNot .u16 (m : Int) (z : Int) = ((M.prtL t b (L2.take (k + 1)) : Nat) : Int) from by rw [hn]; exact u16_andNot_nat _ _ (Nat.lt_trans hlt (by omega)) h2)
            clear hq hn
            go_upto_region 12 with fail
            go_cut [35, 48] from 35 to 54 (fun i c wx => i = .int .i64 k ∧ c = .bool true ∧ Below w2.heap.size w2 wx)
            case first =>
              go_region_with (go_at_call 80; refine (HOF.out wr.drew).mono ?_; rintro e w4 ⟨rfl, rfl⟩)
              all_goals
                go_wp2_with fail
                go_meet
                exact ⟨rfl, rfl, belowA hB.drew _⟩
            case rest =>
              obtain ⟨rfl, rfl, hB3⟩ := hcut
              go_wp2_with fail
              refine (HOF.out _).mono ?_
              rintro e w3 ⟨rfl, rfl⟩
              go_wp2_with fail
              rw [HE.out]
              go_roundw
              case rel => exact ⟨k + 1, by omega, by go_num, rfl, belowA hB3 _⟩
              case measure => simp [intOf]; omega
        · obtain rfl : k = L2.length := by omega
          have m1 : decide ((L2.length : Int) < (L2.length : Int)) = false := decide_eq_false (by omega)
          have hBf := below2 (below2 (below1 w (.cells (knA t p (M.know t)) 64)) HB2.out) hB
          rw [List.take_length]
          go_wp2_with fail
          go_ret
          exact ⟨by rw [HRES2.out]; rfl, hBf⟩
end Go.Proofs.Ytlpindnbkgaplaa

namespace Go.Proofs.Ytlpindnbkgaplaa
namespace M
/-- What no break says of a table. -/
structure good (t : Tb) : Prop where
  form : form t
  nb : noBrk t
  zero : wr t 0 = false
  wrong : ∀ a, a < t.elems.length → ∀ b, b < t.elems.length → wr t a = true → leB t a b = true → wr t b = true
theorem lat_good {t : Tb} (h : lat t) : good t := by
  obtain ⟨hf, h⟩ := h
  have h1 : fstN t.elems.length (fun a => stB t a a) = none := by
    cases q : fstN t.elems.length (fun a => stB t a a) with
    | none => rfl
    | some a => unfold brk at h; rw [q] at h; simp at h
  have h2 : fstN t.elems.length (fun a => !leB t 0 a) = none := by
    cases q : fstN t.elems.length (fun a => !leB t 0 a) with
    | none => rfl
    | some a => unfold brk at h; rw [h1] at h; simp only at h; rw [q] at h; simp at h
  have h3 : fst2 t.elems.length (fun a b => decide (a < b) && (jn t a b).isNone) = none := by
    cases q : fst2 t.elems.length (fun a b => decide (a < b) && (jn t a b).isNone) with
    | none => rfl
    | some x =>
      obtain ⟨a, b⟩ := x
      unfold brk at h; rw [h1] at h; simp only at h; rw [h2] at h; simp only at h; rw [q] at h
      simp only [Prod.mk.injEq] at h
      obtain ⟨h, _⟩ := h
      unfold kindM at h; split at h <;> omega
  have hnb : noBrk t := by
    refine ⟨fun j hj => fstN_none h1 j hj, fun j hj => by have := fstN_none h2 j hj; simpa using this, fun a ha b hab hb hn => ?_⟩
    have := fst2_none h3 a ha b hb
    rw [hn] at this
    simp [hab] at this
  rw [brk_rest hnb] at h
  have h4 : wr t 0 = false := by
    cases q : wr t 0 with
    | false => rfl
    | true => rw [if_pos q] at h; simp at h
  rw [if_neg (by rw [h4]; simp)] at h
  have h5 : fst2 t.elems.length (fun a b => wr t a && !wr t b && leB t a b) = none := by
    cases q : fst2 t.elems.length (fun a b => wr t a && !wr t b && leB t a b) with
    | none => rfl
    | some x => rw [q] at h; simp at h
  refine ⟨hf, hnb, h4, fun a ha b hb hw hl => ?_⟩
  have := fst2_none h5 a ha b hb
  rw [hw, hl] at this
  simpa using this
theorem good_lat {t : Tb} (h : good t) : lat t := ⟨h.form, brk_ok h.nb h.zero h.wrong⟩
theorem bnd_comm (t : Tb) (a b : Nat) : bnd t a b = bnd t b a := by unfold bnd; simp only [Bool.and_comm]
theorem jn_comm (t : Tb) (a b : Nat) : jn t a b = jn t b a := by unfold jn; rw [bnd_comm]
/-- Elements that are below each other are the same. -/
theorem anti {t : Tb} (h : good t) {a b : Nat} (ha : a < t.elems.length) (h1 : leB t a b = true) (h2 : leB t b a = true) : a = b := by
  rcases Nat.decEq a b with e | e
  · exfalso
    have q1 := leB_or h.form ha (b := b)
    rw [h1, decide_eq_false e, Bool.false_or] at q1
    have hb := leB_lt h.form ha h1
    have q2 := leB_or h.form hb (b := a)
    rw [h2, decide_eq_false (fun q => e q.symm), Bool.false_or] at q2
    have := h.nb.cyc a ha
    rw [(stB_iff h.form ha).2 (((stB_iff h.form ha).1 q1.symm).trans ((stB_iff h.form hb).1 q2.symm))] at this
    cases this
  · exact e
/-- A join is the least of the elements above both. -/
structure isJ (t : Tb) (a b c : Nat) : Prop where
  lt : c < t.elems.length
  l : leB t a c = true
  r : leB t b c = true
  least : ∀ d, leB t a d = true → leB t b d = true → leB t c d = true
theorem isJ_of {t : Tb} (hf : form t) {a b c : Nat} (ha : a < t.elems.length) (h : jn t a b = some c) : isJ t a b c := by
  obtain ⟨h1, h2, h3, h4⟩ := jn_some h
  exact ⟨h1, h2, h3, fun d q1 q2 => h4 d (leB_lt hf ha q1) q1 q2⟩
theorem isJ_one {t : Tb} (h : good t) {a b c d : Nat} (h1 : isJ t a b c) (h2 : isJ t a b d) : c = d :=
  anti h h1.lt (h1.least d h2.l h2.r) (h2.least c h1.l h1.r)
theorem jn_same {t : Tb} (h : good t) {a : Nat} (ha : a < t.elems.length) : jn t a a = some a := by
  cases q : jn t a a with
  | none =>
    obtain ⟨d, _, h1, _, h3⟩ := jn_none q ha (leB_refl h.form ha) (leB_refl h.form ha)
    rw [h1] at h3; cases h3
  | some c =>
    have hc := isJ_of h.form ha q
    rw [anti h hc.lt (hc.least a (leB_refl h.form ha) (leB_refl h.form ha)) hc.l]
theorem jn_any {t : Tb} (h : good t) {a b : Nat} (ha : a < t.elems.length) (hb : b < t.elems.length) : ∃ c, jn t a b = some c := by
  rcases Nat.lt_trichotomy a b with q | q | q
  · exact Option.ne_none_iff_exists'.1 (h.nb.pair a ha b q hb)
  · subst q; exact ⟨a, jn_same h ha⟩
  · rw [jn_comm]; exact Option.ne_none_iff_exists'.1 (h.nb.pair b hb a q ha)
theorem jnD_is {t : Tb} (h : good t) {a b : Nat} (ha : a < t.elems.length) (hb : b < t.elems.length) : isJ t a b (jnD t a b) := by
  obtain ⟨c, hc⟩ := jn_any h ha hb
  unfold jnD; rw [hc]
  exact isJ_of h.form ha hc
theorem jnD_comm (t : Tb) (a b : Nat) : jnD t a b = jnD t b a := by unfold jnD; rw [jn_comm]
theorem jnD_same {t : Tb} (h : good t) {a : Nat} (ha : a < t.elems.length) : jnD t a a = a := by unfold jnD; rw [jn_same h ha]; rfl
end M
end Go.Proofs.Ytlpindnbkgaplaa

namespace Go.Proofs.Ytlpindnbkgaplaa
open Go.RowKit

/-- What Parts comes to. -/
def PartsPost (t : M.Tb) (a : Int) (w : World) (e : Ending) (w' : World) : Prop :=
  ((¬ M.form t ∧ e = .returned (.tuple #[.slice none 0 0, .int .i64 4])) ∨ (M.form t ∧ (M.brk t).1 ≠ 0 ∧ e = .returned (.tuple #[.slice none 0 0, .int .i64 12])) ∨
    (M.lat t ∧ M.inB t.elems.length a = false ∧ e = .returned (.tuple #[.slice none 0 0, .int .i64 7])) ∨
    (M.lat t ∧ M.inB t.elems.length a = true ∧ ∃ la c, e = .returned (.tuple #[.slice la (M.listN (M.prt t a.toNat) 12).length c, .int .i64 0]) ∧ (la = none → c = 0) ∧ (M.listN (M.prt t a.toNat) 12).length ≤ c ∧ IntSl w' la (M.listN (M.prt t a.toNat) 12))) ∧ Below w.heap.size w w'
theorem pp_1 {t : M.Tb} {a : Int} {w w' : World} (h : ¬ M.form t) (hB : Below w.heap.size w w') : PartsPost t a w (.returned (.tuple #[.slice none 0 0, .int .i64 4])) w' := ⟨Or.inl ⟨h, rfl⟩, hB⟩
theorem pp_2 {t : M.Tb} {a : Int} {w w' : World} (h : M.form t) (hk : (M.brk t).1 ≠ 0) (hB : Below w.heap.size w w') : PartsPost t a w (.returned (.tuple #[.slice none 0 0, .int .i64 12])) w' := ⟨Or.inr (Or.inl ⟨h, hk, rfl⟩), hB⟩
theorem pp_3 {t : M.Tb} {a : Int} {w w' : World} (h : M.lat t) (hin : M.inB t.elems.length a = false) (hB : Below w.heap.size w w') : PartsPost t a w (.returned (.tuple #[.slice none 0 0, .int .i64 7])) w' := ⟨Or.inr (Or.inr (Or.inl ⟨h, hin, rfl⟩)), hB⟩
theorem pp_4 {t : M.Tb} {a : Int} {w w' : World} {la : Option Addr} {c : Nat} (h : M.lat t) (hin : M.inB t.elems.length a = true) (h1 : la = none → c = 0) (h2 : (M.listN (M.prt t a.toNat) 12).length ≤ c) (h3 : IntSl w' la (M.listN (M.prt t a.toNat) 12)) (hB : Below w.heap.size w w') :
    PartsPost t a w (.returned (.tuple #[.slice la (M.listN (M.prt t a.toNat) 12).length c, .int .i64 0])) w' := ⟨Or.inr (Or.inr (Or.inr ⟨h, hin, la, c, rfl, h1, h2, h3⟩)), hB⟩
theorem all1 (n : Nat) (a : Int) : M.allN (fun i => M.inB n ([a].getD i 0)) [a].length = M.inB n a := by unfold M.allN; simp [List.range_succ]

set_option maxHeartbeats 8000000 in
set_option maxRecDepth 100000 in
theorem partsX_any (t : M.Tb) (p : Tp) (a : Int) (w : World) (hal : ∀ l, l ∈ t.above → l.length ≤ 1000000) (ht : TbIn w t p) : Calls Try.prog 31 #[tbV t p, .int .i64 a] w (PartsPost t a w) := by
  obtain ⟨ik, hik, hks⟩ := Option.map_eq_some_iff.1 knInfo
  have HIK := Lib.hid hik
  have HKS := Lib.hid hks
  have HC := Lib.hid (proved_any t p (w.alloc (.cells (tbA t p) 26)) hal (ht.below (below1 _ _)))
  obtain ⟨c0, c1, c2, c3⟩ := tbBox (t := t) (p := p) (box_new w (tbA t p) 26)
  clear ht hik hks hal
  go_enter Try.func31, Try.ntmps31
  go_wp2_with fail
  refine HC.out.mono ?_
  rintro e w1 ⟨⟨hf, rfl⟩ | ⟨hf, hk, rfl⟩ | ⟨hf, rfl⟩, hB1⟩
  · have HF := Lib.hid hf
    have hB := below2 (below1 w (.cells (tbA t p) 26)) hB1
    clear hf hB1 c0 c1 c2 c3
    go_wp2_with fail
    go_ret2
    exact pp_1 HF.out (belowA hB _)
  · have HF := Lib.hid hf
    have HK := Lib.hid hk
    have hB := below2 (below1 w (.cells (tbA t p) 26)) hB1
    clear hf hk hB1 c0 c1 c2 c3
    go_wp2_with fail
    go_ret2
    exact pp_2 HF.out HK.out (belowA hB _)
  · have HF := Lib.hid hf
    have hB := below2 (below1 w (.cells (tbA t p) 26)) hB1
    clear hf hB1 c0 c1 c2 c3
    have HKN := Lib.hid (box_new w1 (knA t p (M.know t)) 64)
    go_wp2_with (refine wpList_load_row _ rfl 64 _ rfl ik HIK.out (knAgg _) w1.heap.size (knA t p (M.know t)) 64 rfl HKN.out HKS.out ?_)
    refine (hasAll_any t p (M.know t) (some ⟨w1.heap.size + 1, 0, none⟩) 1 [a] _ (by show 1 ≤ 1000000; omega) (Or.inr ⟨w1.heap.size + 1, 0, rfl, by simp, fun i hi => by
        have : i = 0 := by simpa using hi
        subst this
        rw [World.cell?_alloc_at _ _ _ _ (by simp)]; rfl⟩)).mono ?_
    rintro e w2 ⟨rfl, hB2⟩
    rw [all1]
    have HK2 := Lib.hid (show w2.heap[w1.heap.size]? = some (.cells (knA t p (M.know t)) 64 (0, 0)) from by rw [hB2.block _ (by simp; omega), Below.heap_alloc _ _ _ (by simp)]; exact HKN.out)
    have hBf := below2 (belowA (belowA hB _) _) hB2
    clear hB hB2
    cases hin : M.inB t.elems.length a with
    | false =>
      have HIN := Lib.hid hin
      clear hin
      go_wp2_with fail
      go_ret2
      exact pp_3 HF.out HIN.out hBf
    | true =>
      have HIN := Lib.hid hin
      unfold M.inB at hin
      simp only [Bool.and_eq_true, decide_eq_true_eq] at hin
      obtain ⟨k, rfl⟩ : ∃ k : Nat, a = k := ⟨a.toNat, by omega⟩
      have hk12 : k < t.elems.length := by omega
      clear hin
      go_wp2_with (refine wpList_load_row _ rfl 64 _ rfl ik HIK.out (knAgg _) w1.heap.size (knA t p (M.know t)) 64 rfl HK2.out HKS.out ?_)
      refine (parts_any t p k _ HF.out.1 hk12).mono ?_
      rintro e w3 ⟨rfl, hB3⟩
      have hB4 := below2 hBf hB3
      clear hB3
      go_wp2_with fail
      refine (list_any (M.prt t k) _ (Nat.lt_trans (M.prt_lt t k) (by omega))).mono ?_
      rintro e w4 ⟨la, c, rfl, h1, h2, h3, hB5⟩
      have H1 := Lib.hid h1
      have H2 := Lib.hid h2
      have H3 := Lib.hid h3
      have hB6 := below2 hB4 hB5
      clear h1 h2 h3 hB5
      go_wp2_with fail
      go_ret2
      exact pp_4 HF.out HIN.out H1.out H2.out H3.out hB6
end Go.Proofs.Ytlpindnbkgaplaa

namespace Go.Proofs.Ytlpindnbkgaplaa
open Go.RowKit

/-- What Height comes to. -/
def HeightPost (t : M.Tb) (w : World) (e : Ending) (w' : World) : Prop :=
  ((¬ M.form t ∧ e = .returned (.tuple #[.int .i64 0, .int .i64 4])) ∨ (M.form t ∧ (M.brk t).1 ≠ 0 ∧ e = .returned (.tuple #[.int .i64 0, .int .i64 12])) ∨
    (M.lat t ∧ ∃ k : Nat, M.isH t 0 k ∧ e = .returned (.tuple #[.int .i64 k, .int .i64 0]))) ∧ Below w.heap.size w w'
theorem hp_1 {t : M.Tb} {w w' : World} (h : ¬ M.form t) (hB : Below w.heap.size w w') : HeightPost t w (.returned (.tuple #[.int .i64 0, .int .i64 4])) w' := ⟨Or.inl ⟨h, rfl⟩, hB⟩
theorem hp_2 {t : M.Tb} {w w' : World} (h : M.form t) (hk : (M.brk t).1 ≠ 0) (hB : Below w.heap.size w w') : HeightPost t w (.returned (.tuple #[.int .i64 0, .int .i64 12])) w' := ⟨Or.inr (Or.inl ⟨h, hk, rfl⟩), hB⟩
theorem hp_3 {t : M.Tb} {w w' : World} (h : M.lat t) {k : Nat} (hk : M.isH t 0 k) (hB : Below w.heap.size w w') : HeightPost t w (.returned (.tuple #[.int .i64 k, .int .i64 0])) w' := ⟨Or.inr (Or.inr ⟨h, k, hk, rfl⟩), hB⟩

set_option maxHeartbeats 8000000 in
set_option maxRecDepth 100000 in
theorem heightX_any (t : M.Tb) (p : Tp) (w : World) (hal : ∀ l, l ∈ t.above → l.length ≤ 1000000) (ht : TbIn w t p) : Calls Try.prog 30 #[tbV t p] w (HeightPost t w) := by
  obtain ⟨ik, hik, hks⟩ := Option.map_eq_some_iff.1 knInfo
  have HIK := Lib.hid hik
  have HKS := Lib.hid hks
  have HC := Lib.hid (proved_any t p (w.alloc (.cells (tbA t p) 26)) hal (ht.below (below1 _ _)))
  obtain ⟨c0, c1, c2, c3⟩ := tbBox (t := t) (p := p) (box_new w (tbA t p) 26)
  clear ht hik hks hal
  go_enter Try.func30, Try.ntmps30
  go_wp2_with fail
  refine HC.out.mono ?_
  rintro e w1 ⟨⟨hf, rfl⟩ | ⟨hf, hk, rfl⟩ | ⟨hf, rfl⟩, hB1⟩
  · have HF := Lib.hid hf
    have hB := below2 (below1 w (.cells (tbA t p) 26)) hB1
    clear hf hB1 c0 c1 c2 c3
    go_wp2_with fail
    go_ret2
    exact hp_1 HF.out (belowA hB _)
  · have HF := Lib.hid hf
    have HK := Lib.hid hk
    have hB := below2 (below1 w (.cells (tbA t p) 26)) hB1
    clear hf hk hB1 c0 c1 c2 c3
    go_wp2_with fail
    go_ret2
    exact hp_2 HF.out HK.out (belowA hB _)
  · have HF := Lib.hid hf
    have HG := Lib.hid (M.lat_good hf)
    have hB := below2 (below1 w (.cells (tbA t p) 26)) hB1
    clear hf hB1 c0 c1 c2 c3
    have HKN := Lib.hid (box_new w1 (knA t p (M.know t)) 64)
    go_wp2_with (refine wpList_load_row _ rfl 64 _ rfl ik HIK.out (knAgg _) w1.heap.size (knA t p (M.know t)) 64 rfl HKN.out HKS.out ?_)
    refine (height_any t p _ HG.out.form HG.out.nb.cyc).mono ?_
    rintro e w2 ⟨⟨k, hk, rfl⟩, hB2⟩
    have HK := Lib.hid hk
    have hBf := below2 (belowA hB _) hB2
    clear hk hB2
    go_wp2_with fail
    go_ret2
    exact hp_3 HF.out HK.out hBf
end Go.Proofs.Ytlpindnbkgaplaa

namespace Go.Proofs.Ytlpindnbkgaplaa
open Go.RowKit

namespace M
def elB (t : Tb) (x : Int) : List UInt8 := bl (t.elems.getD x.toNat ⟨#[]⟩)
def sepU (k : Nat) : List UInt8 := if k = 0 then [58, 32] else [44, 32]
/-- The text of the first ones of the elements above one. -/
def upL (t : Tb) (L : List Int) (k : Nat) : List UInt8 := (List.range k).flatMap fun i => sepU i ++ elB t (L.getD i 0)
theorem upL_next (t : Tb) (L : List Int) (k : Nat) : upL t L (k + 1) = upL t L k ++ (sepU k ++ elB t (L.getD k 0)) := by unfold upL; rw [List.range_succ, List.flatMap_append]; simp
/-- The text of an element. -/
def elT (t : Tb) (a : Nat) : List UInt8 := elB t a ++ (if wr t a then [33] else []) ++ upL t (t.above.getD a []) (t.above.getD a []).length
theorem elB_len {t : Tb} (hf : form t) (x : Int) : (elB t x).length ≤ 12 := by
  unfold elB
  rcases Nat.lt_or_ge x.toNat t.elems.length with h | h
  · rw [getD_in _ _ _ h]
    have := hf.names _ h
    unfold isNameB at this
    simp only [Bool.and_eq_true, decide_eq_true_eq] at this
    exact this.1.1.2
  · rw [List.getD_eq_getElem?_getD, List.getElem?_eq_none h]; simp
theorem sepU_len (k : Nat) : (sepU k).length = 2 := by unfold sepU; split <;> rfl
theorem upL_len {t : Tb} (hf : form t) (L : List Int) (k : Nat) : (upL t L k).length ≤ 14 * k := by
  induction k with
  | zero => simp [upL]
  | succ k ih =>
    rw [upL_next, List.length_append, List.length_append, sepU_len]
    have := elB_len hf (L.getD k 0)
    omega
theorem elT_len {t : Tb} (hf : form t) (a : Nat) (ha : (t.above.getD a []).length ≤ 12) : (elT t a).length ≤ 181 := by
  unfold elT
  rw [List.length_append, List.length_append]
  have h1 := elB_len hf (a : Int)
  have h2 := upL_len hf (t.above.getD a []) (t.above.getD a []).length
  have h3 : (if wr t a then ([33] : List UInt8) else []).length ≤ 1 := by split <;> simp
  omega
end M

set_option maxHeartbeats 4000000 in
set_option maxRecDepth 100000 in
theorem elemText_any (t : M.Tb) (p : Tp) (a : Nat) (w : World) (ht : TbIn w t p) (hf : M.form t) (ha : a < t.elems.length) :
    Calls Try.prog 49 #[tbV t p, .int .i64 a] w fun e w' => e = .returned (.string (bs (M.elT t a))) ∧ Below w.heap.size w w' := by
  obtain ⟨pea, pec, paa, pac, pwa, pwc⟩ := p
  have h12 := hf.twelve
  have hrow := row_short hf ha
  have ha' : a < t.above.length := by rw [hf.above]; exact ha
  have haw : a < t.wrong.length := by rw [hf.wrong]; exact ha
  have HB0 := Lib.hid (below1 w (.cells (tbA t ⟨pea, pec, paa, pac, pwa, pwc⟩) 26))
  obtain ⟨eb, eo, ee, heat⟩ := (ht.below HB0.out).es.at ha
  obtain ⟨ab, ao, ea, hat⟩ := (ht.below HB0.out).as_.at ha'
  obtain ⟨wb, wo, ew, hwt⟩ := (ht.below HB0.out).ws.at haw
  dsimp only at ee ea ew
  subst ee ea ew
  have HEAT := Lib.hid heat
  have e0 := heat.at_ a ha
  rw [← getD_in t.elems ⟨#[]⟩ a ha] at e0
  have w0 := hwt.at_ a haw
  rw [← getD_in t.wrong false a haw] at w0
  obtain ⟨ra, rc, r0, _, _, hr⟩ := hat.at_ a ha'
  have HR := Lib.hid hr
  have hgd : t.above.getD a [] = t.above[a] := getD_in _ _ _ ha'
  have HASC := Lib.hid (hf.rows a ha')
  rw [hgd] at hrow
  obtain ⟨L, hL⟩ : ∃ L, t.above[a] = L := ⟨_, rfl⟩
  rw [hL] at hrow r0 HR HASC hgd
  have HT := Lib.hid (show M.elT t a = M.elB t a ++ (if M.wr t a then [33] else []) ++ M.upL t L L.length from by unfold M.elT; rw [hgd])
  have hsz := M.elB_len hf (a : Int)
  have HEB := Lib.hid (fun x => M.elB_len hf x)
  have HUL := Lib.hid (fun k => M.upL_len hf L k)
  have heb : M.elB t (a : Int) = bl (t.elems.getD a ⟨#[]⟩) := by unfold M.elB; rw [Int.toNat_natCast]
  obtain ⟨s0, hs0⟩ : ∃ s0, t.elems.getD a ⟨#[]⟩ = s0 := ⟨_, rfl⟩
  rw [hs0] at e0 heb
  rw [heb, bl_len] at hsz
  have HEB0 := Lib.hid heb
  obtain ⟨c0, c1, c2, c3⟩ := tbBox (t := t) (p := ⟨some ⟨eb, eo, none⟩, pec, some ⟨ab, ao, none⟩, pac, some ⟨wb, wo, none⟩, pwc⟩) (box_new w (tbA t ⟨some ⟨eb, eo, none⟩, pec, some ⟨ab, ao, none⟩, pac, some ⟨wb, wo, none⟩, pwc⟩) 26)
  have n1 : (a : Int) < (t.elems.length : Int) := by omega
  have n2 : (0 : Int) ≤ (a : Int) := by omega
  have n3 : (a : Int) < (t.above.length : Int) := by omega
  have n4 : (a : Int) < (t.wrong.length : Int) := by omega
  have hsz1 : ¬ 9223372036854775807 < s0.size + 1 := by omega
  clear heat hwt hat hr hs0 hL hgd ht hf heb
  have hwr : ∃ O : ByteArray, bl O = M.elB t a ++ (if M.wr t a then [33] else []) ∧ ((t.wrong.getD a false = true ∧ O = s0 ++ ⟨#[33]⟩) ∨ (t.wrong.getD a false = false ∧ O = s0)) := by
    cases h : t.wrong.getD a false with
    | true =>
      refine ⟨s0 ++ ⟨#[33]⟩, ?_, Or.inl ⟨rfl, rfl⟩⟩
      rw [bl_cat, HEB0.out, show M.wr t a = true from h]; rfl
    | false =>
      refine ⟨s0, ?_, Or.inr ⟨rfl, rfl⟩⟩
      rw [HEB0.out, show M.wr t a = false from h]; simp
  obtain ⟨O0, hO0, hcase⟩ := hwr
  have HO0 := Lib.hid hO0
  clear hO0
  rcases hcase with ⟨hw, rfl⟩ | ⟨hw, rfl⟩
  all_goals
    rw [hw] at w0
    have HW := Lib.hid hw
    clear hw
    go_enter Try.func49, Try.ntmps49
    go_wp2_with fail
    go_loop [5, 6, 27] (fun u v i => ∃ (k : Nat) (O bf : ByteArray), k ≤ L.length ∧ i = .int .i64 k ∧ u = .string O ∧ v = .string bf ∧ Hid (bl O = M.elB t a ++ (if M.wr t a then [33] else []) ++ M.upL t L k) ∧ Hid (bl bf = M.sepU k)) (fun _ _ i => L.length - (intOf i).toNat)
    case atStart => exact ⟨0, _, _, by omega, rfl, rfl, rfl, Lib.hid (by rw [HO0.out]; simp [M.upL]), Lib.hid rfl⟩
    case round =>
      obtain ⟨k, O, bf, hk, rfl, rfl, rfl, HO, HF⟩ := hrel
      by_cases hkl : k < L.length
      · obtain ⟨lb, lo, rfl, hlat⟩ := HR.out.at hkl
        have r1 := hlat.at_ k hkl
        have hasc := HASC.out k hkl
        have hnx := M.upL_next t L k
        rw [getD_in L 0 k hkl] at hnx
        obtain ⟨x, hx⟩ : ∃ x : Nat, L[k] = (x : Int) := ⟨(L[k]).toNat, by omega⟩
        rw [hx] at r1 hasc hnx
        have hxn : x < t.elems.length := by omega
        have f0 := HEAT.out.at_ x hxn
        rw [← getD_in t.elems ⟨#[]⟩ x hxn] at f0
        have hxl := HEB.out (x : Int)
        have hbx : M.elB t (x : Int) = bl (t.elems.getD x ⟨#[]⟩) := by unfold M.elB; rw [Int.toNat_natCast]
        obtain ⟨s, hs⟩ : ∃ s, t.elems.getD x ⟨#[]⟩ = s := ⟨_, rfl⟩
        rw [hs] at f0 hbx
        rw [hbx] at hxl hnx
        have hul := HUL.out k
        have hol : O.size ≤ 13 + 14 * k := by
          rw [← bl_len, HO.out, List.length_append, List.length_append]
          have h3 : (if M.wr t a then ([33] : List UInt8) else []).length ≤ 1 := by split <;> simp
          have h4 := HEB.out (a : Int)
          omega
        have hfl : bf.size = 2 := by rw [← bl_len, HF.out, M.sepU_len]
        rw [bl_len] at hxl
        have z1 : ¬ 9223372036854775807 < bf.size + s.size := by omega
        have z2 : ¬ 9223372036854775807 < O.size + (bf ++ s).size := by rw [ByteArray.size_append]; omega
        have z3 : ¬ 9223372036854775807 < O.size + (bf.size + s.size) := by omega
        have m1 : (k : Int) < (L.length : Int) := by omega
        have m2 : (0 : Int) ≤ (k : Int) := by omega
        have m3 : (x : Int) < (t.elems.length : Int) := by omega
        have m4 : (0 : Int) ≤ (x : Int) := by omega
        have HN := Lib.hid (show bl (O ++ (bf ++ s)) = M.elB t a ++ (if M.wr t a then [33] else []) ++ M.upL t L (k + 1) from by
          rw [bl_cat, bl_cat, HO.out, HF.out, hnx]; simp only [List.append_assoc])
        have HS := Lib.hid (show bl (⟨#[44, 32]⟩ : ByteArray) = M.sepU (k + 1) from by unfold M.sepU; rw [if_neg (by omega)])
        clear hlat hasc hnx hx hs hbx hul hol hfl hxl
        go_wp2_with fail
        go_round
        case rel => exact ⟨k + 1, _, _, by omega, by go_num, rfl, rfl, HN, HS⟩
        case measure => simp [intOf]; omega
      · obtain rfl : k = L.length := by omega
        have m1 : decide ((L.length : Int) < (L.length : Int)) = false := decide_eq_false (by omega)
        go_wp2_with fail
        go_ret
        exact ⟨ret_bs (by rw [HO.out, HT.out]), HB0.out⟩
end Go.Proofs.Ytlpindnbkgaplaa
