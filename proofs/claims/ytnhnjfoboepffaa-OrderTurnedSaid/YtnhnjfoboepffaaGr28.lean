/- Texts of one's own, joined: OrdAa. -/
import Derived.Test.YtnhnjfoboepffaaGr14
import Derived.Test.YtnhnjfoboepffaaGr16
import Derived.Test.YtnhnjfoboepffaaGr24
namespace Go.Proofs.Ytnhnjfoboepffaa
open Go.RowKit Go.Shelf

theorem M.comes_stB (t : M.Tb) (a : Nat) : (!M.allN (fun i => !(M.know t ((t.above.getD a []).getD i 0).toNat).testBit a) (t.above.getD a []).length) = M.stB t a a := by
  unfold M.allN M.stB M.leB
  obtain ⟨l, hl⟩ : ∃ l, t.above.getD a [] = l := ⟨_, rfl⟩
  rw [hl, Bool.eq_iff_iff, Bool.not_eq_true', List.all_eq_false, List.any_eq_true]
  constructor
  · rintro ⟨i, hi, h⟩
    have hi' := List.mem_range.1 hi
    rw [getD_in _ _ _ hi'] at h
    exact ⟨l[i], List.getElem_mem hi', by simpa using h⟩
  · rintro ⟨x, hx, h⟩
    obtain ⟨i, hi, rfl⟩ := List.getElem_of_mem hx
    refine ⟨i, List.mem_range.2 hi, ?_⟩
    rw [getD_in _ _ _ hi]
    simp [h]
theorem row_short {t : M.Tb} (hf : M.form t) {a : Nat} (ha : a < t.elems.length) : (t.above.getD a []).length ≤ 12 := by
  have ha' : a < t.above.length := by rw [hf.above]; exact ha
  rw [getD_in _ _ _ ha']
  have h := hf.rows a ha'
  have hall : ∀ j, (hj : j < t.above[a].length) → (j : Int) ≤ t.above[a][j] := fun j => by
    induction j with
    | zero => intro hj; exact (h 0 hj).1
    | succ j ih =>
      intro hj
      have h1 := ih (by omega)
      have h2 := (h (j + 1) hj).2.2 (by omega)
      have h3 : t.above[a][j] < t.above[a][j + 1] := h2
      omega
  rcases Nat.lt_or_ge 12 t.above[a].length with q | q
  · have h1 := hall 12 q
    have h2 := (h 12 q).2.1
    have := hf.twelve
    omega
  · exact q
/-- Between two rounds over pairs: all those that have come have joins. -/
def BrI (t : M.Tb) (w2 : World) (pre : List (Prs t.elems.length)) (W : World) : Prop := (∀ x, x ∈ pre → M.jn t x.1.1 x.1.2 ≠ none) ∧ Below w2.heap.size w2 W
theorem brI_own (t : M.Tb) (w2 : World) : OwnFrom w2.heap.size (BrI t w2) := fun _ _ _ _ hs hg hr => ⟨hs.1, hs.2.grown hg hs.2.size (fun k e => (hr k e).1)⟩
/-- When a pair without a join has come. -/
def BrIx (t : M.Tb) (w2 : World) (B : Nat) (c : Code) (pre : List (Prs t.elems.length)) (W : World) : Prop :=
  c = .ret ∧ ∃ pr x, pre = pr ++ [x] ∧ (∀ y, y ∈ pr → M.jn t y.1.1 y.1.2 ≠ none) ∧ M.jn t x.1.1 x.1.2 = none ∧ W.cell? ⟨B, 0, none⟩ = some (.int .u8 (M.kindM t x.1.1 x.1.2)) ∧ W.cell? ⟨B, 1, none⟩ = some (.int .i64 x.1.1) ∧ W.cell? ⟨B, 2, none⟩ = some (.int .i64 x.1.2) ∧ Below B w2 W
theorem brIx_own (t : M.Tb) (w2 : World) (B N : Nat) (c : Code) (hB : B < N) (hN : N ≤ w2.heap.size) : OwnFrom N (BrIx t w2 B c) := by
  rintro s W W' row ⟨h0, pr, x, h1, h2, h3, c0, c1, c2, hb⟩ hg hr
  have hlt : B < W.heap.size := Nat.lt_of_lt_of_le hB (Nat.le_trans hN hb.size)
  have hk := hg.block B hlt (fun e => by have := (hr B e.symm).1; omega)
  exact ⟨h0, pr, x, h1, h2, h3, (World.cell?_of_block hk).trans c0, (World.cell?_of_block hk).trans c1, (World.cell?_of_block hk).trans c2, hb.grown hg (by omega) (fun k e => by have := (hr k e).1; omega)⟩

theorem postM_ret {F : Fence} {n : Nat} {P : Program} {fn : Func} {R : Ending → World → Prop} {tmps : Array Value} {W : World} {v : Value} (hr : (results fn tmps).run P W = .ok v W) (hR : R (.returned v) W) : bodyPostM F n P fn R .ret { tmps := tmps, defers := [] } W := ⟨v, hr, hR⟩

theorem keeps_below {W W' : World} (h : Below W.heap.size W W') : KeepsOthers W W' := ⟨h.size, fun k o hk _ => by rw [h.block k (Array.getElem?_eq_some_iff.1 hk).1]; exact hk⟩
theorem below_putO (B : Nat) (W : World) (l : Nat) (o : Obj) (h : B ≤ l) : Below B W (W.putObj l o) := ⟨rfl, rfl, rfl, by simp, fun k hk => World.putObj_heap_other (by omega)⟩
/-- Behind a loop over a function: its rounds' deferred calls are none; a result of three cells is read. -/
theorem mark_end3 {n B : Nat} {w U : World} {D : Nat} {tmps : Array Value} {r0 r1 r2 v : Value} {fn : Func} {Rr : Value}
    (hB : Below w.heap.size w U) (h1 : w.heap.size ≤ D) (h2 : B < D) (d : U.heap[D]? = some (.deferred (some [])))
    (u0 : U.cell? ⟨B, 0, none⟩ = some r0) (u1 : U.cell? ⟨B, 1, none⟩ = some r1) (u2 : U.cell? ⟨B, 2, none⟩ = some r2)
    (hr : ∀ V : World, V.cell? ⟨B, 0, none⟩ = some r0 → V.cell? ⟨B, 1, none⟩ = some r1 → V.cell? ⟨B, 2, none⟩ = some r2 → (results fn tmps).run Try.prog V = .ok v V)
    (hv : v = Rr) :
    bodyPostM Fence.wide n Try.prog fn (fun e w' => e = .returned Rr ∧ Below w.heap.size w w') .ret { tmps := tmps, defers := [{ target := .collected D, args := #[] }] } U := by
  have hc : ∀ j, (U.putObj D (.deferred none)).cell? ⟨B, j, none⟩ = U.cell? ⟨B, j, none⟩ := fun j => World.cell?_of_block (w := U) (a := ⟨B, j, none⟩) (World.putObj_heap_other (by show B ≠ D; omega))
  refine ⟨by simp, .inl ⟨_, _, rfl, run_takeDeferred d, ?_⟩⟩
  exact ⟨v, hr _ ((hc _).trans u0) ((hc _).trans u1) ((hc _).trans u2), by rw [hv], hB.trans (below_putO _ _ _ _ h1)⟩
theorem wrong_brk {t : M.Tb} (hn : M.noBrk t) {w w' : World} {e : Ending} (h12 : t.elems.length ≤ 12) (h : WrongPost t (M.know t) w e w') : e = .returned (brkV (M.brk t)) ∧ Below w.heap.size w w' := by
  obtain ⟨⟨h0, rfl⟩ | ⟨h0, a, b, ha, hb, hw, hl, hnw, h1, h2, rfl⟩ | ⟨h0, h1, rfl⟩, hB⟩ := h
  · exact ⟨by rw [M.brk_zero hn h0]; rfl, hB⟩
  · refine ⟨?_, hB⟩
    rw [M.brk_wrong hn h0 ha hb hw hnw hl (fun a' ha' b' hb' q1 q2 => h1 a' ha' q1 b' (by omega) q2) (fun b' hb' q => h2 b' hb' q)]
    rfl
  · refine ⟨?_, hB⟩
    rw [M.brk_ok hn h0 (fun a ha b hb q1 q2 => h1 a ha q1 b (by omega) q2)]
    rfl
theorem kind_ne (t : M.Tb) (a b : Nat) : ((M.kindM t a b : Nat) : Int) ≠ 0 := by unfold M.kindM; split <;> decide

attribute [local go_sem] Oper.semAt_some

set_option maxHeartbeats 8000000 in
set_option maxRecDepth 100000 in
theorem breakOf_any (t : M.Tb) (p : Tp) (w : World) (ht : TbIn w t p) (hf : M.form t) :
    Calls Try.prog 42 #[knV t p (M.know t)] w fun e w' => e = .returned (brkV (M.brk t)) ∧ Below w.heap.size w w' := by
  have h12 := hf.twelve
  have hone := hf.one
  have HF := Lib.hid hf
  have hBB : Below w.heap.size w ((w.alloc (.cells (knA t p (M.know t)) 62)).alloc (.cells br0 45)) := belowA (below1 _ _) _
  have HT := Lib.hid (ht.below hBB)
  have HK := Lib.hid ((knBox (t := t) (p := p) (r := M.know t) (box_new w (knA t p (M.know t)) 62)).below (below1 _ (.cells br0 45)))
  have HZ := Lib.hid (z3_of (box_last w (.cells (knA t p (M.know t)) 62) br0 45))
  have HBB := Lib.hid hBB
  have HKL := Lib.hid (M.know_lt hf)
  clear ht hf hBB
  obtain ⟨W0, hW0⟩ : ∃ W0, (w.alloc (.cells (knA t p (M.know t)) 62)).alloc (.cells br0 45) = W0 := ⟨_, rfl⟩
  have hz0 : w.heap.size + 2 ≤ W0.heap.size := by rw [← hW0]; simp
  rw [hW0] at HT HK HZ HBB
  have k1 := HK.out.c1
  refine (callsIn_wide (n := 9)).1 ?_
  refine callsIn_of_wp_marks Try.func42 rfl trivial ?_ rfl
  simp only [Try.ntmps42, List.size_toArray, List.length_cons, List.length_nil, Nat.reduceAdd, Nat.reduceSub, Array.replicate_succ, Array.replicate_zero, List.push_toArray, List.append_toArray, List.nil_append, List.cons_append]
  gi_wp2_with fail
  clear hW0 k1
  gi_loopw [13] (fun i wr => ∃ k : Nat, k ≤ t.elems.length ∧ i = .int .i64 k ∧ Hid (∀ j, j < k → M.stB t j j = false) ∧ Below W0.heap.size W0 wr) (fun i _ => t.elems.length - (intOf i).toNat)
  case atStart => exact ⟨0, by omega, rfl, Lib.hid (fun j hj => by omega), Below.refl _ _⟩
  case round =>
    rename_i wr
    obtain ⟨k, hk, rfl, H1, hB⟩ := hrel
    obtain ⟨x0, x1, x2, x3, xm, _⟩ := HK.out.below hB
    by_cases hkl : k < t.elems.length
    · have n1 : (k : Int) < (t.elems.length : Int) := by omega
      have z0 := xm 0 (by omega)
      have z1 := xm 1 (by omega)
      have z2 := xm 2 (by omega)
      have z3 := xm 3 (by omega)
      have z4 := xm 4 (by omega)
      have z5 := xm 5 (by omega)
      have z6 := xm 6 (by omega)
      have z7 := xm 7 (by omega)
      have z8 := xm 8 (by omega)
      have z9 := xm 9 (by omega)
      have z10 := xm 10 (by omega)
      have z11 := xm 11 (by omega)
      clear xm
      have hcall := comesBack_any t p k wr (HT.out.below hB) HF.out hkl (Nat.le_trans (row_short HF.out hkl) (by omega))
      rw [M.comes_stB] at hcall
      have HC := Lib.hid hcall
      clear hcall
      gi_wp2_with fail
      refine ⟨trivial, callsIn_wide.2 (HC.out.mono ?_)⟩
      rintro e w1 ⟨rfl, hB1⟩
      have hB2 := below2 hB hB1
      clear hB1 x0 x1 x2 x3 z0 z1 z2 z3 z4 z5 z6 z7 z8 z9 z10 z11
      cases hs : M.stB t k k with
      | true =>
        have HS := Lib.hid hs
        clear hs
        obtain ⟨r0, r1, r2, g0, g1, g2⟩ := HZ.out.below hB2 (by omega)
        obtain ⟨q0, q1, q2⟩ := set3_at w1 (w.heap.size + 1) (.int .u8 1) (.int .i64 k) (.int .i64 0) _ _ _ r0 r1 r2
        have hBU := below_set3 (W := w1) (R := w.heap.size + 1) (HBB.out.trans (hB2.mono (by omega))) (by omega) (.int .u8 1) (.int .i64 k) (.int .i64 0)
        have HRES := Lib.hid (M.brk_cycle hkl HS.out H1.out)
        gi_wp2_with fail
        exact postM_ret (v := .agg #[.int .u8 1, .int .i64 k, .int .i64 0]) (by simp [results, Try.results42, go_sem, q0, q1, q2]) ⟨by rw [HRES.out]; rfl, hBU⟩
      | false =>
        have HN := Lib.hid (show ∀ j, j < k + 1 → M.stB t j j = false from fun j hj => by
          rcases Nat.lt_succ_iff_lt_or_eq.1 hj with h | rfl
          · exact H1.out j h
          · exact hs)
        clear hs
        gi_wp2_with fail
        exact ⟨⟨k + 1, by omega, by go_num, HN, hB2⟩, by simp [intOf]; omega⟩
    · obtain rfl : k = t.elems.length := by omega
      have m1 : decide ((t.elems.length : Int) < (t.elems.length : Int)) = false := decide_eq_false (by omega)
      clear xm
      gi_wp2_with fail
      gi_loopw [26] (fun i wr => ∃ k : Nat, k ≤ t.elems.length ∧ i = .int .i64 k ∧ Hid (∀ j, j < k → M.leB t 0 j = true) ∧ Below W0.heap.size W0 wr) (fun i _ => t.elems.length - (intOf i).toNat)
      case atStart => exact ⟨0, by omega, rfl, Lib.hid (fun j hj => by omega), hB⟩
      case round =>
        clear hB x0 x1 x2 x3
        rename World => wr
        obtain ⟨k, hk, rfl, H2, hB⟩ := hrel
        by_cases hkl : k < t.elems.length
        · have n1 : (k : Int) < (t.elems.length : Int) := by omega
          have z0 := (HK.out.below hB).m 0 (by omega)
          have HC := Lib.hid (has_any (M.know t 0) k wr (Nat.lt_trans (HKL.out 0) (by omega)) (by omega))
          gi_wp2_with fail
          refine ⟨trivial, callsIn_wide.2 (HC.out.mono ?_)⟩
          rintro e w1 ⟨rfl, rfl⟩
          clear z0
          cases hs : (M.know t 0).testBit k with
          | false =>
            have HS := Lib.hid (show M.leB t 0 k = false from hs)
            clear hs
            obtain ⟨r0, r1, r2, g0, g1, g2⟩ := HZ.out.below hB (by omega)
            obtain ⟨q0, q1, q2⟩ := set3_at wr (w.heap.size + 1) (.int .u8 2) (.int .i64 k) (.int .i64 0) _ _ _ r0 r1 r2
            have hBU := below_set3 (W := wr) (R := w.heap.size + 1) (HBB.out.trans (hB.mono (by omega))) (by omega) (.int .u8 2) (.int .i64 k) (.int .i64 0)
            have HRES := Lib.hid (M.brk_base H1.out hkl HS.out H2.out)
            gi_wp2_with fail
            exact postM_ret (v := .agg #[.int .u8 2, .int .i64 k, .int .i64 0]) (by simp [results, Try.results42, go_sem, q0, q1, q2]) ⟨by rw [HRES.out]; rfl, hBU⟩
          | true =>
            have HN := Lib.hid (show ∀ j, j < k + 1 → M.leB t 0 j = true from fun j hj => by
              rcases Nat.lt_succ_iff_lt_or_eq.1 hj with h | rfl
              · exact H2.out j h
              · exact hs)
            clear hs
            gi_wp2_with fail
            exact ⟨⟨k + 1, by omega, by go_num, HN, hB⟩, by simp [intOf]; omega⟩
        · obtain rfl : k = t.elems.length := by omega
          obtain ⟨x0, x1, x2, x3, xm, _⟩ := HK.out.below hB
          have z0 := xm 0 (by omega)
          have z1 := xm 1 (by omega)
          have z2 := xm 2 (by omega)
          have z3 := xm 3 (by omega)
          have z4 := xm 4 (by omega)
          have z5 := xm 5 (by omega)
          have z6 := xm 6 (by omega)
          have z7 := xm 7 (by omega)
          have z8 := xm 8 (by omega)
          have z9 := xm 9 (by omega)
          have z10 := xm 10 (by omega)
          have z11 := xm 11 (by omega)
          clear xm
          gi_wp2_with fail
          refine ⟨trivial, callsIn_wide.2 ((pairs_any t p (M.know t) _).mono ?_)⟩
          rintro e w2 ⟨rfl, hw2⟩
          clear x0 x1 x2 x3 z0 z1 z2 z3 z4 z5 z6 z7 z8 z9 z10 z11
          gi_wp2_with fail
          rw [← hw2]
          have hz2 : w2.heap.size = wr.heap.size + 1 := by rw [hw2]; simp
          have HK2 := Lib.hid (show KnBox w2 wr.heap.size t p (M.know t) from by rw [hw2]; exact knBox (box_new wr (knA t p (M.know t)) 62))
          have hB2 : Below W0.heap.size W0 w2 := below2 hB (by rw [hw2]; exact below1 _ _)
          have hwr := hB.size
          clear hw2
          refine wpIn_rangeFunc_ownF (α := Prs t.elems.length) rfl (by omega) (gf := 90) (lb := #[.pointer (some ⟨wr.heap.size, 0, none⟩)]) rfl trivial enters_pairs1
            (pairs_stops 8 wr.heap.size t p (M.know t) w2 (by omega) h12 (by omega) HK2.out) (fun h k => ⟨Nat.le_trans h.1 k.1, k.2.trans h.2⟩) (fun W l o o' hl ho _ _ => ⟨by simp, World.putObj_heap_other (by omega)⟩) (Below.refl _ _) (fun _ => rfl)
            (BrI t w2) (BrIx t w2 (w.heap.size + 1)) (brI_own t w2) (fun c => brIx_own t w2 _ _ c (by omega) (Nat.le_refl _)) ⟨fun x hx => by simp at hx, Below.refl _ _⟩
            (fun x => { tmps := #[knV t p (M.know t), .pointer (some ⟨w.heap.size, 0, none⟩), .pointer (some ⟨w.heap.size + 1, 0, none⟩), u3, u4, .int .i64 x.1.1, .int .i64 x.1.2, undef, undef,
              .pointer (some ⟨w.heap.size, 0, none⟩), .pointer (some ⟨w.heap.size, 1, none⟩), .slice p.ea t.elems.length p.ec, .int .i64 t.elems.length, .int .i64 t.elems.length, .bool false, u15, u16, u17, u18, u19, u20, u21,
              .pointer (some ⟨w.heap.size, 0, none⟩), .pointer (some ⟨w.heap.size, 1, none⟩), .slice p.ea t.elems.length p.ec, .int .i64 t.elems.length, .int .i64 t.elems.length, .bool false, u28, u29, u30, u31, u32, u33, u34, u35, u36, u37,
              knV t p (M.know t), .func (.func 90) #[] #[.pointer (some ⟨wr.heap.size, 0, none⟩)], .int .i64 x.1.1, .int .i64 x.1.2, undef, undef, undef, undef, undef, undef, undef, undef, undef, undef, undef, undef, undef, undef, undef], defers := [] })
            ?assign ?body ?done ?stop
          case assign =>
            intro l x W K hK
            gi_wp2_with fail
            exact hK
          case body =>
            rintro l pre ⟨⟨a, b⟩, hab, hbn⟩ W ⟨hne, hBW⟩ hlen
            dsimp only at hab hbn ⊢
            have hB3 := below2 hB2 hBW
            have hWz := hBW.size
            obtain ⟨x0, x1, x2, x3, xm, _⟩ := HK.out.below hB3
            have z0 := xm 0 (by omega)
            have z1 := xm 1 (by omega)
            have z2 := xm 2 (by omega)
            have z3 := xm 3 (by omega)
            have z4 := xm 4 (by omega)
            have z5 := xm 5 (by omega)
            have z6 := xm 6 (by omega)
            have z7 := xm 7 (by omega)
            have z8 := xm 8 (by omega)
            have z9 := xm 9 (by omega)
            have z10 := xm 10 (by omega)
            have z11 := xm 11 (by omega)
            clear xm
            have hcall := join_any t p (M.know t) a b W HKL.out h12 (by omega) (by omega)
            rw [M.joinM_jn HF.out (show a < t.elems.length by omega) hbn] at hcall
            cases hj : M.jn t a b with
            | some c =>
              rw [hj] at hcall
              dsimp only at hcall
              have HC := Lib.hid hcall
              have HNE := Lib.hid (show ∀ x, x ∈ pre ++ [(⟨(a, b), hab, hbn⟩ : Prs t.elems.length)] → M.jn t x.1.1 x.1.2 ≠ none from fun x hx => by
                rcases List.mem_append.1 hx with h | h
                · exact hne x h
                · have : x = ⟨(a, b), hab, hbn⟩ := by simpa using h
                  subst this; show M.jn t a b ≠ none; rw [hj]; simp)
              clear hcall hj hne
              gi_wp2_with fail
              refine ⟨trivial, CallsIn.inRound l (callsIn_wide.2 (HC.out.mono ?_))⟩
              rintro e w3 ⟨rfl, hB4⟩
              clear x0 x1 x2 x3 z0 z1 z2 z3 z4 z5 z6 z7 z8 z9 z10 z11
              have HE := Lib.hid (show KeepsOthers W w3 ∧ KeepB wr.heap.size W w3 ∧ BrI t w2 (pre ++ [(⟨(a, b), hab, hbn⟩ : Prs t.elems.length)]) w3 from
                ⟨keeps_below hB4, ⟨hB4.size, hB4.block _ (by omega)⟩, HNE.out, hBW.trans (hB4.mono hWz)⟩)
              gi_wp2_with fail
              exact HE.out
            | none =>
              rw [hj] at hcall
              dsimp only at hcall
              have HC := Lib.hid hcall
              have HJ := Lib.hid hj
              have HNE := Lib.hid hne
              have k1 : (((M.kindM t a b : Nat) : Int) == 0) = false := by rw [beq_eq_false_iff_ne]; exact kind_ne t a b
              have k2 : (((M.kindM t a b : Nat) : Int) != 0) = true := by rw [bne_iff_ne]; exact kind_ne t a b
              clear hcall hj hne
              gi_wp2_with fail
              refine ⟨trivial, CallsIn.inRound l (callsIn_wide.2 (HC.out.mono ?_))⟩
              rintro e w3 ⟨rfl, hB4⟩
              clear x0 x1 x2 x3 z0 z1 z2 z3 z4 z5 z6 z7 z8 z9 z10 z11
              have hB5 := below2 hB3 hB4
              obtain ⟨r0, r1, r2, g0, g1, g2⟩ := HZ.out.below hB5 (by omega)
              obtain ⟨q0, q1, q2⟩ := set3_at w3 (w.heap.size + 1) (.int .u8 (M.kindM t a b)) (.int .i64 a) (.int .i64 b) _ _ _ r0 r1 r2
              have HE := Lib.hid (show KeepsOthers W (((w3.setCell ⟨w.heap.size + 1, 0, none⟩ (.int .u8 (M.kindM t a b))).setCell ⟨w.heap.size + 1, 1, none⟩ (.int .i64 a)).setCell ⟨w.heap.size + 1, 2, none⟩ (.int .i64 b)) ∧
                  BrIx t w2 (w.heap.size + 1) .ret (pre ++ [(⟨(a, b), hab, hbn⟩ : Prs t.elems.length)]) (((w3.setCell ⟨w.heap.size + 1, 0, none⟩ (.int .u8 (M.kindM t a b))).setCell ⟨w.heap.size + 1, 1, none⟩ (.int .i64 a)).setCell ⟨w.heap.size + 1, 2, none⟩ (.int .i64 b)) from
                ⟨(keeps_below hB4).trans (((KeepsOthers.setCell _ _ _).trans (KeepsOthers.setCell _ _ _)).trans (KeepsOthers.setCell _ _ _)), rfl, pre, ⟨(a, b), hab, hbn⟩, rfl, HNE.out, HJ.out, q0, q1, q2,
                  ((((hBW.trans (hB4.mono hWz)).mono (show w.heap.size + 1 ≤ w2.heap.size by omega)).setCell (p := ⟨w.heap.size + 1, 0, none⟩) (Nat.le_refl _) _).setCell (p := ⟨w.heap.size + 1, 1, none⟩) (Nat.le_refl _) _).setCell (p := ⟨w.heap.size + 1, 2, none⟩) (Nat.le_refl _) _⟩)
              gi_wp2_with fail
              exact HE.out
          case done =>
            rintro D xs W hD hxs ⟨hne, hBW⟩ hDef
            have hnb : M.noBrk t := ⟨H1.out, H2.out, fun a ha b hab hb => by
              have hm : (a, b) ∈ xs.map (·.1) := by rw [hxs]; exact M.mem_prs.2 ⟨hab, hb⟩
              obtain ⟨y, hy, e⟩ := List.mem_map.1 hm
              have := hne y hy
              rw [e] at this; exact this⟩
            have HNB := Lib.hid hnb
            have HDEF := Lib.hid hDef
            clear hnb hDef hxs hne
            have hB3 := below2 hB2 hBW
            obtain ⟨x0, x1, x2, x3, xm, _⟩ := HK.out.below hB3
            have z0 := xm 0 (by omega)
            have z1 := xm 1 (by omega)
            have z2 := xm 2 (by omega)
            have z3 := xm 3 (by omega)
            have z4 := xm 4 (by omega)
            have z5 := xm 5 (by omega)
            have z6 := xm 6 (by omega)
            have z7 := xm 7 (by omega)
            have z8 := xm 8 (by omega)
            have z9 := xm 9 (by omega)
            have z10 := xm 10 (by omega)
            have z11 := xm 11 (by omega)
            clear xm
            gi_wp2_with fail
            refine ⟨trivial, callsIn_wide.2 ((wrongBreak_any t p W (HT.out.below hB3) HF.out).mono ?_)⟩
            intro e w3 hw
            obtain ⟨rfl, hB4⟩ := wrong_brk HNB.out h12 hw
            clear hw x0 x1 x2 x3 z0 z1 z2 z3 z4 z5 z6 z7 z8 z9 z10 z11
            have hB5 := below2 hB3 hB4
            obtain ⟨r0, r1, r2, g0, g1, g2⟩ := HZ.out.below hB5 (by omega)
            obtain ⟨q0, q1, q2⟩ := set3_at w3 (w.heap.size + 1) (.int .u8 (M.brk t).1) (.int .i64 (M.brk t).2.1) (.int .i64 (M.brk t).2.2) _ _ _ r0 r1 r2
            have hBU := below_set3 (W := w3) (R := w.heap.size + 1) (HBB.out.trans (hB5.mono (by omega))) (by omega) (.int .u8 (M.brk t).1) (.int .i64 (M.brk t).2.1) (.int .i64 (M.brk t).2.2)
            have hDlt : D < W.heap.size := (Array.getElem?_eq_some_iff.1 HDEF.out).1
            have hd : (((w3.setCell ⟨w.heap.size + 1, 0, none⟩ (.int .u8 (M.brk t).1)).setCell ⟨w.heap.size + 1, 1, none⟩ (.int .i64 (M.brk t).2.1)).setCell ⟨w.heap.size + 1, 2, none⟩ (.int .i64 (M.brk t).2.2)).heap[D]? = some (.deferred (some [])) := by
              rw [Below.heap_setCell _ _ _ _ (by show D ≠ w.heap.size + 1; omega), Below.heap_setCell _ _ _ _ (by show D ≠ w.heap.size + 1; omega), Below.heap_setCell _ _ _ _ (by show D ≠ w.heap.size + 1; omega), hB4.block D hDlt]
              exact HDEF.out
            have HD := Lib.hid hd
            clear hd
            gi_wp2_with fail
            exact mark_end3 (v := brkV (M.brk t)) hBU (by omega) (by omega) HD.out q0 q1 q2 (fun V v0 v1 v2 => by simp [results, Try.results42, go_sem, v0, v1, v2]) rfl
          case stop =>
            rintro D c pre W hD hp ⟨rfl, pr, ⟨⟨a, b⟩, hab, hbn⟩, rfl, hne, hno, c0, c1, c2, hb⟩ hDef
            dsimp only at hab hbn hno c0 c1 c2
            rw [List.map_append] at hp
            have hbef : ∀ y : Nat × Nat, y.1 < y.2 → y.2 < t.elems.length → M.lexB y (a, b) → M.jn t y.1 y.2 ≠ none := fun y h1 h2 h3 => by
              have hm := M.prs_before hp (M.mem_prs.2 ⟨h1, h2⟩) h3
              obtain ⟨z, hz, e⟩ := List.mem_map.1 hm
              have := hne z hz
              rw [e] at this; exact this
            have HRES := Lib.hid (M.brk_pair H1.out H2.out hab hbn hno (fun a' ha' b' h1 h2 => hbef (a', b') h1 h2 (Or.inl ha')) (fun b' h1 h2 => hbef (a, b') h1 (by show b' < t.elems.length; omega) (Or.inr ⟨rfl, h2⟩)))
            have HDEF := Lib.hid hDef
            have hBf : Below w.heap.size w W := HBB.out.trans ((hB2.mono (by omega)).trans (hb.mono (by omega)))
            clear hp hbef hDef hne hno
            gi_wp2_with fail
            exact mark_end3 (v := .agg #[.int .u8 (M.kindM t a b), .int .i64 a, .int .i64 b]) hBf (by omega) (by omega) HDEF.out c0 c1 c2 (fun V v0 v1 v2 => by simp [results, Try.results42, go_sem, v0, v1, v2]) (by rw [HRES.out])
end Go.Proofs.Ytnhnjfoboepffaa
