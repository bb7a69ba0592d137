/- DERIVED. The statement's own table in another order, walked. -/
import Derived.Test.YtnhnjfoboepffaaOrdGbC
import Derived.Test.YtnhnjfoboepffaaGr8
import Derived.Test.YtnhnjfoboepffaaBasNC
namespace Go.Proofs.Ytnhnjfoboepffaa
open Go.RowKit

/-- The first numbers as cells. -/
def rngC (k : Nat) : List Value := intCells (nats (List.range k))
theorem rngC_next (k : Nat) : rngC (k + 1) = rngC k ++ [.int .i64 (k : Nat)] := by unfold rngC intCells nats; rw [List.range_succ, List.map_append, List.map_append]; rfl
theorem own_nmb {w : World} {base : Nat} {v : Value} {n : Nat} (h : w.ownsRow base 3 1 v n (rngC n)) (hn : 1 ≤ n) : ∃ g c, v = .slice (some ⟨g, 0, none⟩) n c ∧ base ≤ g ∧ g < w.heap.size ∧ NmB w g n (fun i => i) := by
  rcases h.2 with ⟨_, h0⟩ | ⟨g, cap, cur, rfl, hb, hg, hn', hm, hs, ht⟩
  · omega
  · refine ⟨g, cap, rfl, hb, heap_lt hg, fun i hi => ⟨?_, Lib.frozen_of_heap hg i⟩⟩
    have hc : (rngC n)[i]? = some (.int .i64 (i : Nat)) := by
      unfold rngC intCells
      rw [List.getElem?_map, List.getElem?_map, List.getElem?_range hi]; rfl
    simp only [World.cell?, hg]
    rw [← ht, List.getElem?_take, if_pos (by omega)] at hc
    simpa using hc
theorem own_alloc_q {w w' : World} {base : Nat} {e : TypeId} {size : Nat} {v : Value} {n : Nat} {xs : List Value} {o : Obj} (h : w.ownsRow base e size v n xs) (hw : w'.heap = w.heap) : (w'.alloc o).ownsRow base e size v n xs := by
  have h2 : w'.ownsRow base e size v n xs := by unfold World.ownsRow; rw [hw]; exact h
  exact h2.alloc o
theorem below_alloc_q {B : Nat} {w0 w w' : World} (h : Below B w0 w) (h1 : w'.heap = w.heap) (h2 : w'.os = w.os) (h3 : w'.tape = w.tape) (h4 : w'.output = w.output) (hB : B ≤ w.heap.size) (o : Obj) : Below B w0 (w'.alloc o) := by
  have h5 : Below B w0 w' := ⟨by rw [h2]; exact h.os, by rw [h3]; exact h.tape, by rw [h4]; exact h.output, by rw [h1]; exact h.size, fun k hk => by rw [h1]; exact h.block k hk⟩
  exact h5.alloc (by rw [h1]; exact hB) o
theorem NmB.congr {w : World} {B n : Nat} {f g : Nat → Nat} (h : NmB w B n f) (e : ∀ i, i < n → f i = g i) : NmB w B n g := fun i hi => by rw [← e i hi]; exact h i hi

set_option maxHeartbeats 32000000 in
set_option maxRecDepth 100000 in
theorem turned_any (t : M.Tb) (p : Tp) (y : Option Addr) (c : Nat) (l : List (Fin 256)) (w : World) (hf : M.form t) (ht : TbIn w t p) (hy : CelSl bytV w y l) : Calls Try.prog 19 #[tbV t p, .slice y l.length c] w (TurnPost t w) := by
  have hmx : Try.prog.follows .mixedOrders = true := by kernel_rfl
  obtain ⟨i0, hi, hz0, hz1, hz2⟩ := info_parts intInfo
  have HI := Lib.hid (And.intro hi (And.intro hz0 (And.intro hz1 hz2)))
  obtain ⟨t0, hti, htz, hts, _⟩ := info_parts tabInfo
  have HTI := Lib.hid (And.intro hti (And.intro htz hts))
  obtain ⟨s0, hs, hs0, hs1, hs2⟩ := info_parts strInfo
  have HIS0 := Lib.hid (And.intro hs (And.intro hs0 (And.intro hs1 hs2)))
  obtain ⟨b0, hb, hb0, hb1, hb2⟩ := info_parts boolInfo
  have HIB := Lib.hid (And.intro hb (And.intro hb0 (And.intro hb1 hb2)))
  obtain ⟨r0, hrr, hr0, hr1, hr2⟩ := info_parts intsInfo
  have HIR := Lib.hid (And.intro hrr (And.intro hr0 (And.intro hr1 hr2)))
  clear hs hs0 hs1 hs2 hb hb0 hb1 hb2 hrr hr0 hr1 hr2
  have hBB : Below w.heap.size w ((w.alloc (.cells (tbA t p) 26)).alloc (.cells tb0 26)) := belowA (below1 _ _) _
  have HX := Lib.hid ((tbBox (t := t) (p := p) (box_new w (tbA t p) 26)).below (below1 _ (.cells tb0 26)))
  have HO := Lib.hid (box_last w (.cells (tbA t p) 26) tb0 26)
  have HT := Lib.hid (ht.below hBB)
  have HY := Lib.hid (hy.below hBB)
  have HBB := Lib.hid hBB
  have HF := Lib.hid hf
  have h12 := hf.twelve
  have hone := hf.one
  have hmk := make_ints t.elems.length (by omega)
  obtain ⟨c0, c1, c2, c3⟩ := HX.out
  clear ht hy hi hz0 hz1 hz2 hti htz hts hBB hf
  go_enter Try.func19, Try.ntmps19
  go_wp2_with fail
  generalize hW0 : (w.alloc (.cells (tbA t p) 26)).alloc (.cells tb0 26) = W0 at *
  have HZ0 := Lib.hid (show W0.heap.size = w.heap.size + 1 + 1 by rw [← hW0, World.size_alloc, World.size_alloc])
  clear hW0 c0 c1 c2 c3
  have HO0 := Lib.hid (show W0.ownsRow W0.heap.size 3 1 (.slice none 0 0) 0 (rngC 0) from ⟨rfl, Or.inl ⟨rfl, rfl⟩⟩)
  go_loopw [7, 9] (fun v i wr => ∃ k : Nat, k ≤ t.elems.length ∧ i = .int .i64 k ∧ Hid (wr.ownsRow W0.heap.size 3 1 v k (rngC k)) ∧ Hid (Below W0.heap.size W0 wr)) (fun _ i _ => t.elems.length - (intOf i).toNat)
  case atStart => exact ⟨0, by omega, rfl, HO0, Lib.hid (Below.refl _ _)⟩
  case round =>
    clear HO0
    rename World => wr
    obtain ⟨k, hk, rfl, HOw, HB⟩ := hrel
    have hzr := HB.out.size
    by_cases hkl : k < t.elems.length
    · have k1 : (k : Int) < (t.elems.length : Int) := by omega
      obtain ⟨av, ac, rfl⟩ := own_slice HOw.out
      have hi := HI.out.1
      have hz0 := HI.out.2.1
      have hz1 := HI.out.2.2.1
      have hz2 := HI.out.2.2.2
      have HN := Lib.hid (rngC_next k)
      go_wp2_with (at_builtin; refine wpList_append_own _ rfl _ _ 37 rfl W0.heap.size 3 i0 (.int .i64 0) 1 8 Try.underlying37 hi hz0 hz1 hz2 rfl (by decide) _ _ _ rfl (HOw.out.alloc _) ⟨wr.heap.size, 0, none⟩ 1 1 [.int .i64 k] rfl rfl ?c1 ?c2 ?c3 ?c4 ?c5 ?_)
      case c1 =>
        intro j u hj
        match j, hj with
        | 0, hj => simp at hj; subst hj; simp [Addr.add]
      case c2 => intro u hu; simp at hu; subst hu; rfl
      case c3 => unfold maxLen; omega
      case c4 => omega
      case c5 => simp; omega
      intro v' w5 hown3 hgrow _
      have hB5 : Below W0.heap.size W0 w5 := (HB.out.alloc hzr _).grown hgrow (by simp; omega) (fun j hj => (HOw.out.lt j hj).1)
      have R9 := Lib.hid hown3
      have HB5 := Lib.hid hB5
      clear hown3 hgrow hB5 hi hz0 hz1 hz2
      obtain ⟨bv, bc, rfl⟩ := own_slice R9.out
      go_wp2_with fail
      go_roundw
      case rel => exact ⟨k + 1, by omega, by go_num, Lib.hid (by rw [HN.out]; exact R9.out), HB5⟩
      case measure => simp [intOf]; omega
    · obtain rfl : k = t.elems.length := by omega
      have k1 : decide ((t.elems.length : Int) < (t.elems.length : Int)) = false := decide_eq_false (by omega)
      obtain ⟨Ba, ac, rfl, hba, hbl, hnm⟩ := own_nmb HOw.out hone
      have HNM := Lib.hid hnm
      clear hnm
      go_wp2_with fail
      go_loopw [10] (fun i wo => ∃ (i' : Nat) (f g : Nat → Nat), 2 ≤ i' ∧ i' ≤ 12 ∧ i = .int .i64 i' ∧ Hid (M.Inv t.elems.length f g) ∧ Hid (NmB wo Ba t.elems.length f) ∧ Hid (Below W0.heap.size W0 wo) ∧ Ba < wo.heap.size) (fun i _ => 12 - (intOf i).toNat)
      case atStart => exact ⟨2, _, _, by omega, by omega, rfl, Lib.hid (M.Inv.start _), HNM, HB, hbl⟩
      case round =>
        clear HNM hbl HB
        rename World => wo
        obtain ⟨i, f, g, hi2, hi12, rfl, HI2, HNM, HBo, hbl⟩ := hrel
        go_upto_region 8 with fail
        go_cut [37] from 30 to 64 (fun c wx => c = .bool (decide (i < t.elems.length) && decide (0 < l.length)) ∧ wx = wo)
        case first =>
          by_cases h1 : i < t.elems.length
          · have n1 : (i : Int) < (t.elems.length : Int) := by omega
            have d1 : decide (i < t.elems.length) = true := decide_eq_true h1
            by_cases h2 : 0 < l.length
            · have n2 : (0 : Int) < (l.length : Int) := by omega
              have n3 : decide ((0 : Int) < (l.length : Int)) = true := decide_eq_true n2
              have d2 : decide (0 < l.length) = true := decide_eq_true h2
              go_wp2
              go_meet
              exact ⟨by simp [h1, h2], rfl⟩
            · have h3 : l.length = 0 := by omega
              go_wp2
              go_meet
              exact ⟨by simp [h1, h3], rfl⟩
          · have d1 : decide (i < t.elems.length) = false := decide_eq_false h1
            have n2 : ¬ (i : Int) < (t.elems.length : Int) := by omega
            have n1 : decide ((i : Int) < (t.elems.length : Int)) = false := decide_eq_false n2
            go_wp2
            go_meet
            exact ⟨by simp [h1], rfl⟩
        case rest =>
          obtain ⟨rfl, rfl⟩ := hcut
          rename World => wo
          by_cases hin : i < t.elems.length ∧ 0 < l.length
          · obtain ⟨hil, hl0⟩ := hin
            rw [decide_eq_true hil, decide_eq_true hl0, Bool.true_and]
            have n1 : (i : Int) < (t.elems.length : Int) := by omega
            have n2 : (0 : Int) < (l.length : Int) := by omega
            have hm1 : i % l.length < l.length := Nat.mod_lt _ hl0
            obtain ⟨yb, yo, ey, hat⟩ := (HY.out.below HBo.out).at hm1
            subst ey
            have r1 := hat.at_ (i % l.length) hm1
            have e1 : Int.tmod (i : Int) (l.length : Int) = ((i % l.length : Nat) : Int) := by rw [Int.tmod_eq_emod_of_nonneg (by omega)]; rfl
            have e2 : ((i : Int) % (l.length : Int)) = ((i % l.length : Nat) : Int) := rfl
            have e5 : ((l.length : Int) == 0) = false := by rw [beq_eq_false_iff_ne]; omega
            have m1 : ((i % l.length : Nat) : Int) < (l.length : Int) := by omega
            have m2 : (0 : Int) ≤ ((i % l.length : Nat) : Int) := by omega
            obtain ⟨x, hx⟩ : ∃ x : Nat, (l[i % l.length]).val = x := ⟨_, rfl⟩
            have hx6 : x < 256 := by rw [← hx]; exact (l[i % l.length]).isLt
            have r2 : wo.cell? ⟨yb, yo + i % l.length, none⟩ = some (.int .u8 (x : Nat)) := by rw [r1, ← hx]
            have hm2 : x % i < i := Nat.mod_lt _ (by omega)
            have e3 : Int.tmod (x : Int) (i : Int) = ((x % i : Nat) : Int) := by rw [Int.tmod_eq_emod_of_nonneg (by omega)]; rfl
            have e4 : ((x : Int) % (i : Int)) = ((x % i : Nat) : Int) := rfl
            have e6 : ((i : Int) == 0) = false := by rw [beq_eq_false_iff_ne]; omega
            clear r1 hx hat
            generalize hq : i % l.length = q at *
            generalize hxm : x % i = xm at *
            clear hq hxm
            have HE := Lib.hid (And.intro e1 (And.intro e2 (And.intro e3 e4)))
            obtain ⟨k, hkk⟩ : ∃ k : Nat, k = 1 + xm := ⟨_, rfl⟩
            have e7 : (1 + (xm : Int)) = (k : Int) := by omega
            have hkn : k < t.elems.length := by omega
            have k1 : (k : Int) < (t.elems.length : Int) := by omega
            have k2 : (0 : Int) ≤ (k : Int) := by omega
            have n4 : (0 : Int) ≤ (i : Int) := by omega
            have HK0 := Lib.hid (show k ≠ 0 by omega)
            clear hkk hm2
            go_wp2_with fail
            have hC := And.intro (HNM.out i hil).1 (HNM.out k hkn).1
            have hC := And.intro (cell_below hC.1 (Below.refl _ _).drew) (cell_below hC.2 (Below.refl _ _).drew)
            refine wp_region_G (A := (fun _ => True)) (C := (fun W => W.cell? ⟨Ba, i, none⟩ = some (.int .i64 (f i : Nat)) ∧ W.cell? ⟨Ba, k, none⟩ = some (.int .i64 (f k : Nat)))) (k := 13) hmx ?_
            change wpAnyG _ _ _ _ _ _ _ _ _ _ (wo).drew
            refine wpAnyG_take (i := 0) (v := .slice (some ⟨Ba, 0, none⟩) t.elems.length ac) rfl (by kernel_rfl) (by kernel_rfl) (by kernel_rfl) (fun _ _ _ h => h) (by kernel_rfl) (Or.inl ⟨by kernel_rfl, ?_⟩) ⟨trivial, fun _ => hC⟩ ?_
            · intro W' hSw
              go_simp
            try dsimp only [List.getElem_toArray, List.getElem_cons_zero, List.getElem_cons_succ, Act.put, List.setIfInBounds_toArray, List.set_cons_zero, List.set_cons_succ]
            refine wpAnyG_take (i := 1) (v := .int .i64 i) rfl (by kernel_rfl) (by kernel_rfl) (by kernel_rfl) (fun _ _ _ h => h) (by kernel_rfl) (Or.inl ⟨by kernel_rfl, ?_⟩) ⟨trivial, fun _ => hC⟩ ?_
            · intro W' hSw
              go_simp
            try dsimp only [List.getElem_toArray, List.getElem_cons_zero, List.getElem_cons_succ, Act.put, List.setIfInBounds_toArray, List.set_cons_zero, List.set_cons_succ]
            refine wpAnyG_take (i := 2) (v := .slice (some ⟨Ba, 0, none⟩) t.elems.length ac) rfl (by kernel_rfl) (by kernel_rfl) (by kernel_rfl) (fun _ _ _ h => h) (by kernel_rfl) (Or.inl ⟨by kernel_rfl, ?_⟩) ⟨trivial, fun _ => hC⟩ ?_
            · intro W' hSw
              go_simp
            try dsimp only [List.getElem_toArray, List.getElem_cons_zero, List.getElem_cons_succ, Act.put, List.setIfInBounds_toArray, List.set_cons_zero, List.set_cons_succ]
            refine wpAnyG_take (i := 3) (v := .int .i64 k) rfl (by kernel_rfl) (by kernel_rfl) (by kernel_rfl) (fun _ _ _ h => h) (by kernel_rfl) (Or.inl ⟨by kernel_rfl, ?_⟩) ⟨trivial, fun _ => hC⟩ ?_
            · intro W' hSw
              go_simp
            try dsimp only [List.getElem_toArray, List.getElem_cons_zero, List.getElem_cons_succ, Act.put, List.setIfInBounds_toArray, List.set_cons_zero, List.set_cons_succ]
            refine wpAnyG_take (i := 4) (v := .slice (some ⟨Ba, 0, none⟩) t.elems.length ac) rfl (by kernel_rfl) (by kernel_rfl) (by kernel_rfl) (fun _ _ _ h => h) (by kernel_rfl) (Or.inl ⟨by kernel_rfl, ?_⟩) ⟨trivial, fun _ => hC⟩ ?_
            · intro W' hSw
              go_simp
            try dsimp only [List.getElem_toArray, List.getElem_cons_zero, List.getElem_cons_succ, Act.put, List.setIfInBounds_toArray, List.set_cons_zero, List.set_cons_succ]
            refine wpAnyG_take (i := 5) (v := .int .i64 k) rfl (by kernel_rfl) (by kernel_rfl) (by kernel_rfl) (fun _ _ _ h => h) (by kernel_rfl) (Or.inl ⟨by kernel_rfl, ?_⟩) ⟨trivial, fun _ => hC⟩ ?_
            · intro W' hSw
              go_simp
            try dsimp only [List.getElem_toArray, List.getElem_cons_zero, List.getElem_cons_succ, Act.put, List.setIfInBounds_toArray, List.set_cons_zero, List.set_cons_succ]
            refine wpAnyG_take (i := 6) (v := .pointer (some ⟨Ba, k, none⟩)) rfl (by kernel_rfl) (by kernel_rfl) (by kernel_rfl) (fun _ _ _ h => h) (by kernel_rfl) (Or.inl ⟨by kernel_rfl, ?_⟩) ⟨trivial, fun _ => hC⟩ ?_
            · intro W' hSw
              go_simp
            try dsimp only [List.getElem_toArray, List.getElem_cons_zero, List.getElem_cons_succ, Act.put, List.setIfInBounds_toArray, List.set_cons_zero, List.set_cons_succ]
            refine wpAnyG_takeC (i := 7) (v := .int .i64 (f k : Nat)) rfl (by kernel_rfl) (by kernel_rfl) (by kernel_rfl) (fun _ _ _ h => h) (by kernel_rfl) (by kernel_rfl) (by kernel_rfl) (Or.inl ⟨by kernel_rfl, ?_⟩) ⟨trivial, fun _ => hC⟩ ?_
            · intro W' hSw
              obtain ⟨_, ⟨s0, s1⟩⟩ := hSw
              go_simp
            try dsimp only [List.getElem_toArray, List.getElem_cons_zero, List.getElem_cons_succ, Act.put, List.setIfInBounds_toArray, List.set_cons_zero, List.set_cons_succ]
            refine wpAnyG_take (i := 8) (v := .slice (some ⟨Ba, 0, none⟩) t.elems.length ac) rfl (by kernel_rfl) (by kernel_rfl) (by kernel_rfl) (fun _ _ _ h => h) (by kernel_rfl) (Or.inl ⟨by kernel_rfl, ?_⟩) ⟨trivial, fun _ => hC⟩ ?_
            · intro W' hSw
              go_simp
            try dsimp only [List.getElem_toArray, List.getElem_cons_zero, List.getElem_cons_succ, Act.put, List.setIfInBounds_toArray, List.set_cons_zero, List.set_cons_succ]
            refine wpAnyG_take (i := 9) (v := .int .i64 i) rfl (by kernel_rfl) (by kernel_rfl) (by kernel_rfl) (fun _ _ _ h => h) (by kernel_rfl) (Or.inl ⟨by kernel_rfl, ?_⟩) ⟨trivial, fun _ => hC⟩ ?_
            · intro W' hSw
              go_simp
            try dsimp only [List.getElem_toArray, List.getElem_cons_zero, List.getElem_cons_succ, Act.put, List.setIfInBounds_toArray, List.set_cons_zero, List.set_cons_succ]
            refine wpAnyG_take (i := 10) (v := .pointer (some ⟨Ba, i, none⟩)) rfl (by kernel_rfl) (by kernel_rfl) (by kernel_rfl) (fun _ _ _ h => h) (by kernel_rfl) (Or.inl ⟨by kernel_rfl, ?_⟩) ⟨trivial, fun _ => hC⟩ ?_
            · intro W' hSw
              go_simp
            try dsimp only [List.getElem_toArray, List.getElem_cons_zero, List.getElem_cons_succ, Act.put, List.setIfInBounds_toArray, List.set_cons_zero, List.set_cons_succ]
            refine wpAnyG_takeC (i := 11) (v := .int .i64 (f i : Nat)) rfl (by kernel_rfl) (by kernel_rfl) (by kernel_rfl) (fun _ _ _ h => h) (by kernel_rfl) (by kernel_rfl) (by kernel_rfl) (Or.inl ⟨by kernel_rfl, ?_⟩) ⟨trivial, fun _ => hC⟩ ?_
            · intro W' hSw
              obtain ⟨_, ⟨s0, s1⟩⟩ := hSw
              go_simp
            try dsimp only [List.getElem_toArray, List.getElem_cons_zero, List.getElem_cons_succ, Act.put, List.setIfInBounds_toArray, List.set_cons_zero, List.set_cons_succ]
            refine wpAnyG_take (i := 12) (v := .pointer (some ⟨Ba, i, none⟩)) rfl (by kernel_rfl) (by kernel_rfl) (by kernel_rfl) (fun _ _ _ h => h) (by kernel_rfl) (Or.inl ⟨by kernel_rfl, ?_⟩) ⟨trivial, fun _ => hC⟩ ?_
            · intro W' hSw
              go_simp
            try dsimp only [List.getElem_toArray, List.getElem_cons_zero, List.getElem_cons_succ, Act.put, List.setIfInBounds_toArray, List.set_cons_zero, List.set_cons_succ]
            have HBd := Lib.hid (belowN HBo.out 1)
            obtain ⟨f0, g0⟩ := HNM.out i hil
            have HND := Lib.hid (HNM.out.below (Ba + 1) (Nat.lt_succ_self _) (Below.refl _ wo).drew)
            have HN1 := Lib.hid (HND.out.set i (f k))
            have HN2 := Lib.hid ((HN1.out.set k (f i)).congr (g := M.swp f i k) (fun x _ => rfl))
            have HB1 := Lib.hid (((belowN HBo.out 1).setCell (p := ⟨Ba, i, none⟩) hba (.int .i64 (f k : Nat))).setCell (p := ⟨Ba, k, none⟩) hba (.int .i64 (f i : Nat)))
            have HIS := Lib.hid (HI2.out.swap hil hkn (by omega) HK0.out)
            obtain ⟨f0, g0⟩ := HND.out i hil
            have f1 : (wo.setCell ⟨Ba, i, none⟩ (.int .i64 (f k : Nat))).drew.cell? ⟨Ba, k, none⟩ = _ := (HN1.out k hkn).1
            have g1 : (wo.setCell ⟨Ba, i, none⟩ (.int .i64 (f k : Nat))).drew.frozen? ⟨Ba, k, none⟩ = false := (HN1.out k hkn).2
            clear hC
            refine wpAnyG_one 13 (by kernel_rfl) rfl fun K' HK => ?_
            go_wp2_with fail
            refine HK.out _ _ ⟨⟨trivial, (fun h => Bool.noConfusion (h.symm.trans (show _ = true by kernel_rfl)))⟩, ?_⟩
            clear HK K'
            try dsimp only [List.getElem_toArray, List.getElem_cons_zero, List.getElem_cons_succ, Act.put, List.setIfInBounds_toArray, List.set_cons_zero, List.set_cons_succ]
            refine wpAnyG_take (i := 14) (v := .pointer (some ⟨Ba, k, none⟩)) rfl (by kernel_rfl) (by kernel_rfl) (by kernel_rfl) (fun _ _ _ h => h) (by kernel_rfl) (Or.inl ⟨by kernel_rfl, ?_⟩) ⟨trivial, (fun h => Bool.noConfusion (h.symm.trans (show _ = true by kernel_rfl)))⟩ ?_
            · intro W' hSw
              go_simp
            try dsimp only [List.getElem_toArray, List.getElem_cons_zero, List.getElem_cons_succ, Act.put, List.setIfInBounds_toArray, List.set_cons_zero, List.set_cons_succ]
            refine wpAnyG_one 15 (by kernel_rfl) rfl fun K' HK => ?_
            go_wp2_with fail
            refine HK.out _ _ ⟨⟨trivial, (fun h => Bool.noConfusion (h.symm.trans (show _ = true by kernel_rfl)))⟩, ?_⟩
            clear HK K'
            try dsimp only [List.getElem_toArray, List.getElem_cons_zero, List.getElem_cons_succ, Act.put, List.setIfInBounds_toArray, List.set_cons_zero, List.set_cons_succ]
            refine wpAnyG_done (by kernel_rfl) ?_ _
            go_wp2_with fail
            go_roundw
            case rel => exact ⟨i + 1, _, _, by omega, by omega, by go_num, HIS, HN2, HB1, by simp [World.setCell]; exact hbl⟩
            case measure => simp [intOf]; omega
          · have hc : (decide (i < t.elems.length) && decide (0 < l.length)) = false := by
              rw [Bool.eq_false_iff]
              intro h
              rw [Bool.and_eq_true, decide_eq_true_eq, decide_eq_true_eq] at h
              exact hin h
            rw [hc]
            clear hin hc
            have HNT0 := Lib.hid (nmB_new wo t.elems.length)
            have HBt0 := Lib.hid (below1 wo (.cells (nmsA t.elems.length) 3))
            go_wp2_with fail
            clear hmk
            go_loopw [12] (fun i wq => ∃ (j : Nat) (h : Nat → Nat), j ≤ t.elems.length ∧ i = .int .i64 j ∧ Hid (NmB wq wo.heap.size t.elems.length h) ∧ Hid (∀ x, x < t.elems.length → g x < j → h x = g x) ∧ Hid (Below wo.heap.size wo wq) ∧ wo.heap.size < wq.heap.size) (fun i _ => t.elems.length - (intOf i).toNat)
            case atStart => exact ⟨0, _, by omega, rfl, HNT0, Lib.hid (fun x _ h => by omega), HBt0, by simp⟩
            case round =>
              clear HNT0 HBt0
              rename World => wq
              obtain ⟨j, h, hj, rfl, HNT, HSP, HBq, hbt⟩ := hrel
              by_cases hjl : j < t.elems.length
              · have j1 : (j : Int) < (t.elems.length : Int) := by omega
                have j2 : (0 : Int) ≤ (j : Int) := by omega
                have f0 := (HNM.out.below _ hbl HBq.out j hjl).1
                have hxl := HI2.out.fl j hjl
                have HSP2 := Lib.hid (show ∀ y, y < t.elems.length → g y < j + 1 → (fun y => if y = f j then j else h y) y = g y from fun y hy hg => by
                  by_cases e : y = f j
                  · subst e
                    simp only [if_true]
                    exact (HI2.out.gf j hjl).symm
                  · simp only [if_neg e]
                    refine HSP.out y hy ?_
                    rcases Nat.lt_succ_iff_lt_or_eq.1 hg with q | q
                    · exact q
                    · exact absurd (by rw [← q, HI2.out.fg y hy]) e)
                generalize hx : f j = x at *
                clear hx
                have j3 : (x : Int) < (t.elems.length : Int) := by omega
                have j4 : (0 : Int) ≤ (x : Int) := by omega
                obtain ⟨h0, g0⟩ := HNT.out x hxl
                have HN1 := Lib.hid (HNT.out.set x j)
                have HB1 := Lib.hid (HBq.out.setCell (p := ⟨wo.heap.size, x, none⟩) (Nat.le_refl _) (.int .i64 (j : Nat)))
                go_wp2_with fail
                go_roundw
                case rel => exact ⟨j + 1, _, by omega, by go_num, HN1, HSP2, HB1, by simp [World.setCell]; exact hbt⟩
                case measure => simp [intOf]; omega
              · obtain rfl : j = t.elems.length := by omega
                have j1 : decide ((t.elems.length : Int) < (t.elems.length : Int)) = false := decide_eq_false (by omega)
                have HTO := Lib.hid (HNT.out.congr (g := g) (fun x hx => HSP.out x hx (HI2.out.gl x hx)))
                have HBW := Lib.hid (show Below W0.heap.size W0 wq from HBo.out.trans (HBq.out.mono HBo.out.size))
                have HXq := Lib.hid (HX.out.below HBW.out)
                have HTq := Lib.hid (HT.out.below HBW.out)
                have HAq := Lib.hid (HNM.out.below _ hbl HBq.out)
                have hal2 : Ba < wq.heap.size := Nat.lt_trans hbl hbt
                have HTN0 := Lib.hid (TnL.start t.name wq)
                obtain ⟨c0, c1, c2, c3⟩ := HXq.out
                clear HNT HSP
                go_wp2_with fail
                clear c0 c1 c2 c3
                go_loopw [14] (fun i wz => ∃ (k : Nat) (s v r : Value), k ≤ t.elems.length ∧ i = .int .i64 k ∧ Hid (TnL t.name wq wq.heap.size wq.heap.size (M.trE t f k) (M.trW t f k) (M.trA t f k) s v r s v r wz)) (fun i _ => t.elems.length - (intOf i).toNat)
                case atStart => exact ⟨0, _, _, _, by omega, rfl, HTN0⟩
                case round =>
                  clear HTN0
                  rename World => wz
                  obtain ⟨k, s, v, r, hk, rfl, HTN⟩ := hrel
                  by_cases hkl : k < t.elems.length
                  · have k1 : (k : Int) < (t.elems.length : Int) := by omega
                    have k2 : (0 : Int) ≤ (k : Int) := by omega
                    have hxl := HI2.out.fl k hkl
                    have HEN := Lib.hid (M.trE_next t f k)
                    have HWN := Lib.hid (M.trW_next t f k)
                    have HAN := Lib.hid (M.trA_next t f k)
                    have f0 := (HAq.out k hkl).1
                    have HLA := Lib.hid (show M.asc t.elems.length (t.above.getD (f k) []) from by
                      rw [getD_in _ _ _ (by rw [HF.out.above]; exact hxl)]
                      exact HF.out.rows _ (by rw [HF.out.above]; exact hxl))
                    have HRY := Lib.hid (fun c (h : (t.above.getD (f k) []).contains ((f c : Nat) : Int) = true) => M.trR_yes (t := t) (f := f) (j := k) (c := c) h)
                    have HRN := Lib.hid (fun c (h : (t.above.getD (f k) []).contains ((f c : Nat) : Int) = false) => M.trR_no (t := t) (f := f) (j := k) (c := c) h)
                    have HRL := Lib.hid (fun c => M.trR_len t f k c)
                    have hLl := row_short HF.out hxl
                    generalize hx : f k = x at *
                    have HFX := Lib.hid hx
                    clear hx
                    have x1 : (x : Int) < (t.elems.length : Int) := by omega
                    have x2 : (0 : Int) ≤ (x : Int) := by omega
                    have hxa : x < t.above.length := by rw [HF.out.above]; exact hxl
                    have hxw : x < t.wrong.length := by rw [HF.out.wrong]; exact hxl
                    have x3 : (x : Int) < (t.above.length : Int) := by omega
                    have x4 : (x : Int) < (t.wrong.length : Int) := by omega
                    obtain ⟨pea, pec, paa, pac, pwa, pwc⟩ := p
                    obtain ⟨eb, eo, ee, heat⟩ := HTq.out.es.at hxl
                    obtain ⟨ab, ao, ea, haat⟩ := HTq.out.as_.at hxa
                    obtain ⟨wb, wo', ew, hwat⟩ := HTq.out.ws.at hxw
                    dsimp only at ee ea ew
                    subst ee ea ew
                    have r1 := heat.at_ x hxl
                    have r2 := hwat.at_ x hxw
                    obtain ⟨ra, rc, r3, _, _, r4⟩ := haat.at_ x hxa
                    rw [← getD_in t.elems ⟨#[]⟩ x hxl] at r1
                    rw [← getD_in t.wrong false x hxw] at r2
                    rw [← getD_in t.above [] x hxa] at r3 r4
                    generalize hsx : t.elems.getD x ⟨#[]⟩ = sx at *
                    generalize hbx : t.wrong.getD x false = bx at *
                    generalize hLx : t.above.getD x [] = L at *
                    have HLX := Lib.hid hLx
                    clear hsx hbx hLx heat haat hwat
                    have HAF := Lib.hid (show ∀ W, Below wq.heap.size wq W → TbBox W w.heap.size t ⟨some ⟨eb, eo, none⟩, pec, some ⟨ab, ao, none⟩, pac, some ⟨wb, wo', none⟩, pwc⟩ ∧ W.cell? ⟨Ba, k, none⟩ = some (.int .i64 (x : Nat)) ∧ W.cell? ⟨eb, eo + x, none⟩ = some (.string sx) ∧ W.cell? ⟨wb, wo' + x, none⟩ = some (.bool bx) from fun W hW =>
                      ⟨HXq.out.below hW, cell_below f0 hW, cell_below r1 hW, cell_below r2 hW⟩)
                    have HR3 := Lib.hid (And.intro f0 r3)
                    have HR4 := Lib.hid r4
                    clear r1 r2 r3 r4 f0
                    have hle1 := M.trE_len t f k
                    have hle2 := M.trW_len t f k
                    have HLE := Lib.hid (And.intro hle1 hle2)
                    clear hle1 hle2
                    go_upto_region 21 with fail
                    go_cut [112] from 82 to 156 (fun c wx => ∃ s' r', Hid (TnL t.name wq wq.heap.size wq.heap.size (M.trE t f (k + 1)) (M.trW t f (k + 1)) (M.trA t f k) s' v r' s' v r' wx))
                    case first =>
                      have HD := Lib.hid (HTN.out.new (Below.refl wz.heap.size wz).drew)
                      have hA := HAF.out _ HD.out.below
                      have hC := HD.out.bxc
                      refine wp_region_G (A := (fun W => TbBox W w.heap.size t ⟨some ⟨eb, eo, none⟩, pec, some ⟨ab, ao, none⟩, pac, some ⟨wb, wo', none⟩, pwc⟩ ∧ W.cell? ⟨Ba, k, none⟩ = some (.int .i64 (x : Nat)) ∧ W.cell? ⟨eb, eo + x, none⟩ = some (.string sx) ∧ W.cell? ⟨wb, wo' + x, none⟩ = some (.bool bx))) (C := (fun W => W.cell? ⟨wq.heap.size, 1, none⟩ = some s ∧ W.cell? ⟨wq.heap.size, 3, none⟩ = some r)) (k := 25) hmx ?_
                      change wpAnyG _ _ _ _ _ _ _ _ _ _ (wz).drew
                      refine wpAnyG_take (i := 0) (v := .pointer (some ⟨wq.heap.size, 1, none⟩)) rfl (by kernel_rfl) (by kernel_rfl) (by kernel_rfl) (fun _ _ _ h => h) (by kernel_rfl) (Or.inl ⟨by kernel_rfl, ?_⟩) ⟨hA, fun _ => hC⟩ ?_
                      · intro W' hSw
                        obtain ⟨⟨c0, c1, c2, c3⟩, s1, s2, s3⟩ := hSw
                        go_simp
                      try dsimp only [List.getElem_toArray, List.getElem_cons_zero, List.getElem_cons_succ, Act.put, List.setIfInBounds_toArray, List.set_cons_zero, List.set_cons_succ]
                      refine wpAnyG_takeC (i := 1) (v := s) rfl (by kernel_rfl) (by kernel_rfl) (by kernel_rfl) (fun _ _ _ h => h) (by kernel_rfl) (by kernel_rfl) (by kernel_rfl) (Or.inl ⟨by kernel_rfl, ?_⟩) ⟨hA, fun _ => hC⟩ ?_
                      · intro W' hSw
                        obtain ⟨⟨⟨c0, c1, c2, c3⟩, s1, s2, s3⟩, ⟨s4, s5⟩⟩ := hSw
                        go_simp
                      try dsimp only [List.getElem_toArray, List.getElem_cons_zero, List.getElem_cons_succ, Act.put, List.setIfInBounds_toArray, List.set_cons_zero, List.set_cons_succ]
                      refine wpAnyG_take (i := 2) (v := .pointer (some ⟨w.heap.size, 1, none⟩)) rfl (by kernel_rfl) (by kernel_rfl) (by kernel_rfl) (fun _ _ _ h => h) (by kernel_rfl) (Or.inl ⟨by kernel_rfl, ?_⟩) ⟨hA, fun _ => hC⟩ ?_
                      · intro W' hSw
                        obtain ⟨⟨c0, c1, c2, c3⟩, s1, s2, s3⟩ := hSw
                        go_simp
                      try dsimp only [List.getElem_toArray, List.getElem_cons_zero, List.getElem_cons_succ, Act.put, List.setIfInBounds_toArray, List.set_cons_zero, List.set_cons_succ]
                      refine wpAnyG_take (i := 3) (v := .slice (some ⟨eb, eo, none⟩) t.elems.length pec) rfl (by kernel_rfl) (by kernel_rfl) (by kernel_rfl) (fun _ _ _ h => h) (by kernel_rfl) (Or.inl ⟨by kernel_rfl, ?_⟩) ⟨hA, fun _ => hC⟩ ?_
                      · intro W' hSw
                        obtain ⟨⟨c0, c1, c2, c3⟩, s1, s2, s3⟩ := hSw
                        go_simp
                      try dsimp only [List.getElem_toArray, List.getElem_cons_zero, List.getElem_cons_succ, Act.put, List.setIfInBounds_toArray, List.set_cons_zero, List.set_cons_succ]
                      refine wpAnyG_take (i := 4) (v := .slice (some ⟨Ba, 0, none⟩) t.elems.length ac) rfl (by kernel_rfl) (by kernel_rfl) (by kernel_rfl) (fun _ _ _ h => h) (by kernel_rfl) (Or.inl ⟨by kernel_rfl, ?_⟩) ⟨hA, fun _ => hC⟩ ?_
                      · intro W' hSw
                        obtain ⟨⟨c0, c1, c2, c3⟩, s1, s2, s3⟩ := hSw
                        go_simp
                      try dsimp only [List.getElem_toArray, List.getElem_cons_zero, List.getElem_cons_succ, Act.put, List.setIfInBounds_toArray, List.set_cons_zero, List.set_cons_succ]
                      refine wpAnyG_take (i := 5) (v := .int .i64 k) rfl (by kernel_rfl) (by kernel_rfl) (by kernel_rfl) (fun _ _ _ h => h) (by kernel_rfl) (Or.inl ⟨by kernel_rfl, ?_⟩) ⟨hA, fun _ => hC⟩ ?_
                      · intro W' hSw
                        obtain ⟨⟨c0, c1, c2, c3⟩, s1, s2, s3⟩ := hSw
                        go_simp
                      try dsimp only [List.getElem_toArray, List.getElem_cons_zero, List.getElem_cons_succ, Act.put, List.setIfInBounds_toArray, List.set_cons_zero, List.set_cons_succ]
                      refine wpAnyG_take (i := 6) (v := .pointer (some ⟨Ba, k, none⟩)) rfl (by kernel_rfl) (by kernel_rfl) (by kernel_rfl) (fun _ _ _ h => h) (by kernel_rfl) (Or.inl ⟨by kernel_rfl, ?_⟩) ⟨hA, fun _ => hC⟩ ?_
                      · intro W' hSw
                        obtain ⟨⟨c0, c1, c2, c3⟩, s1, s2, s3⟩ := hSw
                        go_simp
                      try dsimp only [List.getElem_toArray, List.getElem_cons_zero, List.getElem_cons_succ, Act.put, List.setIfInBounds_toArray, List.set_cons_zero, List.set_cons_succ]
                      refine wpAnyG_take (i := 7) (v := .int .i64 x) rfl (by kernel_rfl) (by kernel_rfl) (by kernel_rfl) (fun _ _ _ h => h) (by kernel_rfl) (Or.inl ⟨by kernel_rfl, ?_⟩) ⟨hA, fun _ => hC⟩ ?_
                      · intro W' hSw
                        obtain ⟨⟨c0, c1, c2, c3⟩, s1, s2, s3⟩ := hSw
                        go_simp
                      try dsimp only [List.getElem_toArray, List.getElem_cons_zero, List.getElem_cons_succ, Act.put, List.setIfInBounds_toArray, List.set_cons_zero, List.set_cons_succ]
                      refine wpAnyG_take (i := 8) (v := .pointer (some ⟨eb, eo + x, none⟩)) rfl (by kernel_rfl) (by kernel_rfl) (by kernel_rfl) (fun _ _ _ h => h) (by kernel_rfl) (Or.inl ⟨by kernel_rfl, ?_⟩) ⟨hA, fun _ => hC⟩ ?_
                      · intro W' hSw
                        obtain ⟨⟨c0, c1, c2, c3⟩, s1, s2, s3⟩ := hSw
                        go_simp
                      try dsimp only [List.getElem_toArray, List.getElem_cons_zero, List.getElem_cons_succ, Act.put, List.setIfInBounds_toArray, List.set_cons_zero, List.set_cons_succ]
                      refine wpAnyG_take (i := 9) (v := .string sx) rfl (by kernel_rfl) (by kernel_rfl) (by kernel_rfl) (fun _ _ _ h => h) (by kernel_rfl) (Or.inl ⟨by kernel_rfl, ?_⟩) ⟨hA, fun _ => hC⟩ ?_
                      · intro W' hSw
                        obtain ⟨⟨c0, c1, c2, c3⟩, s1, s2, s3⟩ := hSw
                        go_simp
                      try dsimp only [List.getElem_toArray, List.getElem_cons_zero, List.getElem_cons_succ, Act.put, List.setIfInBounds_toArray, List.set_cons_zero, List.set_cons_succ]
                      refine wpAnyG_take (i := 12) (v := .pointer (some ⟨wq.heap.size, 3, none⟩)) rfl (by kernel_rfl) (by kernel_rfl) (by kernel_rfl) (fun _ _ _ h => h) (by kernel_rfl) (Or.inl ⟨by kernel_rfl, ?_⟩) ⟨hA, fun _ => hC⟩ ?_
                      · intro W' hSw
                        obtain ⟨⟨c0, c1, c2, c3⟩, s1, s2, s3⟩ := hSw
                        go_simp
                      try dsimp only [List.getElem_toArray, List.getElem_cons_zero, List.getElem_cons_succ, Act.put, List.setIfInBounds_toArray, List.set_cons_zero, List.set_cons_succ]
                      refine wpAnyG_takeC (i := 13) (v := r) rfl (by kernel_rfl) (by kernel_rfl) (by kernel_rfl) (fun _ _ _ h => h) (by kernel_rfl) (by kernel_rfl) (by kernel_rfl) (Or.inl ⟨by kernel_rfl, ?_⟩) ⟨hA, fun _ => hC⟩ ?_
                      · intro W' hSw
                        obtain ⟨⟨⟨c0, c1, c2, c3⟩, s1, s2, s3⟩, ⟨s4, s5⟩⟩ := hSw
                        go_simp
                      try dsimp only [List.getElem_toArray, List.getElem_cons_zero, List.getElem_cons_succ, Act.put, List.setIfInBounds_toArray, List.set_cons_zero, List.set_cons_succ]
                      refine wpAnyG_take (i := 14) (v := .pointer (some ⟨w.heap.size, 3, none⟩)) rfl (by kernel_rfl) (by kernel_rfl) (by kernel_rfl) (fun _ _ _ h => h) (by kernel_rfl) (Or.inl ⟨by kernel_rfl, ?_⟩) ⟨hA, fun _ => hC⟩ ?_
                      · intro W' hSw
                        obtain ⟨⟨c0, c1, c2, c3⟩, s1, s2, s3⟩ := hSw
                        go_simp
                      try dsimp only [List.getElem_toArray, List.getElem_cons_zero, List.getElem_cons_succ, Act.put, List.setIfInBounds_toArray, List.set_cons_zero, List.set_cons_succ]
                      refine wpAnyG_take (i := 15) (v := .slice (some ⟨wb, wo', none⟩) t.wrong.length pwc) rfl (by kernel_rfl) (by kernel_rfl) (by kernel_rfl) (fun _ _ _ h => h) (by kernel_rfl) (Or.inl ⟨by kernel_rfl, ?_⟩) ⟨hA, fun _ => hC⟩ ?_
                      · intro W' hSw
                        obtain ⟨⟨c0, c1, c2, c3⟩, s1, s2, s3⟩ := hSw
                        go_simp
                      try dsimp only [List.getElem_toArray, List.getElem_cons_zero, List.getElem_cons_succ, Act.put, List.setIfInBounds_toArray, List.set_cons_zero, List.set_cons_succ]
                      refine wpAnyG_take (i := 16) (v := .slice (some ⟨Ba, 0, none⟩) t.elems.length ac) rfl (by kernel_rfl) (by kernel_rfl) (by kernel_rfl) (fun _ _ _ h => h) (by kernel_rfl) (Or.inl ⟨by kernel_rfl, ?_⟩) ⟨hA, fun _ => hC⟩ ?_
                      · intro W' hSw
                        obtain ⟨⟨c0, c1, c2, c3⟩, s1, s2, s3⟩ := hSw
                        go_simp
                      try dsimp only [List.getElem_toArray, List.getElem_cons_zero, List.getElem_cons_succ, Act.put, List.setIfInBounds_toArray, List.set_cons_zero, List.set_cons_succ]
                      refine wpAnyG_take (i := 17) (v := .int .i64 k) rfl (by kernel_rfl) (by kernel_rfl) (by kernel_rfl) (fun _ _ _ h => h) (by kernel_rfl) (Or.inl ⟨by kernel_rfl, ?_⟩) ⟨hA, fun _ => hC⟩ ?_
                      · intro W' hSw
                        obtain ⟨⟨c0, c1, c2, c3⟩, s1, s2, s3⟩ := hSw
                        go_simp
                      try dsimp only [List.getElem_toArray, List.getElem_cons_zero, List.getElem_cons_succ, Act.put, List.setIfInBounds_toArray, List.set_cons_zero, List.set_cons_succ]
                      refine wpAnyG_take (i := 18) (v := .pointer (some ⟨Ba, k, none⟩)) rfl (by kernel_rfl) (by kernel_rfl) (by kernel_rfl) (fun _ _ _ h => h) (by kernel_rfl) (Or.inl ⟨by kernel_rfl, ?_⟩) ⟨hA, fun _ => hC⟩ ?_
                      · intro W' hSw
                        obtain ⟨⟨c0, c1, c2, c3⟩, s1, s2, s3⟩ := hSw
                        go_simp
                      try dsimp only [List.getElem_toArray, List.getElem_cons_zero, List.getElem_cons_succ, Act.put, List.setIfInBounds_toArray, List.set_cons_zero, List.set_cons_succ]
                      refine wpAnyG_take (i := 19) (v := .int .i64 x) rfl (by kernel_rfl) (by kernel_rfl) (by kernel_rfl) (fun _ _ _ h => h) (by kernel_rfl) (Or.inl ⟨by kernel_rfl, ?_⟩) ⟨hA, fun _ => hC⟩ ?_
                      · intro W' hSw
                        obtain ⟨⟨c0, c1, c2, c3⟩, s1, s2, s3⟩ := hSw
                        go_simp
                      try dsimp only [List.getElem_toArray, List.getElem_cons_zero, List.getElem_cons_succ, Act.put, List.setIfInBounds_toArray, List.set_cons_zero, List.set_cons_succ]
                      refine wpAnyG_take (i := 20) (v := .pointer (some ⟨wb, wo' + x, none⟩)) rfl (by kernel_rfl) (by kernel_rfl) (by kernel_rfl) (fun _ _ _ h => h) (by kernel_rfl) (Or.inl ⟨by kernel_rfl, ?_⟩) ⟨hA, fun _ => hC⟩ ?_
                      · intro W' hSw
                        obtain ⟨⟨c0, c1, c2, c3⟩, s1, s2, s3⟩ := hSw
                        go_simp
                      try dsimp only [List.getElem_toArray, List.getElem_cons_zero, List.getElem_cons_succ, Act.put, List.setIfInBounds_toArray, List.set_cons_zero, List.set_cons_succ]
                      refine wpAnyG_take (i := 21) (v := .bool bx) rfl (by kernel_rfl) (by kernel_rfl) (by kernel_rfl) (fun _ _ _ h => h) (by kernel_rfl) (Or.inl ⟨by kernel_rfl, ?_⟩) ⟨hA, fun _ => hC⟩ ?_
                      · intro W' hSw
                        obtain ⟨⟨c0, c1, c2, c3⟩, s1, s2, s3⟩ := hSw
                        go_simp
                      try dsimp only [List.getElem_toArray, List.getElem_cons_zero, List.getElem_cons_succ, Act.put, List.setIfInBounds_toArray, List.set_cons_zero, List.set_cons_succ]
                      try simp only [List.setIfInBounds_toArray, List.set_cons_succ, List.set_cons_zero]
                      refine wpAnyG_two 10 22 (by kernel_rfl) rfl rfl ?_ ?_
                      · intro K' HK
                        go_wp2_with fail
                        have HT1 := Lib.hid (HD.out.new (below1 wz.drew (.cells #[.string sx] 9)))
                        have HG1 := Lib.hid (show (wz.drew.alloc (.cells #[.string sx] 9)).heap[wz.heap.size]? = some (.cells #[.string sx] 9 (0, 0)) from by
                          have h := box_new wz.drew #[.string sx] 9
                          try rw [World.size_alloc] at h
                          exact h)
                        refine HK.out _ _ ⟨⟨HAF.out _ HT1.out.below, fun _ => HT1.out.bxc⟩, ?_⟩
                        clear HK K'
                        try dsimp only [List.getElem_toArray, List.getElem_cons_zero, List.getElem_cons_succ, Act.put, List.setIfInBounds_toArray, List.set_cons_zero, List.set_cons_succ]
                        refine wpAnyG_two 11 22 (by kernel_rfl) rfl rfl ?_ ?_
                        · intro K' HK
                          refine wpList_app_cel (f := Value.string) _ (by rfl) _ _ _ (by rfl) _ s0 (.string ⟨#[]⟩) 16 Try.underlying22 HIS0.out.1 HIS0.out.2.1 HIS0.out.2.2.1 HIS0.out.2.2.2 rfl (by decide) (fun _ => rfl) wq.heap.size s (M.trE t f k) (by rfl) HT1.out.so HT1.out.le (some ⟨wz.heap.size, 0, none⟩) 1 [sx] (by rfl) (by simp) (cel_one' (f := Value.string) HG1.out) (by have := HLE.out.1; simp only [List.length_singleton]; omega) ?_
                          intro sn x2 q1 q2 q3 q4
                          rw [← HEN.out] at q1
                          have HT2 := Lib.hid (HT1.out.gs q1 q2 q3)
                          clear q1 q2 q3 q4
                          refine HK.out _ _ ⟨⟨HAF.out _ HT2.out.below, fun _ => HT2.out.bxc⟩, ?_⟩
                          clear HK K'
                          try dsimp only [List.getElem_toArray, List.getElem_cons_zero, List.getElem_cons_succ, Act.put, List.setIfInBounds_toArray, List.set_cons_zero, List.set_cons_succ]
                          have hA2 := HAF.out _ HT2.out.below
                          have hC2 := HT2.out.bxc
                          refine wpAnyG_take (i := 24) (v := .pointer (some ⟨wq.heap.size, 1, none⟩)) rfl (by kernel_rfl) (by kernel_rfl) (by kernel_rfl) (fun _ _ _ h => h) (by kernel_rfl) (Or.inl ⟨by kernel_rfl, ?_⟩) ⟨hA2, fun _ => hC2⟩ ?_
                          · intro W' hSw
                            obtain ⟨⟨c0, c1, c2, c3⟩, s1, s2, s3⟩ := hSw
                            go_simp
                          try dsimp only [List.getElem_toArray, List.getElem_cons_zero, List.getElem_cons_succ, Act.put, List.setIfInBounds_toArray, List.set_cons_zero, List.set_cons_succ]
                          clear hA2 hC2
                          refine wpAnyG_one 22 (by kernel_rfl) rfl fun K' HK => ?_
                          go_wp2_with fail
                          have HT3 := Lib.hid (HT2.out.new (below1 x2 (.cells #[.bool bx] 4)))
                          have HG3 := Lib.hid (show (x2.alloc (.cells #[.bool bx] 4)).heap[x2.heap.size]? = some (.cells #[.bool bx] 4 (0, 0)) from by
                            have h := box_new x2 #[.bool bx] 4
                            try rw [World.size_alloc] at h
                            exact h)
                          refine HK.out _ _ ⟨⟨HAF.out _ HT3.out.below, fun _ => HT3.out.bxc⟩, ?_⟩
                          clear HK K'
                          try dsimp only [List.getElem_toArray, List.getElem_cons_zero, List.getElem_cons_succ, Act.put, List.setIfInBounds_toArray, List.set_cons_zero, List.set_cons_succ]
                          refine wpAnyG_one 23 (by kernel_rfl) rfl fun K' HK => ?_
                          refine wpList_app_cel (f := Value.bool) _ (by rfl) _ _ _ (by rfl) _ b0 (.bool false) 1 Try.underlying24 HIB.out.1 HIB.out.2.1 HIB.out.2.2.1 HIB.out.2.2.2 rfl (by decide) (fun _ => rfl) wq.heap.size r (M.trW t f k) (by rfl) HT3.out.ro HT3.out.le (some ⟨x2.heap.size, 0, none⟩) 1 [bx] (by rfl) (by simp) (cel_one' (f := Value.bool) HG3.out) (by have := HLE.out.2; simp only [List.length_singleton]; omega) ?_
                          intro rn x4 q1 q2 q3 q4
                          rw [← HWN.out] at q1
                          have HT4 := Lib.hid (HT3.out.gr q1 q2 q3)
                          clear q1 q2 q3 q4
                          refine HK.out _ _ ⟨⟨HAF.out _ HT4.out.below, fun _ => HT4.out.bxc⟩, ?_⟩
                          clear HK K'
                          try dsimp only [List.getElem_toArray, List.getElem_cons_zero, List.getElem_cons_succ, Act.put, List.setIfInBounds_toArray, List.set_cons_zero, List.set_cons_succ]
                          obtain ⟨sna, snc, hsn⟩ := own_slice' HT4.out.so
                          obtain ⟨rna, rnc, hrn⟩ := own_slice' HT4.out.ro
                          rw [M.trE_len] at hsn
                          rw [M.trW_len] at hrn
                          subst hsn
                          subst hrn
                          have k4 := HT4.out.bxc
                          have hA5 := HAF.out _ HT4.out.below
                          have k5 := HT4.out.fz 1
                          have k7 := heap_lt HT4.out.bx
                          have HU5 := Lib.hid (HT4.out.box 1 (.slice sna (k + 1) snc) (bs' := .slice sna (k + 1) snc) rfl)
                          obtain ⟨k4, k4'⟩ := k4
                          refine wpAnyG_one 25 (by kernel_rfl) rfl fun K' HK => ?_
                          go_wp2_with fail
                          refine HK.out _ _ ⟨⟨HAF.out _ HU5.out.below, (fun h => Bool.noConfusion (h.symm.trans (show _ = true by kernel_rfl)))⟩, ?_⟩
                          clear HK K'
                          try dsimp only [List.getElem_toArray, List.getElem_cons_zero, List.getElem_cons_succ, Act.put, List.setIfInBounds_toArray, List.set_cons_zero, List.set_cons_succ]
                          clear k4 k4' k5 k7
                          have hB5 := HAF.out _ HU5.out.below
                          have k4 := HU5.out.bxc.2
                          have k5 := HU5.out.fz 3
                          have k7 := heap_lt HU5.out.bx
                          refine wpAnyG_take (i := 26) (v := .pointer (some ⟨wq.heap.size, 3, none⟩)) rfl (by kernel_rfl) (by kernel_rfl) (by kernel_rfl) (fun _ _ _ h => h) (by kernel_rfl) (Or.inl ⟨by kernel_rfl, ?_⟩) ⟨hB5, fun h => Bool.noConfusion (h.symm.trans (show _ = true by kernel_rfl))⟩ ?_
                          · intro W' hSw
                            obtain ⟨⟨c0, c1, c2, c3⟩, s1, s2, s3⟩ := hSw
                            go_simp
                          try dsimp only [List.getElem_toArray, List.getElem_cons_zero, List.getElem_cons_succ, Act.put, List.setIfInBounds_toArray, List.set_cons_zero, List.set_cons_succ]
                          have HV5 := Lib.hid (HU5.out.box 3 (.slice rna (k + 1) rnc) (br' := .slice rna (k + 1) rnc) rfl)
                          refine wpAnyG_one 27 (by kernel_rfl) rfl fun K' HK => ?_
                          go_wp2_with fail
                          refine HK.out _ _ ⟨⟨HAF.out _ HV5.out.below, (fun h => Bool.noConfusion (h.symm.trans (show _ = true by kernel_rfl)))⟩, ?_⟩
                          clear HK K'
                          try dsimp only [List.getElem_toArray, List.getElem_cons_zero, List.getElem_cons_succ, Act.put, List.setIfInBounds_toArray, List.set_cons_zero, List.set_cons_succ]
                          refine wpAnyG_done (by kernel_rfl) ?_ _
                          go_wp2
                          go_meet
                          exact ⟨_, _, HV5⟩
                        · intro K' HK
                          go_wp2_with fail
                          have HT6 := Lib.hid (HT1.out.new (below1 (wz.drew.alloc (.cells #[.string sx] 9)) (.cells #[.bool bx] 4)))
                          have HG6 := Lib.hid (show ((wz.drew.alloc (.cells #[.string sx] 9)).alloc (.cells #[.bool bx] 4)).heap[wz.heap.size + 1]? = some (.cells #[.bool bx] 4 (0, 0)) from by
                            have h := box_new (wz.drew.alloc (.cells #[.string sx] 9)) #[.bool bx] 4
                            try rw [World.size_alloc] at h
                            exact h)
                          have HG1_6 := Lib.hid (show ((wz.drew.alloc (.cells #[.string sx] 9)).alloc (.cells #[.bool bx] 4)).heap[wz.heap.size]? = some (.cells #[.string sx] 9 (0, 0)) from by rw [(below1 (wz.drew.alloc (.cells #[.string sx] 9)) (.cells #[.bool bx] 4)).block _ (heap_lt HG1.out)]; exact HG1.out)
                          refine HK.out _ _ ⟨⟨HAF.out _ HT6.out.below, fun _ => HT6.out.bxc⟩, ?_⟩
                          clear HK K'
                          try dsimp only [List.getElem_toArray, List.getElem_cons_zero, List.getElem_cons_succ, Act.put, List.setIfInBounds_toArray, List.set_cons_zero, List.set_cons_succ]
                          refine wpAnyG_one 11 (by kernel_rfl) rfl fun K' HK => ?_
                          refine wpList_app_cel (f := Value.string) _ (by rfl) _ _ _ (by rfl) _ s0 (.string ⟨#[]⟩) 16 Try.underlying22 HIS0.out.1 HIS0.out.2.1 HIS0.out.2.2.1 HIS0.out.2.2.2 rfl (by decide) (fun _ => rfl) wq.heap.size s (M.trE t f k) (by rfl) HT6.out.so HT6.out.le (some ⟨wz.heap.size, 0, none⟩) 1 [sx] (by rfl) (by simp) (cel_one' (f := Value.string) HG1_6.out) (by have := HLE.out.1; simp only [List.length_singleton]; omega) ?_
                          intro sn x7 q1 q2 q3 q4
                          rw [← HEN.out] at q1
                          have HT7 := Lib.hid (HT6.out.gs q1 q2 q3)
                          have HG6_7 := Lib.hid (show x7.heap[wz.heap.size + 1]? = some (.cells #[.bool bx] 4 (0, 0)) from by
                            rw [q2.block _ (heap_lt HG6.out) (fun e => by have h1 := (own_lt HD.out.so e.symm).2; have h2 : wz.drew.heap.size = wz.heap.size := rfl; omega)]; exact HG6.out)
                          clear q1 q2 q3 q4
                          refine HK.out _ _ ⟨⟨HAF.out _ HT7.out.below, fun _ => HT7.out.bxc⟩, ?_⟩
                          clear HK K'
                          try dsimp only [List.getElem_toArray, List.getElem_cons_zero, List.getElem_cons_succ, Act.put, List.setIfInBounds_toArray, List.set_cons_zero, List.set_cons_succ]
                          have hA7 := HAF.out _ HT7.out.below
                          have hC7 := HT7.out.bxc
                          refine wpAnyG_take (i := 24) (v := .pointer (some ⟨wq.heap.size, 1, none⟩)) rfl (by kernel_rfl) (by kernel_rfl) (by kernel_rfl) (fun _ _ _ h => h) (by kernel_rfl) (Or.inl ⟨by kernel_rfl, ?_⟩) ⟨hA7, fun _ => hC7⟩ ?_
                          · intro W' hSw
                            obtain ⟨⟨c0, c1, c2, c3⟩, s1, s2, s3⟩ := hSw
                            go_simp
                          try dsimp only [List.getElem_toArray, List.getElem_cons_zero, List.getElem_cons_succ, Act.put, List.setIfInBounds_toArray, List.set_cons_zero, List.set_cons_succ]
                          clear hA7 hC7
                          refine wpAnyG_one 23 (by kernel_rfl) rfl fun K' HK => ?_
                          refine wpList_app_cel (f := Value.bool) _ (by rfl) _ _ _ (by rfl) _ b0 (.bool false) 1 Try.underlying24 HIB.out.1 HIB.out.2.1 HIB.out.2.2.1 HIB.out.2.2.2 rfl (by decide) (fun _ => rfl) wq.heap.size r (M.trW t f k) (by rfl) HT7.out.ro HT7.out.le (some ⟨wz.heap.size + 1, 0, none⟩) 1 [bx] (by rfl) (by simp) (cel_one' (f := Value.bool) HG6_7.out) (by have := HLE.out.2; simp only [List.length_singleton]; omega) ?_
                          intro rn x8 q1 q2 q3 q4
                          rw [← HWN.out] at q1
                          have HT8 := Lib.hid (HT7.out.gr q1 q2 q3)
                          clear q1 q2 q3 q4
                          refine HK.out _ _ ⟨⟨HAF.out _ HT8.out.below, fun _ => HT8.out.bxc⟩, ?_⟩
                          clear HK K'
                          try dsimp only [List.getElem_toArray, List.getElem_cons_zero, List.getElem_cons_succ, Act.put, List.setIfInBounds_toArray, List.set_cons_zero, List.set_cons_succ]
                          obtain ⟨sna, snc, hsn⟩ := own_slice' HT8.out.so
                          obtain ⟨rna, rnc, hrn⟩ := own_slice' HT8.out.ro
                          rw [M.trE_len] at hsn
                          rw [M.trW_len] at hrn
                          subst hsn
                          subst hrn
                          have k4 := HT8.out.bxc
                          have hA9 := HAF.out _ HT8.out.below
                          have k5 := HT8.out.fz 1
                          have k7 := heap_lt HT8.out.bx
                          have HU9 := Lib.hid (HT8.out.box 1 (.slice sna (k + 1) snc) (bs' := .slice sna (k + 1) snc) rfl)
                          obtain ⟨k4, k4'⟩ := k4
                          refine wpAnyG_one 25 (by kernel_rfl) rfl fun K' HK => ?_
                          go_wp2_with fail
                          refine HK.out _ _ ⟨⟨HAF.out _ HU9.out.below, (fun h => Bool.noConfusion (h.symm.trans (show _ = true by kernel_rfl)))⟩, ?_⟩
                          clear HK K'
                          try dsimp only [List.getElem_toArray, List.getElem_cons_zero, List.getElem_cons_succ, Act.put, List.setIfInBounds_toArray, List.set_cons_zero, List.set_cons_succ]
                          clear k4 k4' k5 k7
                          have hB9 := HAF.out _ HU9.out.below
                          have k4 := HU9.out.bxc.2
                          have k5 := HU9.out.fz 3
                          have k7 := heap_lt HU9.out.bx
                          refine wpAnyG_take (i := 26) (v := .pointer (some ⟨wq.heap.size, 3, none⟩)) rfl (by kernel_rfl) (by kernel_rfl) (by kernel_rfl) (fun _ _ _ h => h) (by kernel_rfl) (Or.inl ⟨by kernel_rfl, ?_⟩) ⟨hB9, fun h => Bool.noConfusion (h.symm.trans (show _ = true by kernel_rfl))⟩ ?_
                          · intro W' hSw
                            obtain ⟨⟨c0, c1, c2, c3⟩, s1, s2, s3⟩ := hSw
                            go_simp
                          try dsimp only [List.getElem_toArray, List.getElem_cons_zero, List.getElem_cons_succ, Act.put, List.setIfInBounds_toArray, List.set_cons_zero, List.set_cons_succ]
                          have HV9 := Lib.hid (HU9.out.box 3 (.slice rna (k + 1) rnc) (br' := .slice rna (k + 1) rnc) rfl)
                          refine wpAnyG_one 27 (by kernel_rfl) rfl fun K' HK => ?_
                          go_wp2_with fail
                          refine HK.out _ _ ⟨⟨HAF.out _ HV9.out.below, (fun h => Bool.noConfusion (h.symm.trans (show _ = true by kernel_rfl)))⟩, ?_⟩
                          clear HK K'
                          try dsimp only [List.getElem_toArray, List.getElem_cons_zero, List.getElem_cons_succ, Act.put, List.setIfInBounds_toArray, List.set_cons_zero, List.set_cons_succ]
                          refine wpAnyG_done (by kernel_rfl) ?_ _
                          go_wp2
                          go_meet
                          exact ⟨_, _, HV9⟩
                      · intro K' HK
                        go_wp2_with fail
                        have HT10 := Lib.hid (HD.out.new (below1 wz.drew (.cells #[.bool bx] 4)))
                        have HG10 := Lib.hid (show (wz.drew.alloc (.cells #[.bool bx] 4)).heap[wz.heap.size]? = some (.cells #[.bool bx] 4 (0, 0)) from by
                          have h := box_new wz.drew #[.bool bx] 4
                          try rw [World.size_alloc] at h
                          exact h)
                        refine HK.out _ _ ⟨⟨HAF.out _ HT10.out.below, fun _ => HT10.out.bxc⟩, ?_⟩
                        clear HK K'
                        try dsimp only [List.getElem_toArray, List.getElem_cons_zero, List.getElem_cons_succ, Act.put, List.setIfInBounds_toArray, List.set_cons_zero, List.set_cons_succ]
                        refine wpAnyG_one 10 (by kernel_rfl) rfl fun K' HK => ?_
                        go_wp2_with fail
                        have HT11 := Lib.hid (HT10.out.new (below1 (wz.drew.alloc (.cells #[.bool bx] 4)) (.cells #[.string sx] 9)))
                        have HG11 := Lib.hid (show ((wz.drew.alloc (.cells #[.bool bx] 4)).alloc (.cells #[.string sx] 9)).heap[wz.heap.size + 1]? = some (.cells #[.string sx] 9 (0, 0)) from by
                          have h := box_new (wz.drew.alloc (.cells #[.bool bx] 4)) #[.string sx] 9
                          try rw [World.size_alloc] at h
                          exact h)
                        have HG10_11 := Lib.hid (show ((wz.drew.alloc (.cells #[.bool bx] 4)).alloc (.cells #[.string sx] 9)).heap[wz.heap.size]? = some (.cells #[.bool bx] 4 (0, 0)) from by rw [(below1 (wz.drew.alloc (.cells #[.bool bx] 4)) (.cells #[.string sx] 9)).block _ (heap_lt HG10.out)]; exact HG10.out)
                        refine HK.out _ _ ⟨⟨HAF.out _ HT11.out.below, fun _ => HT11.out.bxc⟩, ?_⟩
                        clear HK K'
                        try dsimp only [List.getElem_toArray, List.getElem_cons_zero, List.getElem_cons_succ, Act.put, List.setIfInBounds_toArray, List.set_cons_zero, List.set_cons_succ]
                        refine wpAnyG_one 11 (by kernel_rfl) rfl fun K' HK => ?_
                        refine wpList_app_cel (f := Value.string) _ (by rfl) _ _ _ (by rfl) _ s0 (.string ⟨#[]⟩) 16 Try.underlying22 HIS0.out.1 HIS0.out.2.1 HIS0.out.2.2.1 HIS0.out.2.2.2 rfl (by decide) (fun _ => rfl) wq.heap.size s (M.trE t f k) (by rfl) HT11.out.so HT11.out.le (some ⟨wz.heap.size + 1, 0, none⟩) 1 [sx] (by rfl) (by simp) (cel_one' (f := Value.string) HG11.out) (by have := HLE.out.1; simp only [List.length_singleton]; omega) ?_
                        intro sn x12 q1 q2 q3 q4
                        rw [← HEN.out] at q1
                        have HT12 := Lib.hid (HT11.out.gs q1 q2 q3)
                        have HG10_11_12 := Lib.hid (show x12.heap[wz.heap.size]? = some (.cells #[.bool bx] 4 (0, 0)) from by
                          rw [q2.block _ (heap_lt HG10_11.out) (fun e => by have h1 := (own_lt HD.out.so e.symm).2; have h2 : wz.drew.heap.size = wz.heap.size := rfl; omega)]; exact HG10_11.out)
                        clear q1 q2 q3 q4
                        refine HK.out _ _ ⟨⟨HAF.out _ HT12.out.below, fun _ => HT12.out.bxc⟩, ?_⟩
                        clear HK K'
                        try dsimp only [List.getElem_toArray, List.getElem_cons_zero, List.getElem_cons_succ, Act.put, List.setIfInBounds_toArray, List.set_cons_zero, List.set_cons_succ]
                        have hA12 := HAF.out _ HT12.out.below
                        have hC12 := HT12.out.bxc
                        refine wpAnyG_take (i := 24) (v := .pointer (some ⟨wq.heap.size, 1, none⟩)) rfl (by kernel_rfl) (by kernel_rfl) (by kernel_rfl) (fun _ _ _ h => h) (by kernel_rfl) (Or.inl ⟨by kernel_rfl, ?_⟩) ⟨hA12, fun _ => hC12⟩ ?_
                        · intro W' hSw
                          obtain ⟨⟨c0, c1, c2, c3⟩, s1, s2, s3⟩ := hSw
                          go_simp
                        try dsimp only [List.getElem_toArray, List.getElem_cons_zero, List.getElem_cons_succ, Act.put, List.setIfInBounds_toArray, List.set_cons_zero, List.set_cons_succ]
                        clear hA12 hC12
                        refine wpAnyG_one 23 (by kernel_rfl) rfl fun K' HK => ?_
                        refine wpList_app_cel (f := Value.bool) _ (by rfl) _ _ _ (by rfl) _ b0 (.bool false) 1 Try.underlying24 HIB.out.1 HIB.out.2.1 HIB.out.2.2.1 HIB.out.2.2.2 rfl (by decide) (fun _ => rfl) wq.heap.size r (M.trW t f k) (by rfl) HT12.out.ro HT12.out.le (some ⟨wz.heap.size, 0, none⟩) 1 [bx] (by rfl) (by simp) (cel_one' (f := Value.bool) HG10_11_12.out) (by have := HLE.out.2; simp only [List.length_singleton]; omega) ?_
                        intro rn x13 q1 q2 q3 q4
                        rw [← HWN.out] at q1
                        have HT13 := Lib.hid (HT12.out.gr q1 q2 q3)
                        clear q1 q2 q3 q4
                        refine HK.out _ _ ⟨⟨HAF.out _ HT13.out.below, fun _ => HT13.out.bxc⟩, ?_⟩
                        clear HK K'
                        try dsimp only [List.getElem_toArray, List.getElem_cons_zero, List.getElem_cons_succ, Act.put, List.setIfInBounds_toArray, List.set_cons_zero, List.set_cons_succ]
                        obtain ⟨sna, snc, hsn⟩ := own_slice' HT13.out.so
                        obtain ⟨rna, rnc, hrn⟩ := own_slice' HT13.out.ro
                        rw [M.trE_len] at hsn
                        rw [M.trW_len] at hrn
                        subst hsn
                        subst hrn
                        have k4 := HT13.out.bxc
                        have hA14 := HAF.out _ HT13.out.below
                        have k5 := HT13.out.fz 1
                        have k7 := heap_lt HT13.out.bx
                        have HU14 := Lib.hid (HT13.out.box 1 (.slice sna (k + 1) snc) (bs' := .slice sna (k + 1) snc) rfl)
                        obtain ⟨k4, k4'⟩ := k4
                        refine wpAnyG_one 25 (by kernel_rfl) rfl fun K' HK => ?_
                        go_wp2_with fail
                        refine HK.out _ _ ⟨⟨HAF.out _ HU14.out.below, (fun h => Bool.noConfusion (h.symm.trans (show _ = true by kernel_rfl)))⟩, ?_⟩
                        clear HK K'
                        try dsimp only [List.getElem_toArray, List.getElem_cons_zero, List.getElem_cons_succ, Act.put, List.setIfInBounds_toArray, List.set_cons_zero, List.set_cons_succ]
                        clear k4 k4' k5 k7
                        have hB14 := HAF.out _ HU14.out.below
                        have k4 := HU14.out.bxc.2
                        have k5 := HU14.out.fz 3
                        have k7 := heap_lt HU14.out.bx
                        refine wpAnyG_take (i := 26) (v := .pointer (some ⟨wq.heap.size, 3, none⟩)) rfl (by kernel_rfl) (by kernel_rfl) (by kernel_rfl) (fun _ _ _ h => h) (by kernel_rfl) (Or.inl ⟨by kernel_rfl, ?_⟩) ⟨hB14, fun h => Bool.noConfusion (h.symm.trans (show _ = true by kernel_rfl))⟩ ?_
                        · intro W' hSw
                          obtain ⟨⟨c0, c1, c2, c3⟩, s1, s2, s3⟩ := hSw
                          go_simp
                        try dsimp only [List.getElem_toArray, List.getElem_cons_zero, List.getElem_cons_succ, Act.put, List.setIfInBounds_toArray, List.set_cons_zero, List.set_cons_succ]
                        have HV14 := Lib.hid (HU14.out.box 3 (.slice rna (k + 1) rnc) (br' := .slice rna (k + 1) rnc) rfl)
                        refine wpAnyG_one 27 (by kernel_rfl) rfl fun K' HK => ?_
                        go_wp2_with fail
                        refine HK.out _ _ ⟨⟨HAF.out _ HV14.out.below, (fun h => Bool.noConfusion (h.symm.trans (show _ = true by kernel_rfl)))⟩, ?_⟩
                        clear HK K'
                        try dsimp only [List.getElem_toArray, List.getElem_cons_zero, List.getElem_cons_succ, Act.put, List.setIfInBounds_toArray, List.set_cons_zero, List.set_cons_succ]
                        refine wpAnyG_done (by kernel_rfl) ?_ _
                        go_wp2
                        go_meet
                        exact ⟨_, _, HV14⟩
                    case rest =>
                      obtain ⟨s', r', HTN'⟩ := hcut
                      clear HTN
                      rename World => wc
                      have HBc := Lib.hid (show Below wq.heap.size wq wc from HTN'.out.below)
                      have HXc := Lib.hid (HXq.out.below HBc.out)
                      have HR3c := Lib.hid (And.intro (cell_below HR3.out.1 HBc.out) (cell_below HR3.out.2 HBc.out))
                      have HR4c := Lib.hid (HR4.out.below HBc.out)
                      have HTOc := Lib.hid (HTO.out.below _ hbt HBc.out)
                      have HO0 := Lib.hid (show wc.ownsRow wc.heap.size 3 1 (.slice none 0 0) (M.trR t f k 0).length (intCells (M.trR t f k 0)) from ⟨rfl, Or.inl ⟨rfl, rfl⟩⟩)
                      have hbc : wo.heap.size < wc.heap.size := Nat.lt_of_lt_of_le hbt HBc.out.size
                      go_wp2_with fail
                      go_loopw [15, 16] (fun lv i wy => ∃ c' : Nat, c' ≤ t.elems.length ∧ i = .int .i64 c' ∧ Hid (wy.ownsRow wc.heap.size 3 1 lv (M.trR t f k c').length (intCells (M.trR t f k c'))) ∧ Hid (Below wc.heap.size wc wy)) (fun _ i _ => t.elems.length - (intOf i).toNat)
                      case atStart => exact ⟨0, by omega, rfl, HO0, Lib.hid (Below.refl _ _)⟩
                      case round =>
                        clear HO0
                        rename World => wy
                        obtain ⟨c', hc', rfl, HO5, HB5⟩ := hrel
                        by_cases hcl : c' < t.elems.length
                        · have c1 : (c' : Int) < (t.elems.length : Int) := by omega
                          have HRL5 := Lib.hid (HRL.out c')
                          generalize hR : M.trR t f k c' = Rc at *
                          have HRC := Lib.hid hR
                          clear hR
                          have HO60 := Lib.hid (show wy.ownsRow wc.heap.size 3 1 _ (Rc ++ M.trO L (f c') c' 0).length (intCells (Rc ++ M.trO L (f c') c' 0)) from by rw [M.trO_zero, List.append_nil]; exact HO5.out)
                          go_wp2_with fail
                          go_loopw [15, 17] (fun lv i wv => ∃ j : Nat, j ≤ L.length ∧ i = .int .i64 j ∧ Hid (wv.ownsRow wc.heap.size 3 1 lv (Rc ++ M.trO L (f c') c' j).length (intCells (Rc ++ M.trO L (f c') c' j))) ∧ Hid (Below wc.heap.size wc wv)) (fun _ i _ => L.length - (intOf i).toNat)
                          case atStart => exact ⟨0, by omega, rfl, HO60, HB5⟩
                          case round =>
                            clear HO60 HO5 HB5
                            rename World => wv
                            obtain ⟨j, hj, rfl, HO6, HB6⟩ := hrel
                            obtain ⟨z0, z1, z2, z3⟩ := HXc.out.below HB6.out
                            have q1 := cell_below HR3c.out.1 HB6.out
                            have q2 := cell_below HR3c.out.2 HB6.out
                            by_cases hjl : j < L.length
                            · have j1 : (j : Int) < (L.length : Int) := by omega
                              have j2 : (0 : Int) ≤ (j : Int) := by omega
                              obtain ⟨rb, ro, er, hrat⟩ := HR4c.out.at hjl
                              subst er
                              have q3 := cell_below (hrat.at_ j hjl) HB6.out
                              have hasc := HLA.out j hjl
                              obtain ⟨y', hy'⟩ : ∃ y : Nat, L[j] = (y : Int) := ⟨(L[j]).toNat, by omega⟩
                              rw [hy'] at q3 hasc
                              have hyl : y' < t.elems.length := by omega
                              have q4 := (HTOc.out.below _ hbc HB6.out y' hyl).1
                              have y1 : (y' : Int) < (t.elems.length : Int) := by omega
                              have y2 : (0 : Int) ≤ (y' : Int) := by omega
                              have hgl := HI2.out.gl y' hyl
                              have HYY := Lib.hid hy'
                              clear hrat hy' hasc
                              by_cases hgc : g y' = c'
                              · have hyf : y' = f c' := by rw [← hgc, HI2.out.fg y' hyl]
                                obtain ⟨ho1, ho2⟩ := M.trO_yes (n := t.elems.length) (c := c') HLA.out hjl (show L[j] = ((f c' : Nat) : Int) by rw [HYY.out, hyf])
                                have HO61 := HO6.out
                                rw [ho1, List.append_nil] at HO61
                                have HO6' := Lib.hid HO61
                                have HN6 := Lib.hid ho2
                                rw [hgc] at q4
                                clear ho1 ho2 HO61 hyf HO6
                                obtain ⟨a6, c6, rfl⟩ := own_slice HO6'.out
                                go_wp2_with fail
                                go_quiet (fail)
                                go_wp2_with fail
                                go_quiet (fail)
                                have hi := HI.out.1
                                have hz0 := HI.out.2.1
                                have hz1 := HI.out.2.2.1
                                have hz2 := HI.out.2.2.2
                                have hzv := HB6.out.size
                                have hrl := HRL5.out
                                go_wp2_with (at_builtin; refine wpList_append_own _ rfl _ _ 37 rfl wc.heap.size 3 i0 (.int .i64 0) 1 8 Try.underlying37 hi hz0 hz1 hz2 rfl (by decide) _ _ _ rfl (own_alloc_q HO6'.out rfl) ⟨wv.heap.size, 0, none⟩ 1 1 [.int .i64 c'] rfl rfl ?c1 ?c2 ?c3 ?c4 ?c5 ?_)
                                case c1 =>
                                  intro m u hm
                                  match m, hm with
                                  | 0, hm =>
                                    simp at hm; subst hm
                                    exact (Lib.cell_of_heap (box_new (wv.drewN _) #[.int .i64 (c' : Nat)] 3) 0).trans rfl
                                case c2 => intro u hu; simp at hu; subst hu; rfl
                                case c3 => unfold maxLen; omega
                                case c4 => omega
                                case c5 => simp; omega
                                intro v' w5 hown3 hgrow _
                                have hB5 : Below wc.heap.size wc w5 := Below.grown (below_alloc_q (w' := wv.drewN _) HB6.out rfl rfl rfl rfl hzv _) hgrow (by simp; omega) (fun j hj => (HO6'.out.lt j hj).1)
                                have R9 := Lib.hid hown3
                                have HB5 := Lib.hid hB5
                                clear hown3 hgrow hB5 hi hz0 hz1 hz2 hrl
                                obtain ⟨bv, bc, rfl⟩ := own_slice R9.out
                                go_wp2_with fail
                                go_roundw
                                case rel =>
                                  refine ⟨j + 1, by omega, by go_num, Lib.hid ?_, HB5⟩
                                  rw [HN6.out, List.length_append]
                                  have := R9.out
                                  rw [show intCells (Rc ++ [(c' : Int)]) = intCells Rc ++ [.int .i64 c'] from by unfold intCells; rw [List.map_append]; rfl]
                                  exact this
                                case measure => simp [intOf]; omega
                              · have hne : L[j] ≠ ((f c' : Nat) : Int) := fun e => hgc (by
                                  have e2 : y' = f c' := by have := HYY.out; omega
                                  rw [e2, HI2.out.gf c' hcl])
                                have HN6 := Lib.hid (M.trO_no (x := f c') (c := c') hjl hne)
                                clear hne
                                have q5 : ((g y' : Int) == (c' : Int)) = false := by rw [beq_eq_false_iff_ne]; omega
                                go_wp2_with fail
                                go_quiet (fail)
                                go_wp2_with fail
                                go_quiet (fail)
                                go_wp2_with fail
                                go_roundw
                                case rel => exact ⟨j + 1, by omega, by go_num, Lib.hid (by rw [HN6.out]; exact HO6.out), Lib.hid (by first | exact belowN (belowN HB6.out _) _ | exact belowN HB6.out _)⟩
                                case measure => simp [intOf]; omega
                            · obtain rfl : j = L.length := by omega
                              have j1 : decide ((L.length : Int) < (L.length : Int)) = false := decide_eq_false (by omega)
                              have HN5 := Lib.hid (show M.trR t f k (c' + 1) = Rc ++ M.trO L (f c') c' L.length from by
                                rw [M.trO_all]
                                cases hct : L.contains ((f c' : Nat) : Int) with
                                | true => rw [HRY.out c' hct, HRC.out]; rfl
                                | false => rw [HRN.out c' hct, HRC.out]; exact (List.append_nil _).symm)
                              go_wp2_with fail
                              go_quiet (fail)
                              go_wp2_with fail
                              go_roundw
                              case rel => exact ⟨c' + 1, by omega, by go_num, Lib.hid (by rw [HN5.out]; exact HO6.out), Lib.hid (by first | exact belowN (belowN HB6.out _) _ | exact belowN HB6.out _)⟩
                              case measure => simp [intOf]; omega
                        · obtain rfl : c' = t.elems.length := by omega
                          have c1 : decide ((t.elems.length : Int) < (t.elems.length : Int)) = false := decide_eq_false (by omega)
                          obtain ⟨la, lc, e, p2, p3, p4⟩ := own_int HO5.out
                          subst e
                          have HLA5 := Lib.hid (show ∀ b off, la = some ⟨b, off, none⟩ → wc.heap.size ≤ b from fun b off e => (own_lt HO5.out (by rw [e]; rfl)).1)
                          have HTy := Lib.hid (HTN'.out.new HB5.out)
                          obtain ⟨va, vc, hv⟩ := HTy.out.nst.slice
                          rw [M.trA_len] at hv
                          subst hv
                          have k4 : wy.cell? ⟨wq.heap.size, 2, none⟩ = some (.slice va k vc) := by rw [Lib.cell_of_heap HTy.out.bx]; rfl
                          have HTya := Lib.hid (HTy.out.new (below1 wy (.cells #[.slice la (M.trR t f k t.elems.length).length lc] 37)))
                          have HP4 := Lib.hid p4
                          have HAL := Lib.hid (M.trA_len t f k)
                          have hzy := HB5.out.size
                          have hi := HIR.out.1
                          have hz0 := HIR.out.2.1
                          have hz1 := HIR.out.2.2.1
                          have hz2 := HIR.out.2.2.2
                          clear p4
                          go_wp2_with (at_builtin; refine wpList_append_nestQ (f := Value.int .i64) _ rfl _ _ 23 rfl 37 r0 Try.underlying23 hi hz0 hz1 hz2 wq.heap.size (.slice va k vc) (M.trA t f k) rfl HTya.out.nst ?c1 ⟨wy.heap.size, 0, none⟩ 1 la (M.trR t f k t.elems.length) lc rfl ?c2 ?c3 ?c4 ?c5 ?c6 ?_)
                          case c1 => exact HTya.out.le
                          case c2 =>
                            show World.cell? _ ⟨wy.heap.size, 0, none⟩ = _
                            rw [World.cell?_alloc_at _ _ _ _ rfl]; rfl
                          case c3 => rw [HAL.out]; omega
                          case c4 => exact p2
                          case c5 => exact p3
                          case c6 =>
                            rcases HP4.out.below (below1 wy _) with q | ⟨b, off, e, q⟩
                            · exact Or.inl q
                            · have hb := HLA5.out b off e
                              have h2 := HTN'.out
                              refine Or.inr ⟨b, off, e, fun e2 => ?_, ⟨by have := HBc.out.size; omega, fun e2 => ?_, fun e2 => ?_, fun e2 => ?_⟩, q⟩
                              · have := (nest_lt h2.nst e2.symm).2; omega
                              · have := heap_lt h2.bx; omega
                              · have := (own_lt h2.so e2.symm).2; omega
                              · have := (own_lt h2.ro e2.symm).2; omega
                          intro g' c'' w7 hn hgr hb7
                          rw [HAL.out, ← HAN.out] at hn
                          rw [HAL.out]
                          have HT7 := Lib.hid (HTya.out.gv hn hgr (by rcases hb7 with q | q; exact Or.inl q; exact Or.inr (by show some g' = some _; rw [q, World.size_alloc])))
                          have k5 : w7.cell? ⟨wq.heap.size, 2, none⟩ = some (.slice va k vc) := by rw [Lib.cell_of_heap HT7.out.bx]; rfl
                          have k6 := HT7.out.fz 2
                          have k7 := heap_lt HT7.out.bx
                          have HT8 := Lib.hid (HT7.out.box 2 (.slice (some ⟨g', 0, none⟩) (k + 1) c'') (bv' := .slice (some ⟨g', 0, none⟩) (k + 1) c'') rfl)
                          clear hn hgr hb7 hi hz0 hz1 hz2 k4
                          go_wp2_with fail
                          go_roundw
                          case rel => exact ⟨k + 1, _, _, _, by omega, by go_num, HT8⟩
                          case measure => simp [intOf]; omega
                  · obtain rfl : k = t.elems.length := by omega
                    have k1 : decide ((t.elems.length : Int) < (t.elems.length : Int)) = false := decide_eq_false (by omega)
                    obtain ⟨p', hb', ht'⟩ := HTN.out.table
                    rw [← M.trn_eq] at hb'
                    have HB' := Lib.hid hb'
                    have HT' := Lib.hid (show ∀ w', wz.heap.size ≤ w'.heap.size → (∀ g, wq.heap.size ≤ g → g < wz.heap.size → w'.heap[g]? = wz.heap[g]?) → TbIn w' (M.trn t f) p' from ht')
                    have HBz := Lib.hid (show Below wq.heap.size wq wz from HTN.out.below)
                    have hq2 : w.heap.size + 1 + 1 ≤ wq.heap.size := by have := HZ0.out; have := HBW.out.size; omega
                    have HOz := Lib.hid (show wz.heap[w.heap.size + 1]? = some (.cells tb0 26 (0, 0)) by
                      rw [HBz.out.block _ (by omega), HBW.out.block _ (by have := HZ0.out; omega)]; exact HO.out)
                    have HTOz := Lib.hid (HTO.out.below _ hbt HBz.out)
                    have HBwz := Lib.hid (show Below w.heap.size w wz from below2 HBB.out (HBW.out.trans (HBz.out.mono HBW.out.size)))
                    have hzz := HBz.out.size
                    clear hb' ht' HTN
                    go_wp2_with (first
                      | (refine wpList_load_row _ rfl 26 _ rfl t0 HTI.out.1 (by kernel_rfl) wq.heap.size (tbA (M.trn t f) p') 26 rfl HB'.out HTI.out.2.2 ?_)
                      | (refine wpList_store_row _ rfl 26 _ _ rfl rfl t0 HTI.out.1 (w.heap.size + 1) tb0 (tbA (M.trn t f) p') 26 rfl rfl HOz.out rfl HTI.out.2.2 (by intro v hv; simp only [List.mem_cons, List.not_mem_nil, or_false] at hv; rcases hv with rfl | rfl | rfl | rfl <;> rfl) ?_; intro w8 h8 hg8; have H8 := Lib.hid h8; clear h8))
                    obtain ⟨q0, q1, q2, q3⟩ := tbBox (t := M.trn t f) (p := p') H8.out
                    have hBf : Below w.heap.size w w8 := HBwz.out.grown hg8 HBwz.out.size (fun k e => by cases e; omega)
                    have HT8 : TbIn w8 (M.trn t f) p' := HT'.out w8 hg8.size (fun b k1 k2 => hg8.block b k2 (fun e => by injection e with e; omega))
                    have HC8 : ∀ i, i < t.elems.length → w8.cell? ⟨wo.heap.size, i, none⟩ = some (.int .i64 (g i : Nat)) := fun i hi => by
                      rw [World.cell?_of_block (w := wz) (hg8.block _ (show wo.heap.size < wz.heap.size by omega) (fun e => by injection e with e; have := HBo.out.size; have := HZ0.out; have e2 : wo.heap.size = w.heap.size + 1 := e; omega))]
                      exact (HTOz.out i hi).1
                    exact bodyPost_ret (v := .tuple #[tbV (M.trn t f) p', .slice (some ⟨wo.heap.size, 0, none⟩) t.elems.length t.elems.length]) (by simp [results, Try.results19, go_sem, q0, q1, q2, q3]) rfl ⟨f, g, p', wo.heap.size, _, HI2.out, rfl, HT8, HC8, hBf⟩
end Go.Proofs.Ytnhnjfoboepffaa
