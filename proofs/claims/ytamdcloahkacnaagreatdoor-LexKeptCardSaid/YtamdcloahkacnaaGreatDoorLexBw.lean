/- DERIVED. Contract of lex.Patch. -/
import Derived.Test.YtamdcloahkacnaaGreatDoorLexBv
import Derived.IntWalk
namespace Go.Proofs.YtamdcloahkacnaaGreatDoor
open Go.RowKit Go.WideMaps Go.Maps Go.Shelf

theorem M.patch_le (l : List M.Lx) (x : M.Ed) (hd tl : Int) (nw : List M.Lx) : (M.patch l x hd tl nw).1.length ≤ 1000000 := by
  unfold M.patch
  by_cases h1 : 900 < l.length ∨ 900 < nw.length ∨ 2500 < x.put.size
  · rw [if_pos h1]; simp
  · rw [if_neg h1]
    split
    · simp
    · split
      · simp
      · simp only [List.length_append, List.length_take, List.length_map, List.length_drop]; omega
theorem parts3n {w : World} {B : Nat} {l1 l2 l3 : List M.Lx} {a1 a2 a3 : Option Addr} {c1 c2 c3 n1 n2 n3 : Nat} (e1 : n1 = l1.length) (e2 : n2 = l2.length) (e3 : n3 = l3.length)
    (hB : w.heap[B]? = some (.cells #[.slice a1 n1 c1, .slice a2 n2 c2, .slice a3 n3 c3] 22 (0, 0)))
    (m1 : a1 = none → c1 = 0) (m2 : a2 = none → c2 = 0) (m3 : a3 = none → c3 = 0) (h1 : LxSl w a1 l1) (h2 : LxSl w a2 l2) (h3 : LxSl w a3 l3) : PartsAt w B [l1, l2, l3] := by
  subst e1 e2 e3; exact parts3 hB m1 m2 m3 h1 h2 h3
theorem LxSl.from_ {w : World} {a : Addr} {l : List M.Lx} (h : LxSl w (some a) l) (p : Nat) (hp : p ≤ l.length) : LxSl w (some (a.add (p * 3))) (l.drop p) := by
  have := h.cut p 0 (by omega)
  rw [Nat.sub_zero, List.take_length] at this
  exact this

/-- The cells that Patch reads behind its checks: its boxes. -/
structure PaBox (w : World) (x : M.Ed) (hd tl : Nat) (a' : Option Addr) (n c' : Nat) (W : World) : Prop where
  x0 : W.cell? ⟨w.heap.size, 0, none⟩ = some (.int .i64 x.from_)
  x1 : W.cell? ⟨w.heap.size, 1, none⟩ = some (.int .i64 x.to_)
  x2 : W.cell? ⟨w.heap.size, 2, none⟩ = some (.string x.put)
  y0 : W.cell? ⟨w.heap.size + 1, 0, none⟩ = some (.int .i64 hd)
  y1 : W.cell? ⟨w.heap.size + 1, 1, none⟩ = some (.int .i64 tl)
  y2 : W.cell? ⟨w.heap.size + 1, 2, none⟩ = some (.slice a' n c')
  below : Below w.heap.size w W
  size : w.heap.size + 2 ≤ W.heap.size
theorem PaBox.next {w : World} {x : M.Ed} {hd tl : Nat} {a' : Option Addr} {n c' : Nat} {W W2 : World} (h : PaBox w x hd tl a' n c' W) (hB : Below W.heap.size W W2) : PaBox w x hd tl a' n c' W2 :=
  ⟨cell_below h.x0 hB, cell_below h.x1 hB, cell_below h.x2 hB, cell_below h.y0 hB, cell_below h.y1 hB, cell_below h.y2 hB, below2 h.below hB, Nat.le_trans h.size hB.size⟩
theorem PaBox.grown {w : World} {x : M.Ed} {hd tl : Nat} {a' : Option Addr} {n c' : Nat} {W W2 : World} {g : Nat} (h : PaBox w x hd tl a' n c' W) (hg : W.grownBy W2 (some g)) (hgb : w.heap.size + 2 ≤ g) : PaBox w x hd tl a' n c' W2 := by
  have hz := h.size
  have hb : Below (w.heap.size + 2) W W2 := ⟨hg.os, hg.tape, hg.output, hg.size, fun k hk => hg.block k (by omega) (fun e => by cases e; omega)⟩
  have hc : ∀ i j v, i < w.heap.size + 2 → W.cell? ⟨i, j, none⟩ = some v → W2.cell? ⟨i, j, none⟩ = some v := fun i j v hi hv => by rw [hb.cell (p := ⟨i, j, none⟩) hi]; exact hv
  exact ⟨hc _ _ _ (by omega) h.x0, hc _ _ _ (by omega) h.x1, hc _ _ _ (by omega) h.x2, hc _ _ _ (by omega) h.y0, hc _ _ _ (by omega) h.y1, hc _ _ _ (by omega) h.y2, h.below.trans (hb.mono (by omega)), Nat.le_trans hz hg.size⟩

theorem lxRow_block {W W' : World} {b : Nat} {l : List M.Lx} (h : LxRow W b l) (hb : W'.heap[b]? = W.heap[b]?) : LxRow W' b l := fun i hi => by
  obtain ⟨⟨c0, c1, c2⟩, f0, f1, f2⟩ := h i hi
  have hc : ∀ j, W'.cell? ⟨b, j, none⟩ = W.cell? ⟨b, j, none⟩ := fun j => World.cell?_of_block (w := W) hb
  have hf : ∀ j, W'.frozen? ⟨b, j, none⟩ = W.frozen? ⟨b, j, none⟩ := fun j => World.frozen?_of_block (w := W) hb
  exact ⟨⟨(hc _).trans c0, (hc _).trans c1, (hc _).trans c2⟩, (hf _).trans f0, (hf _).trans f1, (hf _).trans f2⟩
theorem grown_below {W W' : World} (h : Below W.heap.size W W') (r : Option Nat) : W.grownBy W' r := ⟨h.os, h.tape, h.output, h.size, fun k hk _ => h.block k hk⟩

set_option maxHeartbeats 4000000 in
set_option maxRecDepth 100000 in
theorem patch_ok (a : Option Addr) (c : Nat) (a' : Option Addr) (c' : Nat) (l nw : List M.Lx) (x : M.Ed) (hd tl : Nat) (w : World) (h1 : l.length ≤ 900) (h2 : nw.length ≤ 900) (h3 : x.put.size ≤ 2500) (na : a = none → c = 0) (nn : a' = none → c' = 0) (hlc : l.length ≤ c)
    (ho : LxSl w a l) (hn : LxSl w a' nw) (hr : M.inRangeB l x hd tl nw = true) (h4 : hd + nw.length + tl ≤ 900) :
    Calls Tryz.prog 8 #[.slice a l.length c, edV x, .agg #[.int .i64 hd, .int .i64 tl, .slice a' nw.length c']] w (PaPost (M.patch l x hd tl nw) w) := by
  obtain ⟨⟨b1, b2, b3⟩, ⟨z1, z2, z3⟩, hpl, hpn⟩ := inRange_parts hr
  obtain ⟨lo, hlo⟩ : ∃ lo, lo + tl = l.length := ⟨l.length - tl, by omega⟩
  have elo : l.length - tl = lo := by omega
  have hp : M.patch l x hd tl nw = (l.take hd ++ nw ++ (l.drop lo).map (fun t => M.moved t (M.patchBy x)), 0) := by
    unfold M.patch; rw [if_neg (by omega), if_neg (by rw [hr]; decide), if_neg (by omega), Int.toNat_natCast, Int.toNat_natCast, elo]
  have hby1 : -10000 ≤ M.patchBy x := by unfold M.patchBy; omega
  have hby2 : M.patchBy x ≤ 10000 := by unfold M.patchBy; omega
  have q1 : (l.length : Int) ≤ 900 := by omega
  have q2 : (nw.length : Int) ≤ 900 := by omega
  have q3 : (x.put.size : Int) ≤ 2500 := by omega
  have HO := Lib.hid ho
  have HN := Lib.hid hn
  have HR := Lib.hid hr
  have HP := Lib.hid hp
  have HPL := Lib.hid hpl
  have HPN := Lib.hid hpn
  have HNN := Lib.hid nn
  clear hp ho hn hr hpl hpn nn elo
  go_enter Tryz.func8, Tryz.ntmps8
  go_wp2_with fail
  refine (inRange_any a c a' c' l nw x hd tl _ (by omega) (by omega) (HO.out.below (belowA (below1 w _) _)) (HN.out.below (belowA (below1 w _) _))).mono ?_
  rintro e w1 ⟨rfl, hB1⟩
  rw [HR.out]
  obtain ⟨x0, x1, x2, e1, hB, hlt⟩ := boxEC hB1
  clear hB1
  have y0 : w1.cell? ⟨w.heap.size + 1, 0, none⟩ = some (.int .i64 hd) := by rw [Lib.cell_of_heap e1]; rfl
  have y1 : w1.cell? ⟨w.heap.size + 1, 1, none⟩ = some (.int .i64 tl) := by rw [Lib.cell_of_heap e1]; rfl
  have y2 : w1.cell? ⟨w.heap.size + 1, 2, none⟩ = some (.slice a' nw.length c') := by rw [Lib.cell_of_heap e1]; rfl
  have HBOX : PaBox w x hd tl a' nw.length c' w1 := ⟨x0, x1, x2, y0, y1, y2, hB, hlt⟩
  have HO1 := Lib.hid (HO.out.below hB)
  have HN1 := Lib.hid (HN.out.below hB)
  clear e1 HO HN
  go_wp2_with fail
  have hfl : [l.take hd, nw, l.drop lo].flatten = l.take hd ++ nw ++ l.drop lo := by simp [List.append_assoc]
  obtain ⟨out, hout⟩ : ∃ out, l.take hd ++ nw ++ l.drop lo = out := ⟨_, rfl⟩
  have hol : out.length = hd + nw.length + tl := by rw [← hout]; simp only [List.length_append, List.length_take, List.length_drop]; omega
  have hpos : ∀ t, t ∈ out → 0 ≤ t.pos ∧ t.pos ≤ 2500 := by
    intro t ht
    rw [← hout] at ht
    rcases List.mem_append.1 ht with ht | ht
    · rcases List.mem_append.1 ht with ht | ht
      · exact HPL.out t (List.mem_of_mem_take ht)
      · exact HPN.out t ht
    · exact HPL.out t (List.mem_of_mem_drop ht)
  have hfin : M.patch l x hd tl nw = (M.lastK out (M.patchBy x) tl, 0) := by
    have e : (l.drop lo).length = tl := by rw [List.length_drop]; omega
    rw [HP.out, ← hout, ← e, M.lastK_app]
  have hol2 : out.length ≤ 1000000 := by omega
  have HFL := Lib.hid hfl
  have HOUT := Lib.hid hout
  have HPOS := Lib.hid hpos
  have HOL := Lib.hid hol
  replace HP := Lib.hid hfin
  have hBox2 := HBOX.size
  clear hfl hout hpos hol hfin HPL HPN
  have hbnd : hd + tl ≤ l.length := by omega
  rcases a with _ | ad
  · obtain rfl := na rfl
    obtain rfl : l = [] := List.length_eq_zero_iff.1 (by omega)
    obtain rfl : tl = 0 := by have : ([] : List M.Lx).length = 0 := rfl; omega
    obtain rfl : hd = 0 := by have : ([] : List M.Lx).length = 0 := rfl; omega
    obtain rfl : lo = 0 := by have : ([] : List M.Lx).length = 0 := rfl; omega
    have k6 : IntKind.i64.wrap (0 : Int) = 0 := IntWalk.i64_in _ (by omega)
    refine still_tail 13 (by kernel_rfl) (by kernel_rfl) ?_
    simp only [List.take_succ_cons, List.take_zero, List.drop_succ_cons, List.drop_zero]
    repeat still_step
    refine wpStill_nil ?_
    go_wp2_with fail
    have hBW : Below w1.heap.size w1 (w1.alloc (.cells #[.slice none 0 0, .slice a' nw.length c', .slice none 0 0] 22)).drew := (below1 w1 _).drew
    refine (concat_any w1.heap.size 3 [([] : List M.Lx).take 0, nw, ([] : List M.Lx).drop 0] (w1.alloc (.cells #[.slice none 0 0, .slice a' nw.length c', .slice none 0 0] 22)).drew (by simp) (by rw [HFL.out, HOUT.out]; omega) (parts3n (by rw [List.length_take]; omega) rfl (by rw [List.length_drop]; omega) (MapKept.heap_alloc w1 _).1 (fun _ => rfl) HNN.out (fun _ => rfl) (Or.inl rfl) (HN1.out.below hBW) (Or.inl rfl))).mono ?_
    rintro e w2 ⟨v, rfl, hown, hB2⟩
    rw [HFL.out, HOUT.out] at hown
    obtain ⟨x0, x1, x2, y0, y1, y2, hBn, hzn⟩ := (HBOX.next hBW).next hB2
    have hown2 := own_base hown (Nat.le_trans hBox2 hBW.size)
    clear hown
    obtain ⟨av, cv, rfl⟩ := own_slice hown2
    have HOWN := Lib.hid hown2
    clear hown2 hBW hB2
    obtain ⟨av2, cv2, e2, _, hnv, hsv⟩ := own_lx HOWN.out
    cases e2
    have HSV := Lib.hid hsv
    have HNV := Lib.hid hnv
    clear hsv hnv
    go_wp2_with fail
    refine wp_loop_rounds 1 ?_
    rw [rounds_succ]
    go_wp2_with fail
    go_ret2
    exact ⟨_, _, by rw [HP.out, M.lastK_zero]; rfl, HNV.out, by rw [HP.out, M.lastK_zero]; exact HSV.out, hBn⟩
  · have k1 : (hd : Int) ≤ (c : Int) := by omega
    have k2 : (lo : Int) ≤ (l.length : Int) := by omega
    have k3 : (l.length : Int) - (tl : Int) = (lo : Int) := by omega
    have k4 : (l.length : Int) ≤ (c : Int) := by omega
    have k5 : l.length - lo = tl := by omega
    have k6 : IntKind.i64.wrap (lo : Int) = (lo : Int) := IntWalk.i64_in _ (by omega)
    by_cases hck : c = lo
    · obtain rfl : tl = 0 := by omega
      subst hck
      obtain rfl : c = l.length := by omega
      refine still_tail 13 (by kernel_rfl) (by kernel_rfl) ?_
      simp only [List.take_succ_cons, List.take_zero, List.drop_succ_cons, List.drop_zero]
      repeat still_step
      refine wpStill_nil ?_
      go_wp2_with fail
      have hBW : Below w1.heap.size w1 (w1.alloc (.cells #[.slice (some ad) hd l.length, .slice a' nw.length c', .slice (some ad) 0 0] 22)).drew := (below1 w1 _).drew
      refine (concat_any w1.heap.size 3 [l.take hd, nw, l.drop l.length] (w1.alloc (.cells #[.slice (some ad) hd l.length, .slice a' nw.length c', .slice (some ad) 0 0] 22)).drew (by simp) (by rw [HFL.out, HOUT.out]; omega) (parts3n (by rw [List.length_take]; omega) rfl (by rw [List.length_drop]; omega) (MapKept.heap_alloc w1 _).1 (fun h => by cases h) HNN.out (fun h => by cases h) ((HO1.out.below hBW).upto hd) (HN1.out.below hBW) (Or.inl (List.drop_of_length_le (by omega))))).mono ?_
      rintro e w2 ⟨v, rfl, hown, hB2⟩
      rw [HFL.out, HOUT.out] at hown
      obtain ⟨x0, x1, x2, y0, y1, y2, hBn, hzn⟩ := (HBOX.next hBW).next hB2
      have hown2 := own_base hown (Nat.le_trans hBox2 hBW.size)
      clear hown
      obtain ⟨av, cv, rfl⟩ := own_slice hown2
      have HOWN := Lib.hid hown2
      clear hown2 hBW hB2
      obtain ⟨av2, cv2, e2, _, hnv, hsv⟩ := own_lx HOWN.out
      cases e2
      have HSV := Lib.hid hsv
      have HNV := Lib.hid hnv
      clear hsv hnv
      go_wp2_with fail
      refine wp_loop_rounds 1 ?_
      rw [rounds_succ]
      go_wp2_with fail
      go_ret2
      exact ⟨_, _, by rw [HP.out, M.lastK_zero]; rfl, HNV.out, by rw [HP.out, M.lastK_zero]; exact HSV.out, hBn⟩
    · have hck' : ¬ (c : Int) = (lo : Int) := by omega
      refine still_tail 13 (by kernel_rfl) (by kernel_rfl) ?_
      simp only [List.take_succ_cons, List.take_zero, List.drop_succ_cons, List.drop_zero]
      repeat still_step
      refine wpStill_nil ?_
      go_wp2_with fail
      have hBW : Below w1.heap.size w1 (w1.alloc (.cells #[.slice (some ad) hd c, .slice a' nw.length c', .slice (some (ad.add (lo * 3))) tl (c - lo)] 22)).drew := (below1 w1 _).drew
      refine (concat_any w1.heap.size 3 [l.take hd, nw, l.drop lo] (w1.alloc (.cells #[.slice (some ad) hd c, .slice a' nw.length c', .slice (some (ad.add (lo * 3))) tl (c - lo)] 22)).drew (by simp) (by rw [HFL.out, HOUT.out]; omega) (parts3n (by rw [List.length_take]; omega) rfl (by rw [List.length_drop]; omega) (MapKept.heap_alloc w1 _).1 (fun h => by cases h) HNN.out (fun h => by cases h) ((HO1.out.below hBW).upto hd) (HN1.out.below hBW) ((HO1.out.below hBW).from_ lo (by omega)))).mono ?_
      rintro e w2 ⟨v, rfl, hown, hB2⟩
      rw [HFL.out, HOUT.out] at hown
      obtain ⟨x0, x1, x2, y0, y1, y2, hBn, hzn⟩ := (HBOX.next hBW).next hB2
      have hown2 := own_base hown (Nat.le_trans hBox2 hBW.size)
      clear hown
      obtain ⟨av, cv, rfl⟩ := own_slice hown2
      have HOWN := Lib.hid hown2
      clear hown2 hBW hB2
      by_cases htl : tl = 0
      · subst htl
        obtain ⟨av2, cv2, e2, _, hnv, hsv⟩ := own_lx HOWN.out
        cases e2
        have HSV := Lib.hid hsv
        have HNV := Lib.hid hnv
        clear hsv hnv
        go_wp2_with fail
        refine wp_loop_rounds 1 ?_
        rw [rounds_succ]
        go_wp2_with fail
        go_ret2
        exact ⟨_, _, by rw [HP.out, M.lastK_zero]; rfl, HNV.out, by rw [HP.out, M.lastK_zero]; exact HSV.out, hBn⟩
      · obtain ⟨g, rfl⟩ : ∃ g, av = some ⟨g, 0, none⟩ := by
          rcases HOWN.out.2 with ⟨_, h0⟩ | ⟨g, _, _, e, _⟩
          · have := HOL.out; omega
          · cases e; exact ⟨g, rfl⟩
        obtain ⟨hrow, hgb, hgl⟩ := own_lxrow HOWN.out rfl
        have HROW := Lib.hid hrow
        clear hrow HOWN
        go_wp2_with fail
        go_loopw [68] (fun i wr => ∃ k : Nat, k ≤ tl ∧ i = .int .i64 k ∧ Hid (LxRow wr g (M.lastK out (M.patchBy x) k)) ∧ w2.grownBy wr (some g)) (fun i _ => tl - (intOf i).toNat)
        case atStart => exact ⟨0, by omega, rfl, Lib.hid (by rw [M.lastK_zero]; exact HROW.out), World.grownBy.refl _ _⟩
        case round =>
          rename_i wr
          obtain ⟨k, hk, rfl, HRK, hgr⟩ := hrel
          have hzr := hgr.size
          by_cases hkt : k < tl
          · obtain ⟨q, hq⟩ : ∃ q, q + k + 1 = out.length := ⟨out.length - 1 - k, by have := HOL.out; omega⟩
            have hqo : q < out.length := by omega
            obtain ⟨⟨c0, c1, c2⟩, f0, f1, f2⟩ := HRK.out q (by rw [M.lastK_len]; exact hqo)
            have hge := M.lastK_get out (M.patchBy x) k q hqo
            rw [if_pos (by omega)] at hge
            rw [hge] at c0 c1 c2
            have hpt := HPOS.out out[q] (List.getElem_mem hqo)
            have hnext := M.lastK_next out (M.patchBy x) k (by omega)
            have eq1 : out.length - 1 - k = q := by omega
            simp only [eq1] at hnext
            obtain ⟨t, ht⟩ : ∃ t, out[q] = t := ⟨_, rfl⟩
            rw [ht] at c0 c1 c2 hpt hnext
            have HNX := Lib.hid hnext
            have e1 : (out.length : Int) - 1 - (k : Int) = (q : Int) := by omega
            have n1 : (q : Int) < (out.length : Int) := by omega
            have n2 : (0 : Int) ≤ (q : Int) := by omega
            have n3 : (k : Int) < (tl : Int) := by omega
            have hgr1 : g < wr.heap.size := by omega
            have hgw : w.heap.size + 2 ≤ g := hgb
            clear hge hnext eq1 ht hq
            have y1r : wr.cell? ⟨w.heap.size + 1, 1, none⟩ = some (.int .i64 tl) := hgr.cell y1 (by simp; omega)
            go_wp2_with fail
            refine (moved_any t (M.patchBy x) _ (by omega) (by omega)).mono ?_
            rintro e w4 ⟨rfl, hB4⟩
            have hr4 := lxRow_block HRK.out (hB4.block g hgr1)
            have HR4 := Lib.hid hr4
            have hg4 : g < w4.heap.size := Nat.lt_of_lt_of_le hgr1 hB4.size
            obtain ⟨⟨u0, u1, u2⟩, g0, g1, g2⟩ := hr4 q (by rw [M.lastK_len]; exact hqo)
            have hgg := grown_trans hgr (grown_below hB4 (some g))
            clear hr4 hB4 c0 c1 c2 f0 f1 f2 y1r
            go_wp2_with fail
            exact ⟨⟨k + 1, by omega, by simp, Lib.hid (by rw [HNX.out]; exact HR4.out.upd q (M.moved t (M.patchBy x))), grown_trans hgg (grown_set3 w4 g q _ _ _)⟩, by simp [intOf]; omega⟩
          · obtain rfl : k = tl := by omega
            go_wp2_with fail
            go_ret2
            exact ⟨_, _, by rw [HP.out]; dsimp only; rw [M.lastK_len]; rfl, (fun h => by cases h), by rw [HP.out]; exact lxRow_sl HRK.out (by omega), (Below.refl _ _).trans (hBn.grown hgr (by omega) (fun j e => by cases e; omega))⟩
theorem patch_any (a : Option Addr) (c : Nat) (a' : Option Addr) (c' : Nat) (l nw : List M.Lx) (x : M.Ed) (hd tl : Int) (w : World) (hl : l.length ≤ 1000000) (hnl : nw.length ≤ 1000000) (hp : x.put.size ≤ 140737488355328) (na : a = none → c = 0) (nn : a' = none → c' = 0) (hlc : l.length ≤ c)
    (ho : LxSl w a l) (hn : LxSl w a' nw) :
    Calls Tryz.prog 8 #[.slice a l.length c, edV x, .agg #[.int .i64 hd, .int .i64 tl, .slice a' nw.length c']] w (PaPost (M.patch l x hd tl nw) w) := by
  by_cases h1 : 900 < l.length
  · exact patch_l1 a c a' c' l nw x hd tl w hl h1
  by_cases h2 : 900 < nw.length
  · exact patch_l2 a c a' c' l nw x hd tl w hnl (by omega) h2
  by_cases h3 : 2500 < x.put.size
  · exact patch_l3 a c a' c' l nw x hd tl w hp (by omega) (by omega) h3
  cases hr : M.inRangeB l x hd tl nw
  · exact patch_r a c a' c' l nw x hd tl w (by omega) (by omega) (by omega) ho hn hr
  by_cases h4 : 900 < hd + nw.length + tl
  · exact patch_l4 a c a' c' l nw x hd tl w (by omega) (by omega) (by omega) ho hn hr h4
  obtain ⟨_, ⟨z1, z2, z3⟩, _, _⟩ := inRange_parts hr
  obtain ⟨hd, rfl⟩ := Int.eq_ofNat_of_zero_le z1
  obtain ⟨tl, rfl⟩ := Int.eq_ofNat_of_zero_le z2
  exact patch_ok a c a' c' l nw x hd tl w (by omega) (by omega) (by omega) na nn hlc ho hn hr (by omega)
end Go.Proofs.YtamdcloahkacnaaGreatDoor
