/- DERIVED. Contract of the document's own Patch: its limits, and what it comes to. -/
import Derived.Test.YtamdcloahkacnaaGreatDoorLexBx
namespace Go.Proofs.YtamdcloahkacnaaGreatDoor
open Go.RowKit Go.WideMaps Go.Maps Go.Shelf

set_option maxHeartbeats 1000000 in
set_option maxRecDepth 100000 in
theorem refPatch_l1 (a : Option Addr) (c : Nat) (a' : Option Addr) (c' : Nat) (l nw : List M.Lx) (x : M.Ed) (hd tl : Int) (w : World) (hl : l.length ≤ 1000000) (h : 900 < l.length) :
    Calls Tryz.prog 9 #[.slice a l.length c, edV x, .agg #[.int .i64 hd, .int .i64 tl, .slice a' nw.length c']] w (PaPost (M.patch l x hd tl nw) w) := by
  have hp : M.patch l x hd tl nw = ([], 5) := by unfold M.patch; rw [if_pos (Or.inl h)]
  have q : (900 : Int) < (l.length : Int) := by omega
  have HP := Lib.hid hp
  clear hp
  go_enter Tryz.func9, Tryz.ntmps9
  go_wp2_with fail
  go_ret2
  exact paPost_none 5 HP.out (belowA (below1 w _) _)

set_option maxHeartbeats 1000000 in
set_option maxRecDepth 100000 in
theorem refPatch_l2 (a : Option Addr) (c : Nat) (a' : Option Addr) (c' : Nat) (l nw : List M.Lx) (x : M.Ed) (hd tl : Int) (w : World) (hl : nw.length ≤ 1000000) (h1 : l.length ≤ 900) (h : 900 < nw.length) :
    Calls Tryz.prog 9 #[.slice a l.length c, edV x, .agg #[.int .i64 hd, .int .i64 tl, .slice a' nw.length c']] w (PaPost (M.patch l x hd tl nw) w) := by
  have hp : M.patch l x hd tl nw = ([], 5) := by unfold M.patch; rw [if_pos (Or.inr (Or.inl h))]
  have q1 : (l.length : Int) ≤ 900 := by omega
  have q : (900 : Int) < (nw.length : Int) := by omega
  have HP := Lib.hid hp
  clear hp
  go_enter Tryz.func9, Tryz.ntmps9
  go_wp2_with fail
  go_ret2
  exact paPost_none 5 HP.out (belowA (below1 w _) _)

set_option maxHeartbeats 1000000 in
set_option maxRecDepth 100000 in
theorem refPatch_l3 (a : Option Addr) (c : Nat) (a' : Option Addr) (c' : Nat) (l nw : List M.Lx) (x : M.Ed) (hd tl : Int) (w : World) (hl : x.put.size ≤ 140737488355328) (h1 : l.length ≤ 900) (h2 : nw.length ≤ 900) (h : 2500 < x.put.size) :
    Calls Tryz.prog 9 #[.slice a l.length c, edV x, .agg #[.int .i64 hd, .int .i64 tl, .slice a' nw.length c']] w (PaPost (M.patch l x hd tl nw) w) := by
  have hp : M.patch l x hd tl nw = ([], 5) := by unfold M.patch; rw [if_pos (Or.inr (Or.inr h))]
  have q1 : (l.length : Int) ≤ 900 := by omega
  have q2 : (nw.length : Int) ≤ 900 := by omega
  have q : (2500 : Int) < (x.put.size : Int) := by omega
  have HP := Lib.hid hp
  clear hp
  go_enter Tryz.func9, Tryz.ntmps9
  go_wp2_with fail
  go_ret2
  exact paPost_none 5 HP.out (belowA (below1 w _) _)

set_option maxHeartbeats 2000000 in
set_option maxRecDepth 100000 in
theorem refPatch_l4 (a : Option Addr) (c : Nat) (a' : Option Addr) (c' : Nat) (l nw : List M.Lx) (x : M.Ed) (hd tl : Int) (w : World) (h1 : l.length ≤ 900) (h2 : nw.length ≤ 900) (h3 : x.put.size ≤ 2500) (ho : LxSl w a l) (hn : LxSl w a' nw) (hr : M.inRangeB l x hd tl nw = true) (h4 : 900 < hd + nw.length + tl) :
    Calls Tryz.prog 9 #[.slice a l.length c, edV x, .agg #[.int .i64 hd, .int .i64 tl, .slice a' nw.length c']] w (PaPost (M.patch l x hd tl nw) w) := by
  obtain ⟨⟨b1, b2, b3⟩, ⟨z1, z2, z3⟩, _, _⟩ := inRange_parts hr
  have hp : M.patch l x hd tl nw = ([], 5) := by unfold M.patch; rw [if_neg (by omega), if_neg (by rw [hr]; decide), if_pos h4]
  have g1 : M.placedB l = true := by unfold M.inRangeB at hr; simp only [Bool.and_eq_true] at hr; exact hr.1.2
  have g2 : M.placedB nw = true := by unfold M.inRangeB at hr; simp only [Bool.and_eq_true] at hr; exact hr.2
  have f0 : decide (x.from_ < 0) = false := decide_eq_false (by omega)
  have f1 : decide (x.to_ < x.from_) = false := decide_eq_false (by omega)
  have f2 : decide (2500 < x.to_) = false := decide_eq_false (by omega)
  have f3 : decide ((hd : Int) < 0) = false := decide_eq_false (by omega)
  have f4 : decide ((tl : Int) < 0) = false := decide_eq_false (by omega)
  have f5 : decide ((l.length : Int) < hd) = false := decide_eq_false (by omega)
  have f6 : decide ((l.length : Int) - hd < tl) = false := decide_eq_false (by omega)
  have q1 : (l.length : Int) ≤ 900 := by omega
  have q2 : (nw.length : Int) ≤ 900 := by omega
  have q3 : (x.put.size : Int) ≤ 2500 := by omega
  have b4 : (0 : Int) ≤ hd := by omega
  have b5 : (hd : Int) ≤ (l.length : Int) := by omega
  have HO := Lib.hid ho
  have HN := Lib.hid hn
  have G1 := Lib.hid g1
  have G2 := Lib.hid g2
  have HP := Lib.hid hp
  clear hp ho hn hr g1 g2
  go_enter Tryz.func9, Tryz.ntmps9
  go_wp2_with fail
  refine (refPlaces_any a c l _ (by omega) (HO.out.below (belowA (below1 w _) _))).mono ?_
  rintro e w1 ⟨rfl, hB1⟩
  rw [G1.out]
  obtain ⟨x0, x1, x2, e1, hB, hlt⟩ := boxEC hB1
  clear hB1
  have y0 : w1.cell? ⟨w.heap.size + 1, 0, none⟩ = some (.int .i64 hd) := by rw [Lib.cell_of_heap e1]; rfl
  have y1 : w1.cell? ⟨w.heap.size + 1, 1, none⟩ = some (.int .i64 tl) := by rw [Lib.cell_of_heap e1]; rfl
  have y2 : w1.cell? ⟨w.heap.size + 1, 2, none⟩ = some (.slice a' nw.length c') := by rw [Lib.cell_of_heap e1]; rfl
  clear e1
  go_wp2_with fail
  refine (refPlaces_any a' c' nw _ (by omega) (HN.out.below hB)).mono ?_
  rintro e w2 ⟨rfl, hB2⟩
  rw [G2.out]
  replace x0 := cell_below x0 hB2
  replace x1 := cell_below x1 hB2
  replace x2 := cell_below x2 hB2
  replace y0 := cell_below y0 hB2
  replace y1 := cell_below y1 hB2
  replace y2 := cell_below y2 hB2
  replace hB := below2 hB hB2
  replace hlt := Nat.le_trans hlt hB2.size
  clear hB2
  go_wp2_with fail
  go_ret2
  exact paPost_none 5 HP.out hB

/-- 'append' of tokens at a step of a region that draws its order. -/
theorem step_app_lx {ops : Array Oper} {o : Oper} {A : Act} {K : Act → World → Prop} {Q : Exit → Act → World → Prop} {E : Prop} {W : World} (hgd : o.guard = none) (s x : Operand)
    (ho : o.op = .call { callee := .builtin .append, args := #[s, x], argTypes := #[22, 22] })
    (base : Nat) (v : Value) (xs : List M.Lx) (hs : A.eval s = v) (hown : W.ownsRow base 42 3 v xs.length (lxCells xs))
    (a : Option Addr) (c : Nat) (l : List M.Lx) (n : Nat) (hn : n = l.length) (hx : A.eval x = .slice a n c) (hc : a = none → c = 0) (hl : LxSl W a l) (hle : xs.length + l.length ≤ 1000000) (hbase : base ≤ W.heap.size)
    (h : ∀ v' w', w'.ownsRow base 42 3 v' (xs ++ l).length (lxCells (xs ++ l)) → W.grownBy w' v.ownBlock → K (A.put o.dst v') w') :
    if Region.wanted o (yielded ops A.tmps) = true then Oper.wp Tryz.prog o A W K Q else E := by
  have hw : Region.wanted o (yielded ops A.tmps) = true := by simp [Region.wanted, hgd]
  rw [if_pos hw]
  subst hn
  obtain ⟨i0, hi, hz0, hz1, hz2⟩ := info_parts lxInfo
  cases a with
  | none =>
    obtain rfl := hc rfl
    have h0 : l = [] := by
      rcases hl with h | ⟨_, _, h, _⟩
      · exact h
      · cases h
    subst h0
    have hrun := run_append_owned_none (P := Tryz.prog) (w := W) base 22 o.type 42 i0 3 Tryz.underlying22 hi v xs.length (lxCells xs) hown
    have h1 := h v W (by rw [List.append_nil]; exact hown) (World.grownBy.refl _ _)
    have hx' : A.eval x = .slice none 0 0 := hx
    unfold Oper.wp
    simp [execOp, ho, resolve, invoke, builtin, hs, hx', hrun, Result.andThen]
    exact h1
  | some ad =>
    refine wp_append_own W s x _ ho base 42 i0 (.agg #[.int .u8 0, .string ⟨#[]⟩, .int .i64 0]) 3 32 Tryz.underlying22 hi hz0 hz1 hz2 rfl (by decide) v xs.length (lxCells xs) hs hown ad l.length c (lxCells l) hx (lxCells_len l) ?_ ?_ (by unfold maxLen; omega) (by omega) hbase ?_
    · intro j u hj
      have hjl : j < l.length * 3 := by
        have := (List.getElem?_eq_some_iff.1 hj).1
        rwa [lxCells_len] at this
      obtain ⟨q, r, rfl, hr⟩ : ∃ q r, j = q * 3 + r ∧ r < 3 := ⟨j / 3, j % 3, by omega, by omega⟩
      have hq : q < l.length := by omega
      obtain ⟨b, off, e, hA⟩ := hl.at hq
      cases e
      have e1 : (⟨b, off, none⟩ : Addr).add (q * 3 + r) = ⟨b, off + (q * 3 + r), none⟩ := by simp [Addr.add]
      rw [e1, ← hj]
      have hc := lxCells_at l q hq
      match r, hr with
      | 0, _ => exact (hA.c0 q hq).trans hc.1.symm
      | 1, _ => exact (hA.c1 q hq).trans hc.2.1.symm
      | 2, _ => exact (hA.c2 q hq).trans hc.2.2.symm
    · intro u hu
      obtain ⟨x, _, hx⟩ := List.mem_flatMap.1 hu
      simp at hx
      rcases hx with rfl | rfl | rfl <;> rfl
    · intro v' w' h1 h2 _
      refine h v' w' ?_ h2
      have e : lxCells (xs ++ l) = lxCells xs ++ lxCells l := by unfold lxCells; rw [List.flatMap_append]
      rw [e, List.length_append]; exact h1
theorem own_none (W : World) (b : Nat) : W.ownsRow b 42 3 (.slice none 0 0) ([] : List M.Lx).length (lxCells []) := ⟨rfl, Or.inl ⟨rfl, rfl⟩⟩
theorem own_of_below {W W' : World} {b : Nat} {v : Value} {n : Nat} {xs : List Value} (h : W.ownsRow b 42 3 v n xs) (hB : Below W.heap.size W W') : W'.ownsRow b 42 3 v n xs := by
  refine ⟨h.1, ?_⟩
  rcases h.2 with h | ⟨g, cap, cur, e, hb, hg, hr⟩
  · exact Or.inl h
  · refine Or.inr ⟨g, cap, cur, e, hb, ?_, hr⟩
    rw [hB.block g (Lib.lt_of_heap hg)]; exact hg

theorem one_slice (W : World) (x : M.Lx) (t : TypeId) : LxSl (W.alloc (.cells #[.int .u8 x.kind, .string x.text, .int .i64 x.pos] t)) (some ⟨W.heap.size, 0, none⟩) [x] := by
  have hc : ∀ j, (W.alloc (.cells #[.int .u8 x.kind, .string x.text, .int .i64 x.pos] t)).cell? ⟨W.heap.size, j, none⟩ = (#[Value.int .u8 x.kind, .string x.text, .int .i64 x.pos] : Array Value)[j]? := fun j => World.cell?_alloc_at _ _ _ _ rfl
  refine Or.inr ⟨W.heap.size, 0, rfl, by simp, ?_, ?_, ?_⟩ <;> intro i hi <;> obtain rfl : i = 0 := (by simpa using hi)
  · rw [hc]; rfl
  · rw [hc]; rfl
  · rw [hc]; rfl
theorem grow_first {w W1 : World} (h : w.drew.grownBy W1 (Value.slice none 0 0).ownBlock) : Below w.heap.size w W1 :=
  ((Below.refl _ w).drew).grown h (Nat.le_refl _) (fun j e => by cases e)
theorem grow_next {w W1 W2 : World} {v : Value} {n : Nat} {xs : List Value} {e : TypeId} {size : Nat} (hB : Below w.heap.size w W1) (ho : W1.ownsRow w.heap.size e size v n xs) (h : W1.grownBy W2 v.ownBlock) : Below w.heap.size w W2 :=
  hB.grown h hB.size (fun j q => by
    rcases ho.2 with ⟨rfl, _⟩ | ⟨g, cap, cur, rfl, hb, _⟩
    · cases q
    · cases q; exact hb)

set_option maxHeartbeats 4000000 in
set_option maxRecDepth 100000 in
theorem refPatch_ok (a : Option Addr) (c : Nat) (a' : Option Addr) (c' : Nat) (l nw : List M.Lx) (x : M.Ed) (hd tl : Nat) (w : World) (h1 : l.length ≤ 900) (h2 : nw.length ≤ 900) (h3 : x.put.size ≤ 2500) (ho : LxSl w a l) (hn : LxSl w a' nw) (hr : M.inRangeB l x hd tl nw = true) (na : a = none → c = 0) (nn : a' = none → c' = 0) (hlc : l.length ≤ c) (h4 : hd + nw.length + tl ≤ 900) :
    Calls Tryz.prog 9 #[.slice a l.length c, edV x, .agg #[.int .i64 hd, .int .i64 tl, .slice a' nw.length c']] w (PaPost (M.patch l x hd tl nw) w) := by
  obtain ⟨⟨b1, b2, b3⟩, ⟨z1, z2, z3⟩, hpl, _⟩ := inRange_parts hr
  obtain ⟨lo, hlo⟩ : ∃ lo, lo + tl = l.length := ⟨l.length - tl, by omega⟩
  have elo : l.length - tl = lo := by omega
  have hp : M.patch l x hd tl nw = (l.take hd ++ nw ++ (l.drop lo).map (fun t => M.moved t (M.patchBy x)), 0) := by
    unfold M.patch; rw [if_neg (by omega), if_neg (by rw [hr]; decide), if_neg (by omega), Int.toNat_natCast, Int.toNat_natCast, elo]
  have g1 : M.placedB l = true := by unfold M.inRangeB at hr; simp only [Bool.and_eq_true] at hr; exact hr.1.2
  have g2 : M.placedB nw = true := by unfold M.inRangeB at hr; simp only [Bool.and_eq_true] at hr; exact hr.2
  have f0 : decide (x.from_ < 0) = false := decide_eq_false (by omega)
  have f1 : decide (x.to_ < x.from_) = false := decide_eq_false (by omega)
  have f2 : decide (2500 < x.to_) = false := decide_eq_false (by omega)
  have f3 : decide ((hd : Int) < 0) = false := decide_eq_false (by omega)
  have f4 : decide ((tl : Int) < 0) = false := decide_eq_false (by omega)
  have f5 : decide ((l.length : Int) < hd) = false := decide_eq_false (by omega)
  have f6 : decide ((l.length : Int) - hd < tl) = false := decide_eq_false (by omega)
  have q1 : (l.length : Int) ≤ 900 := by omega
  have q2 : (nw.length : Int) ≤ 900 := by omega
  have q3 : (x.put.size : Int) ≤ 2500 := by omega
  have b4 : (0 : Int) ≤ hd := by omega
  have b5 : (hd : Int) ≤ (l.length : Int) := by omega
  have k1 : (hd : Int) ≤ (c : Int) := by omega
  have k4 : ¬ (900 : Int) < (hd : Int) + (nw.length : Int) + (tl : Int) := by omega
  have k5 : (hd : Int) + (nw.length : Int) + (tl : Int) ≤ 900 := by omega
  have HO := Lib.hid ho
  have HN := Lib.hid hn
  have G1 := Lib.hid g1
  have G2 := Lib.hid g2
  have HP := Lib.hid hp
  have HPL := Lib.hid hpl
  have HNA := Lib.hid na
  have HNN := Lib.hid nn
  clear hp ho hn hr g1 g2 hpl elo na nn
  go_enter Tryz.func9, Tryz.ntmps9
  go_wp2_with fail
  refine (refPlaces_any a c l _ (by omega) (HO.out.below (belowA (below1 w _) _))).mono ?_
  rintro e w1 ⟨rfl, hB1⟩
  rw [G1.out]
  obtain ⟨x0, x1, x2, e1, hB, hlt⟩ := boxEC hB1
  clear hB1
  have y0 : w1.cell? ⟨w.heap.size + 1, 0, none⟩ = some (.int .i64 hd) := by rw [Lib.cell_of_heap e1]; rfl
  have y1 : w1.cell? ⟨w.heap.size + 1, 1, none⟩ = some (.int .i64 tl) := by rw [Lib.cell_of_heap e1]; rfl
  have y2 : w1.cell? ⟨w.heap.size + 1, 2, none⟩ = some (.slice a' nw.length c') := by rw [Lib.cell_of_heap e1]; rfl
  clear e1
  go_wp2_with fail
  refine (refPlaces_any a' c' nw _ (by omega) (HN.out.below hB)).mono ?_
  rintro e w2 ⟨rfl, hB2⟩
  rw [G2.out]
  replace x0 := cell_below x0 hB2
  replace x1 := cell_below x1 hB2
  replace x2 := cell_below x2 hB2
  replace y0 := cell_below y0 hB2
  replace y1 := cell_below y1 hB2
  replace y2 := cell_below y2 hB2
  replace hB := below2 hB hB2
  replace hlt := Nat.le_trans hlt hB2.size
  clear hB2
  go_wp2_with fail
  have hD : Below w2.heap.size w2 w2.drew := (Below.refl _ _).drew
  have HL2 := Lib.hid ((HO.out.below hB).below hD)
  have HM2 := Lib.hid (HN.out.below hB)
  have tok1 : True := trivial
  go_region_held_law (fun W' => W'.cell? ⟨w.heap.size + 1, 0, none⟩ = some (.int .i64 hd) ∧ W'.cell? ⟨w.heap.size + 1, 2, none⟩ = some (.slice a' nw.length c') ∧ Below w2.heap.size w2 W')
    (first
      | go_keep
      | exact ⟨cell_below y0 (grow_first hg1), cell_below y2 (grow_first hg1), grow_first hg1⟩
      | exact ⟨cell_below y0 (grow_next (grow_first hg1) hown1 hg2), cell_below y2 (grow_next (grow_first hg1) hown1 hg2), grow_next (grow_first hg1) hown1 hg2⟩)
    ((first
      | (have _t := tok1
         refine step_app_lx (by rfl) _ _ (by rfl) w2.heap.size (.slice none 0 0) [] (by rfl) (own_none _ _) a c (l.take hd) hd (by rw [List.length_take]; omega) (by rfl) HNA.out (HL2.out.upto hd) (by rw [List.length_take]; simp; omega) (Nat.le_refl _) ?_
         intro v1 W1 hown1 hg1
         clear tok1 _t)
      | (refine step_app_lx (by rfl) _ _ (by rfl) w2.heap.size v1 ([] ++ l.take hd) (by rfl) hown1 a' c' nw nw.length rfl (by rfl) HNN.out (HM2.out.below (grow_first hg1)) (by simp; omega) (grow_first hg1).size ?_
         intro v2 W2 hown2 hg2)))
  have hB2 : Below w2.heap.size w2 W2 := grow_next (grow_first hg1) hown1 hg2
  rw [List.nil_append] at hown2
  obtain ⟨base, hbase⟩ : ∃ base, l.take hd ++ nw = base := ⟨_, rfl⟩
  rw [hbase] at hown2
  have hbl : base.length = hd + nw.length := by rw [← hbase, List.length_append, List.length_take]; omega
  have hfin : M.patch l x hd tl nw = (base ++ (l.drop lo).map (fun t => M.moved t (M.patchBy x)), 0) := by rw [HP.out, hbase]
  replace HP := Lib.hid hfin
  have HOWN := Lib.hid hown2
  have HBL := Lib.hid hbl
  replace hB := below2 hB hB2
  replace x0 := cell_below x0 hB2
  replace x1 := cell_below x1 hB2
  replace x2 := cell_below x2 hB2
  replace y1 := cell_below y1 hB2
  have hzw : w2.heap.size ≤ W2.heap.size := hB2.size
  have HL3 := Lib.hid (HO.out.below hB)
  have hby1 : -10000 ≤ M.patchBy x := by unfold M.patchBy; omega
  have hby2 : M.patchBy x ≤ 10000 := by unfold M.patchBy; omega
  have k3 : (l.length : Int) - (tl : Int) = (lo : Int) := by omega
  clear hown1 hown2 hg1 hg2 hB2 HL2 HM2 HL3 HN y0 y2 hbase hbl hfin
  obtain ⟨bv, bc, rfl⟩ := own_slice HOWN.out
  go_wp2_with fail
  go_loopw [9, 8] (fun i v wr => ∃ (k : Nat) (acc : List M.Lx), lo ≤ k ∧ k ≤ l.length ∧ i = .int .i64 k ∧ Hid (acc = base ++ ((l.drop lo).take (k - lo)).map (fun t => M.moved t (M.patchBy x))) ∧ Hid (wr.ownsRow w2.heap.size 42 3 v acc.length (lxCells acc)) ∧ Below w2.heap.size W2 wr) (fun i _ _ => l.length - (intOf i).toNat)
  case atStart => exact ⟨lo, base, Nat.le_refl _, by omega, rfl, Lib.hid (by simp), HOWN, Below.refl _ _⟩
  case round =>
    rename_i wr
    obtain ⟨k, acc, hlk, hk, rfl, HA, HOA, hBr⟩ := hrel
    by_cases hkl : k < l.length
    · have hBf : Below w.heap.size w wr := hB.trans (hBr.mono (by omega))
      obtain ⟨b, off, rfl, ha⟩ := (HO.out.below hBf).at hkl
      have c0 := ha.c0 k hkl
      have c1 := ha.c1 k hkl
      have c2 := ha.c2 k hkl
      have x0r : wr.cell? ⟨w.heap.size, 0, none⟩ = some (.int .i64 x.from_) := (hBr.cell (p := ⟨w.heap.size, 0, none⟩) (by show w.heap.size < _; omega)).trans x0
      have x1r : wr.cell? ⟨w.heap.size, 1, none⟩ = some (.int .i64 x.to_) := (hBr.cell (p := ⟨w.heap.size, 1, none⟩) (by show w.heap.size < _; omega)).trans x1
      have x2r : wr.cell? ⟨w.heap.size, 2, none⟩ = some (.string x.put) := (hBr.cell (p := ⟨w.heap.size, 2, none⟩) (by show w.heap.size < _; omega)).trans x2
      have hpt := HPL.out l[k] (List.getElem_mem hkl)
      have hnx : acc ++ [M.moved l[k] (M.patchBy x)] = base ++ ((l.drop lo).take (k + 1 - lo)).map (fun t => M.moved t (M.patchBy x)) := by
        have e1 : k + 1 - lo = (k - lo) + 1 := by omega
        have e2 : k - lo < (l.drop lo).length := by rw [List.length_drop]; omega
        have e3 : (l.drop lo)[k - lo] = l[k] := by rw [List.getElem_drop]; congr 1; omega
        rw [e1, List.take_succ_eq_append_getElem e2, List.map_append, HA.out, e3, List.append_assoc]; rfl
      obtain ⟨y, hy⟩ : ∃ y, l[k] = y := ⟨_, rfl⟩
      rw [hy] at c0 c1 c2 hpt hnx
      have HNX : Hid (acc ++ [(⟨y.kind, y.text, y.pos + ((x.put.size : Int) - (x.to_ - x.from_))⟩ : M.Lx)] = base ++ ((l.drop lo).take (k + 1 - lo)).map (fun t => M.moved t (M.patchBy x))) := Lib.hid hnx
      have hal : acc.length ≤ 2000 := by rw [HA.out, List.length_append, List.length_map, List.length_take, List.length_drop, HBL.out]; omega
      have n1 : (k : Int) < (l.length : Int) := by omega
      have n2 : (0 : Int) ≤ (k : Int) := by omega
      have hzr := hBr.size
      have n3 : w.heap.size < wr.heap.size := by omega
      clear ha hy hnx
      obtain ⟨av, ac, rfl⟩ := own_slice HOA.out
      obtain ⟨z, hz⟩ : ∃ z : M.Lx, z = ⟨y.kind, y.text, y.pos + ((x.put.size : Int) - (x.to_ - x.from_))⟩ := ⟨_, rfl⟩
      have HZ := Lib.hid hz
      have ho2 := (HOA.out.alloc (.cells #[.int .u8 y.kind, .string y.text, .int .i64 (y.pos + ((x.put.size : Int) - (x.to_ - x.from_)))] 42)).alloc (.cells #[.int .u8 y.kind, .string y.text, .int .i64 (y.pos + ((x.put.size : Int) - (x.to_ - x.from_)))] 42)
      have HO2 := Lib.hid ho2
      clear ho2 hz
      go_wp2_with (at_builtin; refine app_lx rfl _ _ rfl w2.heap.size (.slice av acc.length ac) acc rfl HO2.out (some ⟨wr.heap.size + 1, 0, none⟩) 1 [⟨y.kind, y.text, y.pos + ((x.put.size : Int) - (x.to_ - x.from_))⟩] 1 rfl rfl (fun h => by cases h) ?c1 ?c2 ?c3 ?_)
      case c1 =>
        have := one_slice (wr.alloc (.cells #[.int .u8 y.kind, .string y.text, .int .i64 (y.pos + ((x.put.size : Int) - (x.to_ - x.from_)))] 42)) ⟨y.kind, y.text, y.pos + ((x.put.size : Int) - (x.to_ - x.from_))⟩ 42
        rw [World.size_alloc] at this
        exact this
      case c2 => simp; omega
      case c3 => simp; omega
      intro v5 w5 hown5 hg5
      have hlt5 : ∀ j, (Value.slice av acc.length ac).ownBlock = some j → w2.heap.size ≤ j := fun j hj => (HOA.out.lt j hj).1
      have hB5 : Below w2.heap.size W2 w5 := ((hBr.alloc (by omega) _).alloc (by simp; omega) _).grown hg5 (by simp; omega) hlt5
      have HOW5 := Lib.hid hown5
      obtain ⟨a5, c5, rfl⟩ := own_slice hown5
      clear hown5 hg5 hlt5
      go_wp2_with fail
      go_roundw
      case rel => exact ⟨k + 1, acc ++ [⟨y.kind, y.text, y.pos + ((x.put.size : Int) - (x.to_ - x.from_))⟩], by omega, hkl, rfl, HNX, Lib.hid (by rw [List.length_append]; exact HOW5.out), hB5⟩
      case measure => simp [intOf]; omega
    · obtain rfl : k = l.length := by omega
      obtain ⟨av, ac, rfl⟩ := own_slice HOA.out
      have hac : acc = base ++ (l.drop lo).map (fun t => M.moved t (M.patchBy x)) := by rw [HA.out, List.take_of_length_le (by rw [List.length_drop]; omega)]
      have HAC := Lib.hid hac
      obtain ⟨av2, ac2, e2, _, hnv, hsv⟩ := own_lx HOA.out
      cases e2
      have HSV := Lib.hid hsv
      have HNV := Lib.hid hnv
      have hBf : Below w.heap.size w wr := hB.trans (hBr.mono (by omega))
      clear hac hsv hnv
      have m1 : decide ((l.length : Int) < (l.length : Int)) = false := decide_eq_false (by omega)
      go_wp2_with fail
      go_ret2
      exact ⟨_, _, by rw [HP.out, ← HAC.out]; rfl, HNV.out, by rw [HP.out, ← HAC.out]; exact HSV.out, hBf⟩
theorem refPatch_any (a : Option Addr) (c : Nat) (a' : Option Addr) (c' : Nat) (l nw : List M.Lx) (x : M.Ed) (hd tl : Int) (w : World) (hl : l.length ≤ 1000000) (hnl : nw.length ≤ 1000000) (hp : x.put.size ≤ 140737488355328) (na : a = none → c = 0) (nn : a' = none → c' = 0) (hlc : l.length ≤ c)
    (ho : LxSl w a l) (hn : LxSl w a' nw) :
    Calls Tryz.prog 9 #[.slice a l.length c, edV x, .agg #[.int .i64 hd, .int .i64 tl, .slice a' nw.length c']] w (PaPost (M.patch l x hd tl nw) w) := by
  by_cases h1 : 900 < l.length
  · exact refPatch_l1 a c a' c' l nw x hd tl w hl h1
  by_cases h2 : 900 < nw.length
  · exact refPatch_l2 a c a' c' l nw x hd tl w hnl (by omega) h2
  by_cases h3 : 2500 < x.put.size
  · exact refPatch_l3 a c a' c' l nw x hd tl w hp (by omega) (by omega) h3
  have k1 : l.length ≤ 900 := by omega
  have k2 : nw.length ≤ 900 := by omega
  have k3 : x.put.size ≤ 2500 := by omega
  cases hr : M.inRangeB l x hd tl nw
  · cases f0 : decide (x.from_ < 0) with
    | true => exact refPatch_r0 a c a' c' l nw x hd tl w k1 k2 k3 ho hn f0
    | false =>
    cases f1 : decide (x.to_ < x.from_) with
    | true => exact refPatch_r1 a c a' c' l nw x hd tl w k1 k2 k3 ho hn f0 f1
    | false =>
    cases f2 : decide (2500 < x.to_) with
    | true => exact refPatch_r2 a c a' c' l nw x hd tl w k1 k2 k3 ho hn f0 f1 f2
    | false =>
    cases f3 : decide (hd < 0) with
    | true => exact refPatch_r3 a c a' c' l nw x hd tl w k1 k2 k3 ho hn f0 f1 f2 f3
    | false =>
    cases f4 : decide (tl < 0) with
    | true => exact refPatch_r4 a c a' c' l nw x hd tl w k1 k2 k3 ho hn f0 f1 f2 f3 f4
    | false =>
    cases f5 : decide ((l.length : Int) < hd) with
    | true => exact refPatch_r5 a c a' c' l nw x hd tl w k1 k2 k3 ho hn f0 f1 f2 f3 f4 f5
    | false =>
    cases f6 : decide ((l.length : Int) - hd < tl) with
    | true => exact refPatch_r6 a c a' c' l nw x hd tl w k1 k2 k3 ho hn f0 f1 f2 f3 f4 f5 f6
    | false =>
    cases g1 : M.placedB l with
    | false => exact refPatch_r7 a c a' c' l nw x hd tl w k1 k2 k3 ho hn f0 f1 f2 f3 f4 f5 f6 g1
    | true =>
    cases g2 : M.placedB nw with
    | false => exact refPatch_r8 a c a' c' l nw x hd tl w k1 k2 k3 ho hn f0 f1 f2 f3 f4 f5 f6 g1 g2
    | true =>
      exfalso
      have e0 := of_decide_eq_false f0
      have e1 := of_decide_eq_false f1
      have e2 := of_decide_eq_false f2
      have e3 := of_decide_eq_false f3
      have e4 := of_decide_eq_false f4
      have e5 := of_decide_eq_false f5
      have e6 := of_decide_eq_false f6
      have : M.inRangeB l x hd tl nw = true := by
        unfold M.inRangeB
        rw [g1, g2]
        unfold M.isPlaceB
        simp only [Bool.and_eq_true, decide_eq_true_eq, and_true]
        omega
      rw [this] at hr
      cases hr
  by_cases h4 : 900 < hd + nw.length + tl
  · exact refPatch_l4 a c a' c' l nw x hd tl w k1 k2 k3 ho hn hr h4
  obtain ⟨_, ⟨z1, z2, z3⟩, _, _⟩ := inRange_parts hr
  obtain ⟨hd, rfl⟩ := Int.eq_ofNat_of_zero_le z1
  obtain ⟨tl, rfl⟩ := Int.eq_ofNat_of_zero_le z2
  exact refPatch_ok a c a' c' l nw x hd tl w k1 k2 k3 ho hn hr na nn hlc (by omega)
end Go.Proofs.YtamdcloahkacnaaGreatDoor
