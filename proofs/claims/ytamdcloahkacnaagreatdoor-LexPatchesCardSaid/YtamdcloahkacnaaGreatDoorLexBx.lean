/- DERIVED. Contract of the document's own Patch. -/
import Derived.Test.YtamdcloahkacnaaGreatDoorLexBw
import Derived.Deep.RegionHeldLaw
namespace Go.Proofs.YtamdcloahkacnaaGreatDoor
open Go.RowKit Go.WideMaps Go.Maps Go.Shelf

def PlTill (l : List M.Lx) (k : Nat) : Prop := ∀ j, (hj : j < l.length) → j < k → M.isPlaceB l[j].pos = true

set_option maxHeartbeats 1000000 in
set_option maxRecDepth 100000 in
theorem refPlaces_any (a : Option Addr) (c : Nat) (l : List M.Lx) (w : World) (hl : l.length ≤ 1000000) (hs : LxSl w a l) :
    Calls Tryz.prog 19 #[.slice a l.length c] w fun e w' => e = .returned (.bool (M.placedB l)) ∧ Below w.heap.size w w' := by
  have HS := Lib.hid hs
  clear hs
  go_enter Tryz.func19, Tryz.ntmps19
  go_wp2_with fail
  go_loopw [3] (fun i wr => ∃ k : Nat, k ≤ l.length ∧ i = .int .i64 k ∧ PlTill l k ∧ Below w.heap.size w wr) (fun i _ => l.length - (intOf i).toNat)
  case atStart => exact ⟨0, by omega, rfl, fun j _ hj => by omega, Below.refl _ _⟩
  case round =>
    rename World => wo
    obtain ⟨k, hk, rfl, hall, hB⟩ := hrel
    have HALL := Lib.hid hall
    clear hall
    by_cases hlt : k < l.length
    · obtain ⟨b, off, rfl, ha⟩ := (HS.out.below hB).at hlt
      have c2 := ha.c2 k hlt
      have hno : M.isPlaceB l[k].pos = false → M.placedB l = false := by
        intro hn
        cases ht : M.placedB l
        · rfl
        · unfold M.placedB at ht
          rw [List.all_eq_true] at ht
          rw [ht l[k] (List.getElem_mem hlt)] at hn
          cases hn
      have hnx : M.isPlaceB l[k].pos = true → PlTill l (k + 1) := by
        intro hp j hj hjk
        rcases Nat.lt_succ_iff_lt_or_eq.1 hjk with h | rfl
        · exact HALL.out j hj h
        · exact hp
      obtain ⟨p, hp⟩ : ∃ p, l[k].pos = p := ⟨_, rfl⟩
      rw [hp] at c2 hno hnx
      have HNO := Lib.hid hno
      have HNX := Lib.hid hnx
      have n1 : (k : Int) < (l.length : Int) := by omega
      have n2 : (0 : Int) ≤ (k : Int) := by omega
      clear ha hp hno hnx
      by_cases h0 : p < 0
      · have d0 : decide (p < 0) = true := decide_eq_true h0
        have HV := Lib.hid (HNO.out (by unfold M.isPlaceB; rw [decide_eq_false (by omega)]; rfl))
        clear h0
        go_wp2_with fail
        go_ret
        exact ⟨ret_bool HV.out.symm, hB⟩
      · have d0 : decide (p < 0) = false := decide_eq_false h0
        by_cases h1 : 2500 < p
        · have d1 : decide (2500 < p) = true := decide_eq_true h1
          have HV := Lib.hid (HNO.out (by unfold M.isPlaceB; rw [decide_eq_false (p := p ≤ 2500) (by omega)]; simp))
          clear h0 h1
          go_wp2_with fail
          go_ret
          exact ⟨ret_bool HV.out.symm, hB⟩
        · have d1 : decide (2500 < p) = false := decide_eq_false h1
          have HV := Lib.hid (HNX.out (by unfold M.isPlaceB; rw [decide_eq_true (by omega), decide_eq_true (by omega)]; rfl))
          clear h0 h1
          go_wp2_with fail
          exact ⟨⟨k + 1, by omega, by simp, HV.out, hB⟩, by simp [intOf]; omega⟩
    · have hkl' : ¬ (k : Int) < (l.length : Int) := by omega
      have ht : M.placedB l = true := by
        unfold M.placedB
        rw [List.all_eq_true]
        intro x hx
        obtain ⟨j, hj, rfl⟩ := List.getElem_of_mem hx
        exact HALL.out j hj (by omega)
      have HTH := Lib.hid ht
      clear ht
      go_wp2_with fail
      go_ret
      exact ⟨ret_bool HTH.out.symm, hB⟩


set_option maxHeartbeats 2000000 in
set_option maxRecDepth 100000 in
theorem refPatch_r0 (a : Option Addr) (c : Nat) (a' : Option Addr) (c' : Nat) (l nw : List M.Lx) (x : M.Ed) (hd tl : Int) (w : World) (h1 : l.length ≤ 900) (h2 : nw.length ≤ 900) (h3 : x.put.size ≤ 2500) (ho : LxSl w a l) (hn : LxSl w a' nw) (f0 : decide (x.from_ < 0) = true) :
    Calls Tryz.prog 9 #[.slice a l.length c, edV x, .agg #[.int .i64 hd, .int .i64 tl, .slice a' nw.length c']] w (PaPost (M.patch l x hd tl nw) w) := by
  have hr : M.inRangeB l x hd tl nw = false := by
    cases h : M.inRangeB l x hd tl nw
    · rfl
    · obtain ⟨⟨p1, p2, p3⟩, ⟨p4, p5, p6⟩, _, _⟩ := inRange_parts h; have := of_decide_eq_true f0; exfalso; omega
  have hp : M.patch l x hd tl nw = ([], 3) := by unfold M.patch; rw [if_neg (by omega), if_pos hr]
  have q1 : (l.length : Int) ≤ 900 := by omega
  have q2 : (nw.length : Int) ≤ 900 := by omega
  have q3 : (x.put.size : Int) ≤ 2500 := by omega
  have HO := Lib.hid ho
  have HN := Lib.hid hn
  have HP := Lib.hid hp
  clear hp hr ho hn
  go_enter Tryz.func9, Tryz.ntmps9
  go_wp2_with fail
  go_ret2
  exact paPost_none 3 HP.out (belowA (below1 w _) _)

set_option maxHeartbeats 2000000 in
set_option maxRecDepth 100000 in
theorem refPatch_r1 (a : Option Addr) (c : Nat) (a' : Option Addr) (c' : Nat) (l nw : List M.Lx) (x : M.Ed) (hd tl : Int) (w : World) (h1 : l.length ≤ 900) (h2 : nw.length ≤ 900) (h3 : x.put.size ≤ 2500) (ho : LxSl w a l) (hn : LxSl w a' nw) (f0 : decide (x.from_ < 0) = false) (f1 : decide (x.to_ < x.from_) = true) :
    Calls Tryz.prog 9 #[.slice a l.length c, edV x, .agg #[.int .i64 hd, .int .i64 tl, .slice a' nw.length c']] w (PaPost (M.patch l x hd tl nw) w) := by
  have hr : M.inRangeB l x hd tl nw = false := by
    cases h : M.inRangeB l x hd tl nw
    · rfl
    · obtain ⟨⟨p1, p2, p3⟩, ⟨p4, p5, p6⟩, _, _⟩ := inRange_parts h; have := of_decide_eq_true f1; exfalso; omega
  have hp : M.patch l x hd tl nw = ([], 3) := by unfold M.patch; rw [if_neg (by omega), if_pos hr]
  have q1 : (l.length : Int) ≤ 900 := by omega
  have q2 : (nw.length : Int) ≤ 900 := by omega
  have q3 : (x.put.size : Int) ≤ 2500 := by omega
  have HO := Lib.hid ho
  have HN := Lib.hid hn
  have HP := Lib.hid hp
  clear hp hr ho hn
  go_enter Tryz.func9, Tryz.ntmps9
  go_wp2_with fail
  go_ret2
  exact paPost_none 3 HP.out (belowA (below1 w _) _)

set_option maxHeartbeats 2000000 in
set_option maxRecDepth 100000 in
theorem refPatch_r2 (a : Option Addr) (c : Nat) (a' : Option Addr) (c' : Nat) (l nw : List M.Lx) (x : M.Ed) (hd tl : Int) (w : World) (h1 : l.length ≤ 900) (h2 : nw.length ≤ 900) (h3 : x.put.size ≤ 2500) (ho : LxSl w a l) (hn : LxSl w a' nw) (f0 : decide (x.from_ < 0) = false) (f1 : decide (x.to_ < x.from_) = false) (f2 : decide (2500 < x.to_) = true) :
    Calls Tryz.prog 9 #[.slice a l.length c, edV x, .agg #[.int .i64 hd, .int .i64 tl, .slice a' nw.length c']] w (PaPost (M.patch l x hd tl nw) w) := by
  have hr : M.inRangeB l x hd tl nw = false := by
    cases h : M.inRangeB l x hd tl nw
    · rfl
    · obtain ⟨⟨p1, p2, p3⟩, ⟨p4, p5, p6⟩, _, _⟩ := inRange_parts h; have := of_decide_eq_true f2; exfalso; omega
  have hp : M.patch l x hd tl nw = ([], 3) := by unfold M.patch; rw [if_neg (by omega), if_pos hr]
  have q1 : (l.length : Int) ≤ 900 := by omega
  have q2 : (nw.length : Int) ≤ 900 := by omega
  have q3 : (x.put.size : Int) ≤ 2500 := by omega
  have HO := Lib.hid ho
  have HN := Lib.hid hn
  have HP := Lib.hid hp
  clear hp hr ho hn
  go_enter Tryz.func9, Tryz.ntmps9
  go_wp2_with fail
  go_ret2
  exact paPost_none 3 HP.out (belowA (below1 w _) _)

set_option maxHeartbeats 2000000 in
set_option maxRecDepth 100000 in
theorem refPatch_r3 (a : Option Addr) (c : Nat) (a' : Option Addr) (c' : Nat) (l nw : List M.Lx) (x : M.Ed) (hd tl : Int) (w : World) (h1 : l.length ≤ 900) (h2 : nw.length ≤ 900) (h3 : x.put.size ≤ 2500) (ho : LxSl w a l) (hn : LxSl w a' nw) (f0 : decide (x.from_ < 0) = false) (f1 : decide (x.to_ < x.from_) = false) (f2 : decide (2500 < x.to_) = false) (f3 : decide (hd < 0) = true) :
    Calls Tryz.prog 9 #[.slice a l.length c, edV x, .agg #[.int .i64 hd, .int .i64 tl, .slice a' nw.length c']] w (PaPost (M.patch l x hd tl nw) w) := by
  have hr : M.inRangeB l x hd tl nw = false := by
    cases h : M.inRangeB l x hd tl nw
    · rfl
    · obtain ⟨⟨p1, p2, p3⟩, ⟨p4, p5, p6⟩, _, _⟩ := inRange_parts h; have := of_decide_eq_true f3; exfalso; omega
  have hp : M.patch l x hd tl nw = ([], 3) := by unfold M.patch; rw [if_neg (by omega), if_pos hr]
  have q1 : (l.length : Int) ≤ 900 := by omega
  have q2 : (nw.length : Int) ≤ 900 := by omega
  have q3 : (x.put.size : Int) ≤ 2500 := by omega
  have HO := Lib.hid ho
  have HN := Lib.hid hn
  have HP := Lib.hid hp
  clear hp hr ho hn
  go_enter Tryz.func9, Tryz.ntmps9
  go_wp2_with fail
  go_ret2
  exact paPost_none 3 HP.out (belowA (below1 w _) _)

set_option maxHeartbeats 2000000 in
set_option maxRecDepth 100000 in
theorem refPatch_r4 (a : Option Addr) (c : Nat) (a' : Option Addr) (c' : Nat) (l nw : List M.Lx) (x : M.Ed) (hd tl : Int) (w : World) (h1 : l.length ≤ 900) (h2 : nw.length ≤ 900) (h3 : x.put.size ≤ 2500) (ho : LxSl w a l) (hn : LxSl w a' nw) (f0 : decide (x.from_ < 0) = false) (f1 : decide (x.to_ < x.from_) = false) (f2 : decide (2500 < x.to_) = false) (f3 : decide (hd < 0) = false) (f4 : decide (tl < 0) = true) :
    Calls Tryz.prog 9 #[.slice a l.length c, edV x, .agg #[.int .i64 hd, .int .i64 tl, .slice a' nw.length c']] w (PaPost (M.patch l x hd tl nw) w) := by
  have hr : M.inRangeB l x hd tl nw = false := by
    cases h : M.inRangeB l x hd tl nw
    · rfl
    · obtain ⟨⟨p1, p2, p3⟩, ⟨p4, p5, p6⟩, _, _⟩ := inRange_parts h; have := of_decide_eq_true f4; exfalso; omega
  have hp : M.patch l x hd tl nw = ([], 3) := by unfold M.patch; rw [if_neg (by omega), if_pos hr]
  have q1 : (l.length : Int) ≤ 900 := by omega
  have q2 : (nw.length : Int) ≤ 900 := by omega
  have q3 : (x.put.size : Int) ≤ 2500 := by omega
  have HO := Lib.hid ho
  have HN := Lib.hid hn
  have HP := Lib.hid hp
  clear hp hr ho hn
  go_enter Tryz.func9, Tryz.ntmps9
  go_wp2_with fail
  go_ret2
  exact paPost_none 3 HP.out (belowA (below1 w _) _)

set_option maxHeartbeats 2000000 in
set_option maxRecDepth 100000 in
theorem refPatch_r5 (a : Option Addr) (c : Nat) (a' : Option Addr) (c' : Nat) (l nw : List M.Lx) (x : M.Ed) (hd tl : Int) (w : World) (h1 : l.length ≤ 900) (h2 : nw.length ≤ 900) (h3 : x.put.size ≤ 2500) (ho : LxSl w a l) (hn : LxSl w a' nw) (f0 : decide (x.from_ < 0) = false) (f1 : decide (x.to_ < x.from_) = false) (f2 : decide (2500 < x.to_) = false) (f3 : decide (hd < 0) = false) (f4 : decide (tl < 0) = false) (f5 : decide ((l.length : Int) < hd) = true) :
    Calls Tryz.prog 9 #[.slice a l.length c, edV x, .agg #[.int .i64 hd, .int .i64 tl, .slice a' nw.length c']] w (PaPost (M.patch l x hd tl nw) w) := by
  have hr : M.inRangeB l x hd tl nw = false := by
    cases h : M.inRangeB l x hd tl nw
    · rfl
    · obtain ⟨⟨p1, p2, p3⟩, ⟨p4, p5, p6⟩, _, _⟩ := inRange_parts h; have := of_decide_eq_true f5; exfalso; omega
  have hp : M.patch l x hd tl nw = ([], 3) := by unfold M.patch; rw [if_neg (by omega), if_pos hr]
  have q1 : (l.length : Int) ≤ 900 := by omega
  have q2 : (nw.length : Int) ≤ 900 := by omega
  have q3 : (x.put.size : Int) ≤ 2500 := by omega
  have HO := Lib.hid ho
  have HN := Lib.hid hn
  have HP := Lib.hid hp
  clear hp hr ho hn
  go_enter Tryz.func9, Tryz.ntmps9
  go_wp2_with fail
  go_ret2
  exact paPost_none 3 HP.out (belowA (below1 w _) _)

set_option maxHeartbeats 2000000 in
set_option maxRecDepth 100000 in
theorem refPatch_r6 (a : Option Addr) (c : Nat) (a' : Option Addr) (c' : Nat) (l nw : List M.Lx) (x : M.Ed) (hd tl : Int) (w : World) (h1 : l.length ≤ 900) (h2 : nw.length ≤ 900) (h3 : x.put.size ≤ 2500) (ho : LxSl w a l) (hn : LxSl w a' nw) (f0 : decide (x.from_ < 0) = false) (f1 : decide (x.to_ < x.from_) = false) (f2 : decide (2500 < x.to_) = false) (f3 : decide (hd < 0) = false) (f4 : decide (tl < 0) = false) (f5 : decide ((l.length : Int) < hd) = false) (f6 : decide ((l.length : Int) - hd < tl) = true) :
    Calls Tryz.prog 9 #[.slice a l.length c, edV x, .agg #[.int .i64 hd, .int .i64 tl, .slice a' nw.length c']] w (PaPost (M.patch l x hd tl nw) w) := by
  have hr : M.inRangeB l x hd tl nw = false := by
    cases h : M.inRangeB l x hd tl nw
    · rfl
    · obtain ⟨⟨p1, p2, p3⟩, ⟨p4, p5, p6⟩, _, _⟩ := inRange_parts h; have := of_decide_eq_true f6; exfalso; omega
  have hp : M.patch l x hd tl nw = ([], 3) := by unfold M.patch; rw [if_neg (by omega), if_pos hr]
  have q1 : (l.length : Int) ≤ 900 := by omega
  have q2 : (nw.length : Int) ≤ 900 := by omega
  have q3 : (x.put.size : Int) ≤ 2500 := by omega
  have b4 : (0 : Int) ≤ hd := by have := of_decide_eq_false f3; omega
  have b5 : hd ≤ (l.length : Int) := by have := of_decide_eq_false f5; omega
  have HO := Lib.hid ho
  have HN := Lib.hid hn
  have HP := Lib.hid hp
  clear hp hr ho hn
  go_enter Tryz.func9, Tryz.ntmps9
  go_wp2_with fail
  go_ret2
  exact paPost_none 3 HP.out (belowA (below1 w _) _)

set_option maxHeartbeats 2000000 in
set_option maxRecDepth 100000 in
theorem refPatch_r7 (a : Option Addr) (c : Nat) (a' : Option Addr) (c' : Nat) (l nw : List M.Lx) (x : M.Ed) (hd tl : Int) (w : World) (h1 : l.length ≤ 900) (h2 : nw.length ≤ 900) (h3 : x.put.size ≤ 2500) (ho : LxSl w a l) (hn : LxSl w a' nw) (f0 : decide (x.from_ < 0) = false) (f1 : decide (x.to_ < x.from_) = false) (f2 : decide (2500 < x.to_) = false) (f3 : decide (hd < 0) = false) (f4 : decide (tl < 0) = false) (f5 : decide ((l.length : Int) < hd) = false) (f6 : decide ((l.length : Int) - hd < tl) = false) (g1 : M.placedB l = false) :
    Calls Tryz.prog 9 #[.slice a l.length c, edV x, .agg #[.int .i64 hd, .int .i64 tl, .slice a' nw.length c']] w (PaPost (M.patch l x hd tl nw) w) := by
  have hr : M.inRangeB l x hd tl nw = false := by
    cases h : M.inRangeB l x hd tl nw
    · rfl
    · unfold M.inRangeB at h; rw [g1] at h; simp at h
  have hp : M.patch l x hd tl nw = ([], 3) := by unfold M.patch; rw [if_neg (by omega), if_pos hr]
  have q1 : (l.length : Int) ≤ 900 := by omega
  have q2 : (nw.length : Int) ≤ 900 := by omega
  have q3 : (x.put.size : Int) ≤ 2500 := by omega
  have b4 : (0 : Int) ≤ hd := by have := of_decide_eq_false f3; omega
  have b5 : hd ≤ (l.length : Int) := by have := of_decide_eq_false f5; omega
  have HO := Lib.hid ho
  have HN := Lib.hid hn
  have HP := Lib.hid hp
  have G1 := Lib.hid g1
  clear g1
  clear hp hr ho hn
  go_enter Tryz.func9, Tryz.ntmps9
  go_wp2_with fail
  refine (refPlaces_any a c l _ (by omega) (HO.out.below (belowA (below1 w _) _))).mono ?_
  rintro e w1 ⟨rfl, hB1⟩
  rw [G1.out]
  obtain ⟨x0, x1, x2, e1, hB, hlt⟩ := boxEC hB1
  clear hB1
  have y0 : w1.cell? ⟨w.heap.size + 1, 0, none⟩ = some (.int .i64 hd) := by rw [Lib.cell_of_heap e1]; rfl
  have y1 : w1.cell? ⟨w.heap.size + 1, 1, none⟩ = some (.int .i64 tl) := by rw [Lib.cell_of_heap e1]; rfl
  have y2 : w1.cell? ⟨w.heap.size + 1, 2, none⟩ = some (.slice a' nw.length c') := by rw [Lib.cell_of_heap e1]; rfl
  clear e1
  go_wp2_with fail
  go_ret2
  exact paPost_none 3 HP.out hB

set_option maxHeartbeats 2000000 in
set_option maxRecDepth 100000 in
theorem refPatch_r8 (a : Option Addr) (c : Nat) (a' : Option Addr) (c' : Nat) (l nw : List M.Lx) (x : M.Ed) (hd tl : Int) (w : World) (h1 : l.length ≤ 900) (h2 : nw.length ≤ 900) (h3 : x.put.size ≤ 2500) (ho : LxSl w a l) (hn : LxSl w a' nw) (f0 : decide (x.from_ < 0) = false) (f1 : decide (x.to_ < x.from_) = false) (f2 : decide (2500 < x.to_) = false) (f3 : decide (hd < 0) = false) (f4 : decide (tl < 0) = false) (f5 : decide ((l.length : Int) < hd) = false) (f6 : decide ((l.length : Int) - hd < tl) = false) (g1 : M.placedB l = true) (g2 : M.placedB nw = false) :
    Calls Tryz.prog 9 #[.slice a l.length c, edV x, .agg #[.int .i64 hd, .int .i64 tl, .slice a' nw.length c']] w (PaPost (M.patch l x hd tl nw) w) := by
  have hr : M.inRangeB l x hd tl nw = false := by
    cases h : M.inRangeB l x hd tl nw
    · rfl
    · unfold M.inRangeB at h; rw [g2] at h; simp at h
  have hp : M.patch l x hd tl nw = ([], 3) := by unfold M.patch; rw [if_neg (by omega), if_pos hr]
  have q1 : (l.length : Int) ≤ 900 := by omega
  have q2 : (nw.length : Int) ≤ 900 := by omega
  have q3 : (x.put.size : Int) ≤ 2500 := by omega
  have b4 : (0 : Int) ≤ hd := by have := of_decide_eq_false f3; omega
  have b5 : hd ≤ (l.length : Int) := by have := of_decide_eq_false f5; omega
  have HO := Lib.hid ho
  have HN := Lib.hid hn
  have HP := Lib.hid hp
  have G1 := Lib.hid g1
  clear g1
  have G2 := Lib.hid g2
  clear g2
  clear hp hr ho hn
  go_enter Tryz.func9, Tryz.ntmps9
  go_wp2_with fail
  refine (refPlaces_any a c l _ (by omega) (HO.out.below (belowA (below1 w _) _))).mono ?_
  rintro e w1 ⟨rfl, hB1⟩
  rw [G1.out]
  obtain ⟨x0, x1, x2, e1, hB, hlt⟩ := boxEC hB1
  clear hB1
  have y0 : w1.cell? ⟨w.heap.size + 1, 0, none⟩ = some (.int .i64 hd) := by rw [Lib.cell_of_heap e1]; rfl
  have y1 : w1.cell? ⟨w.heap.size + 1, 1, none⟩ = some (.int .i64 tl) := by rw [Lib.cell_of_heap e1]; rfl
  have y2 : w1.cell? ⟨w.heap.size + 1, 2, none⟩ = some (.slice a' nw.length c') := by rw [Lib.cell_of_heap e1]; rfl
  clear e1
  go_wp2_with fail
  refine (refPlaces_any a' c' nw _ (by omega) (HN.out.below hB)).mono ?_
  rintro e w2 ⟨rfl, hB2⟩
  rw [G2.out]
  replace hB := below2 hB hB2
  clear hB2
  go_wp2_with fail
  go_ret2
  exact paPost_none 3 HP.out hB

end Go.Proofs.YtamdcloahkacnaaGreatDoor
