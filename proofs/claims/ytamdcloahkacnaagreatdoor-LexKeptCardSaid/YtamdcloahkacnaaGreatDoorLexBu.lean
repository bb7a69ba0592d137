/- DERIVED. Plain: what lex.Patch comes to; its answers with an error. -/
import Derived.Test.YtamdcloahkacnaaGreatDoorLexBs
import Derived.Test.YtamdcloahkacnaaGreatDoorLexBt
namespace Go.Proofs.YtamdcloahkacnaaGreatDoor
open Go.RowKit Go.WideMaps Go.Maps Go.Shelf

namespace M
def patchBy (x : Ed) : Int := (x.put.size : Int) - (x.to_ - x.from_)
def patch (l : List Lx) (x : Ed) (hd tl : Int) (nw : List Lx) : List Lx × Nat :=
  if 900 < l.length ∨ 900 < nw.length ∨ 2500 < x.put.size then ([], 5) else
  if inRangeB l x hd tl nw = false then ([], 3) else
  if 900 < hd + nw.length + tl then ([], 5) else
  (l.take hd.toNat ++ nw ++ (l.drop (l.length - tl.toNat)).map (fun t => moved t (patchBy x)), 0)
/-- A list of which the last k tokens are moved. -/
def lastK (out : List Lx) (d : Int) (k : Nat) : List Lx := out.take (out.length - k) ++ (out.drop (out.length - k)).map (fun t => moved t d)
theorem lastK_len (out : List Lx) (d : Int) (k : Nat) : (lastK out d k).length = out.length := by
  unfold lastK; rw [List.length_append, List.length_map, List.length_take, List.length_drop]; omega
theorem lastK_get (out : List Lx) (d : Int) (k i : Nat) (h : i < out.length) : (lastK out d k)[i]'(by rw [lastK_len]; exact h) = if i < out.length - k then out[i] else moved out[i] d := by
  unfold lastK
  rw [List.getElem_append]
  by_cases hi : i < out.length - k
  · rw [dif_pos (by rw [List.length_take]; omega), if_pos hi, List.getElem_take]
  · rw [dif_neg (by rw [List.length_take]; omega), if_neg hi, List.getElem_map, List.getElem_drop]
    have e : out.length - k + (i - (out.take (out.length - k)).length) = i := by rw [List.length_take]; omega
    simp only [e]
theorem lastK_zero (out : List Lx) (d : Int) : lastK out d 0 = out := by
  unfold lastK; simp
theorem lastK_next (out : List Lx) (d : Int) (k : Nat) (h : k < out.length) : lastK out d (k + 1) = (lastK out d k).set (out.length - 1 - k) (moved (out[out.length - 1 - k]'(by omega)) d) := by
  apply List.ext_getElem (by rw [List.length_set, lastK_len, lastK_len])
  intro i h1 h2
  rw [lastK_len] at h1
  rw [lastK_get out d (k + 1) i h1, List.getElem_set, lastK_get out d k i h1]
  by_cases e : out.length - 1 - k = i
  · subst e; rw [if_pos rfl, if_neg (by omega)]
  · rw [if_neg e]
    by_cases h3 : i < out.length - k
    · rw [if_pos h3, if_pos (by omega)]
    · rw [if_neg h3, if_neg (by omega)]
theorem lastK_app (a b : List Lx) (d : Int) : lastK (a ++ b) d b.length = a ++ b.map (fun t => moved t d) := by
  unfold lastK; rw [List.length_append, Nat.add_sub_cancel, List.take_left, List.drop_left]
end M

/-- What Patch comes to. -/
def PaPost (r : List M.Lx × Nat) (w : World) (e : Ending) (w' : World) : Prop :=
  ∃ a c, e = .returned (.tuple #[.slice a r.1.length c, .int .i64 r.2]) ∧ (a = none → c = 0) ∧ LxSl w' a r.1 ∧ Below w.heap.size w w'
theorem paPost_none {w w' : World} {r : List M.Lx × Nat} (k : Nat) (h : r = ([], k)) (hb : Below w.heap.size w w') : PaPost r w (.returned (.tuple #[.slice none 0 0, .int .i64 k])) w' :=
  ⟨none, 0, by rw [h]; rfl, fun _ => rfl, by rw [h]; exact Or.inl rfl, hb⟩

set_option maxHeartbeats 1000000 in
set_option maxRecDepth 100000 in
theorem patch_l1 (a : Option Addr) (c : Nat) (a' : Option Addr) (c' : Nat) (l nw : List M.Lx) (x : M.Ed) (hd tl : Int) (w : World) (hl : l.length ≤ 1000000) (h : 900 < l.length) :
    Calls Tryz.prog 8 #[.slice a l.length c, edV x, .agg #[.int .i64 hd, .int .i64 tl, .slice a' nw.length c']] w (PaPost (M.patch l x hd tl nw) w) := by
  have hp : M.patch l x hd tl nw = ([], 5) := by unfold M.patch; rw [if_pos (Or.inl h)]
  have q : (900 : Int) < (l.length : Int) := by omega
  have HP := Lib.hid hp
  clear hp
  go_enter Tryz.func8, Tryz.ntmps8
  go_wp2_with fail
  go_ret2
  exact paPost_none 5 HP.out (belowA (below1 w _) _)

set_option maxHeartbeats 1000000 in
set_option maxRecDepth 100000 in
theorem patch_l2 (a : Option Addr) (c : Nat) (a' : Option Addr) (c' : Nat) (l nw : List M.Lx) (x : M.Ed) (hd tl : Int) (w : World) (hl : nw.length ≤ 1000000) (h1 : l.length ≤ 900) (h : 900 < nw.length) :
    Calls Tryz.prog 8 #[.slice a l.length c, edV x, .agg #[.int .i64 hd, .int .i64 tl, .slice a' nw.length c']] w (PaPost (M.patch l x hd tl nw) w) := by
  have hp : M.patch l x hd tl nw = ([], 5) := by unfold M.patch; rw [if_pos (Or.inr (Or.inl h))]
  have q1 : (l.length : Int) ≤ 900 := by omega
  have q : (900 : Int) < (nw.length : Int) := by omega
  have HP := Lib.hid hp
  clear hp
  go_enter Tryz.func8, Tryz.ntmps8
  go_wp2_with fail
  go_ret2
  exact paPost_none 5 HP.out (belowA (below1 w _) _)

set_option maxHeartbeats 1000000 in
set_option maxRecDepth 100000 in
theorem patch_l3 (a : Option Addr) (c : Nat) (a' : Option Addr) (c' : Nat) (l nw : List M.Lx) (x : M.Ed) (hd tl : Int) (w : World) (hl : x.put.size ≤ 140737488355328) (h1 : l.length ≤ 900) (h2 : nw.length ≤ 900) (h : 2500 < x.put.size) :
    Calls Tryz.prog 8 #[.slice a l.length c, edV x, .agg #[.int .i64 hd, .int .i64 tl, .slice a' nw.length c']] w (PaPost (M.patch l x hd tl nw) w) := by
  have hp : M.patch l x hd tl nw = ([], 5) := by unfold M.patch; rw [if_pos (Or.inr (Or.inr h))]
  have q1 : (l.length : Int) ≤ 900 := by omega
  have q2 : (nw.length : Int) ≤ 900 := by omega
  have q : (2500 : Int) < (x.put.size : Int) := by omega
  have HP := Lib.hid hp
  clear hp
  go_enter Tryz.func8, Tryz.ntmps8
  go_wp2_with fail
  go_ret2
  exact paPost_none 5 HP.out (belowA (below1 w _) _)

set_option maxHeartbeats 1000000 in
set_option maxRecDepth 100000 in
theorem patch_r (a : Option Addr) (c : Nat) (a' : Option Addr) (c' : Nat) (l nw : List M.Lx) (x : M.Ed) (hd tl : Int) (w : World) (h1 : l.length ≤ 900) (h2 : nw.length ≤ 900) (h3 : x.put.size ≤ 2500) (ho : LxSl w a l) (hn : LxSl w a' nw) (hr : M.inRangeB l x hd tl nw = false) :
    Calls Tryz.prog 8 #[.slice a l.length c, edV x, .agg #[.int .i64 hd, .int .i64 tl, .slice a' nw.length c']] w (PaPost (M.patch l x hd tl nw) w) := by
  have hp : M.patch l x hd tl nw = ([], 3) := by unfold M.patch; rw [if_neg (by omega), if_pos hr]
  have q1 : (l.length : Int) ≤ 900 := by omega
  have q2 : (nw.length : Int) ≤ 900 := by omega
  have q3 : (x.put.size : Int) ≤ 2500 := by omega
  have HO := Lib.hid ho
  have HN := Lib.hid hn
  have HR := Lib.hid hr
  have HP := Lib.hid hp
  clear hp ho hn hr
  go_enter Tryz.func8, Tryz.ntmps8
  go_wp2_with fail
  refine (inRange_any a c a' c' l nw x hd tl _ (by omega) (by omega) (HO.out.below (belowA (below1 w _) _)) (HN.out.below (belowA (below1 w _) _))).mono ?_
  rintro e w1 ⟨rfl, hB1⟩
  rw [HR.out]
  obtain ⟨x0, x1, x2, e1, hB, hlt⟩ := boxEC hB1
  clear hB1
  have y0 : w1.cell? ⟨w.heap.size + 1, 0, none⟩ = some (.int .i64 hd) := by rw [Lib.cell_of_heap e1]; rfl
  have y1 : w1.cell? ⟨w.heap.size + 1, 1, none⟩ = some (.int .i64 tl) := by rw [Lib.cell_of_heap e1]; rfl
  have y2 : w1.cell? ⟨w.heap.size + 1, 2, none⟩ = some (.slice a' nw.length c') := by rw [Lib.cell_of_heap e1]; rfl
  clear e1
  go_wp2_with fail
  go_ret2
  exact paPost_none 3 HP.out hB

theorem inRange_parts {l nw : List M.Lx} {x : M.Ed} {hd tl : Int} (h : M.inRangeB l x hd tl nw = true) : (0 ≤ x.from_ ∧ x.from_ ≤ x.to_ ∧ x.to_ ≤ 2500) ∧ (0 ≤ hd ∧ 0 ≤ tl ∧ hd + tl ≤ l.length) ∧ (∀ t, t ∈ l → 0 ≤ t.pos ∧ t.pos ≤ 2500) ∧ (∀ t, t ∈ nw → 0 ≤ t.pos ∧ t.pos ≤ 2500) := by
  unfold M.inRangeB M.placedB M.isPlaceB at h
  simp only [Bool.and_eq_true, decide_eq_true_eq, List.all_eq_true] at h
  obtain ⟨⟨⟨⟨⟨⟨⟨⟨⟨a1, a2⟩, a3, a4⟩, a5⟩, a6⟩, a7⟩, a8⟩, a9⟩, b1⟩, b2⟩ := h
  exact ⟨⟨a1, a5, a4⟩, ⟨a6, a7, by omega⟩, b1, b2⟩

set_option maxHeartbeats 1000000 in
set_option maxRecDepth 100000 in
theorem patch_l4 (a : Option Addr) (c : Nat) (a' : Option Addr) (c' : Nat) (l nw : List M.Lx) (x : M.Ed) (hd tl : Int) (w : World) (h1 : l.length ≤ 900) (h2 : nw.length ≤ 900) (h3 : x.put.size ≤ 2500) (ho : LxSl w a l) (hn : LxSl w a' nw) (hr : M.inRangeB l x hd tl nw = true) (h4 : 900 < hd + nw.length + tl) :
    Calls Tryz.prog 8 #[.slice a l.length c, edV x, .agg #[.int .i64 hd, .int .i64 tl, .slice a' nw.length c']] w (PaPost (M.patch l x hd tl nw) w) := by
  have hp : M.patch l x hd tl nw = ([], 5) := by unfold M.patch; rw [if_neg (by omega), if_neg (by rw [hr]; decide), if_pos h4]
  obtain ⟨_, ⟨z1, z2, z3⟩, _, _⟩ := inRange_parts hr
  have q1 : (l.length : Int) ≤ 900 := by omega
  have q2 : (nw.length : Int) ≤ 900 := by omega
  have q3 : (x.put.size : Int) ≤ 2500 := by omega
  have HO := Lib.hid ho
  have HN := Lib.hid hn
  have HR := Lib.hid hr
  have HP := Lib.hid hp
  clear hp ho hn hr
  go_enter Tryz.func8, Tryz.ntmps8
  go_wp2_with fail
  refine (inRange_any a c a' c' l nw x hd tl _ (by omega) (by omega) (HO.out.below (belowA (below1 w _) _)) (HN.out.below (belowA (below1 w _) _))).mono ?_
  rintro e w1 ⟨rfl, hB1⟩
  rw [HR.out]
  obtain ⟨x0, x1, x2, e1, hB, hlt⟩ := boxEC hB1
  clear hB1
  have y0 : w1.cell? ⟨w.heap.size + 1, 0, none⟩ = some (.int .i64 hd) := by rw [Lib.cell_of_heap e1]; rfl
  have y1 : w1.cell? ⟨w.heap.size + 1, 1, none⟩ = some (.int .i64 tl) := by rw [Lib.cell_of_heap e1]; rfl
  have y2 : w1.cell? ⟨w.heap.size + 1, 2, none⟩ = some (.slice a' nw.length c') := by rw [Lib.cell_of_heap e1]; rfl
  clear e1
  go_wp2_with fail
  go_ret2
  exact paPost_none 5 HP.out hB

end Go.Proofs.YtamdcloahkacnaaGreatDoor
