/- DERIVED. Contract of lex.inRange. -/
import Derived.Test.YtamdcloahkacnaaGreatDoorLexW
import Derived.Test.YtamdcloahkacnaaGreatDoorLexI
import Derived.Test.YtamdcloahkacnaaGreatDoorLexZ
namespace Go.Proofs.YtamdcloahkacnaaGreatDoor
open Go.RowKit Go.WideMaps Go.Maps Go.Shelf

namespace M
def isPlaceB (n : Int) : Bool := decide (0 ≤ n) && decide (n ≤ 2500)
def placedB (l : List Lx) : Bool := l.all fun t => isPlaceB t.pos
/-- Whether all numbers that a patch is passed are in their ranges. -/
def inRangeB (l : List Lx) (x : Ed) (hd tl : Int) (nw : List Lx) : Bool :=
  isPlaceB x.from_ && isPlaceB x.to_ && decide (x.from_ ≤ x.to_) && decide (0 ≤ hd) && decide (0 ≤ tl) && decide (hd ≤ (l.length : Int)) && decide (tl ≤ (l.length : Int) - hd) && placedB l && placedB nw
end M

theorem boxEC {w w1 : World} {x : M.Ed} {t1 t2 : TypeId} {arr : Array Value} (hB : Below ((w.alloc (.cells #[.int .i64 x.from_, .int .i64 x.to_, .string x.put] t1)).alloc (.cells arr t2)).heap.size ((w.alloc (.cells #[.int .i64 x.from_, .int .i64 x.to_, .string x.put] t1)).alloc (.cells arr t2)) w1) :
    w1.cell? ⟨w.heap.size, 0, none⟩ = some (.int .i64 x.from_) ∧ w1.cell? ⟨w.heap.size, 1, none⟩ = some (.int .i64 x.to_) ∧ w1.cell? ⟨w.heap.size, 2, none⟩ = some (.string x.put) ∧
    w1.heap[w.heap.size + 1]? = some (.cells arr t2 (0, 0)) ∧ Below w.heap.size w w1 ∧ w.heap.size + 2 ≤ w1.heap.size := by
  have hz := hB.size
  simp at hz
  have e0 : w1.heap[w.heap.size]? = some (.cells #[.int .i64 x.from_, .int .i64 x.to_, .string x.put] t1 (0, 0)) := by
    rw [hB.block _ (by simp; omega), Below.heap_alloc _ _ _ (by simp)]; exact (MapKept.heap_alloc w _).1
  refine ⟨by rw [Lib.cell_of_heap e0]; rfl, by rw [Lib.cell_of_heap e0]; rfl, by rw [Lib.cell_of_heap e0]; rfl, ?_, (belowA (below1 w _) _).trans (hB.mono (by simp; omega)), by omega⟩
  rw [hB.block _ (by simp)]
  have := (MapKept.heap_alloc (w.alloc (.cells #[.int .i64 x.from_, .int .i64 x.to_, .string x.put] t1)) (.cells arr t2)).1
  simpa using this
theorem isPlace_any (n : Int) (w : World) : Calls Tryz.prog 35 #[.int .i64 n] w fun e w' => e = .returned (.bool (M.isPlaceB n)) ∧ Below w.heap.size w w' := by
  by_cases h1 : 0 ≤ n
  · have d1 : decide ((0 : Int) ≤ n) = true := by simpa using h1
    go_enter Tryz.func35, Tryz.ntmps35
    go_wp2_with fail
    go_ret
    exact ⟨ret_bool (by unfold M.isPlaceB; simp [h1]), Below.refl _ _⟩
  · have d1 : decide ((0 : Int) ≤ n) = false := by simpa using h1
    go_enter Tryz.func35, Tryz.ntmps35
    go_wp2_with fail
    go_ret
    exact ⟨ret_bool (by unfold M.isPlaceB; rw [d1]; simp), Below.refl _ _⟩

set_option maxRecDepth 100000 in
theorem placed_one (x : M.Lx) (w : World) : Calls Tryz.prog 34 #[lxV x] w fun e w' => e = .returned (.bool (M.isPlaceB x.pos)) ∧ Below w.heap.size w w' := by
  go_enter Tryz.func34, Tryz.ntmps34
  go_wp2_with fail
  refine (isPlace_any _ _).mono ?_
  rintro e w1 ⟨rfl, hB⟩
  go_wp2_with fail
  go_ret
  exact ⟨rfl, below2 (below1 _ _) hB⟩

theorem placed_any (a : Option Addr) (c : Nat) (l : List M.Lx) (w : World) (hl : l.length ≤ 1000000) (hs : LxSl w a l) :
    Calls Tryz.prog 28 #[.slice a l.length c, .func (.func 34) #[] #[]] w fun e w' => e = .returned (.bool (M.placedB l)) ∧ Below w.heap.size w w' :=
  every_any a c 34 #[] l (fun t => M.isPlaceB t.pos) w hl hs (enters_of Tryz.func34 (by kernel_rfl) rfl) fun i hi w1 _ => placed_one l[i] w1

set_option maxHeartbeats 1000000 in
set_option maxRecDepth 100000 in
theorem inRange_0 (a : Option Addr) (c : Nat) (a' : Option Addr) (c' : Nat) (l nw : List M.Lx) (x : M.Ed) (hd tl : Int) (w : World) (hl : l.length ≤ 1000000) (hn : nw.length ≤ 1000000) (ho : LxSl w a l) (hnw : LxSl w a' nw) (h1 : M.isPlaceB x.from_ = false) :
    Calls Tryz.prog 16 #[.slice a l.length c, edV x, .agg #[.int .i64 hd, .int .i64 tl, .slice a' nw.length c']] w fun e w' => e = .returned (.bool (M.inRangeB l x hd tl nw)) ∧ Below w.heap.size w w' := by
  have hv : M.inRangeB l x hd tl nw = false := by unfold M.inRangeB; simp only [h1, Bool.true_and, Bool.and_true, Bool.and_false, Bool.false_and]
  have HV := Lib.hid hv
  have HO := Lib.hid ho
  have HN := Lib.hid hnw
  have H1 := Lib.hid h1
  clear hv ho hnw h1
  go_enter Tryz.func16, Tryz.ntmps16
  go_wp2_with fail
  refine (isPlace_any _ _).mono ?_
  rintro e w1 ⟨rfl, hB1⟩
  rw [H1.out]
  obtain ⟨x0, x1, _, e1, hB, hlt⟩ := boxEC hB1
  clear hB1
  have y0 : w1.cell? ⟨w.heap.size + 1, 0, none⟩ = some (.int .i64 hd) := by rw [Lib.cell_of_heap e1]; rfl
  have y1 : w1.cell? ⟨w.heap.size + 1, 1, none⟩ = some (.int .i64 tl) := by rw [Lib.cell_of_heap e1]; rfl
  have y2 : w1.cell? ⟨w.heap.size + 1, 2, none⟩ = some (.slice a' nw.length c') := by rw [Lib.cell_of_heap e1]; rfl
  clear e1
  go_wp2_with fail
  go_ret
  exact ⟨ret_bool HV.out.symm, hB⟩

set_option maxHeartbeats 1000000 in
set_option maxRecDepth 100000 in
theorem inRange_1 (a : Option Addr) (c : Nat) (a' : Option Addr) (c' : Nat) (l nw : List M.Lx) (x : M.Ed) (hd tl : Int) (w : World) (hl : l.length ≤ 1000000) (hn : nw.length ≤ 1000000) (ho : LxSl w a l) (hnw : LxSl w a' nw) (h1 : M.isPlaceB x.from_ = true) (h2 : M.isPlaceB x.to_ = false) :
    Calls Tryz.prog 16 #[.slice a l.length c, edV x, .agg #[.int .i64 hd, .int .i64 tl, .slice a' nw.length c']] w fun e w' => e = .returned (.bool (M.inRangeB l x hd tl nw)) ∧ Below w.heap.size w w' := by
  have hv : M.inRangeB l x hd tl nw = false := by unfold M.inRangeB; simp only [h1, h2, Bool.true_and, Bool.and_true, Bool.and_false, Bool.false_and]
  have HV := Lib.hid hv
  have HO := Lib.hid ho
  have HN := Lib.hid hnw
  have H1 := Lib.hid h1
  have H2 := Lib.hid h2
  clear hv ho hnw h1 h2
  go_enter Tryz.func16, Tryz.ntmps16
  go_wp2_with fail
  refine (isPlace_any _ _).mono ?_
  rintro e w1 ⟨rfl, hB1⟩
  rw [H1.out]
  obtain ⟨x0, x1, _, e1, hB, hlt⟩ := boxEC hB1
  clear hB1
  have y0 : w1.cell? ⟨w.heap.size + 1, 0, none⟩ = some (.int .i64 hd) := by rw [Lib.cell_of_heap e1]; rfl
  have y1 : w1.cell? ⟨w.heap.size + 1, 1, none⟩ = some (.int .i64 tl) := by rw [Lib.cell_of_heap e1]; rfl
  have y2 : w1.cell? ⟨w.heap.size + 1, 2, none⟩ = some (.slice a' nw.length c') := by rw [Lib.cell_of_heap e1]; rfl
  clear e1
  go_wp2_with fail
  refine (isPlace_any _ _).mono ?_
  rintro e w2 ⟨rfl, hB2⟩
  rw [H2.out]
  replace x0 := cell_below x0 hB2
  replace x1 := cell_below x1 hB2
  replace y0 := cell_below y0 hB2
  replace y1 := cell_below y1 hB2
  replace y2 := cell_below y2 hB2
  have hC2 := below2 hB hB2
  go_wp2_with fail
  go_ret
  exact ⟨ret_bool HV.out.symm, hC2⟩

set_option maxHeartbeats 1000000 in
set_option maxRecDepth 100000 in
theorem inRange_2 (a : Option Addr) (c : Nat) (a' : Option Addr) (c' : Nat) (l nw : List M.Lx) (x : M.Ed) (hd tl : Int) (w : World) (hl : l.length ≤ 1000000) (hn : nw.length ≤ 1000000) (ho : LxSl w a l) (hnw : LxSl w a' nw) (h1 : M.isPlaceB x.from_ = true) (h2 : M.isPlaceB x.to_ = true) (h3 : decide (x.from_ ≤ x.to_) = false) :
    Calls Tryz.prog 16 #[.slice a l.length c, edV x, .agg #[.int .i64 hd, .int .i64 tl, .slice a' nw.length c']] w fun e w' => e = .returned (.bool (M.inRangeB l x hd tl nw)) ∧ Below w.heap.size w w' := by
  have hv : M.inRangeB l x hd tl nw = false := by unfold M.inRangeB; simp only [h1, h2, h3, Bool.true_and, Bool.and_true, Bool.and_false, Bool.false_and]
  have HV := Lib.hid hv
  have HO := Lib.hid ho
  have HN := Lib.hid hnw
  have H1 := Lib.hid h1
  have H2 := Lib.hid h2
  clear hv ho hnw h1 h2
  go_enter Tryz.func16, Tryz.ntmps16
  go_wp2_with fail
  refine (isPlace_any _ _).mono ?_
  rintro e w1 ⟨rfl, hB1⟩
  rw [H1.out]
  obtain ⟨x0, x1, _, e1, hB, hlt⟩ := boxEC hB1
  clear hB1
  have y0 : w1.cell? ⟨w.heap.size + 1, 0, none⟩ = some (.int .i64 hd) := by rw [Lib.cell_of_heap e1]; rfl
  have y1 : w1.cell? ⟨w.heap.size + 1, 1, none⟩ = some (.int .i64 tl) := by rw [Lib.cell_of_heap e1]; rfl
  have y2 : w1.cell? ⟨w.heap.size + 1, 2, none⟩ = some (.slice a' nw.length c') := by rw [Lib.cell_of_heap e1]; rfl
  clear e1
  go_wp2_with fail
  refine (isPlace_any _ _).mono ?_
  rintro e w2 ⟨rfl, hB2⟩
  rw [H2.out]
  replace x0 := cell_below x0 hB2
  replace x1 := cell_below x1 hB2
  replace y0 := cell_below y0 hB2
  replace y1 := cell_below y1 hB2
  replace y2 := cell_below y2 hB2
  have hC2 := below2 hB hB2
  go_wp2_with fail
  go_ret
  exact ⟨ret_bool HV.out.symm, hC2⟩

set_option maxHeartbeats 1000000 in
set_option maxRecDepth 100000 in
theorem inRange_3 (a : Option Addr) (c : Nat) (a' : Option Addr) (c' : Nat) (l nw : List M.Lx) (x : M.Ed) (hd tl : Int) (w : World) (hl : l.length ≤ 1000000) (hn : nw.length ≤ 1000000) (ho : LxSl w a l) (hnw : LxSl w a' nw) (h1 : M.isPlaceB x.from_ = true) (h2 : M.isPlaceB x.to_ = true) (h3 : decide (x.from_ ≤ x.to_) = true) (h4 : decide ((0 : Int) ≤ hd) = false) :
    Calls Tryz.prog 16 #[.slice a l.length c, edV x, .agg #[.int .i64 hd, .int .i64 tl, .slice a' nw.length c']] w fun e w' => e = .returned (.bool (M.inRangeB l x hd tl nw)) ∧ Below w.heap.size w w' := by
  have hv : M.inRangeB l x hd tl nw = false := by unfold M.inRangeB; simp only [h1, h2, h3, h4, Bool.true_and, Bool.and_true, Bool.and_false, Bool.false_and]
  have HV := Lib.hid hv
  have HO := Lib.hid ho
  have HN := Lib.hid hnw
  have H1 := Lib.hid h1
  have H2 := Lib.hid h2
  clear hv ho hnw h1 h2
  go_enter Tryz.func16, Tryz.ntmps16
  go_wp2_with fail
  refine (isPlace_any _ _).mono ?_
  rintro e w1 ⟨rfl, hB1⟩
  rw [H1.out]
  obtain ⟨x0, x1, _, e1, hB, hlt⟩ := boxEC hB1
  clear hB1
  have y0 : w1.cell? ⟨w.heap.size + 1, 0, none⟩ = some (.int .i64 hd) := by rw [Lib.cell_of_heap e1]; rfl
  have y1 : w1.cell? ⟨w.heap.size + 1, 1, none⟩ = some (.int .i64 tl) := by rw [Lib.cell_of_heap e1]; rfl
  have y2 : w1.cell? ⟨w.heap.size + 1, 2, none⟩ = some (.slice a' nw.length c') := by rw [Lib.cell_of_heap e1]; rfl
  clear e1
  go_wp2_with fail
  refine (isPlace_any _ _).mono ?_
  rintro e w2 ⟨rfl, hB2⟩
  rw [H2.out]
  replace x0 := cell_below x0 hB2
  replace x1 := cell_below x1 hB2
  replace y0 := cell_below y0 hB2
  replace y1 := cell_below y1 hB2
  replace y2 := cell_below y2 hB2
  have hC2 := below2 hB hB2
  go_wp2_with fail
  go_ret
  exact ⟨ret_bool HV.out.symm, hC2⟩

set_option maxHeartbeats 1000000 in
set_option maxRecDepth 100000 in
theorem inRange_4 (a : Option Addr) (c : Nat) (a' : Option Addr) (c' : Nat) (l nw : List M.Lx) (x : M.Ed) (hd tl : Int) (w : World) (hl : l.length ≤ 1000000) (hn : nw.length ≤ 1000000) (ho : LxSl w a l) (hnw : LxSl w a' nw) (h1 : M.isPlaceB x.from_ = true) (h2 : M.isPlaceB x.to_ = true) (h3 : decide (x.from_ ≤ x.to_) = true) (h4 : decide ((0 : Int) ≤ hd) = true) (h5 : decide ((0 : Int) ≤ tl) = false) :
    Calls Tryz.prog 16 #[.slice a l.length c, edV x, .agg #[.int .i64 hd, .int .i64 tl, .slice a' nw.length c']] w fun e w' => e = .returned (.bool (M.inRangeB l x hd tl nw)) ∧ Below w.heap.size w w' := by
  have hv : M.inRangeB l x hd tl nw = false := by unfold M.inRangeB; simp only [h1, h2, h3, h4, h5, Bool.true_and, Bool.and_true, Bool.and_false, Bool.false_and]
  have HV := Lib.hid hv
  have HO := Lib.hid ho
  have HN := Lib.hid hnw
  have H1 := Lib.hid h1
  have H2 := Lib.hid h2
  clear hv ho hnw h1 h2
  go_enter Tryz.func16, Tryz.ntmps16
  go_wp2_with fail
  refine (isPlace_any _ _).mono ?_
  rintro e w1 ⟨rfl, hB1⟩
  rw [H1.out]
  obtain ⟨x0, x1, _, e1, hB, hlt⟩ := boxEC hB1
  clear hB1
  have y0 : w1.cell? ⟨w.heap.size + 1, 0, none⟩ = some (.int .i64 hd) := by rw [Lib.cell_of_heap e1]; rfl
  have y1 : w1.cell? ⟨w.heap.size + 1, 1, none⟩ = some (.int .i64 tl) := by rw [Lib.cell_of_heap e1]; rfl
  have y2 : w1.cell? ⟨w.heap.size + 1, 2, none⟩ = some (.slice a' nw.length c') := by rw [Lib.cell_of_heap e1]; rfl
  clear e1
  go_wp2_with fail
  refine (isPlace_any _ _).mono ?_
  rintro e w2 ⟨rfl, hB2⟩
  rw [H2.out]
  replace x0 := cell_below x0 hB2
  replace x1 := cell_below x1 hB2
  replace y0 := cell_below y0 hB2
  replace y1 := cell_below y1 hB2
  replace y2 := cell_below y2 hB2
  have hC2 := below2 hB hB2
  go_wp2_with fail
  go_ret
  exact ⟨ret_bool HV.out.symm, hC2⟩

set_option maxHeartbeats 1000000 in
set_option maxRecDepth 100000 in
theorem inRange_5 (a : Option Addr) (c : Nat) (a' : Option Addr) (c' : Nat) (l nw : List M.Lx) (x : M.Ed) (hd tl : Int) (w : World) (hl : l.length ≤ 1000000) (hn : nw.length ≤ 1000000) (ho : LxSl w a l) (hnw : LxSl w a' nw) (h1 : M.isPlaceB x.from_ = true) (h2 : M.isPlaceB x.to_ = true) (h3 : decide (x.from_ ≤ x.to_) = true) (h4 : decide ((0 : Int) ≤ hd) = true) (h5 : decide ((0 : Int) ≤ tl) = true) (h6 : decide (hd ≤ (l.length : Int)) = false) :
    Calls Tryz.prog 16 #[.slice a l.length c, edV x, .agg #[.int .i64 hd, .int .i64 tl, .slice a' nw.length c']] w fun e w' => e = .returned (.bool (M.inRangeB l x hd tl nw)) ∧ Below w.heap.size w w' := by
  have hv : M.inRangeB l x hd tl nw = false := by unfold M.inRangeB; simp only [h1, h2, h3, h4, h5, h6, Bool.true_and, Bool.and_true, Bool.and_false, Bool.false_and]
  have HV := Lib.hid hv
  have HO := Lib.hid ho
  have HN := Lib.hid hnw
  have H1 := Lib.hid h1
  have H2 := Lib.hid h2
  clear hv ho hnw h1 h2
  go_enter Tryz.func16, Tryz.ntmps16
  go_wp2_with fail
  refine (isPlace_any _ _).mono ?_
  rintro e w1 ⟨rfl, hB1⟩
  rw [H1.out]
  obtain ⟨x0, x1, _, e1, hB, hlt⟩ := boxEC hB1
  clear hB1
  have y0 : w1.cell? ⟨w.heap.size + 1, 0, none⟩ = some (.int .i64 hd) := by rw [Lib.cell_of_heap e1]; rfl
  have y1 : w1.cell? ⟨w.heap.size + 1, 1, none⟩ = some (.int .i64 tl) := by rw [Lib.cell_of_heap e1]; rfl
  have y2 : w1.cell? ⟨w.heap.size + 1, 2, none⟩ = some (.slice a' nw.length c') := by rw [Lib.cell_of_heap e1]; rfl
  clear e1
  go_wp2_with fail
  refine (isPlace_any _ _).mono ?_
  rintro e w2 ⟨rfl, hB2⟩
  rw [H2.out]
  replace x0 := cell_below x0 hB2
  replace x1 := cell_below x1 hB2
  replace y0 := cell_below y0 hB2
  replace y1 := cell_below y1 hB2
  replace y2 := cell_below y2 hB2
  have hC2 := below2 hB hB2
  go_wp2_with fail
  go_ret
  exact ⟨ret_bool HV.out.symm, hC2⟩

set_option maxHeartbeats 1000000 in
set_option maxRecDepth 100000 in
theorem inRange_6 (a : Option Addr) (c : Nat) (a' : Option Addr) (c' : Nat) (l nw : List M.Lx) (x : M.Ed) (hd tl : Int) (w : World) (hl : l.length ≤ 1000000) (hn : nw.length ≤ 1000000) (ho : LxSl w a l) (hnw : LxSl w a' nw) (h1 : M.isPlaceB x.from_ = true) (h2 : M.isPlaceB x.to_ = true) (h3 : decide (x.from_ ≤ x.to_) = true) (h4 : decide ((0 : Int) ≤ hd) = true) (h5 : decide ((0 : Int) ≤ tl) = true) (h6 : decide (hd ≤ (l.length : Int)) = true) (h7 : decide (tl ≤ (l.length : Int) - hd) = false) :
    Calls Tryz.prog 16 #[.slice a l.length c, edV x, .agg #[.int .i64 hd, .int .i64 tl, .slice a' nw.length c']] w fun e w' => e = .returned (.bool (M.inRangeB l x hd tl nw)) ∧ Below w.heap.size w w' := by
  have hv : M.inRangeB l x hd tl nw = false := by unfold M.inRangeB; simp only [h1, h2, h3, h4, h5, h6, h7, Bool.true_and, Bool.and_true, Bool.and_false, Bool.false_and]
  have HV := Lib.hid hv
  have HO := Lib.hid ho
  have HN := Lib.hid hnw
  have H1 := Lib.hid h1
  have H2 := Lib.hid h2
  have q4 : (0 : Int) ≤ hd := of_decide_eq_true h4
  have q6 : hd ≤ (l.length : Int) := of_decide_eq_true h6
  clear hv ho hnw h1 h2
  go_enter Tryz.func16, Tryz.ntmps16
  go_wp2_with fail
  refine (isPlace_any _ _).mono ?_
  rintro e w1 ⟨rfl, hB1⟩
  rw [H1.out]
  obtain ⟨x0, x1, _, e1, hB, hlt⟩ := boxEC hB1
  clear hB1
  have y0 : w1.cell? ⟨w.heap.size + 1, 0, none⟩ = some (.int .i64 hd) := by rw [Lib.cell_of_heap e1]; rfl
  have y1 : w1.cell? ⟨w.heap.size + 1, 1, none⟩ = some (.int .i64 tl) := by rw [Lib.cell_of_heap e1]; rfl
  have y2 : w1.cell? ⟨w.heap.size + 1, 2, none⟩ = some (.slice a' nw.length c') := by rw [Lib.cell_of_heap e1]; rfl
  clear e1
  go_wp2_with fail
  refine (isPlace_any _ _).mono ?_
  rintro e w2 ⟨rfl, hB2⟩
  rw [H2.out]
  replace x0 := cell_below x0 hB2
  replace x1 := cell_below x1 hB2
  replace y0 := cell_below y0 hB2
  replace y1 := cell_below y1 hB2
  replace y2 := cell_below y2 hB2
  have hC2 := below2 hB hB2
  go_wp2_with fail
  go_ret
  exact ⟨ret_bool HV.out.symm, hC2⟩

set_option maxHeartbeats 1000000 in
set_option maxRecDepth 100000 in
theorem inRange_7 (a : Option Addr) (c : Nat) (a' : Option Addr) (c' : Nat) (l nw : List M.Lx) (x : M.Ed) (hd tl : Int) (w : World) (hl : l.length ≤ 1000000) (hn : nw.length ≤ 1000000) (ho : LxSl w a l) (hnw : LxSl w a' nw) (h1 : M.isPlaceB x.from_ = true) (h2 : M.isPlaceB x.to_ = true) (h3 : decide (x.from_ ≤ x.to_) = true) (h4 : decide ((0 : Int) ≤ hd) = true) (h5 : decide ((0 : Int) ≤ tl) = true) (h6 : decide (hd ≤ (l.length : Int)) = true) (h7 : decide (tl ≤ (l.length : Int) - hd) = true) (h8 : M.placedB l = false) :
    Calls Tryz.prog 16 #[.slice a l.length c, edV x, .agg #[.int .i64 hd, .int .i64 tl, .slice a' nw.length c']] w fun e w' => e = .returned (.bool (M.inRangeB l x hd tl nw)) ∧ Below w.heap.size w w' := by
  have hv : M.inRangeB l x hd tl nw = false := by unfold M.inRangeB; simp only [h1, h2, h3, h4, h5, h6, h7, h8, Bool.true_and, Bool.and_true, Bool.and_false, Bool.false_and]
  have HV := Lib.hid hv
  have HO := Lib.hid ho
  have HN := Lib.hid hnw
  have H1 := Lib.hid h1
  have H2 := Lib.hid h2
  have H8 := Lib.hid h8
  have q4 : (0 : Int) ≤ hd := of_decide_eq_true h4
  have q6 : hd ≤ (l.length : Int) := of_decide_eq_true h6
  clear hv ho hnw h1 h2 h8
  go_enter Tryz.func16, Tryz.ntmps16
  go_wp2_with fail
  refine (isPlace_any _ _).mono ?_
  rintro e w1 ⟨rfl, hB1⟩
  rw [H1.out]
  obtain ⟨x0, x1, _, e1, hB, hlt⟩ := boxEC hB1
  clear hB1
  have y0 : w1.cell? ⟨w.heap.size + 1, 0, none⟩ = some (.int .i64 hd) := by rw [Lib.cell_of_heap e1]; rfl
  have y1 : w1.cell? ⟨w.heap.size + 1, 1, none⟩ = some (.int .i64 tl) := by rw [Lib.cell_of_heap e1]; rfl
  have y2 : w1.cell? ⟨w.heap.size + 1, 2, none⟩ = some (.slice a' nw.length c') := by rw [Lib.cell_of_heap e1]; rfl
  clear e1
  go_wp2_with fail
  refine (isPlace_any _ _).mono ?_
  rintro e w2 ⟨rfl, hB2⟩
  rw [H2.out]
  replace x0 := cell_below x0 hB2
  replace x1 := cell_below x1 hB2
  replace y0 := cell_below y0 hB2
  replace y1 := cell_below y1 hB2
  replace y2 := cell_below y2 hB2
  have hC2 := below2 hB hB2
  go_wp2_with fail
  refine (placed_any a c l _ hl (HO.out.below hC2)).mono ?_
  rintro e w3 ⟨rfl, hB3⟩
  rw [H8.out]
  replace x0 := cell_below x0 hB3
  replace x1 := cell_below x1 hB3
  replace y0 := cell_below y0 hB3
  replace y1 := cell_below y1 hB3
  replace y2 := cell_below y2 hB3
  have hC3 := below2 hC2 hB3
  go_wp2_with fail
  go_ret
  exact ⟨ret_bool HV.out.symm, hC3⟩

set_option maxHeartbeats 1000000 in
set_option maxRecDepth 100000 in
theorem inRange_8 (a : Option Addr) (c : Nat) (a' : Option Addr) (c' : Nat) (l nw : List M.Lx) (x : M.Ed) (hd tl : Int) (w : World) (hl : l.length ≤ 1000000) (hn : nw.length ≤ 1000000) (ho : LxSl w a l) (hnw : LxSl w a' nw) (h1 : M.isPlaceB x.from_ = true) (h2 : M.isPlaceB x.to_ = true) (h3 : decide (x.from_ ≤ x.to_) = true) (h4 : decide ((0 : Int) ≤ hd) = true) (h5 : decide ((0 : Int) ≤ tl) = true) (h6 : decide (hd ≤ (l.length : Int)) = true) (h7 : decide (tl ≤ (l.length : Int) - hd) = true) (h8 : M.placedB l = true) :
    Calls Tryz.prog 16 #[.slice a l.length c, edV x, .agg #[.int .i64 hd, .int .i64 tl, .slice a' nw.length c']] w fun e w' => e = .returned (.bool (M.inRangeB l x hd tl nw)) ∧ Below w.heap.size w w' := by
  have hv : M.inRangeB l x hd tl nw = M.placedB nw := by unfold M.inRangeB; simp only [h1, h2, h3, h4, h5, h6, h7, h8, Bool.true_and, Bool.and_true, Bool.and_false, Bool.false_and]
  have HV := Lib.hid hv
  have HO := Lib.hid ho
  have HN := Lib.hid hnw
  have H1 := Lib.hid h1
  have H2 := Lib.hid h2
  have H8 := Lib.hid h8
  have q4 : (0 : Int) ≤ hd := of_decide_eq_true h4
  have q6 : hd ≤ (l.length : Int) := of_decide_eq_true h6
  clear hv ho hnw h1 h2 h8
  go_enter Tryz.func16, Tryz.ntmps16
  go_wp2_with fail
  refine (isPlace_any _ _).mono ?_
  rintro e w1 ⟨rfl, hB1⟩
  rw [H1.out]
  obtain ⟨x0, x1, _, e1, hB, hlt⟩ := boxEC hB1
  clear hB1
  have y0 : w1.cell? ⟨w.heap.size + 1, 0, none⟩ = some (.int .i64 hd) := by rw [Lib.cell_of_heap e1]; rfl
  have y1 : w1.cell? ⟨w.heap.size + 1, 1, none⟩ = some (.int .i64 tl) := by rw [Lib.cell_of_heap e1]; rfl
  have y2 : w1.cell? ⟨w.heap.size + 1, 2, none⟩ = some (.slice a' nw.length c') := by rw [Lib.cell_of_heap e1]; rfl
  clear e1
  go_wp2_with fail
  refine (isPlace_any _ _).mono ?_
  rintro e w2 ⟨rfl, hB2⟩
  rw [H2.out]
  replace x0 := cell_below x0 hB2
  replace x1 := cell_below x1 hB2
  replace y0 := cell_below y0 hB2
  replace y1 := cell_below y1 hB2
  replace y2 := cell_below y2 hB2
  have hC2 := below2 hB hB2
  go_wp2_with fail
  refine (placed_any a c l _ hl (HO.out.below hC2)).mono ?_
  rintro e w3 ⟨rfl, hB3⟩
  rw [H8.out]
  replace x0 := cell_below x0 hB3
  replace x1 := cell_below x1 hB3
  replace y0 := cell_below y0 hB3
  replace y1 := cell_below y1 hB3
  replace y2 := cell_below y2 hB3
  have hC3 := below2 hC2 hB3
  go_wp2_with fail
  refine (placed_any a' c' nw _ hn (HN.out.below hC3)).mono ?_
  rintro e w4 ⟨rfl, hB4⟩
  have hC4 := below2 hC3 hB4
  go_wp2_with fail
  go_ret
  exact ⟨ret_bool HV.out.symm, hC4⟩

theorem inRange_any (a : Option Addr) (c : Nat) (a' : Option Addr) (c' : Nat) (l nw : List M.Lx) (x : M.Ed) (hd tl : Int) (w : World) (hl : l.length ≤ 1000000) (hn : nw.length ≤ 1000000) (ho : LxSl w a l) (hnw : LxSl w a' nw) :
    Calls Tryz.prog 16 #[.slice a l.length c, edV x, .agg #[.int .i64 hd, .int .i64 tl, .slice a' nw.length c']] w fun e w' => e = .returned (.bool (M.inRangeB l x hd tl nw)) ∧ Below w.heap.size w w' := by
  cases h1 : M.isPlaceB x.from_ with
  | false => exact inRange_0 a c a' c' l nw x hd tl w hl hn ho hnw h1
  | true =>
    cases h2 : M.isPlaceB x.to_ with
    | false => exact inRange_1 a c a' c' l nw x hd tl w hl hn ho hnw h1 h2
    | true =>
      cases h3 : decide (x.from_ ≤ x.to_) with
      | false => exact inRange_2 a c a' c' l nw x hd tl w hl hn ho hnw h1 h2 h3
      | true =>
        cases h4 : decide ((0 : Int) ≤ hd) with
        | false => exact inRange_3 a c a' c' l nw x hd tl w hl hn ho hnw h1 h2 h3 h4
        | true =>
          cases h5 : decide ((0 : Int) ≤ tl) with
          | false => exact inRange_4 a c a' c' l nw x hd tl w hl hn ho hnw h1 h2 h3 h4 h5
          | true =>
            cases h6 : decide (hd ≤ (l.length : Int)) with
            | false => exact inRange_5 a c a' c' l nw x hd tl w hl hn ho hnw h1 h2 h3 h4 h5 h6
            | true =>
              cases h7 : decide (tl ≤ (l.length : Int) - hd) with
              | false => exact inRange_6 a c a' c' l nw x hd tl w hl hn ho hnw h1 h2 h3 h4 h5 h6 h7
              | true =>
                cases h8 : M.placedB l with
                | false => exact inRange_7 a c a' c' l nw x hd tl w hl hn ho hnw h1 h2 h3 h4 h5 h6 h7 h8
                | true =>
                  exact inRange_8 a c a' c' l nw x hd tl w hl hn ho hnw h1 h2 h3 h4 h5 h6 h7 h8

end Go.Proofs.YtamdcloahkacnaaGreatDoor
