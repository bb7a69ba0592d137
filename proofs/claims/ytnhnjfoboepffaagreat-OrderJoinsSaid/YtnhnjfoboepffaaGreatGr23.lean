/- Texts of one's own, joined: OrdN. -/
import Derived.Test.YtnhnjfoboepffaaGreatGr20
import Derived.Test.YtnhnjfoboepffaaGreatGr16
namespace Go.Proofs.YtnhnjfoboepffaaGreat
open Go.RowKit

/-- Whether a number is that of an element. -/
def M.inB (n : Nat) (x : Int) : Bool := decide (0 ≤ x) && decide (x < (n : Int))

set_option maxHeartbeats 2000000 in
set_option maxRecDepth 100000 in
theorem hasAll1_any (t : M.Tb) (p : Tp) (r : Nat → Nat) (B : Nat) (x : Int) (w : World) (hk : KnBox w B t p r) :
    Calls Tryz.prog 45 #[.int .i64 x, .pointer (some ⟨B, 0, none⟩)] w fun e w' => e = .returned (.bool (M.inB t.elems.length x)) ∧ w = w' := by
  have c1 := hk.c1
  clear hk
  by_cases h : 0 ≤ x
  · have d1 : decide ((0 : Int) ≤ x) = true := decide_eq_true h
    have HR := Lib.hid (show M.inB t.elems.length x = decide (x < (t.elems.length : Int)) from by unfold M.inB; rw [d1, Bool.true_and])
    clear h
    go_enter Tryz.func45, Tryz.ntmps45
    go_wp2_with fail
    go_ret
    exact ⟨ret_bool HR.out.symm, rfl⟩
  · have d1 : decide ((0 : Int) ≤ x) = false := decide_eq_false h
    have HR := Lib.hid (show M.inB t.elems.length x = false from by unfold M.inB; rw [d1, Bool.false_and])
    clear h
    go_enter Tryz.func45, Tryz.ntmps45
    go_wp2_with fail
    go_ret
    exact ⟨ret_bool HR.out.symm, rfl⟩

theorem enters_hasAll1 : ∀ args w, (callFunc 45 args).run Tryz.prog w = .ok (.enter 45 args) w := enters_of Tryz.func45 (by kernel_rfl) rfl

set_option maxHeartbeats 2000000 in
set_option maxRecDepth 100000 in
theorem hasAll_any (t : M.Tb) (p : Tp) (r : Nat → Nat) (a : Option Addr) (c : Nat) (l : List Int) (w : World) (hl : l.length ≤ 1000000) (ho : IntSl w a l) :
    Calls Tryz.prog 23 #[knV t p r, .slice a l.length c] w fun e w' => e = .returned (.bool (M.allN (fun i => M.inB t.elems.length (l.getD i 0)) l.length)) ∧ Below w.heap.size w w' := by
  have hk := knBox (t := t) (p := p) (r := r) (box_new w (knA t p r) 58)
  have HV := Lib.hid (vec_of_cel (Value.int .i64) 0 (ho.below (below1 w (.cells (knA t p r) 58))))
  have HC := Lib.hid (every_int a l.length c 45 #[.pointer (some ⟨w.heap.size, 0, none⟩)] (fun i => .int .i64 (l.getD i 0)) (fun i => M.inB t.elems.length (l.getD i 0)) (w.alloc (.cells (knA t p r) 58)) hl HV.out enters_hasAll1 (fun i hi w1 hB1 => (hasAll1_any t p r w.heap.size (l.getD i 0) w1 (hk.below hB1)).mono fun e w2 ⟨he, hw⟩ => ⟨he, by rw [← hw]; exact Below.refl _ _⟩))
  clear ho hk
  go_enter Tryz.func23, Tryz.ntmps23
  go_wp2_with fail
  refine HC.out.mono ?_
  rintro e w1 ⟨rfl, hB1⟩
  have hB := below2 (below1 w (.cells (knA t p r) 58)) hB1
  go_wp2_with fail
  go_ret
  exact ⟨rfl, hB⟩
/-- What Reach comes to. -/
def ReachPost (t : M.Tb) (a : Int) (w : World) (e : Ending) (w' : World) : Prop :=
  ((¬ M.form t ∧ e = .returned (.tuple #[.slice none 0 0, .int .i64 4])) ∨ (M.form t ∧ M.inB t.elems.length a = false ∧ e = .returned (.tuple #[.slice none 0 0, .int .i64 7])) ∨
    (M.form t ∧ M.inB t.elems.length a = true ∧ ∃ ad c, e = .returned (.tuple #[.slice ad (M.listN (M.know t a.toNat) 12).length c, .int .i64 0]) ∧ IntSl w' ad (M.listN (M.know t a.toNat) 12))) ∧ Below w.heap.size w w'
theorem reach_1 {t : M.Tb} {a : Int} {w w' : World} (h : ¬ M.form t) (hB : Below w.heap.size w w') : ReachPost t a w (.returned (.tuple #[.slice none 0 0, .int .i64 4])) w' := ⟨Or.inl ⟨h, rfl⟩, hB⟩
theorem reach_2 {t : M.Tb} {a : Int} {w w' : World} (h : M.form t) (ha : M.inB t.elems.length a = false) (hB : Below w.heap.size w w') : ReachPost t a w (.returned (.tuple #[.slice none 0 0, .int .i64 7])) w' := ⟨Or.inr (Or.inl ⟨h, ha, rfl⟩), hB⟩
theorem reach_3 {t : M.Tb} {a : Int} {w w' : World} {ad : Option Addr} {c : Nat} (h : M.form t) (ha : M.inB t.elems.length a = true) (hl : IntSl w' ad (M.listN (M.know t a.toNat) 12)) (hB : Below w.heap.size w w') : ReachPost t a w (.returned (.tuple #[.slice ad (M.listN (M.know t a.toNat) 12).length c, .int .i64 0])) w' := ⟨Or.inr (Or.inr ⟨h, ha, ad, c, rfl, hl⟩), hB⟩

end Go.Proofs.YtnhnjfoboepffaaGreat
