/- Texts of one's own, joined: OrdN. -/
import Derived.Test.YtnhnjfoboepffaaGr18
import Derived.Test.YtnhnjfoboepffaaGr14
namespace Go.Proofs.Ytnhnjfoboepffaa
open Go.RowKit

/-- Whether a number is that of an element. -/
def M.inB (n : Nat) (x : Int) : Bool := decide (0 ≤ x) && decide (x < (n : Int))

set_option maxHeartbeats 2000000 in
set_option maxRecDepth 100000 in
theorem hasAll1_any (t : M.Tb) (p : Tp) (r : Nat → Nat) (B : Nat) (x : Int) (w : World) (hk : KnBox w B t p r) :
    Calls Try.prog 62 #[.int .i64 x, .pointer (some ⟨B, 0, none⟩)] w fun e w' => e = .returned (.bool (M.inB t.elems.length x)) ∧ w = w' := by
  have c1 := hk.c1
  clear hk
  by_cases h : 0 ≤ x
  · have d1 : decide ((0 : Int) ≤ x) = true := decide_eq_true h
    have HR := Lib.hid (show M.inB t.elems.length x = decide (x < (t.elems.length : Int)) from by unfold M.inB; rw [d1, Bool.true_and])
    clear h
    go_enter Try.func62, Try.ntmps62
    go_wp2_with fail
    go_ret
    exact ⟨ret_bool HR.out.symm, rfl⟩
  · have d1 : decide ((0 : Int) ≤ x) = false := decide_eq_false h
    have HR := Lib.hid (show M.inB t.elems.length x = false from by unfold M.inB; rw [d1, Bool.false_and])
    clear h
    go_enter Try.func62, Try.ntmps62
    go_wp2_with fail
    go_ret
    exact ⟨ret_bool HR.out.symm, rfl⟩

theorem enters_hasAll1 : ∀ args w, (callFunc 62 args).run Try.prog w = .ok (.enter 62 args) w := enters_of Try.func62 (by kernel_rfl) rfl

set_option maxHeartbeats 2000000 in
set_option maxRecDepth 100000 in
theorem hasAll_any (t : M.Tb) (p : Tp) (r : Nat → Nat) (a : Option Addr) (c : Nat) (l : List Int) (w : World) (hl : l.length ≤ 1000000) (ho : IntSl w a l) :
    Calls Try.prog 36 #[knV t p r, .slice a l.length c] w fun e w' => e = .returned (.bool (M.allN (fun i => M.inB t.elems.length (l.getD i 0)) l.length)) ∧ Below w.heap.size w w' := by
  have hk := knBox (t := t) (p := p) (r := r) (box_new w (knA t p r) 62)
  have HV := Lib.hid (vec_of_cel (Value.int .i64) 0 (ho.below (below1 w (.cells (knA t p r) 62))))
  have HC := Lib.hid (every_int a l.length c 62 #[.pointer (some ⟨w.heap.size, 0, none⟩)] (fun i => .int .i64 (l.getD i 0)) (fun i => M.inB t.elems.length (l.getD i 0)) (w.alloc (.cells (knA t p r) 62)) hl HV.out enters_hasAll1 (fun i hi w1 hB1 => (hasAll1_any t p r w.heap.size (l.getD i 0) w1 (hk.below hB1)).mono fun e w2 ⟨he, hw⟩ => ⟨he, by rw [← hw]; exact Below.refl _ _⟩))
  clear ho hk
  go_enter Try.func36, Try.ntmps36
  go_wp2_with fail
  refine HC.out.mono ?_
  rintro e w1 ⟨rfl, hB1⟩
  have hB := below2 (below1 w (.cells (knA t p r) 62)) hB1
  go_wp2_with fail
  go_ret
  exact ⟨rfl, hB⟩
/-- What Reach comes to. -/
def ReachPost (t : M.Tb) (a : Int) (w : World) (e : Ending) (w' : World) : Prop :=
  ((¬ M.form t ∧ e = .returned (.tuple #[.slice none 0 0, .int .i64 4])) ∨ (M.form t ∧ M.inB t.elems.length a = false ∧ e = .returned (.tuple #[.slice none 0 0, .int .i64 7])) ∨
    (M.form t ∧ M.inB t.elems.length a = true ∧ ∃ ad c, e = .returned (.tuple #[.slice ad (M.listN (M.know t a.toNat) 12).length c, .int .i64 0]) ∧ IntSl w' ad (M.listN (M.know t a.toNat) 12))) ∧ Below w.heap.size w w'
theorem reach_1 {t : M.Tb} {a : Int} {w w' : World} (h : ¬ M.form t) (hB : Below w.heap.size w w') : ReachPost t a w (.returned (.tuple #[.slice none 0 0, .int .i64 4])) w' := ⟨Or.inl ⟨h, rfl⟩, hB⟩
theorem reach_2 {t : M.Tb} {a : Int} {w w' : World} (h : M.form t) (ha : M.inB t.elems.length a = false) (hB : Below w.heap.size w w') : ReachPost t a w (.returned (.tuple #[.slice none 0 0, .int .i64 7])) w' := ⟨Or.inr (Or.inl ⟨h, ha, rfl⟩), hB⟩
theorem reach_3 {t : M.Tb} {a : Int} {w w' : World} {ad : Option Addr} {c : Nat} (h : M.form t) (ha : M.inB t.elems.length a = true) (hl : IntSl w' ad (M.listN (M.know t a.toNat) 12)) (hB : Below w.heap.size w w') : ReachPost t a w (.returned (.tuple #[.slice ad (M.listN (M.know t a.toNat) 12).length c, .int .i64 0])) w' := ⟨Or.inr (Or.inr ⟨h, ha, ad, c, rfl, hl⟩), hB⟩

set_option maxHeartbeats 8000000 in
set_option maxRecDepth 100000 in
theorem reach_any (t : M.Tb) (p : Tp) (a : Int) (w : World) (hal : ∀ l, l ∈ t.above → l.length ≤ 1000000) (ht : TbIn w t p) : Calls Try.prog 16 #[tbV t p, .int .i64 a] w (ReachPost t a w) := by
  have HC := Lib.hid (formed_any t p (w.alloc (.cells (tbA t p) 26)) hal (ht.below (below1 _ _)))
  obtain ⟨c0, c1, c2, c3⟩ := tbBox (t := t) (p := p) (box_new w (tbA t p) 26)
  clear ht
  go_enter Try.func16, Try.ntmps16
  go_wp2_with fail
  refine HC.out.mono ?_
  rintro e w1 ⟨⟨hf, rfl⟩ | ⟨hf, rfl⟩, hB1⟩
  · have HF := Lib.hid hf
    have hB := below2 (below1 w (.cells (tbA t p) 26)) hB1
    clear hf hB1 c0 c1 c2 c3
    have HK := Lib.hid (knBox (t := t) (p := p) (r := M.know t) (box_new w1 (knA t p (M.know t)) 62))
    have hkl := M.know_lt HF.out
    have HKL := Lib.hid hkl
    have hn12 : t.elems.length ≤ 12 := HF.out.twelve
    clear hkl
    go_wp2_with fail
    refine (hasAll_any t p (M.know t) (some ⟨w1.heap.size + 1, 0, none⟩) 1 [a] _ (by show 1 ≤ 1000000; omega) (Or.inr ⟨w1.heap.size + 1, 0, rfl, by simp, fun i hi => by
        have : i = 0 := by simpa using hi
        subst this
        rw [World.cell?_alloc_at _ _ _ _ (by simp)]; rfl⟩)).mono ?_
    rintro e w2 ⟨rfl, hB2⟩
    have hall : M.allN (fun i => M.inB t.elems.length ([a].getD i 0)) [a].length = M.inB t.elems.length a := by
      unfold M.allN; simp [List.range_succ]
    rw [hall]
    have HK2 := Lib.hid ((HK.out.below (below1 _ (.cells #[.int .i64 a] 3))).below hB2)
    have hBf := below2 (belowA (belowA hB _) _) hB2
    clear hall hB hB2
    cases hin : M.inB t.elems.length a with
    | false =>
      have HIN := Lib.hid hin
      clear hin
      go_wp2_with fail
      go_ret2
      exact reach_2 HF.out HIN.out hBf
    | true =>
      have HIN := Lib.hid hin
      unfold M.inB at hin
      simp only [Bool.and_eq_true, decide_eq_true_eq] at hin
      obtain ⟨k, rfl⟩ : ∃ k : Nat, a = k := ⟨a.toNat, by omega⟩
      have hk12 : k < 12 := by omega
      have n1 : (k : Int) < 12 := by omega
      have n2 : (0 : Int) ≤ (k : Int) := by omega
      have hm := HK2.out.m k hk12
      clear hin
      go_wp2_with fail
      refine (list_any (M.know t k) _ (Nat.lt_trans (HKL.out k) (by omega))).mono ?_
      rintro e w3 ⟨ad, c, rfl, h1, h2, h3, hB3⟩
      have H3 := Lib.hid h3
      have hBg := below2 hBf hB3
      clear h1 h2 h3
      go_wp2_with fail
      go_ret2
      exact reach_3 HF.out HIN.out H3.out hBg
  · have HF := Lib.hid hf
    have hB := below2 (below1 w (.cells (tbA t p) 26)) hB1
    clear hf hB1 c0 c1 c2 c3
    go_wp2_with fail
    go_ret2
    exact reach_1 HF.out (belowA hB _)
end Go.Proofs.Ytnhnjfoboepffaa
