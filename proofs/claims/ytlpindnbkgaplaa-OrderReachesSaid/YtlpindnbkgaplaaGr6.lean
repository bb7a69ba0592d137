/- Texts of one's own, joined: OrdN, OrdO, OrdP, OrdQ, OrdR, OrdS, OrdT. -/
import Derived.Test.YtlpindnbkgaplaaGr5
namespace Go.Proofs.Ytlpindnbkgaplaa
open Go.RowKit

/-- Whether a number is that of an element. -/
def M.inB (n : Nat) (x : Int) : Bool := decide (0 ≤ x) && decide (x < (n : Int))

set_option maxHeartbeats 2000000 in
set_option maxRecDepth 100000 in
theorem hasAll1_any (t : M.Tb) (p : Tp) (r : Nat → Nat) (B : Nat) (x : Int) (w : World) (hk : KnBox w B t p r) :
    Calls Try.prog 75 #[.int .i64 x, .pointer (some ⟨B, 0, none⟩)] w fun e w' => e = .returned (.bool (M.inB t.elems.length x)) ∧ w = w' := by
  have c1 := hk.c1
  clear hk
  by_cases h : 0 ≤ x
  · have d1 : decide ((0 : Int) ≤ x) = true := decide_eq_true h
    have HR := Lib.hid (show M.inB t.elems.length x = decide (x < (t.elems.length : Int)) from by unfold M.inB; rw [d1, Bool.true_and])
    clear h
    go_enter Try.func75, Try.ntmps75
    go_wp2_with fail
    go_ret
    exact ⟨ret_bool HR.out.symm, rfl⟩
  · have d1 : decide ((0 : Int) ≤ x) = false := decide_eq_false h
    have HR := Lib.hid (show M.inB t.elems.length x = false from by unfold M.inB; rw [d1, Bool.false_and])
    clear h
    go_enter Try.func75, Try.ntmps75
    go_wp2_with fail
    go_ret
    exact ⟨ret_bool HR.out.symm, rfl⟩

theorem enters_hasAll1 : ∀ args w, (callFunc 75 args).run Try.prog w = .ok (.enter 75 args) w := enters_of Try.func75 (by kernel_rfl) rfl

set_option maxHeartbeats 2000000 in
set_option maxRecDepth 100000 in
theorem hasAll_any (t : M.Tb) (p : Tp) (r : Nat → Nat) (a : Option Addr) (c : Nat) (l : List Int) (w : World) (hl : l.length ≤ 1000000) (ho : IntSl w a l) :
    Calls Try.prog 41 #[knV t p r, .slice a l.length c] w fun e w' => e = .returned (.bool (M.allN (fun i => M.inB t.elems.length (l.getD i 0)) l.length)) ∧ Below w.heap.size w w' := by
  have hk := knBox (t := t) (p := p) (r := r) (box_new w (knA t p r) 64)
  have HV := Lib.hid (vec_of_cel (Value.int .i64) 0 (ho.below (below1 w (.cells (knA t p r) 64))))
  have HC := Lib.hid (every_int a l.length c 75 #[.pointer (some ⟨w.heap.size, 0, none⟩)] (fun i => .int .i64 (l.getD i 0)) (fun i => M.inB t.elems.length (l.getD i 0)) (w.alloc (.cells (knA t p r) 64)) hl HV.out enters_hasAll1 (fun i hi w1 hB1 => (hasAll1_any t p r w.heap.size (l.getD i 0) w1 (hk.below hB1)).mono fun e w2 ⟨he, hw⟩ => ⟨he, by rw [← hw]; exact Below.refl _ _⟩))
  clear ho hk
  go_enter Try.func41, Try.ntmps41
  go_wp2_with fail
  refine HC.out.mono ?_
  rintro e w1 ⟨rfl, hB1⟩
  have hB := below2 (below1 w (.cells (knA t p r) 64)) hB1
  go_wp2_with fail
  go_ret
  exact ⟨rfl, hB⟩
/-- What Reach comes to. -/
def ReachPost (t : M.Tb) (a : Int) (w : World) (e : Ending) (w' : World) : Prop :=
  ((¬ M.form t ∧ e = .returned (.tuple #[.slice none 0 0, .int .i64 4])) ∨ (M.form t ∧ M.inB t.elems.length a = false ∧ e = .returned (.tuple #[.slice none 0 0, .int .i64 7])) ∨
    (M.form t ∧ M.inB t.elems.length a = true ∧ ∃ ad c, e = .returned (.tuple #[.slice ad (M.listN (M.know t a.toNat) 12).length c, .int .i64 0]) ∧ IntSl w' ad (M.listN (M.know t a.toNat) 12))) ∧ Below w.heap.size w w'
theorem reach_1 {t : M.Tb} {a : Int} {w w' : World} (h : ¬ M.form t) (hB : Below w.heap.size w w') : ReachPost t a w (.returned (.tuple #[.slice none 0 0, .int .i64 4])) w' := ⟨Or.inl ⟨h, rfl⟩, hB⟩
theorem reach_2 {t : M.Tb} {a : Int} {w w' : World} (h : M.form t) (ha : M.inB t.elems.length a = false) (hB : Below w.heap.size w w') : ReachPost t a w (.returned (.tuple #[.slice none 0 0, .int .i64 7])) w' := ⟨Or.inr (Or.inl ⟨h, ha, rfl⟩), hB⟩
theorem reach_3 {t : M.Tb} {a : Int} {w w' : World} {ad : Option Addr} {c : Nat} (h : M.form t) (ha : M.inB t.elems.length a = true) (hl : IntSl w' ad (M.listN (M.know t a.toNat) 12)) (hB : Below w.heap.size w w') : ReachPost t a w (.returned (.tuple #[.slice ad (M.listN (M.know t a.toNat) 12).length c, .int .i64 0])) w' := ⟨Or.inr (Or.inr ⟨h, ha, ad, c, rfl, hl⟩), hB⟩

set_option maxHeartbeats 8000000 in
set_option maxRecDepth 100000 in
theorem reach_any (t : M.Tb) (p : Tp) (a : Int) (w : World) (hal : ∀ l, l ∈ t.above → l.length ≤ 1000000) (ht : TbIn w t p) : Calls Try.prog 15 #[tbV t p, .int .i64 a] w (ReachPost t a w) := by
  have HC := Lib.hid (formed_any t p (w.alloc (.cells (tbA t p) 26)) hal (ht.below (below1 _ _)))
  obtain ⟨c0, c1, c2, c3⟩ := tbBox (t := t) (p := p) (box_new w (tbA t p) 26)
  clear ht
  go_enter Try.func15, Try.ntmps15
  go_wp2_with fail
  refine HC.out.mono ?_
  rintro e w1 ⟨⟨hf, rfl⟩ | ⟨hf, rfl⟩, hB1⟩
  · have HF := Lib.hid hf
    have hB := below2 (below1 w (.cells (tbA t p) 26)) hB1
    clear hf hB1 c0 c1 c2 c3
    have HK := Lib.hid (knBox (t := t) (p := p) (r := M.know t) (box_new w1 (knA t p (M.know t)) 64))
    have hkl := M.know_lt HF.out
    have HKL := Lib.hid hkl
    have hn12 : t.elems.length ≤ 12 := HF.out.twelve
    clear hkl
    go_wp2_with fail
    refine (hasAll_any t p (M.know t) (some ⟨w1.heap.size + 1, 0, none⟩) 1 [a] _ (by show 1 ≤ 1000000; omega) (Or.inr ⟨w1.heap.size + 1, 0, rfl, by simp, fun i hi => by
        have : i = 0 := by simpa using hi
        subst this
        rw [World.cell?_alloc_at _ _ _ _ (by simp)]; rfl⟩)).mono ?_
    rintro e w2 ⟨rfl, hB2⟩
    have hall : M.allN (fun i => M.inB t.elems.length ([a].getD i 0)) [a].length = M.inB t.elems.length a := by
      unfold M.allN; simp [List.range_succ]
    rw [hall]
    have HK2 := Lib.hid ((HK.out.below (below1 _ (.cells #[.int .i64 a] 3))).below hB2)
    have hBf := below2 (belowA (belowA hB _) _) hB2
    clear hall hB hB2
    cases hin : M.inB t.elems.length a with
    | false =>
      have HIN := Lib.hid hin
      clear hin
      go_wp2_with fail
      go_ret2
      exact reach_2 HF.out HIN.out hBf
    | true =>
      have HIN := Lib.hid hin
      unfold M.inB at hin
      simp only [Bool.and_eq_true, decide_eq_true_eq] at hin
      obtain ⟨k, rfl⟩ : ∃ k : Nat, a = k := ⟨a.toNat, by omega⟩
      have hk12 : k < 12 := by omega
      have n1 : (k : Int) < 12 := by omega
      have n2 : (0 : Int) ≤ (k : Int) := by omega
      have hm := HK2.out.m k hk12
      clear hin
      go_wp2_with fail
      refine (list_any (M.know t k) _ (Nat.lt_trans (HKL.out k) (by omega))).mono ?_
      rintro e w3 ⟨ad, c, rfl, h1, h2, h3, hB3⟩
      have H3 := Lib.hid h3
      have hBg := below2 hBf hB3
      clear h1 h2 h3
      go_wp2_with fail
      go_ret2
      exact reach_3 HF.out HIN.out H3.out hBg
  · have HF := Lib.hid hf
    have hB := below2 (below1 w (.cells (tbA t p) 26)) hB1
    clear hf hB1 c0 c1 c2 c3
    go_wp2_with fail
    go_ret2
    exact reach_1 HF.out (belowA hB _)
end Go.Proofs.Ytlpindnbkgaplaa

namespace Go.Proofs.Ytlpindnbkgaplaa
open Go.RowKit

/-- What Below comes to. -/
def BelowPost (t : M.Tb) (a b : Int) (w : World) (e : Ending) (w' : World) : Prop :=
  ((¬ M.form t ∧ e = .returned (.tuple #[.bool false, .int .i64 4])) ∨ (M.form t ∧ (M.inB t.elems.length a && M.inB t.elems.length b) = false ∧ e = .returned (.tuple #[.bool false, .int .i64 7])) ∨
    (M.form t ∧ (M.inB t.elems.length a && M.inB t.elems.length b) = true ∧ e = .returned (.tuple #[.bool ((M.know t a.toNat).testBit b.toNat), .int .i64 0]))) ∧ Below w.heap.size w w'
theorem bel_1 {t : M.Tb} {a b : Int} {w w' : World} (h : ¬ M.form t) (hB : Below w.heap.size w w') : BelowPost t a b w (.returned (.tuple #[.bool false, .int .i64 4])) w' := ⟨Or.inl ⟨h, rfl⟩, hB⟩
theorem bel_2 {t : M.Tb} {a b : Int} {w w' : World} (h : M.form t) (ha : (M.inB t.elems.length a && M.inB t.elems.length b) = false) (hB : Below w.heap.size w w') : BelowPost t a b w (.returned (.tuple #[.bool false, .int .i64 7])) w' := ⟨Or.inr (Or.inl ⟨h, ha, rfl⟩), hB⟩
theorem bel_3 {t : M.Tb} {a b : Int} {w w' : World} (h : M.form t) (ha : (M.inB t.elems.length a && M.inB t.elems.length b) = true) (hB : Below w.heap.size w w') : BelowPost t a b w (.returned (.tuple #[.bool ((M.know t a.toNat).testBit b.toNat), .int .i64 0])) w' := ⟨Or.inr (Or.inr ⟨h, ha, rfl⟩), hB⟩

set_option maxHeartbeats 8000000 in
set_option maxRecDepth 100000 in
theorem below_any (t : M.Tb) (p : Tp) (a b : Int) (w : World) (hal : ∀ l, l ∈ t.above → l.length ≤ 1000000) (ht : TbIn w t p) : Calls Try.prog 16 #[tbV t p, .int .i64 a, .int .i64 b] w (BelowPost t a b w) := by
  have HC := Lib.hid (formed_any t p (w.alloc (.cells (tbA t p) 26)) hal (ht.below (below1 _ _)))
  obtain ⟨c0, c1, c2, c3⟩ := tbBox (t := t) (p := p) (box_new w (tbA t p) 26)
  clear ht
  go_enter Try.func16, Try.ntmps16
  go_wp2_with fail
  refine HC.out.mono ?_
  rintro e w1 ⟨⟨hf, rfl⟩ | ⟨hf, rfl⟩, hB1⟩
  · have HF := Lib.hid hf
    have hB := below2 (below1 w (.cells (tbA t p) 26)) hB1
    clear hf hB1 c0 c1 c2 c3
    have HK := Lib.hid (knBox (t := t) (p := p) (r := M.know t) (box_new w1 (knA t p (M.know t)) 64))
    have hkl := M.know_lt HF.out
    have HKL := Lib.hid hkl
    have hn12 : t.elems.length ≤ 12 := HF.out.twelve
    clear hkl
    go_wp2_with fail
    refine (hasAll_any t p (M.know t) (some ⟨w1.heap.size + 1, 0, none⟩) 2 [a, b] _ (by show 2 ≤ 1000000; omega) (Or.inr ⟨w1.heap.size + 1, 0, rfl, by simp, fun i hi => by
        rw [World.cell?_alloc_at _ _ _ _ (by simp)]
        have h2 : i < 2 := hi
        match i, h2 with
        | 0, _ => rfl
        | 1, _ => rfl⟩)).mono ?_
    rintro e w2 ⟨rfl, hB2⟩
    have hall : M.allN (fun i => M.inB t.elems.length ([a, b].getD i 0)) [a, b].length = (M.inB t.elems.length a && M.inB t.elems.length b) := by
      unfold M.allN; simp [List.range_succ]
    rw [hall]
    have HK2 := Lib.hid ((HK.out.below (below1 _ (.cells #[.int .i64 a, .int .i64 b] 3))).below hB2)
    have hBf := below2 (belowA (belowA hB _) _) hB2
    clear hall hB hB2
    cases hin : (M.inB t.elems.length a && M.inB t.elems.length b) with
    | false =>
      have HIN := Lib.hid hin
      clear hin
      go_wp2_with fail
      go_ret2
      exact bel_2 HF.out HIN.out hBf
    | true =>
      have HIN := Lib.hid hin
      unfold M.inB at hin
      simp only [Bool.and_eq_true, decide_eq_true_eq] at hin
      obtain ⟨k, rfl⟩ : ∃ k : Nat, a = k := ⟨a.toNat, by omega⟩
      obtain ⟨j, rfl⟩ : ∃ j : Nat, b = j := ⟨b.toNat, by omega⟩
      have hk12 : k < 12 := by omega
      have n1 : (k : Int) < 12 := by omega
      have n2 : (0 : Int) ≤ (k : Int) := by omega
      have hm := HK2.out.m k hk12
      have hj16 : j < 16 := by omega
      clear hin
      go_wp2_with fail
      refine (has_any (M.know t k) j _ (Nat.lt_trans (HKL.out k) (by omega)) hj16).mono ?_
      rintro e w3 ⟨rfl, rfl⟩
      go_wp2_with fail
      go_ret2
      exact bel_3 HF.out HIN.out hBf
  · have HF := Lib.hid hf
    have hB := below2 (below1 w (.cells (tbA t p) 26)) hB1
    clear hf hB1 c0 c1 c2 c3
    go_wp2_with fail
    go_ret2
    exact bel_1 HF.out (belowA hB _)
end Go.Proofs.Ytlpindnbkgaplaa

namespace Go.Proofs.Ytlpindnbkgaplaa
open Go.RowKit

set_option maxHeartbeats 2000000 in
set_option maxRecDepth 100000 in
theorem comesBack1_any (t : M.Tb) (p : Tp) (r : Nat → Nat) (B C : Nat) (x a : Nat) (w : World) (hk : KnBox w B t p r) (hr : ∀ i, r i < 4096) (hx : x < 12) (ha : a < 16) (hc : w.cell? ⟨C, 0, none⟩ = some (.int .i64 a)) :
    Calls Try.prog 98 #[.int .i64 x, .pointer (some ⟨B, 0, none⟩), .pointer (some ⟨C, 0, none⟩)] w fun e w' => e = .returned (.bool (!(r x).testBit a)) ∧ Below w.heap.size w w' := by
  have hm := hk.m x hx
  have HC := Lib.hid fun W => has_any (r x) a W (Nat.lt_trans (hr x) (by omega)) ha
  have n1 : (x : Int) < 12 := by omega
  have n2 : (0 : Int) ≤ (x : Int) := by omega
  have hB : Below w.heap.size w w := Below.refl _ _
  clear hk hr
  go_enter Try.func98, Try.ntmps98
  go_wp2_with fail
  go_quiet ((go_at_call 43; exact Calls.quiet_of ((HC.out _).mono fun e w' ⟨he, hw⟩ => ⟨he, 0, hw.symm⟩)))
  go_wp2_with fail
  go_ret
  exact ⟨rfl, belowN hB _⟩

theorem enters_comesBack1 : ∀ args w, (callFunc 98 args).run Try.prog w = .ok (.enter 98 args) w := enters_of Try.func98 (by kernel_rfl) rfl

set_option maxHeartbeats 4000000 in
set_option maxRecDepth 100000 in
theorem comesBack_any (t : M.Tb) (p : Tp) (a : Nat) (w : World) (ht : TbIn w t p) (hf : M.form t) (ha : a < t.elems.length) (hlen : (t.above.getD a []).length ≤ 1000000) :
    Calls Try.prog 67 #[knV t p (M.know t), .int .i64 a] w fun e w' => e = .returned (.bool (!M.allN (fun i => !(M.know t ((t.above.getD a []).getD i 0).toNat).testBit a) (t.above.getD a []).length)) ∧ Below w.heap.size w w' := by
  obtain ⟨pea, pec, paa, pac, pwa, pwc⟩ := p
  have ha' : a < t.above.length := by rw [hf.above]; exact ha
  have h12 := hf.twelve
  have hBB : Below w.heap.size w ((w.alloc (.cells (knA t ⟨pea, pec, paa, pac, pwa, pwc⟩ (M.know t)) 64)).alloc (.cells #[.int .i64 a] 3)) := belowA (below1 _ _) _
  have hk := (knBox (t := t) (p := ⟨pea, pec, paa, pac, pwa, pwc⟩) (r := M.know t) (box_new w (knA t ⟨pea, pec, paa, pac, pwa, pwc⟩ (M.know t)) 64)).below (below1 _ (.cells #[.int .i64 a] 3))
  have hcc : ((w.alloc (.cells (knA t ⟨pea, pec, paa, pac, pwa, pwc⟩ (M.know t)) 64)).alloc (.cells #[.int .i64 a] 3)).cell? ⟨w.heap.size + 1, 0, none⟩ = some (.int .i64 a) := by
    rw [World.cell?_alloc_at _ _ _ _ (by simp)]; rfl
  rw [getD_in _ _ _ ha'] at hlen ⊢
  obtain ⟨b, off, ea, hat⟩ := (ht.below hBB).as_.at ha'
  obtain ⟨ra, rc, q, _, _, hrow⟩ := hat.at_ a ha'
  dsimp only at ea
  subst ea
  have hV := vec_of_cel (Value.int .i64) 0 hrow
  have hcall := every_int ra t.above[a].length rc 98 #[.pointer (some ⟨w.heap.size, 0, none⟩), .pointer (some ⟨w.heap.size + 1, 0, none⟩)] (fun i => .int .i64 (t.above[a].getD i 0)) (fun i => !(M.know t (t.above[a].getD i 0).toNat).testBit a) _ hlen hV enters_comesBack1 (fun i hi w1 hB1 => by
    have hx := M.asc_in (hf.rows a ha') h12 i hi
    rw [getD_in _ _ _ hi]
    obtain ⟨x, hxe⟩ : ∃ x : Nat, t.above[a][i] = (x : Int) := ⟨(t.above[a][i]).toNat, by omega⟩
    rw [hxe] at hx ⊢
    rw [Int.toNat_natCast]
    exact comesBack1_any t _ (M.know t) w.heap.size (w.heap.size + 1) x a w1 (hk.below hB1) (M.know_lt hf) (by omega) (by omega) (cell_below hcc hB1))
  have HC := Lib.hid hcall
  have HBB := Lib.hid hBB
  obtain ⟨k0, k1, k2, k3, _, _⟩ := hk
  obtain ⟨L, hL⟩ : ∃ L, t.above[a] = L := ⟨_, rfl⟩
  rw [hL] at q HC ⊢
  have n1 : (a : Int) < (t.above.length : Int) := by omega
  have n2 : (0 : Int) ≤ (a : Int) := by omega
  clear hcall hV hrow hat hBB ht hf hL hlen
  go_enter Try.func67, Try.ntmps67
  go_wp2_with fail
  refine HC.out.mono ?_
  rintro e w1 ⟨rfl, hB1⟩
  have hB := below2 HBB.out hB1
  go_wp2_with fail
  go_ret
  exact ⟨rfl, hB⟩
end Go.Proofs.Ytlpindnbkgaplaa

namespace Go.Proofs.Ytlpindnbkgaplaa
open Go.RowKit

namespace M
/-- The number of the first one of some numbers that is a number, or -1. -/
def idxM (v : Nat → Nat) (m : Nat) : Nat → Nat → Int
  | 0, _ => -1
  | f + 1, k => if v k = m then k else idxM v m f (k + 1)
theorem idxM_stop (v : Nat → Nat) (m : Nat) : ∀ f k j, k ≤ j → j < k + f → v j = m → (∀ i, k ≤ i → i < j → v i ≠ m) → idxM v m f k = j := by
  intro f
  induction f with
  | zero => intro k j h1 h2; omega
  | succ f ih =>
    intro k j h1 h2 h3 h4
    unfold idxM
    by_cases e : k = j
    · subst e; rw [if_pos h3]
    · rw [if_neg (h4 k (Nat.le_refl _) (by omega))]
      exact ih (k + 1) j (by omega) (by omega) h3 (fun i q1 q2 => h4 i (by omega) q2)
theorem idxM_all (v : Nat → Nat) (m : Nat) : ∀ f k, (∀ i, k ≤ i → i < k + f → v i ≠ m) → idxM v m f k = -1 := by
  intro f
  induction f with
  | zero => intro k _; rfl
  | succ f ih =>
    intro k h
    unfold idxM
    rw [if_neg (h k (Nat.le_refl _) (by omega))]
    exact ih (k + 1) (fun i q1 q2 => h i (by omega) (by omega))
end M

set_option maxHeartbeats 1000000 in
set_option maxRecDepth 100000 in
theorem index_some (b off n c m : Nat) (v : Nat → Nat) (w : World) (hn : n ≤ 1000000) (hs : ∀ i, i < n → w.cell? ⟨b, off + i, none⟩ = some (.int .u16 (v i : Nat))) :
    Calls Try.prog 84 #[.slice (some ⟨b, off, none⟩) n c, .int .u16 m] w fun e w' => e = .returned (.int .i64 (M.idxM v m n 0)) ∧ w = w' := by
  have HS := Lib.hid hs
  clear hs
  go_enter Try.func84, Try.ntmps84
  go_wp2_with fail
  go_loop [8] (fun i => ∃ k : Nat, k ≤ n ∧ i = .int .i64 k ∧ Hid (∀ j, j < k → v j ≠ m)) (fun i => n - (intOf i).toNat)
  case atStart => exact ⟨0, by omega, rfl, Lib.hid (fun j hj => by omega)⟩
  case round =>
    obtain ⟨k, hk, rfl, HA⟩ := hrel
    by_cases hkl : k < n
    · have c0 := HS.out k hkl
      have n1 : (k : Int) < (n : Int) := by omega
      have n2 : (0 : Int) ≤ (k : Int) := by omega
      by_cases hv : v k = m
      · have k1 : ((m : Int) == (v k : Nat)) = true := by rw [hv]; exact beq_self_eq_true _
        have HR := Lib.hid (M.idxM_stop v m n 0 k (Nat.zero_le _) (by omega) hv (fun i _ hi => HA.out i hi))
        clear hv
        go_wp2_with fail
        go_ret
        exact ⟨ret_int HR.out.symm, rfl⟩
      · have k1 : ((m : Int) == (v k : Nat)) = false := by rw [beq_eq_false_iff_ne]; omega
        have HN := Lib.hid (show ∀ j, j < k + 1 → v j ≠ m from fun j hj => by
          rcases Nat.lt_succ_iff_lt_or_eq.1 hj with h | rfl
          · exact HA.out j h
          · exact hv)
        clear hv
        go_wp2_with fail
        go_round
        case rel => exact ⟨k + 1, by omega, by go_num, HN⟩
        case measure => simp [intOf]; omega
    · obtain rfl : k = n := by omega
      have m1 : decide ((k : Int) < (k : Int)) = false := decide_eq_false (by omega)
      have HR := Lib.hid (M.idxM_all v m k 0 (fun i _ hi => HA.out i (by omega)))
      go_wp2_with fail
      go_ret
      exact ⟨ret_int HR.out.symm, rfl⟩

/-- The join of two elements, and the kind of the break that they are. -/
def M.joinM (r : Nat → Nat) (n a b : Nat) : Int × Nat :=
  if r a &&& r b = 0 then (0, 3) else if M.idxM r (r a &&& r b) n 0 < 0 then (0, 4) else (M.idxM r (r a &&& r b) n 0, 0)

set_option maxHeartbeats 4000000 in
set_option maxRecDepth 100000 in
theorem join_any (t : M.Tb) (p : Tp) (r : Nat → Nat) (a b : Nat) (w : World) (hr : ∀ i, r i < 4096) (hn : t.elems.length ≤ 12) (ha : a < 12) (hb : b < 12) :
    Calls Try.prog 53 #[knV t p r, .int .i64 a, .int .i64 b] w fun e w' => e = .returned (.tuple #[.int .i64 (M.joinM r t.elems.length a b).1, .int .u8 (M.joinM r t.elems.length a b).2]) ∧ Below w.heap.size w w' := by
  have hk := knBox (t := t) (p := p) (r := r) (box_new w (knA t p r) 64)
  have HK := Lib.hid hk
  have ma := hk.m a ha
  have mb := hk.m b hb
  have c1 := hk.c1
  have n1 : (a : Int) < 12 := by omega
  have n2 : (0 : Int) ≤ (a : Int) := by omega
  have n3 : (b : Int) < 12 := by omega
  have n4 : (0 : Int) ≤ (b : Int) := by omega
  have hand : bits .and .u16 (r a : Nat) (r b : Nat) = ((r a &&& r b : Nat) : Int) := u16_and_nat _ _ (Nat.lt_trans (hr a) (by omega)) (Nat.lt_trans (hr b) (by omega))
  have hB := below1 w (.cells (knA t p r) 64)
  clear hk hr
  by_cases h0 : r a &&& r b = 0
  · have k1 : (((r a &&& r b : Nat) : Int) == 0) = true := by rw [h0]; rfl
    have HR := Lib.hid (show M.joinM r t.elems.length a b = (0, 3) from by unfold M.joinM; rw [if_pos h0])
    clear h0
    go_enter Try.func53, Try.ntmps53
    go_wp2_with fail
    go_quiet (fail)
    go_wp2_with fail
    go_ret2
    exact ⟨by rw [HR.out]; rfl, belowN hB _⟩
  · have k1 : (((r a &&& r b : Nat) : Int) == 0) = false := by rw [beq_eq_false_iff_ne]; omega
    have hcall := fun q => index_some w.heap.size 4 t.elems.length 12 (r a &&& r b) r ((w.alloc (.cells (knA t p r) 64)).drewN q) (by omega) (fun i hi => (HK.out.m i (by omega)))
    have n5 : (t.elems.length : Int) ≤ 12 := by omega
    by_cases hj : M.idxM r (r a &&& r b) t.elems.length 0 < 0
    · have HR := Lib.hid (show M.joinM r t.elems.length a b = (0, 4) from by unfold M.joinM; rw [if_neg h0, if_pos hj])
      have k2 : decide (M.idxM r (r a &&& r b) t.elems.length 0 < 0) = true := decide_eq_true hj
      have HC := Lib.hid hcall
      clear h0 hj hcall
      go_enter Try.func53, Try.ntmps53
      go_wp2_with fail
      go_quiet (fail)
      go_wp2_with fail
      refine (HC.out _).mono ?_
      rintro e w1 ⟨rfl, rfl⟩
      go_wp2_with fail
      go_ret2
      exact ⟨by rw [HR.out]; rfl, belowN hB _⟩
    · have HR := Lib.hid (show M.joinM r t.elems.length a b = (M.idxM r (r a &&& r b) t.elems.length 0, 0) from by unfold M.joinM; rw [if_neg h0, if_neg hj])
      have k2 : decide (M.idxM r (r a &&& r b) t.elems.length 0 < 0) = false := decide_eq_false hj
      have HC := Lib.hid hcall
      clear h0 hj hcall
      go_enter Try.func53, Try.ntmps53
      go_wp2_with fail
      go_quiet (fail)
      go_wp2_with fail
      refine (HC.out _).mono ?_
      rintro e w1 ⟨rfl, rfl⟩
      go_wp2_with fail
      go_ret2
      exact ⟨by rw [HR.out]; rfl, belowN hB _⟩
end Go.Proofs.Ytlpindnbkgaplaa

namespace Go.Proofs.Ytlpindnbkgaplaa
open Go.RowKit

/-- Whether all that is above an element, of the first numbers, is as wrong as it. -/
def M.soWrong (t : M.Tb) (r : Nat → Nat) (a k : Nat) : Prop := ∀ b, b < k → (r a).testBit b = true → t.wrong.getD b false = true
/-- What wrongBreak comes to. -/
def WrongPost (t : M.Tb) (r : Nat → Nat) (w : World) (e : Ending) (w' : World) : Prop :=
  ((t.wrong.getD 0 false = true ∧ e = .returned (.agg #[.int .u8 5, .int .i64 0, .int .i64 0])) ∨
    (t.wrong.getD 0 false = false ∧ ∃ a b : Nat, a < t.elems.length ∧ b < t.elems.length ∧ t.wrong.getD a false = true ∧ (r a).testBit b = true ∧ t.wrong.getD b false = false ∧ (∀ a', a' < a → t.wrong.getD a' false = true → M.soWrong t r a' 12) ∧ M.soWrong t r a b ∧ e = .returned (.agg #[.int .u8 5, .int .i64 a, .int .i64 b])) ∨
    (t.wrong.getD 0 false = false ∧ (∀ a, a < t.elems.length → t.wrong.getD a false = true → M.soWrong t r a 12) ∧ e = .returned (.agg #[.int .u8 0, .int .i64 0, .int .i64 0]))) ∧ Below w.heap.size w w'
theorem set3_at (W : World) (R : Nat) (x y z a b c : Value) (h0 : W.cell? ⟨R, 0, none⟩ = some a) (h1 : W.cell? ⟨R, 1, none⟩ = some b) (h2 : W.cell? ⟨R, 2, none⟩ = some c) :
    (((W.setCell ⟨R, 0, none⟩ x).setCell ⟨R, 1, none⟩ y).setCell ⟨R, 2, none⟩ z).cell? ⟨R, 0, none⟩ = some x ∧ (((W.setCell ⟨R, 0, none⟩ x).setCell ⟨R, 1, none⟩ y).setCell ⟨R, 2, none⟩ z).cell? ⟨R, 1, none⟩ = some y ∧ (((W.setCell ⟨R, 0, none⟩ x).setCell ⟨R, 1, none⟩ y).setCell ⟨R, 2, none⟩ z).cell? ⟨R, 2, none⟩ = some z := by
  refine ⟨?_, ?_, ?_⟩
  · rw [set_other _ _ _ _ _ (by decide), set_other _ _ _ _ _ (by decide)]; exact set_same _ _ _ _ _ h0
  · rw [set_other _ _ _ _ _ (by decide)]; exact set_same _ _ _ _ _ (by rw [set_other _ _ _ _ _ (by decide)]; exact h1)
  · exact set_same _ _ _ _ _ (by rw [set_other _ _ _ _ _ (by decide), set_other _ _ _ _ _ (by decide)]; exact h2)
theorem below_set3 {w W : World} {R : Nat} (h : Below w.heap.size w W) (hR : w.heap.size ≤ R) (x y z : Value) : Below w.heap.size w (((W.setCell ⟨R, 0, none⟩ x).setCell ⟨R, 1, none⟩ y).setCell ⟨R, 2, none⟩ z) :=
  ((h.setCell (p := ⟨R, 0, none⟩) hR x).setCell (p := ⟨R, 1, none⟩) hR y).setCell (p := ⟨R, 2, none⟩) hR z

set_option maxHeartbeats 4000000 in
set_option maxRecDepth 100000 in
theorem wrong_first (t : M.Tb) (p : Tp) (r : Nat → Nat) (w : World) (ht : TbIn w t p) (h1 : 1 ≤ t.wrong.length) (h0 : t.wrong.getD 0 false = true) :
    Calls Try.prog 69 #[knV t p r] w (WrongPost t r w) := by
  obtain ⟨pea, pec, paa, pac, pwa, pwc⟩ := p
  have hBB : Below w.heap.size w ((w.alloc (.cells (knA t ⟨pea, pec, paa, pac, pwa, pwc⟩ r) 64)).alloc (.cells #[.int .u8 0, .int .i64 0, .int .i64 0] 33)) := belowA (below1 _ _) _
  have hk := (knBox (t := t) (p := ⟨pea, pec, paa, pac, pwa, pwc⟩) (r := r) (box_new w (knA t ⟨pea, pec, paa, pac, pwa, pwc⟩ r) 64)).below (below1 _ (.cells #[.int .u8 0, .int .i64 0, .int .i64 0] 33))
  obtain ⟨b, off, ea, ha⟩ := (ht.below hBB).ws.at h1
  dsimp only at ea
  subst ea
  have q := ha.at_ 0 h1
  rw [← getD_in t.wrong false 0 h1, h0, Nat.add_zero] at q
  have hrr := Lib.hid (box_last w (.cells (knA t ⟨pea, pec, paa, pac, some ⟨b, off, none⟩, pwc⟩ r) 64) #[.int .u8 0, .int .i64 0, .int .i64 0] 33)
  have c3 := hk.c3
  have HB := Lib.hid hBB
  have n1 : (0 : Int) < (t.wrong.length : Int) := by omega
  have H0 := Lib.hid h0
  clear hk ha ht hBB h0 hrr
  go_enter Try.func69, Try.ntmps69
  go_wp2_with fail
  exact bodyPost_ret (v := .agg #[.int .u8 5, .int .i64 0, .int .i64 0]) (by simp [results, Try.results69, go_sem]) rfl ⟨Or.inl ⟨H0.out, rfl⟩, belowA (below1 _ _) _⟩

theorem M.listN_sorted (m k : Nat) : (M.listN m k).Pairwise (· < ·) := by
  unfold M.listN
  rw [List.pairwise_map]
  exact (List.pairwise_lt_range.filter _).imp fun h => by omega
theorem M.listN_before (m k j : Nat) (hj : j < (M.listN m k).length) (b' : Nat) (h1 : (b' : Int) < (M.listN m k)[j]) (h2 : m.testBit b' = true) (h3 : b' < k) : ∃ i, ∃ h : i < (M.listN m k).length, i < j ∧ (M.listN m k)[i] = b' := by
  obtain ⟨i, hi, e⟩ := List.getElem_of_mem ((M.listN_mem m k b').2 ⟨b', rfl, h3, h2⟩)
  refine ⟨i, hi, ?_, e⟩
  have hs := List.pairwise_iff_getElem.1 (M.listN_sorted m k)
  rcases Nat.lt_or_ge i j with h | h
  · exact h
  · exfalso
    rcases Nat.lt_or_eq_of_le h with h | rfl
    · have := hs j i hj hi h; omega
    · omega

set_option maxHeartbeats 8000000 in
set_option maxRecDepth 100000 in
theorem wrong_rest (t : M.Tb) (p : Tp) (r : Nat → Nat) (w : World) (ht : TbIn w t p) (h1 : 1 ≤ t.wrong.length) (hn : t.wrong.length = t.elems.length) (h12 : t.elems.length ≤ 12) (hr : ∀ a, r a < 4096) (hin : ∀ a b, a < t.elems.length → (r a).testBit b = true → b < t.elems.length) (h0 : t.wrong.getD 0 false = false) :
    Calls Try.prog 69 #[knV t p r] w (WrongPost t r w) := by
  obtain ⟨pea, pec, paa, pac, pwa, pwc⟩ := p
  have hBB : Below w.heap.size w ((w.alloc (.cells (knA t ⟨pea, pec, paa, pac, pwa, pwc⟩ r) 64)).alloc (.cells #[.int .u8 0, .int .i64 0, .int .i64 0] 33)) := belowA (below1 _ _) _
  have hk := (knBox (t := t) (p := ⟨pea, pec, paa, pac, pwa, pwc⟩) (r := r) (box_new w (knA t ⟨pea, pec, paa, pac, pwa, pwc⟩ r) 64)).below (below1 _ (.cells #[.int .u8 0, .int .i64 0, .int .i64 0] 33))
  have hrr := Lib.hid (box_last w (.cells (knA t ⟨pea, pec, paa, pac, pwa, pwc⟩ r) 64) #[.int .u8 0, .int .i64 0, .int .i64 0] 33)
  obtain ⟨b, off, ea, ha⟩ := (ht.below hBB).ws.at h1
  dsimp only at ea
  subst ea
  have q := ha.at_ 0 h1
  rw [← getD_in t.wrong false 0 h1, h0, Nat.add_zero] at q
  have HA := Lib.hid ha
  have HK := Lib.hid hk
  have c3 := hk.c3
  have HB := Lib.hid hBB
  have n0 : (0 : Int) < (t.wrong.length : Int) := by omega
  have H0 := Lib.hid h0
  have HIN := Lib.hid hin
  have HR := Lib.hid hr
  clear hk ha ht hBB h0 hin hr
  obtain ⟨W0, hW0⟩ : ∃ W0, ((w.alloc (.cells (knA t ⟨pea, pec, paa, pac, some ⟨b, off, none⟩, pwc⟩ r) 64)).alloc (.cells #[.int .u8 0, .int .i64 0, .int .i64 0] 33)) = W0 := ⟨_, rfl⟩
  have hz0 : w.heap.size + 1 < W0.heap.size := by rw [← hW0]; simp
  rw [hW0] at HA HK c3 HB hrr q
  go_enter Try.func69, Try.ntmps69
  go_wp2_with fail
  clear hW0 c3 q
  go_loopw [17] (fun i wr => ∃ k : Nat, k ≤ t.wrong.length ∧ i = .int .i64 k ∧ Hid (∀ a', a' < k → t.wrong.getD a' false = true → M.soWrong t r a' 12) ∧ Below W0.heap.size W0 wr) (fun i _ => t.wrong.length - (intOf i).toNat)
  case atStart => exact ⟨0, by omega, rfl, Lib.hid (fun a' h => by omega), Below.refl _ _⟩
  case round =>
    rename_i wr
    obtain ⟨k, hk, rfl, HALL, hB⟩ := hrel
    by_cases hkl : k < t.wrong.length
    · have q := (HA.out.below hB).at_ k hkl
      rw [← getD_in t.wrong false k hkl] at q
      have n1 : (k : Int) < (t.wrong.length : Int) := by omega
      have n2 : (0 : Int) ≤ (k : Int) := by omega
      have n3 : (k : Int) < 12 := by omega
      cases hv : t.wrong.getD k false with
      | false =>
        rw [hv] at q
        have HN := Lib.hid (show ∀ a', a' < k + 1 → t.wrong.getD a' false = true → M.soWrong t r a' 12 from fun a' h hq => by
          rcases Nat.lt_succ_iff_lt_or_eq.1 h with h | rfl
          · exact HALL.out a' h hq
          · rw [hv] at hq; cases hq)
        clear hv
        go_wp2_with fail
        go_roundw
        case rel => exact ⟨k + 1, by omega, by go_num, HN, hB⟩
        case measure => simp [intOf]; omega
      | true =>
        rw [hv] at q
        have HV := Lib.hid hv
        have hm := (HK.out.below hB).m k (by omega)
        clear hv
        go_wp2_with fail
        refine (list_any (r k) _ (Nat.lt_trans (HR.out k) (by omega))).mono ?_
        rintro e w1 ⟨la, lc, rfl, _, _, hl, hB1⟩
        have HL := Lib.hid hl
        have hB2 := below2 hB hB1
        have hle := M.listN_le (r k) 12
        clear hl hm q hB hB1
        go_wp2_with fail
        go_loopw [30] (fun i wx => ∃ j : Nat, j ≤ (M.listN (r k) 12).length ∧ i = .int .i64 j ∧ Hid (∀ i, (h : i < (M.listN (r k) 12).length) → i < j → t.wrong.getD ((M.listN (r k) 12)[i]).toNat false = true) ∧ Below w1.heap.size w1 wx) (fun i _ => (M.listN (r k) 12).length - (intOf i).toNat)
        case atStart => exact ⟨0, by omega, rfl, Lib.hid (fun i h hi => by omega), Below.refl _ _⟩
        case round =>
          rename World => wx
          obtain ⟨j, hj, rfl, HJ, hBx⟩ := hrel
          by_cases hjl : j < (M.listN (r k) 12).length
          · obtain ⟨lb, lo, rfl, hla⟩ := (HL.out.below hBx).at hjl
            have y0 := hla.at_ j hjl
            obtain ⟨bb, hbe, hb12, hbit⟩ := (M.listN_mem (r k) 12 _).1 (List.getElem_mem hjl)
            have hbn := HIN.out k bb (by omega) hbit
            have hB3 := below2 hB2 hBx
            have y1 := (HA.out.below hB3).at_ bb (by omega)
            rw [← getD_in t.wrong false bb (by omega)] at y1
            have y3 := cell_below HK.out.c3 hB3
            have m1 : (j : Int) < ((M.listN (r k) 12).length : Int) := by omega
            have m2 : (0 : Int) ≤ (j : Int) := by omega
            have m3 : (bb : Int) < (t.wrong.length : Int) := by omega
            have m4 : (0 : Int) ≤ (bb : Int) := by omega
            have HBE := Lib.hid hbe
            rw [hbe] at y0
            cases hv : t.wrong.getD bb false with
            | true =>
              rw [hv] at y1
              have HN := Lib.hid (show ∀ i, (h : i < (M.listN (r k) 12).length) → i < j + 1 → t.wrong.getD ((M.listN (r k) 12)[i]).toNat false = true from fun i h hi => by
                rcases Nat.lt_succ_iff_lt_or_eq.1 hi with hi | rfl
                · exact HJ.out i h hi
                · rw [HBE.out, Int.toNat_natCast]; exact hv)
              clear hv hbe hla hbit
              go_wp2_with fail
              go_roundw
              case rel => exact ⟨j + 1, by omega, by go_num, HN, hBx⟩
              case measure => simp [intOf]; omega
            | false =>
              rw [hv] at y1
              have HVV := Lib.hid hv
              have HBIT := Lib.hid hbit
              have hso : M.soWrong t r k bb := fun b' h1 h2 => by
                obtain ⟨i, hi, hij, e⟩ := M.listN_before (r k) 12 j hjl b' (by rw [HBE.out]; omega) h2 (by omega)
                have := HJ.out i hi hij
                rw [e, Int.toNat_natCast] at this
                exact this
              have HSO := Lib.hid hso
              have r0 := cell_below ((Lib.cell_of_heap hrr.out 0).trans (show _ = some (Value.int .u8 0) from rfl)) hB3
              have r1 := cell_below ((Lib.cell_of_heap hrr.out 1).trans (show _ = some (Value.int .i64 0) from rfl)) hB3
              have r2 := cell_below ((Lib.cell_of_heap hrr.out 2).trans (show _ = some (Value.int .i64 0) from rfl)) hB3
              have g0 := ((bcell hB3).2 _ 0 hz0).trans (Lib.frozen_of_heap hrr.out 0)
              have g1 := ((bcell hB3).2 _ 1 hz0).trans (Lib.frozen_of_heap hrr.out 1)
              have g2 := ((bcell hB3).2 _ 2 hz0).trans (Lib.frozen_of_heap hrr.out 2)
              obtain ⟨q0, q1, q2⟩ := set3_at _ _ (.int .u8 5) (.int .i64 k) (.int .i64 bb) _ _ _ r0 r1 r2
              have hBf : Below w.heap.size w wx := HB.out.trans (hB3.mono (by omega))
              have hBU := below_set3 (R := w.heap.size + 1) hBf (by omega) (.int .u8 5) (.int .i64 k) (.int .i64 bb)
              have hkn : k < t.elems.length := by omega
              clear hv hbe hla hbit hso hBf
              go_wp2_with fail
              exact bodyPost_ret (v := .agg #[.int .u8 5, .int .i64 k, .int .i64 bb]) (by simp [results, Try.results69, go_sem, q0, q1, q2]) rfl ⟨Or.inr (Or.inl ⟨H0.out, k, bb, hkn, hbn, HV.out, HBIT.out, HVV.out, HALL.out, HSO.out, rfl⟩), hBU⟩
          · obtain rfl : j = (M.listN (r k) 12).length := by omega
            have m1 : decide (((M.listN (r k) 12).length : Int) < ((M.listN (r k) 12).length : Int)) = false := decide_eq_false (by omega)
            have HN := Lib.hid (show ∀ a', a' < k + 1 → t.wrong.getD a' false = true → M.soWrong t r a' 12 from fun a' h hq => by
              rcases Nat.lt_succ_iff_lt_or_eq.1 h with h | rfl
              · exact HALL.out a' h hq
              · intro b' hb' hbit
                obtain ⟨i, hi, e⟩ := List.getElem_of_mem ((M.listN_mem (r a') 12 b').2 ⟨b', rfl, hb', hbit⟩)
                have := HJ.out i hi hi
                rw [e, Int.toNat_natCast] at this
                exact this)
            have hB3 := below2 hB2 hBx
            go_wp2_with fail
            go_roundw
            case rel => exact ⟨k + 1, by omega, by go_num, HN, hB3⟩
            case measure => simp [intOf]; omega
    · obtain rfl : k = t.wrong.length := by omega
      have m1 : decide ((t.wrong.length : Int) < (t.wrong.length : Int)) = false := decide_eq_false (by omega)
      have r0 := cell_below ((Lib.cell_of_heap hrr.out 0).trans (show _ = some (Value.int .u8 0) from rfl)) hB
      have r1 := cell_below ((Lib.cell_of_heap hrr.out 1).trans (show _ = some (Value.int .i64 0) from rfl)) hB
      have r2 := cell_below ((Lib.cell_of_heap hrr.out 2).trans (show _ = some (Value.int .i64 0) from rfl)) hB
      have g0 := ((bcell hB).2 _ 0 hz0).trans (Lib.frozen_of_heap hrr.out 0)
      have g1 := ((bcell hB).2 _ 1 hz0).trans (Lib.frozen_of_heap hrr.out 1)
      have g2 := ((bcell hB).2 _ 2 hz0).trans (Lib.frozen_of_heap hrr.out 2)
      obtain ⟨q0, q1, q2⟩ := set3_at _ _ (.int .u8 0) (.int .i64 0) (.int .i64 0) _ _ _ r0 r1 r2
      have hBf : Below w.heap.size w wr := HB.out.trans (hB.mono (by omega))
      have hBU := below_set3 (R := w.heap.size + 1) hBf (by omega) (.int .u8 0) (.int .i64 0) (.int .i64 0)
      have HALLN := Lib.hid (show ∀ a, a < t.elems.length → t.wrong.getD a false = true → M.soWrong t r a 12 from fun a h => HALL.out a (by omega))
      clear hBf
      go_wp2_with fail
      exact bodyPost_ret (v := .agg #[.int .u8 0, .int .i64 0, .int .i64 0]) (by simp [results, Try.results69, go_sem, q0, q1, q2]) rfl ⟨Or.inr (Or.inr ⟨H0.out, HALLN.out, rfl⟩), hBU⟩

theorem wrongBreak_any (t : M.Tb) (p : Tp) (w : World) (ht : TbIn w t p) (hf : M.form t) : Calls Try.prog 69 #[knV t p (M.know t)] w (WrongPost t (M.know t) w) := by
  have h1 : 1 ≤ t.wrong.length := by rw [hf.wrong]; exact hf.one
  cases h0 : t.wrong.getD 0 false with
  | true => exact wrong_first t p _ w ht h1 h0
  | false => exact wrong_rest t p _ w ht h1 hf.wrong hf.twelve (M.know_lt hf) (fun a b ha hb => M.Ways.lt hf ha ((M.know_bit hf a b ha).1 hb)) h0
end Go.Proofs.Ytlpindnbkgaplaa

namespace Go.Proofs.Ytlpindnbkgaplaa
namespace M
/-- One step up. -/
def up (t : Tb) (a b : Nat) : Prop := (b : Int) ∈ t.above.getD a []
/-- Steps up, one or more. -/
inductive Stp (t : Tb) : Nat → Nat → Prop
  | one {a b : Nat} : up t a b → Stp t a b
  | more {a v b : Nat} : Stp t a v → up t v b → Stp t a b
theorem Stp.ways {t : Tb} {a b : Nat} (h : Stp t a b) : Ways t a b := by
  induction h with
  | one h => exact .one (Or.inr h)
  | more _ h ih => exact .more ih (Or.inr h)
theorem Ways.stp {t : Tb} {a b : Nat} (h : Ways t a b) : b = a ∨ Stp t a b := by
  induction h with
  | one h =>
    rcases h with h | h
    · exact Or.inl h
    · exact Or.inr (.one h)
  | more h1 h ih =>
    rcases h with h | h
    · subst h; exact ih
    · rcases ih with ih | ih
      · subst ih; exact Or.inr (.one h)
      · exact Or.inr (.more ih h)
theorem Stp.trans {t : Tb} {a v b : Nat} (h1 : Stp t a v) (h2 : Stp t v b) : Stp t a b := by
  induction h2 with
  | one h => exact .more h1 h
  | more _ h ih => exact .more ih h
theorem Stp.after {t : Tb} {a v b : Nat} (h1 : Stp t a v) (h2 : Ways t v b) : Stp t a b := by
  rcases h2.stp with rfl | h
  · exact h1
  · exact h1.trans h
theorem Stp.before {t : Tb} {a v b : Nat} (h1 : Ways t a v) (h2 : Stp t v b) : Stp t a b := by
  rcases h1.stp with rfl | h
  · exact h2
  · exact h.trans h2
theorem Stp.head {t : Tb} {a b : Nat} (h : Stp t a b) : ∃ v, up t a v ∧ Ways t v b := by
  induction h with
  | one h => exact ⟨_, h, Ways.refl _ _⟩
  | more _ h ih => obtain ⟨v, h1, h2⟩ := ih; exact ⟨v, h1, .more h2 (Or.inr h)⟩
theorem up_lt {t : Tb} (hf : form t) {a b : Nat} (ha : a < t.elems.length) (h : up t a b) : b < t.elems.length := stp_lt hf ha (Or.inr h)
theorem Stp.lt {t : Tb} (hf : form t) {a b : Nat} (ha : a < t.elems.length) (h : Stp t a b) : b < t.elems.length := h.ways.lt hf ha
/-- Whether an element is below another one; whether one comes from it to the other one by one step or more. -/
def leB (t : Tb) (a b : Nat) : Bool := (know t a).testBit b
def stB (t : Tb) (a b : Nat) : Bool := (t.above.getD a []).any fun v => leB t v.toNat b
theorem leB_iff {t : Tb} (hf : form t) {a b : Nat} (ha : a < t.elems.length) : leB t a b = true ↔ Ways t a b := know_bit hf a b ha
theorem row_nat {t : Tb} (hf : form t) {a : Nat} (ha : a < t.elems.length) {x : Int} (hx : x ∈ t.above.getD a []) : ∃ v : Nat, x = v ∧ up t a v ∧ v < t.elems.length := by
  have ha' : a < t.above.length := by rw [hf.above]; exact ha
  have hx' := hx
  rw [getD_in _ _ _ ha'] at hx'
  obtain ⟨j, hj, e⟩ := List.getElem_of_mem hx'
  have h1 := hf.rows a ha' j hj
  rw [e] at h1
  have e2 : x = ((x.toNat : Nat) : Int) := by omega
  refine ⟨x.toNat, e2, ?_, by omega⟩
  unfold up
  rw [← e2]; exact hx
theorem stB_iff {t : Tb} (hf : form t) {a b : Nat} (ha : a < t.elems.length) : stB t a b = true ↔ Stp t a b := by
  unfold stB
  rw [List.any_eq_true]
  constructor
  · rintro ⟨x, hx, h⟩
    obtain ⟨v, rfl, hu, hv⟩ := row_nat hf ha hx
    rw [Int.toNat_natCast, leB_iff hf hv] at h
    exact (Stp.one hu).after h
  · intro h
    obtain ⟨v, hu, hw⟩ := h.head
    refine ⟨(v : Int), hu, ?_⟩
    rw [Int.toNat_natCast, leB_iff hf (up_lt hf ha hu)]
    exact hw
theorem stB_lt {t : Tb} (hf : form t) {a b : Nat} (ha : a < t.elems.length) (h : stB t a b = true) : b < t.elems.length := ((stB_iff hf ha).1 h).lt hf ha
theorem leB_lt {t : Tb} (hf : form t) {a b : Nat} (ha : a < t.elems.length) (h : leB t a b = true) : b < t.elems.length := ((leB_iff hf ha).1 h).lt hf ha
theorem leB_refl {t : Tb} (hf : form t) {a : Nat} (ha : a < t.elems.length) : leB t a a = true := (leB_iff hf ha).2 (Ways.refl t a)
theorem leB_trans {t : Tb} (hf : form t) {a v b : Nat} (ha : a < t.elems.length) (h1 : leB t a v = true) (h2 : leB t v b = true) : leB t a b = true :=
  (leB_iff hf ha).2 (((leB_iff hf ha).1 h1).trans ((leB_iff hf (leB_lt hf ha h1)).1 h2))
theorem leB_or {t : Tb} (hf : form t) {a b : Nat} (ha : a < t.elems.length) : leB t a b = (decide (a = b) || stB t a b) := by
  rw [Bool.eq_iff_iff, leB_iff hf ha, Bool.or_eq_true, decide_eq_true_eq, stB_iff hf ha]
  constructor
  · intro h
    rcases h.stp with h | h
    · exact Or.inl h.symm
    · exact Or.inr h
  · rintro (rfl | h)
    · exact Ways.refl t a
    · exact h.ways
/-- What is seen, and what is still to be done, when the steps from an element are gone through. -/
structure Bfs (t : Tb) (a : Nat) (S : Nat → Bool) (T : List Nat) : Prop where
  sound : ∀ x, S x = true → Stp t a x
  todo : ∀ x, x ∈ T → x = a ∨ S x = true
  shut : ∀ x, (x = a ∨ S x = true) → x ∉ T → ∀ y, up t x y → S y = true
/-- The same while one element's steps are looked at, the first ones of them done. -/
structure BfsIn (t : Tb) (a : Nat) (S : Nat → Bool) (T : List Nat) (v k : Nat) : Prop where
  sound : ∀ x, S x = true → Stp t a x
  todo : ∀ x, x ∈ T → x = a ∨ S x = true
  at_ : v = a ∨ S v = true
  shut : ∀ x, (x = a ∨ S x = true) → x ∉ T → x ≠ v → ∀ y, up t x y → S y = true
  done : ∀ j, j < k → ∀ h : j < (t.above.getD v []).length, S ((t.above.getD v [])[j]).toNat = true
theorem Bfs.start (t : Tb) (a : Nat) : Bfs t a (fun _ => false) [a] :=
  ⟨fun _ h => (by cases h), fun x hx => Or.inl (by simpa using hx), fun x hx hn => by
    rcases hx with rfl | hx
    · simp at hn
    · cases hx⟩
theorem Bfs.pop {t : Tb} {a v : Nat} {S : Nat → Bool} {T : List Nat} (h : Bfs t a S (v :: T)) : BfsIn t a S T v 0 :=
  ⟨h.sound, fun x hx => h.todo x (List.mem_cons_of_mem _ hx), h.todo v List.mem_cons_self, fun x hx hn hv => h.shut x hx (by rw [List.mem_cons]; exact fun q => q.elim hv hn), fun j hj => by omega⟩
theorem BfsIn.yes {t : Tb} {a v k : Nat} {S : Nat → Bool} {T : List Nat} (h : BfsIn t a S T v k) (hk : k < (t.above.getD v []).length) (hs : S ((t.above.getD v [])[k]).toNat = true) : BfsIn t a S T v (k + 1) :=
  ⟨h.sound, h.todo, h.at_, h.shut, fun j hj hjl => by
    rcases Nat.lt_succ_iff_lt_or_eq.1 hj with q | rfl
    · exact h.done j q hjl
    · exact hs⟩
theorem BfsIn.push {t : Tb} {a v k y : Nat} {S : Nat → Bool} {T : List Nat} (h : BfsIn t a S T v k) (hk : k < (t.above.getD v []).length) (hy : (t.above.getD v [])[k] = (y : Int)) :
    BfsIn t a (fun i => if i = y then true else S i) (T ++ [y]) v (k + 1) := by
  have hu : up t v y := by unfold up; rw [← hy]; exact List.getElem_mem _
  have hs : ∀ i, S i = true → (if i = y then true else S i) = true := fun i hi => by split <;> first | rfl | exact hi
  refine ⟨fun x hx => ?_, fun x hx => ?_, h.at_.imp id (hs v), fun x hx hn hv z hz => ?_, fun j hj hjl => ?_⟩
  · by_cases e : x = y
    · subst e
      rcases h.at_ with q | q
      · subst q; exact .one hu
      · exact .more (h.sound v q) hu
    · rw [if_neg e] at hx; exact h.sound x hx
  · rcases List.mem_append.1 hx with hx | hx
    · exact (h.todo x hx).imp id (hs x)
    · have : x = y := by simpa using hx
      right; rw [if_pos this]
  · have hxy : x ≠ y := fun e => hn (by rw [e]; simp)
    rw [if_neg hxy] at hx
    exact hs z (h.shut x hx (fun q => hn (List.mem_append_left _ q)) hv z hz)
  · rcases Nat.lt_succ_iff_lt_or_eq.1 hj with q | rfl
    · exact hs _ (h.done j q hjl)
    · rw [hy, Int.toNat_natCast, if_pos rfl]
theorem BfsIn.fin {t : Tb} {a v : Nat} {S : Nat → Bool} {T : List Nat} (h : BfsIn t a S T v (t.above.getD v []).length) : Bfs t a S T :=
  ⟨h.sound, h.todo, fun x hx hn y hy => by
    by_cases e : x = v
    · subst e
      obtain ⟨j, hj, e⟩ := List.getElem_of_mem hy
      have := h.done j hj hj
      rw [e, Int.toNat_natCast] at this
      exact this
    · exact h.shut x hx hn e y hy⟩
theorem Bfs.fin {t : Tb} {a : Nat} {S : Nat → Bool} (h : Bfs t a S []) (b : Nat) : S b = true ↔ Stp t a b := by
  refine ⟨h.sound b, fun q => ?_⟩
  induction q with
  | one q => exact h.shut _ (Or.inl rfl) (by simp) _ q
  | more _ q ih => exact h.shut _ (Or.inr ih) (by simp) _ q
/-- How many are not seen. -/
def unseen (S : Nat → Bool) (n : Nat) : Nat := ((List.range n).filter fun i => !S i).length
theorem unseen_push (S : Nat → Bool) (n y : Nat) (hy : y < n) (hs : S y = false) : unseen (fun i => if i = y then true else S i) n + 1 = unseen S n := by
  unfold unseen
  induction n with
  | zero => omega
  | succ n ih =>
    rw [List.range_succ, List.filter_append, List.filter_append, List.length_append, List.length_append]
    by_cases e : y = n
    · subst e
      have h1 : (List.range y).filter (fun i => !(if i = y then true else S i)) = (List.range y).filter (fun i => !S i) := by
        apply List.filter_congr
        intro i hi
        rw [if_neg (by have := List.mem_range.1 hi; omega)]
      rw [h1]
      simp [hs]
    · have := ih (by omega)
      have h2 : (List.filter (fun i => !(if i = y then true else S i)) [n]) = List.filter (fun i => !S i) [n] := by
        apply List.filter_congr
        intro i hi
        have : i = n := by simpa using hi
        rw [if_neg (by omega)]
      rw [h2]; omega
theorem unseen_le (S : Nat → Bool) (n : Nat) : unseen S n ≤ n := by
  unfold unseen
  exact Nat.le_trans (List.length_filter_le _ _) (by rw [List.length_range]; exact Nat.le_refl _)
end M
end Go.Proofs.Ytlpindnbkgaplaa

namespace Go.Proofs.Ytlpindnbkgaplaa
namespace M
/-- The first number below another one that is as asked. -/
def fstN (n : Nat) (p : Nat → Bool) : Option Nat := (List.range n).find? p
theorem fstN_stop {n k : Nat} {p : Nat → Bool} (hk : k < n) (hp : p k = true) (hb : ∀ j, j < k → p j = false) : fstN n p = some k := by
  unfold fstN
  rw [List.find?_eq_some_iff_getElem]
  refine ⟨hp, k, by simpa using hk, by simp, fun j hj => ?_⟩
  simp [hb j hj]
theorem fstN_all {n : Nat} {p : Nat → Bool} (h : ∀ j, j < n → p j = false) : fstN n p = none := by
  unfold fstN
  rw [List.find?_eq_none]
  intro x hx
  rw [h x (List.mem_range.1 hx)]; simp
theorem fstN_some {n k : Nat} {p : Nat → Bool} (h : fstN n p = some k) : k < n ∧ p k = true ∧ ∀ j, j < k → p j = false := by
  unfold fstN at h
  rw [List.find?_eq_some_iff_getElem] at h
  obtain ⟨hp, i, hi, e, hb⟩ := h
  simp only [List.getElem_range, List.length_range, Bool.not_eq_eq_eq_not, Bool.not_true] at e hi hb
  subst e
  exact ⟨hi, hp, hb⟩
theorem fstN_none {n : Nat} {p : Nat → Bool} (h : fstN n p = none) : ∀ j, j < n → p j = false := by
  unfold fstN at h
  rw [List.find?_eq_none] at h
  intro j hj
  have := h j (List.mem_range.2 hj)
  simpa using this
/-- The first pair of such numbers that is as asked. -/
def fst2 (n : Nat) (p : Nat → Nat → Bool) : Option (Nat × Nat) := (fstN n fun a => (fstN n (p a)).isSome).bind fun a => (fstN n (p a)).map fun b => (a, b)
theorem fst2_stop {n a b : Nat} {p : Nat → Nat → Bool} (ha : a < n) (hb : b < n) (hp : p a b = true) (h1 : ∀ a', a' < a → ∀ b', b' < n → p a' b' = false) (h2 : ∀ b', b' < b → p a b' = false) : fst2 n p = some (a, b) := by
  unfold fst2
  have e2 : fstN n (p a) = some b := fstN_stop hb hp h2
  rw [fstN_stop ha (by rw [e2]; rfl) (fun j hj => by rw [fstN_all (h1 j hj)]; rfl), Option.bind_some, e2]
  rfl
theorem fst2_all {n : Nat} {p : Nat → Nat → Bool} (h : ∀ a, a < n → ∀ b, b < n → p a b = false) : fst2 n p = none := by
  unfold fst2
  rw [fstN_all (fun j hj => by rw [fstN_all (h j hj)]; rfl)]
  rfl
theorem fst2_some {n a b : Nat} {p : Nat → Nat → Bool} (h : fst2 n p = some (a, b)) : a < n ∧ b < n ∧ p a b = true ∧ (∀ a', a' < a → ∀ b', b' < n → p a' b' = false) ∧ ∀ b', b' < b → p a b' = false := by
  unfold fst2 at h
  cases h1 : fstN n fun a => (fstN n (p a)).isSome with
  | none => rw [h1] at h; cases h
  | some c =>
    rw [h1, Option.bind_some] at h
    cases h2 : fstN n (p c) with
    | none => rw [h2] at h; cases h
    | some d =>
      rw [h2] at h
      cases h
      obtain ⟨q1, _, q3⟩ := fstN_some h1
      obtain ⟨r1, r2, r3⟩ := fstN_some h2
      refine ⟨q1, r1, r2, fun a' ha' => ?_, r3⟩
      have := q3 a' ha'
      cases h3 : fstN n (p a') with
      | none => exact fstN_none h3
      | some _ => rw [h3] at this; cases this
theorem fst2_none {n : Nat} {p : Nat → Nat → Bool} (h : fst2 n p = none) : ∀ a, a < n → ∀ b, b < n → p a b = false := by
  intro a ha
  unfold fst2 at h
  cases h1 : fstN n fun a => (fstN n (p a)).isSome with
  | none =>
    have := fstN_none h1 a ha
    cases h3 : fstN n (p a) with
    | none => exact fstN_none h3
    | some _ => rw [h3] at this; cases this
  | some c =>
    rw [h1, Option.bind_some] at h
    obtain ⟨_, q, _⟩ := fstN_some h1
    cases h2 : fstN n (p c) with
    | none => rw [h2] at q; cases q
    | some d => rw [h2] at h; cases h
/-- The elements above two, ascending; the least of some; the join. -/
def bnd (t : Tb) (a b : Nat) : List Nat := (List.range t.elems.length).filter fun c => leB t a c && leB t b c
def lst (t : Tb) (l : List Nat) : Option Nat := l.find? fun x => l.all fun y => leB t x y
def jn (t : Tb) (a b : Nat) : Option Nat := lst t (bnd t a b)
theorem mem_bnd {t : Tb} {a b c : Nat} : c ∈ bnd t a b ↔ c < t.elems.length ∧ leB t a c = true ∧ leB t b c = true := by
  unfold bnd
  simp [List.mem_filter, List.mem_range]
theorem jn_some {t : Tb} {a b c : Nat} (h : jn t a b = some c) : c < t.elems.length ∧ leB t a c = true ∧ leB t b c = true ∧ ∀ d, d < t.elems.length → leB t a d = true → leB t b d = true → leB t c d = true := by
  unfold jn lst at h
  have h1 := List.find?_some h
  have h2 := List.mem_of_find?_eq_some h
  obtain ⟨q1, q2, q3⟩ := mem_bnd.1 h2
  refine ⟨q1, q2, q3, fun d hd ha hb => ?_⟩
  rw [List.all_eq_true] at h1
  exact h1 d (mem_bnd.2 ⟨hd, ha, hb⟩)
theorem jn_none {t : Tb} {a b : Nat} (h : jn t a b = none) {c : Nat} (hc : c < t.elems.length) (h1 : leB t a c = true) (h2 : leB t b c = true) : ∃ d, d < t.elems.length ∧ leB t a d = true ∧ leB t b d = true ∧ leB t c d = false := by
  unfold jn lst at h
  rw [List.find?_eq_none] at h
  have := h c (mem_bnd.2 ⟨hc, h1, h2⟩)
  rw [Bool.not_eq_true, List.all_eq_false] at this
  obtain ⟨d, hd, hn⟩ := this
  obtain ⟨q1, q2, q3⟩ := mem_bnd.1 hd
  exact ⟨d, q1, q2, q3, by simpa using hn⟩
/-- The join is the first element above which there is just what is above both. -/
theorem know_both {t : Tb} (hf : form t) {a b c : Nat} (ha : a < t.elems.length) (hb : b < t.elems.length) (hc : c < t.elems.length) :
    know t c = know t a &&& know t b ↔ (leB t a c = true ∧ leB t b c = true ∧ ∀ d, d ∈ bnd t a b → leB t c d = true) := by
  constructor
  · intro h
    have hcc : (know t c).testBit c = true := leB_refl hf hc
    rw [h, Nat.testBit_and, Bool.and_eq_true] at hcc
    refine ⟨hcc.1, hcc.2, fun d hd => ?_⟩
    obtain ⟨_, q2, q3⟩ := mem_bnd.1 hd
    unfold leB at q2 q3 ⊢
    rw [h, Nat.testBit_and, q2, q3]; rfl
  · rintro ⟨h1, h2, h3⟩
    apply Nat.eq_of_testBit_eq
    intro d
    rw [Nat.testBit_and, Bool.eq_iff_iff, Bool.and_eq_true]
    constructor
    · intro h
      exact ⟨leB_trans hf ha h1 h, leB_trans hf hb h2 h⟩
    · rintro ⟨q1, q2⟩
      exact h3 d (mem_bnd.2 ⟨leB_lt hf ha q1, q1, q2⟩)
theorem idx_jn {t : Tb} (hf : form t) {a b : Nat} (ha : a < t.elems.length) (hb : b < t.elems.length) : idxM (know t) (know t a &&& know t b) t.elems.length 0 = match jn t a b with | some c => (c : Int) | none => -1 := by
  cases h : jn t a b with
  | none =>
    refine idxM_all _ _ _ _ fun i _ hi e => ?_
    rw [Nat.zero_add] at hi
    obtain ⟨h1, h2, h3⟩ := (know_both hf ha hb hi).1 e
    obtain ⟨d, q1, q2, q3, q4⟩ := jn_none h hi h1 h2
    have := h3 d (mem_bnd.2 ⟨q1, q2, q3⟩)
    rw [q4] at this; cases this
  | some c =>
    obtain ⟨h1, h2, h3, h4⟩ := jn_some h
    refine idxM_stop _ _ _ _ _ (Nat.zero_le _) (by omega) ((know_both hf ha hb h1).2 ⟨h2, h3, fun d hd => ?_⟩) fun i _ hi e => ?_
    · obtain ⟨q1, q2, q3⟩ := mem_bnd.1 hd
      exact h4 d q1 q2 q3
    · obtain ⟨r1, r2, r3⟩ := (know_both hf ha hb (Nat.lt_trans hi h1)).1 e
      unfold jn lst at h
      rw [List.find?_eq_some_iff_append] at h
      obtain ⟨_, l1, l2, e2, hno⟩ := h
      have hib : i ∈ bnd t a b := mem_bnd.2 ⟨Nat.lt_trans hi h1, r1, r2⟩
      have hp : (bnd t a b).Pairwise (· < ·) := by unfold bnd; exact List.pairwise_lt_range.filter _
      rw [e2] at hp
      rw [e2] at hib
      rcases List.mem_append.1 hib with q | q
      · have := hno i q
        simp only [Bool.not_eq_eq_eq_not, Bool.not_true, List.all_eq_false] at this
        obtain ⟨d, hd, hn⟩ := this
        exact hn (r3 d hd)
      · rcases List.mem_cons.1 q with q | q
        · omega
        · have := (List.pairwise_cons.1 (List.pairwise_append.1 hp).2.1).1 i q
          omega
theorem both_nil {t : Tb} (hf : form t) {a b : Nat} (ha : a < t.elems.length) : (know t a &&& know t b = 0) ↔ bnd t a b = [] := by
  constructor
  · intro h
    rw [List.eq_nil_iff_forall_not_mem]
    intro c hc
    obtain ⟨_, h1, h2⟩ := mem_bnd.1 hc
    have : (know t a &&& know t b).testBit c = true := by
      unfold leB at h1 h2
      rw [Nat.testBit_and, h1, h2]; rfl
    rw [h] at this; simp at this
  · intro h
    apply Nat.eq_of_testBit_eq
    intro c
    rw [Nat.zero_testBit]
    cases hq : (know t a &&& know t b).testBit c with
    | false => rfl
    | true =>
      rw [Nat.testBit_and, Bool.and_eq_true] at hq
      have : c ∈ bnd t a b := mem_bnd.2 ⟨leB_lt hf ha hq.1, hq.1, hq.2⟩
      rw [h] at this; simp at this
theorem jn_nil {t : Tb} {a b : Nat} (h : bnd t a b = []) : jn t a b = none := by unfold jn lst; rw [h]; rfl
/-- The kind of the break that two elements without a join are. -/
def kindM (t : Tb) (a b : Nat) : Nat := if bnd t a b = [] then 3 else 4
theorem joinM_jn {t : Tb} (hf : form t) {a b : Nat} (ha : a < t.elems.length) (hb : b < t.elems.length) : joinM (know t) t.elems.length a b = match jn t a b with | some c => ((c : Int), 0) | none => (0, kindM t a b) := by
  unfold joinM kindM
  rw [idx_jn hf ha hb]
  by_cases h : know t a &&& know t b = 0
  · rw [if_pos h]
    have h2 := (both_nil hf ha).1 h
    rw [jn_nil h2, if_pos h2]
  · rw [if_neg h]
    have h2 : ¬ bnd t a b = [] := fun q => h ((both_nil hf ha).2 q)
    cases hj : jn t a b with
    | none => simp only; rw [if_pos (by omega), if_neg h2]
    | some c => simp only; rw [if_neg (by omega)]
/-- Whether an element is wrong. -/
def wr (t : Tb) (a : Nat) : Bool := t.wrong.getD a false
/-- The break of a table: its kind, and two elements; of kind 0 if there is none. -/
def brk (t : Tb) : Nat × Nat × Nat :=
  match fstN t.elems.length fun a => stB t a a with
  | some a => (1, a, 0)
  | none =>
    match fstN t.elems.length fun a => !leB t 0 a with
    | some a => (2, a, 0)
    | none =>
      match fst2 t.elems.length fun a b => decide (a < b) && (jn t a b).isNone with
      | some (a, b) => (kindM t a b, a, b)
      | none =>
        if wr t 0 = true then (5, 0, 0)
        else match fst2 t.elems.length fun a b => wr t a && !wr t b && leB t a b with
          | some (a, b) => (5, a, b)
          | none => (0, 0, 0)
theorem brk_cycle {t : Tb} {a : Nat} (ha : a < t.elems.length) (h : stB t a a = true) (hb : ∀ j, j < a → stB t j j = false) : brk t = (1, a, 0) := by
  unfold brk; rw [fstN_stop (p := fun a => stB t a a) ha h hb]
theorem brk_base {t : Tb} {a : Nat} (h1 : ∀ j, j < t.elems.length → stB t j j = false) (ha : a < t.elems.length) (h : leB t 0 a = false) (hb : ∀ j, j < a → leB t 0 j = true) : brk t = (2, a, 0) := by
  unfold brk
  rw [fstN_all (p := fun a => stB t a a) h1]
  simp only
  rw [fstN_stop (p := fun a => !leB t 0 a) ha (by simp [h]) (fun j hj => by simp [hb j hj])]
theorem brk_pair {t : Tb} {a b : Nat} (h1 : ∀ j, j < t.elems.length → stB t j j = false) (h2 : ∀ j, j < t.elems.length → leB t 0 j = true) (hab : a < b) (hb : b < t.elems.length) (h : jn t a b = none)
    (h3 : ∀ a', a' < a → ∀ b', a' < b' → b' < t.elems.length → jn t a' b' ≠ none) (h4 : ∀ b', a < b' → b' < b → jn t a b' ≠ none) : brk t = (kindM t a b, a, b) := by
  unfold brk
  rw [fstN_all (p := fun a => stB t a a) h1]
  simp only
  rw [fstN_all (p := fun a => !leB t 0 a) (fun j hj => by simp [h2 j hj])]
  simp only
  rw [fst2_stop (a := a) (b := b) (p := fun a b => decide (a < b) && (jn t a b).isNone) (by omega) hb (by simp [hab, h]) (fun a' ha' b' hb' => by
    by_cases q : a' < b'
    · have := h3 a' ha' b' q hb'
      cases hj : jn t a' b' with
      | none => exact absurd hj this
      | some _ => simp
    · simp [q]) (fun b' hb' => by
    by_cases q : a < b'
    · have := h4 b' q hb'
      cases hj : jn t a b' with
      | none => exact absurd hj this
      | some _ => simp
    · simp [q])]
/-- Whether all pairs have joins, and nothing else breaks a table but wrong elements. -/
structure noBrk (t : Tb) : Prop where
  cyc : ∀ j, j < t.elems.length → stB t j j = false
  base : ∀ j, j < t.elems.length → leB t 0 j = true
  pair : ∀ a, a < t.elems.length → ∀ b, a < b → b < t.elems.length → jn t a b ≠ none
theorem brk_rest {t : Tb} (h : noBrk t) : brk t = if wr t 0 = true then (5, 0, 0) else match fst2 t.elems.length fun a b => wr t a && !wr t b && leB t a b with | some (a, b) => (5, a, b) | none => (0, 0, 0) := by
  rw [brk, fstN_all (p := fun a => stB t a a) h.cyc]
  simp only
  rw [fstN_all (p := fun a => !leB t 0 a) (fun j hj => by simp [h.base j hj])]
  simp only
  rw [fst2_all (p := fun a b => decide (a < b) && (jn t a b).isNone) (fun a ha b hb => by
    by_cases q : a < b
    · have := h.pair a ha b q hb
      cases hj : jn t a b with
      | none => exact absurd hj this
      | some _ => simp
    · simp [q])]
theorem brk_zero {t : Tb} (h : noBrk t) (h0 : wr t 0 = true) : brk t = (5, 0, 0) := by rw [brk_rest h, if_pos h0]
theorem brk_wrong {t : Tb} (h : noBrk t) (h0 : wr t 0 = false) {a b : Nat} (ha : a < t.elems.length) (hb : b < t.elems.length) (hw : wr t a = true) (hn : wr t b = false) (hl : leB t a b = true)
    (h1 : ∀ a', a' < a → ∀ b', b' < t.elems.length → wr t a' = true → leB t a' b' = true → wr t b' = true) (h2 : ∀ b', b' < b → leB t a b' = true → wr t b' = true) : brk t = (5, a, b) := by
  rw [brk_rest h, if_neg (by rw [h0]; simp), fst2_stop (p := fun a b => wr t a && !wr t b && leB t a b) ha hb (by simp [hw, hn, hl]) (fun a' ha' b' hb' => by
    cases e1 : wr t a' with
    | false => simp
    | true =>
      cases e2 : leB t a' b' with
      | false => simp
      | true => simp [h1 a' ha' b' hb' e1 e2]) (fun b' hb' => by
    cases e2 : leB t a b' with
    | false => simp
    | true => simp [h2 b' hb' e2])]
theorem brk_ok {t : Tb} (h : noBrk t) (h0 : wr t 0 = false) (h1 : ∀ a, a < t.elems.length → ∀ b, b < t.elems.length → wr t a = true → leB t a b = true → wr t b = true) : brk t = (0, 0, 0) := by
  rw [brk_rest h, if_neg (by rw [h0]; simp), fst2_all (p := fun a b => wr t a && !wr t b && leB t a b) (fun a' ha' b' hb' => by
    cases e1 : wr t a' with
    | false => simp
    | true =>
      cases e2 : leB t a' b' with
      | false => simp
      | true => simp [h1 a' ha' b' hb' e1 e2])]
/-- All pairs of elements in their order, the smaller number first. -/
def prs (n : Nat) : List (Nat × Nat) := (List.range n).flatMap fun a => ((List.range n).filter fun b => decide (a < b)).map fun b => (a, b)
theorem mem_prs {n : Nat} {x : Nat × Nat} : x ∈ prs n ↔ x.1 < x.2 ∧ x.2 < n := by
  obtain ⟨a, b⟩ := x
  unfold prs
  simp only [List.mem_flatMap, List.mem_map, List.mem_filter, List.mem_range, decide_eq_true_eq, Prod.mk.injEq]
  constructor
  · rintro ⟨a', h1, b', ⟨h2, h3⟩, rfl, rfl⟩; exact ⟨h3, h2⟩
  · rintro ⟨h1, h2⟩; exact ⟨a, by omega, b, ⟨h2, h1⟩, rfl, rfl⟩
def lexB (x y : Nat × Nat) : Prop := x.1 < y.1 ∨ (x.1 = y.1 ∧ x.2 < y.2)
theorem prs_sorted (n : Nat) : (prs n).Pairwise lexB := by
  unfold prs
  rw [List.pairwise_flatMap]
  refine ⟨fun a _ => ?_, ?_⟩
  · rw [List.pairwise_map]
    exact (List.pairwise_lt_range.filter _).imp fun h => Or.inr ⟨rfl, h⟩
  · exact List.pairwise_lt_range.imp fun h x hx y hy => by
      obtain ⟨_, _, rfl⟩ := List.mem_map.1 hx
      obtain ⟨_, _, rfl⟩ := List.mem_map.1 hy
      exact Or.inl h
theorem prs_before {n : Nat} {pre : List (Nat × Nat)} {x y : Nat × Nat} (h : pre ++ [x] <+: prs n) (hy : y ∈ prs n) (hl : lexB y x) : y ∈ pre := by
  obtain ⟨r, e⟩ := h
  have hs := prs_sorted n
  rw [← e] at hs hy
  rw [List.append_assoc] at hs hy
  rcases List.mem_append.1 hy with q | q
  · exact q
  · exfalso
    have h2 := (List.pairwise_append.1 hs).2.1
    rcases List.mem_cons.1 q with q | q
    · subst q
      unfold lexB at hl; omega
    · have := (List.pairwise_cons.1 h2).1 y q
      unfold lexB at hl this; omega
end M
end Go.Proofs.Ytlpindnbkgaplaa
