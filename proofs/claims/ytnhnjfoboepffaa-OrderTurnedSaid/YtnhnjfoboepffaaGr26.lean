/- Texts of one's own, joined: OrdAh, OrdAi, OrdBh, OrdBm. -/
import Derived.Test.YtnhnjfoboepffaaGr24
import Derived.Laws.CopyRow
import Derived.LoopIn
import Derived.LoopNIn
import Derived.OwnWalkIn
import Derived.RangeFuncBound
import Derived.RangeFuncCalls
import Derived.RangeFuncLeaves
import Derived.RangeFuncNested
import Derived.Shelf.Abstract
import Derived.Shelf.RegionOpen
import Derived.TacticsInMore
import Derived.Test.YtnhnjfoboepffaaGr22
import Derived.Test.YtnhnjfoboepffaaGr15
import Derived.ArgAppend
import Derived.Deep.DeepCutAuto
import Derived.Deep.RegionWith
import Derived.Laws.OwnMore
import Derived.Maps.AppendAt
namespace Go.Proofs.Ytnhnjfoboepffaa
open Go.RowKit

namespace M
/-- Some numbers without some others. -/
def cut (m k : Nat) : Nat := m &&& (65535 - k)
theorem cut_bit (m k i : Nat) (hm : m < 65536) (hk : k < 65536) : (cut m k).testBit i = (m.testBit i && !k.testBit i) := by
  unfold cut
  rw [Nat.testBit_and, show 65535 - k = 2 ^ 16 - (k + 1) from by omega, Nat.testBit_two_pow_sub_succ (show k < 2 ^ 16 from hk)]
  by_cases hi : i < 16
  · simp [hi]
  · rw [Nat.testBit_lt_two_pow (Nat.lt_of_lt_of_le hm (Nat.pow_le_pow_right (n := 2) (by omega) (show 16 ≤ i by omega)))]; simp
theorem cut_lt (m k : Nat) (h : m < 4096) : cut m k < 4096 := Nat.lt_of_le_of_lt Nat.and_le_left h
theorem ofN_one (a : Nat) : ofN [(a : Int)] = 2 ^ a := by unfold ofN; simp
/-- What is above any of some elements, but that one itself. -/
def beyL (r : Nat → Nat) (l : List Int) : Nat := l.foldl (fun m x => m ||| cut (r x.toNat) (2 ^ x.toNat)) 0
theorem beyL_snoc (r : Nat → Nat) (l : List Int) (x : Int) : beyL r (l ++ [x]) = beyL r l ||| cut (r x.toNat) (2 ^ x.toNat) := by unfold beyL; rw [List.foldl_append]; rfl
theorem beyL_lt (r : Nat → Nat) (hr : ∀ a, r a < 4096) (l : List Int) : beyL r l < 4096 := by
  suffices ∀ m, m < 4096 → l.foldl (fun m x => m ||| cut (r x.toNat) (2 ^ x.toNat)) m < 4096 from this 0 (by omega)
  induction l with
  | nil => intro m h; exact h
  | cons x l ih => intro m h; exact ih _ (Nat.or_lt_two_pow (n := 12) h (cut_lt _ _ (hr _)))
theorem beyL_bit (r : Nat → Nat) (hr : ∀ a, r a < 4096) (l : List Int) (hl : ∀ x, x ∈ l → 0 ≤ x ∧ x < 12) (j : Nat) : (beyL r l).testBit j = true ↔ ∃ a : Nat, (a : Int) ∈ l ∧ (r a).testBit j = true ∧ j ≠ a := by
  suffices ∀ m, (l.foldl (fun m x => m ||| cut (r x.toNat) (2 ^ x.toNat)) m).testBit j = true ↔ (m.testBit j = true ∨ ∃ a : Nat, (a : Int) ∈ l ∧ (r a).testBit j = true ∧ j ≠ a) by
    have := this 0
    simpa [beyL] using this
  induction l with
  | nil => intro m; simp
  | cons x l ih =>
    intro m
    obtain ⟨a, rfl⟩ : ∃ a : Nat, x = a := ⟨x.toNat, by have := hl x List.mem_cons_self; omega⟩
    have ha := hl a List.mem_cons_self
    have h2 : 2 ^ a < 65536 := Nat.pow_lt_pow_right (a := 2) (n := 16) (by omega) (by omega)
    rw [List.foldl_cons, ih (fun y hy => hl y (List.mem_cons_of_mem _ hy)), Nat.testBit_or, Bool.or_eq_true, Int.toNat_natCast, cut_bit _ _ _ (Nat.lt_trans (hr a) (by omega)) h2, Nat.testBit_two_pow, Bool.and_eq_true, Bool.not_eq_true', decide_eq_false_iff_not]
    constructor
    · rintro ((q | ⟨q1, q2⟩) | ⟨b, q1, q2, q3⟩)
      · exact Or.inl q
      · exact Or.inr ⟨a, List.mem_cons_self, q1, fun e => q2 e.symm⟩
      · exact Or.inr ⟨b, List.mem_cons_of_mem _ q1, q2, q3⟩
    · rintro (q | ⟨b, q1, q2, q3⟩)
      · exact Or.inl (Or.inl q)
      · rcases List.mem_cons.1 q1 with e | e
        · have : b = a := by omega
          subst this
          exact Or.inl (Or.inr ⟨q2, fun e => q3 e.symm⟩)
        · exact Or.inr ⟨b, e, q2, q3⟩
def bey (r : Nat → Nat) (s : Nat) : Nat := beyL r (listN s 12)
theorem listN_in (m : Nat) : ∀ x, x ∈ listN m 12 → 0 ≤ x ∧ x < 12 := fun x hx => by
  obtain ⟨j, rfl, h, _⟩ := (listN_mem m 12 x).1 hx
  omega
theorem bey_bit (r : Nat → Nat) (hr : ∀ a, r a < 4096) (s j : Nat) : (bey r s).testBit j = true ↔ ∃ a, a < 12 ∧ s.testBit a = true ∧ (r a).testBit j = true ∧ j ≠ a := by
  unfold bey
  rw [beyL_bit r hr _ (listN_in s)]
  constructor
  · rintro ⟨a, h1, h2, h3⟩
    obtain ⟨b, e, h4, h5⟩ := (listN_mem s 12 a).1 h1
    have : a = b := by omega
    subst this
    exact ⟨a, h4, h5, h2, h3⟩
  · rintro ⟨a, h4, h5, h2, h3⟩
    exact ⟨a, (listN_mem s 12 a).2 ⟨a, rfl, h4, h5⟩, h2, h3⟩
theorem bey_lt (r : Nat → Nat) (hr : ∀ a, r a < 4096) (s : Nat) : bey r s < 4096 := beyL_lt r hr _
end M

theorem of_one (g c x : Nat) (w : World) (hx : x < 12) (h : w.cell? ⟨g, 0, none⟩ = some (.int .i64 x)) : Calls Try.prog 54 #[.slice (some ⟨g, 0, none⟩) 1 c] w fun e w' => e = .returned (.int .u16 (2 ^ x : Nat)) ∧ w = w' := by
  have hlt : g < w.heap.size := World.block_lt_of_cell? _ _ h
  have hc := of_any (some ⟨g, 0, none⟩) c [(x : Int)] w (by show 1 ≤ 1000000; omega) (Or.inr ⟨g, 0, rfl, hlt, fun i hi => by
    have : i = 0 := by simpa using hi
    subst this
    exact h⟩) (fun i hi => by
    have : i = 0 := by simpa using hi
    subst this
    show 0 ≤ (x : Int) ∧ (x : Int) < 12
    omega)
  rw [M.ofN_one] at hc
  exact hc

theorem of_new (x : Nat) (W : World) (hx : x < 12) : Calls Try.prog 54 #[.slice (some ⟨W.heap.size, 0, none⟩) 1 1] (W.alloc (.cells #[.int .i64 x] 3)) fun e w' => e = .returned (.int .u16 (2 ^ x : Nat)) ∧ W.alloc (.cells #[.int .i64 x] 3) = w' :=
  of_one _ 1 x _ hx (by rw [World.cell?_alloc_at _ _ _ _ rfl]; rfl)

set_option maxHeartbeats 4000000 in
set_option maxRecDepth 100000 in
theorem beyond_any (t : M.Tb) (p : Tp) (r : Nat → Nat) (s : Nat) (w : World) (hr : ∀ a, r a < 4096) (hs : s < 65536) :
    Calls Try.prog 53 #[knV t p r, .int .u16 s] w fun e w' => e = .returned (.int .u16 (M.bey r s : Nat)) ∧ Below w.heap.size w w' := by
  have HK := Lib.hid (knBox (t := t) (p := p) (r := r) (box_new w (knA t p r) 62))
  have HC := Lib.hid (list_any s (w.alloc (.cells (knA t p r) 62)) hs)
  have HR := Lib.hid hr
  clear hr
  go_enter Try.func53, Try.ntmps53
  go_wp2_with fail
  refine HC.out.mono ?_
  rintro e w1 ⟨la, lc, rfl, _, _, hl, hB1⟩
  have HL := Lib.hid hl
  have HLI := Lib.hid (M.listN_in s)
  have HLE := Lib.hid (M.listN_le s 12)
  have HB1 := Lib.hid hB1
  have HRES := Lib.hid (show M.bey r s = M.beyL r (M.listN s 12) from rfl)
  obtain ⟨L, hL⟩ : ∃ L, M.listN s 12 = L := ⟨_, rfl⟩
  rw [hL] at HL HLI HLE HRES ⊢
  clear hl hB1 hL
  go_wp2_with fail
  go_loopw [5, 11] (fun u i wr => ∃ k : Nat, k ≤ L.length ∧ i = .int .i64 k ∧ u = .int .u16 (M.beyL r (L.take k) : Nat) ∧ Below w1.heap.size w1 wr) (fun _ i _ => L.length - (intOf i).toNat)
  case atStart => exact ⟨0, by omega, rfl, rfl, Below.refl _ _⟩
  case round =>
    rename_i wr
    obtain ⟨k, hk, rfl, rfl, hB⟩ := hrel
    have hle := HLE.out
    by_cases hkl : k < L.length
    · obtain ⟨lb, lo, rfl, hlat⟩ := (HL.out.below hB).at hkl
      have hx := HLI.out L[k] (List.getElem_mem hkl)
      have r0 := hlat.at_ k hkl
      have hsn := M.beyL_snoc r (L.take k) L[k]
      rw [← List.take_succ_eq_append_getElem hkl] at hsn
      obtain ⟨x, hxe⟩ : ∃ x : Nat, L[k] = (x : Int) := ⟨(L[k]).toNat, by omega⟩
      rw [hxe] at hx r0 hsn
      rw [Int.toNat_natCast] at hsn
      have n1 : (k : Int) < (L.length : Int) := by omega
      have n2 : (0 : Int) ≤ (k : Int) := by omega
      have n3 : (x : Int) < 12 := by omega
      have n4 : (0 : Int) ≤ (x : Int) := by omega
      have hx12 : x < 12 := by omega
      have h2 : 2 ^ x < 65536 := Nat.pow_lt_pow_right (a := 2) (n := 16) (by omega) (by omega)
      have hcall := fun W => of_new x W hx12
      obtain ⟨z, hz⟩ : ∃ z, 2 ^ x = z := ⟨_, rfl⟩
      rw [hz] at h2 hsn hcall
      have HCO := Lib.hid hcall
      have e1 : bits .andNot .u16 (r x : Nat) ((z : Nat) : Int) = ((M.cut (r x) z : Nat) : Int) := u16_andNot_nat _ _ (Nat.lt_trans (HR.out x) (by omega)) h2
      have e2 : bits .or .u16 (M.beyL r (L.take k) : Nat) ((M.cut (r x) z : Nat) : Int) = ((M.beyL r (L.take (k + 1)) : Nat) : Int) := by
        rw [hsn]; exact u16_or_nat _ _ (Nat.lt_trans (M.beyL_lt r HR.out _) (by omega)) (Nat.lt_trans (M.cut_lt _ _ (HR.out x)) (by omega))
      have E1 := Lib.hid e1
      have E2 := Lib.hid e2
      have y0 := (HK.out.below (below2 HB1.out hB)).m x hx12
      have hzz : w.heap.size < wr.heap.size := World.block_lt_of_cell? _ _ y0
      clear e1 e2 hsn hx hlat hxe h2 hz hcall
      go_wp2_with fail
      go_region_with (go_at_call 54; refine (HCO.out wr.drew).mono ?_; rintro e w4 ⟨rfl, rfl⟩)
      all_goals
        rw [E1.out, E2.out]
        go_wp2_with fail
        go_roundw
        case rel => exact ⟨k + 1, by omega, by go_num, rfl, belowA hB.drew _⟩
        case measure => simp [intOf]; omega
    · obtain rfl : k = L.length := by omega
      have m1 : decide ((L.length : Int) < (L.length : Int)) = false := decide_eq_false (by omega)
      have hBf := below2 (below2 (below1 w (.cells (knA t p r) 62)) HB1.out) hB
      rw [List.take_length]
      go_wp2_with fail
      go_ret
      exact ⟨by rw [HRES.out]; rfl, hBf⟩
end Go.Proofs.Ytnhnjfoboepffaa

namespace Go.Proofs.Ytnhnjfoboepffaa
namespace M
/-- So many steps, one after the other, from an element to another one. -/
def chn (t : Tb) : Nat → Nat → Nat → Prop
  | 0, a, b => a = b
  | k + 1, a, b => ∃ c, chn t k a c ∧ stB t c b = true
theorem chn_head {t : Tb} {k a b c : Nat} (h : stB t a c = true) (hc : chn t k c b) : chn t (k + 1) a b := by
  induction k generalizing b with
  | zero => exact ⟨a, rfl, by have : c = b := hc; subst this; exact h⟩
  | succ k ih => obtain ⟨d, h1, h2⟩ := hc; exact ⟨d, ih h1, h2⟩
theorem chn_first {t : Tb} {k a b : Nat} (h : chn t (k + 1) a b) : ∃ c, stB t a c = true ∧ chn t k c b := by
  induction k generalizing b with
  | zero => obtain ⟨c, h1, h2⟩ := h; have : a = c := h1; subst this; exact ⟨b, h2, rfl⟩
  | succ k ih =>
    obtain ⟨d, h1, h2⟩ := h
    obtain ⟨c, h3, h4⟩ := ih h1
    exact ⟨c, h3, d, h4, h2⟩
theorem chn_lt {t : Tb} (hf : form t) {k a b : Nat} (ha : a < t.elems.length) (h : chn t k a b) : b < t.elems.length := by
  induction k generalizing b with
  | zero => have : a = b := h; omega
  | succ k ih => obtain ⟨c, h1, h2⟩ := h; exact stB_lt hf (ih h1) h2
theorem chn_less {t : Tb} {k j a : Nat} (hj : j ≤ k) (h : ∃ b, chn t k a b) : ∃ b, chn t j a b := by
  induction k with
  | zero => obtain rfl : j = 0 := by omega
            exact h
  | succ k ih =>
    rcases Nat.lt_or_eq_of_le hj with q | rfl
    · obtain ⟨b, c, h1, _⟩ := h
      exact ih (by omega) ⟨c, h1⟩
    · exact h
/-- How many elements are above one. -/
def overs (t : Tb) (a : Nat) : Nat := ((List.range t.elems.length).filter fun b => stB t a b).length
theorem overs_le (t : Tb) (a : Nat) : overs t a ≤ t.elems.length := by
  unfold overs
  exact Nat.le_trans (List.length_filter_le _ _) (by rw [List.length_range]; exact Nat.le_refl _)
theorem stB_trans {t : Tb} (hf : form t) {a b c : Nat} (ha : a < t.elems.length) (h1 : stB t a b = true) (h2 : stB t b c = true) : stB t a c = true :=
  (stB_iff hf ha).2 (((stB_iff hf ha).1 h1).trans ((stB_iff hf (stB_lt hf ha h1)).1 h2))
theorem filter_lt {l : List Nat} {p q : Nat → Bool} (h : ∀ x, x ∈ l → p x = true → q x = true) {y : Nat} (hy : y ∈ l) (h1 : p y = false) (h2 : q y = true) : (l.filter p).length < (l.filter q).length := by
  induction l with
  | nil => simp at hy
  | cons x l ih =>
    have hle : ∀ l' : List Nat, (∀ x, x ∈ l' → p x = true → q x = true) → (l'.filter p).length ≤ (l'.filter q).length := fun l' hl' => by
      induction l' with
      | nil => simp
      | cons z l' ih' =>
        have := ih' (fun x hx => hl' x (List.mem_cons_of_mem _ hx))
        have hz := hl' z List.mem_cons_self
        cases hp : p z <;> cases hq : q z <;> simp [hp, hq] at hz ⊢ <;> omega
    rcases List.mem_cons.1 hy with rfl | hy
    · have := hle l (fun x hx => h x (List.mem_cons_of_mem _ hx))
      simp [h1, h2]; omega
    · have hi := ih (fun x hx => h x (List.mem_cons_of_mem _ hx)) hy
      have hz := h x List.mem_cons_self
      cases hp : p x <;> cases hq : q x <;> simp [hp, hq] at hz ⊢ <;> omega
theorem overs_lt {t : Tb} (hf : form t) (hc : ∀ j, j < t.elems.length → stB t j j = false) {a b : Nat} (ha : a < t.elems.length) (h : stB t a b = true) : overs t b < overs t a := by
  have hb := stB_lt hf ha h
  exact filter_lt (fun x _ hx => stB_trans hf ha h hx) (List.mem_range.2 hb) (hc b hb) h
theorem chn_overs {t : Tb} (hf : form t) (hc : ∀ j, j < t.elems.length → stB t j j = false) {k a b : Nat} (ha : a < t.elems.length) (h : chn t k a b) : overs t b + k ≤ overs t a := by
  induction k generalizing b with
  | zero => have : a = b := h; subst this; omega
  | succ k ih =>
    obtain ⟨c, h1, h2⟩ := h
    have := ih h1
    have := overs_lt hf hc (chn_lt hf ha h1) h2
    omega
theorem chn_end {t : Tb} (hf : form t) (hc : ∀ j, j < t.elems.length → stB t j j = false) {k a : Nat} (ha : a < t.elems.length) (hk : t.elems.length < k) : ¬ ∃ b, chn t k a b := by
  rintro ⟨b, h⟩
  have := chn_overs hf hc ha h
  have := overs_le t a
  omega
/-- How many steps there are at most from an element on. -/
def isH (t : Tb) (a k : Nat) : Prop := (∃ b, chn t k a b) ∧ ¬ ∃ b, chn t (k + 1) a b
theorem isH_one {t : Tb} {a k j : Nat} (h1 : isH t a k) (h2 : isH t a j) : k = j := by
  rcases Nat.lt_trichotomy k j with h | h | h
  · exact absurd (chn_less (show k + 1 ≤ j by omega) h2.1) h1.2
  · exact h
  · exact absurd (chn_less (show j + 1 ≤ k by omega) h1.1) h2.2
/-- What can be reached by so many steps and one more. -/
def itN (r : Nat → Nat) : Nat → Nat
  | 0 => bey r 1
  | k + 1 => bey r (itN r k)
theorem itN_lt (r : Nat → Nat) (hr : ∀ a, r a < 4096) (k : Nat) : itN r k < 4096 := by
  cases k with
  | zero => exact bey_lt r hr _
  | succ k => exact bey_lt r hr _
theorem step_st {t : Tb} (hf : form t) (hc : ∀ j, j < t.elems.length → stB t j j = false) {a j : Nat} (ha : a < t.elems.length) : ((know t a).testBit j = true ∧ j ≠ a) ↔ stB t a j = true := by
  have h := leB_or hf ha (b := j)
  unfold leB at h
  constructor
  · rintro ⟨h1, h2⟩
    rw [h1, decide_eq_false (fun e => h2 e.symm), Bool.false_or] at h
    exact h.symm
  · intro h1
    refine ⟨by rw [h, h1]; simp, fun e => ?_⟩
    subst e
    rw [hc j ha] at h1; cases h1
theorem itN_bit {t : Tb} (hf : form t) (hc : ∀ j, j < t.elems.length → stB t j j = false) (k : Nat) : ∀ j, (itN (know t) k).testBit j = true ↔ chn t (k + 1) 0 j := by
  have h0 : 0 < t.elems.length := hf.one
  have hr := know_lt hf
  have h12 := hf.twelve
  induction k with
  | zero =>
    intro j
    show (bey (know t) 1).testBit j = true ↔ _
    rw [bey_bit _ hr]
    constructor
    · rintro ⟨a, h1, h2, h3, h4⟩
      have ha : a = 0 := by
        rcases Nat.eq_zero_or_pos a with q | q
        · exact q
        · rw [Nat.testBit_lt_two_pow (show 1 < 2 ^ a from Nat.one_lt_two_pow (by omega))] at h2; cases h2
      subst ha
      exact ⟨0, rfl, (step_st hf hc h0).1 ⟨h3, h4⟩⟩
    · rintro ⟨c, h1, h2⟩
      have : 0 = c := h1
      subst this
      obtain ⟨h3, h4⟩ := (step_st hf hc h0).2 h2
      exact ⟨0, by omega, by simp, h3, h4⟩
  | succ k ih =>
    intro j
    show (bey (know t) (itN (know t) k)).testBit j = true ↔ _
    rw [bey_bit _ hr]
    constructor
    · rintro ⟨a, h1, h2, h3, h4⟩
      have hch := (ih a).1 h2
      exact ⟨a, hch, (step_st hf hc (chn_lt hf h0 hch)).1 ⟨h3, h4⟩⟩
    · rintro ⟨a, h1, h2⟩
      have ha := chn_lt hf h0 h1
      obtain ⟨h3, h4⟩ := (step_st hf hc ha).2 h2
      exact ⟨a, by omega, (ih a).2 h1, h3, h4⟩
theorem itN_zero {t : Tb} (hf : form t) (hc : ∀ j, j < t.elems.length → stB t j j = false) (k : Nat) : itN (know t) k = 0 ↔ ¬ ∃ b, chn t (k + 1) 0 b := by
  constructor
  · rintro h ⟨b, hb⟩
    have := (itN_bit hf hc k b).2 hb
    rw [h] at this; simp at this
  · intro h
    apply Nat.eq_of_testBit_eq
    intro j
    rw [Nat.zero_testBit]
    cases hb : (itN (know t) k).testBit j with
    | false => rfl
    | true => exact absurd ⟨j, (itN_bit hf hc k j).1 hb⟩ h
theorem itN_end {t : Tb} (hf : form t) (hc : ∀ j, j < t.elems.length → stB t j j = false) : itN (know t) t.elems.length = 0 :=
  (itN_zero hf hc _).2 (chn_end hf hc hf.one (by omega))
theorem isH_it {t : Tb} (hf : form t) (hc : ∀ j, j < t.elems.length → stB t j j = false) {k : Nat} (h0 : itN (know t) k = 0) (hb : ∀ j, j < k → itN (know t) j ≠ 0) : isH t 0 k := by
  refine ⟨?_, (itN_zero hf hc k).1 h0⟩
  cases k with
  | zero => exact ⟨0, rfl⟩
  | succ k =>
    have := hb k (by omega)
    rw [ne_eq, itN_zero hf hc, Classical.not_not] at this
    exact this
end M
end Go.Proofs.Ytnhnjfoboepffaa

namespace Go.Proofs.Ytnhnjfoboepffaa
open Go.RowKit

namespace M
theorem filter_more (p : Nat → Bool) (n : Nat) (h : ∀ j, p j = true → j < n) : ∀ k, n ≤ k → (List.range k).filter p = (List.range n).filter p := by
  intro k hk
  obtain ⟨d, rfl⟩ := Nat.exists_eq_add_of_le hk
  clear hk
  induction d with
  | zero => rfl
  | succ d ih =>
    rw [show n + (d + 1) = (n + d) + 1 from by omega, List.range_succ, List.filter_append, ih]
    have hn : p (n + d) = false := by
      cases hp : p (n + d) with
      | false => rfl
      | true => have := h _ hp; omega
    simp [hn]
theorem up_list {t : Tb} (hf : form t) {a : Nat} (ha : a < t.elems.length) : listN (know t a) 12 = nats (bnd t a a) := by
  unfold listN nats bnd
  rw [filter_more (know t a).testBit t.elems.length (fun j hj => leB_lt hf ha hj) 12 hf.twelve]
  congr 2
  funext c
  show leB t a c = _
  rw [Bool.and_self]
end M

end Go.Proofs.Ytnhnjfoboepffaa

namespace Go.Proofs.Ytnhnjfoboepffaa
open Go.RowKit

namespace M
theorem brk_inv {t : Tb} (h : (brk t).1 = 3 ∨ (brk t).1 = 4) : ∃ a b, brk t = (kindM t a b, a, b) ∧ a < b ∧ b < t.elems.length ∧ jn t a b = none ∧
    (∀ a', a' < a → ∀ b', a' < b' → b' < t.elems.length → jn t a' b' ≠ none) ∧ ∀ b', a < b' → b' < b → jn t a b' ≠ none := by
  have hb : ∀ x, brk t = x → x.1 = 3 ∨ x.1 = 4 := fun x e => by rw [← e]; exact h
  unfold brk at hb ⊢
  cases h1 : fstN t.elems.length fun a => stB t a a with
  | some a => rw [h1] at hb; have := hb _ rfl; simp at this
  | none =>
    rw [h1] at hb
    simp only at hb ⊢
    cases h2 : fstN t.elems.length fun a => !leB t 0 a with
    | some a => rw [h2] at hb; have := hb _ rfl; simp at this
    | none =>
      rw [h2] at hb
      simp only at hb ⊢
      cases h3 : fst2 t.elems.length fun a b => decide (a < b) && (jn t a b).isNone with
      | some x =>
        obtain ⟨a, b⟩ := x
        obtain ⟨q1, q2, q3, q4, q5⟩ := fst2_some h3
        simp only [Bool.and_eq_true, decide_eq_true_eq, Option.isNone_iff_eq_none] at q3
        refine ⟨a, b, rfl, q3.1, q2, q3.2, fun a' ha' b' hab hb' hj => ?_, fun b' hab hb' hj => ?_⟩
        · have := q4 a' ha' b' hb'
          simp [hab, hj] at this
        · have := q5 b' hb'
          simp [hab, hj] at this
      | none =>
        rw [h3] at hb
        simp only at hb
        have q := hb _ rfl
        split at q
        · simp at q
        · split at q <;> simp at q
theorem kindM_iff (t : Tb) (a b : Nat) : kindM t a b = 3 ↔ bnd t a b = [] := by
  unfold kindM
  split
  · rename_i h; simp [h]
  · rename_i h; simp [h]
/-- The first elements above two. -/
theorem lst_some {t : Tb} {L : List Nat} : (lst t L).isSome = L.any fun x => L.all fun y => leB t x y := by
  unfold lst
  rw [Bool.eq_iff_iff, List.find?_isSome, List.any_eq_true]
end M
end Go.Proofs.Ytnhnjfoboepffaa
