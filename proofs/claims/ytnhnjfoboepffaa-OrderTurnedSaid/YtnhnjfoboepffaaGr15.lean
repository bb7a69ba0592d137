/- Texts of one's own, joined: OrdQ, OrdT. -/
import Derived.Test.YtnhnjfoboepffaaGr13
import Derived.Test.YtnhnjfoboepffaaGr14
namespace Go.Proofs.Ytnhnjfoboepffaa
open Go.RowKit

namespace M
/-- The number of the first one of some numbers that is a number, or -1. -/
def idxM (v : Nat → Nat) (m : Nat) : Nat → Nat → Int
  | 0, _ => -1
  | f + 1, k => if v k = m then k else idxM v m f (k + 1)
theorem idxM_stop (v : Nat → Nat) (m : Nat) : ∀ f k j, k ≤ j → j < k + f → v j = m → (∀ i, k ≤ i → i < j → v i ≠ m) → idxM v m f k = j := by
  intro f
  induction f with
  | zero => intro k j h1 h2; omega
  | succ f ih =>
    intro k j h1 h2 h3 h4
    unfold idxM
    by_cases e : k = j
    · subst e; rw [if_pos h3]
    · rw [if_neg (h4 k (Nat.le_refl _) (by omega))]
      exact ih (k + 1) j (by omega) (by omega) h3 (fun i q1 q2 => h4 i (by omega) q2)
theorem idxM_all (v : Nat → Nat) (m : Nat) : ∀ f k, (∀ i, k ≤ i → i < k + f → v i ≠ m) → idxM v m f k = -1 := by
  intro f
  induction f with
  | zero => intro k _; rfl
  | succ f ih =>
    intro k h
    unfold idxM
    rw [if_neg (h k (Nat.le_refl _) (by omega))]
    exact ih (k + 1) (fun i q1 q2 => h i (by omega) (by omega))
end M

set_option maxHeartbeats 1000000 in
set_option maxRecDepth 100000 in
theorem index_some (b off n c m : Nat) (v : Nat → Nat) (w : World) (hn : n ≤ 1000000) (hs : ∀ i, i < n → w.cell? ⟨b, off + i, none⟩ = some (.int .u16 (v i : Nat))) :
    Calls Try.prog 68 #[.slice (some ⟨b, off, none⟩) n c, .int .u16 m] w fun e w' => e = .returned (.int .i64 (M.idxM v m n 0)) ∧ w = w' := by
  have HS := Lib.hid hs
  clear hs
  go_enter Try.func68, Try.ntmps68
  go_wp2_with fail
  go_loop [8] (fun i => ∃ k : Nat, k ≤ n ∧ i = .int .i64 k ∧ Hid (∀ j, j < k → v j ≠ m)) (fun i => n - (intOf i).toNat)
  case atStart => exact ⟨0, by omega, rfl, Lib.hid (fun j hj => by omega)⟩
  case round =>
    obtain ⟨k, hk, rfl, HA⟩ := hrel
    by_cases hkl : k < n
    · have c0 := HS.out k hkl
      have n1 : (k : Int) < (n : Int) := by omega
      have n2 : (0 : Int) ≤ (k : Int) := by omega
      by_cases hv : v k = m
      · have k1 : ((m : Int) == (v k : Nat)) = true := by rw [hv]; exact beq_self_eq_true _
        have HR := Lib.hid (M.idxM_stop v m n 0 k (Nat.zero_le _) (by omega) hv (fun i _ hi => HA.out i hi))
        clear hv
        go_wp2_with fail
        go_ret
        exact ⟨ret_int HR.out.symm, rfl⟩
      · have k1 : ((m : Int) == (v k : Nat)) = false := by rw [beq_eq_false_iff_ne]; omega
        have HN := Lib.hid (show ∀ j, j < k + 1 → v j ≠ m from fun j hj => by
          rcases Nat.lt_succ_iff_lt_or_eq.1 hj with h | rfl
          · exact HA.out j h
          · exact hv)
        clear hv
        go_wp2_with fail
        go_round
        case rel => exact ⟨k + 1, by omega, by go_num, HN⟩
        case measure => simp [intOf]; omega
    · obtain rfl : k = n := by omega
      have m1 : decide ((k : Int) < (k : Int)) = false := decide_eq_false (by omega)
      have HR := Lib.hid (M.idxM_all v m k 0 (fun i _ hi => HA.out i (by omega)))
      go_wp2_with fail
      go_ret
      exact ⟨ret_int HR.out.symm, rfl⟩

/-- The join of two elements, and the kind of the break that they are. -/
def M.joinM (r : Nat → Nat) (n a b : Nat) : Int × Nat :=
  if r a &&& r b = 0 then (0, 3) else if M.idxM r (r a &&& r b) n 0 < 0 then (0, 4) else (M.idxM r (r a &&& r b) n 0, 0)

set_option maxHeartbeats 4000000 in
set_option maxRecDepth 100000 in
theorem join_any (t : M.Tb) (p : Tp) (r : Nat → Nat) (a b : Nat) (w : World) (hr : ∀ i, r i < 4096) (hn : t.elems.length ≤ 12) (ha : a < 12) (hb : b < 12) :
    Calls Try.prog 44 #[knV t p r, .int .i64 a, .int .i64 b] w fun e w' => e = .returned (.tuple #[.int .i64 (M.joinM r t.elems.length a b).1, .int .u8 (M.joinM r t.elems.length a b).2]) ∧ Below w.heap.size w w' := by
  have hk := knBox (t := t) (p := p) (r := r) (box_new w (knA t p r) 62)
  have HK := Lib.hid hk
  have ma := hk.m a ha
  have mb := hk.m b hb
  have c1 := hk.c1
  have n1 : (a : Int) < 12 := by omega
  have n2 : (0 : Int) ≤ (a : Int) := by omega
  have n3 : (b : Int) < 12 := by omega
  have n4 : (0 : Int) ≤ (b : Int) := by omega
  have hand : bits .and .u16 (r a : Nat) (r b : Nat) = ((r a &&& r b : Nat) : Int) := u16_and_nat _ _ (Nat.lt_trans (hr a) (by omega)) (Nat.lt_trans (hr b) (by omega))
  have hB := below1 w (.cells (knA t p r) 62)
  clear hk hr
  by_cases h0 : r a &&& r b = 0
  · have k1 : (((r a &&& r b : Nat) : Int) == 0) = true := by rw [h0]; rfl
    have HR := Lib.hid (show M.joinM r t.elems.length a b = (0, 3) from by unfold M.joinM; rw [if_pos h0])
    clear h0
    go_enter Try.func44, Try.ntmps44
    go_wp2_with fail
    go_quiet (fail)
    go_wp2_with fail
    go_ret2
    exact ⟨by rw [HR.out]; rfl, belowN hB _⟩
  · have k1 : (((r a &&& r b : Nat) : Int) == 0) = false := by rw [beq_eq_false_iff_ne]; omega
    have hcall := fun q => index_some w.heap.size 4 t.elems.length 12 (r a &&& r b) r ((w.alloc (.cells (knA t p r) 62)).drewN q) (by omega) (fun i hi => (HK.out.m i (by omega)))
    have n5 : (t.elems.length : Int) ≤ 12 := by omega
    by_cases hj : M.idxM r (r a &&& r b) t.elems.length 0 < 0
    · have HR := Lib.hid (show M.joinM r t.elems.length a b = (0, 4) from by unfold M.joinM; rw [if_neg h0, if_pos hj])
      have k2 : decide (M.idxM r (r a &&& r b) t.elems.length 0 < 0) = true := decide_eq_true hj
      have HC := Lib.hid hcall
      clear h0 hj hcall
      go_enter Try.func44, Try.ntmps44
      go_wp2_with fail
      go_quiet (fail)
      go_wp2_with fail
      refine (HC.out _).mono ?_
      rintro e w1 ⟨rfl, rfl⟩
      go_wp2_with fail
      go_ret2
      exact ⟨by rw [HR.out]; rfl, belowN hB _⟩
    · have HR := Lib.hid (show M.joinM r t.elems.length a b = (M.idxM r (r a &&& r b) t.elems.length 0, 0) from by unfold M.joinM; rw [if_neg h0, if_neg hj])
      have k2 : decide (M.idxM r (r a &&& r b) t.elems.length 0 < 0) = false := decide_eq_false hj
      have HC := Lib.hid hcall
      clear h0 hj hcall
      go_enter Try.func44, Try.ntmps44
      go_wp2_with fail
      go_quiet (fail)
      go_wp2_with fail
      refine (HC.out _).mono ?_
      rintro e w1 ⟨rfl, rfl⟩
      go_wp2_with fail
      go_ret2
      exact ⟨by rw [HR.out]; rfl, belowN hB _⟩
end Go.Proofs.Ytnhnjfoboepffaa

namespace Go.Proofs.Ytnhnjfoboepffaa
namespace M
/-- The first number below another one that is as asked. -/
def fstN (n : Nat) (p : Nat → Bool) : Option Nat := (List.range n).find? p
theorem fstN_stop {n k : Nat} {p : Nat → Bool} (hk : k < n) (hp : p k = true) (hb : ∀ j, j < k → p j = false) : fstN n p = some k := by
  unfold fstN
  rw [List.find?_eq_some_iff_getElem]
  refine ⟨hp, k, by simpa using hk, by simp, fun j hj => ?_⟩
  simp [hb j hj]
theorem fstN_all {n : Nat} {p : Nat → Bool} (h : ∀ j, j < n → p j = false) : fstN n p = none := by
  unfold fstN
  rw [List.find?_eq_none]
  intro x hx
  rw [h x (List.mem_range.1 hx)]; simp
theorem fstN_some {n k : Nat} {p : Nat → Bool} (h : fstN n p = some k) : k < n ∧ p k = true ∧ ∀ j, j < k → p j = false := by
  unfold fstN at h
  rw [List.find?_eq_some_iff_getElem] at h
  obtain ⟨hp, i, hi, e, hb⟩ := h
  simp only [List.getElem_range, List.length_range, Bool.not_eq_eq_eq_not, Bool.not_true] at e hi hb
  subst e
  exact ⟨hi, hp, hb⟩
theorem fstN_none {n : Nat} {p : Nat → Bool} (h : fstN n p = none) : ∀ j, j < n → p j = false := by
  unfold fstN at h
  rw [List.find?_eq_none] at h
  intro j hj
  have := h j (List.mem_range.2 hj)
  simpa using this
/-- The first pair of such numbers that is as asked. -/
def fst2 (n : Nat) (p : Nat → Nat → Bool) : Option (Nat × Nat) := (fstN n fun a => (fstN n (p a)).isSome).bind fun a => (fstN n (p a)).map fun b => (a, b)
theorem fst2_stop {n a b : Nat} {p : Nat → Nat → Bool} (ha : a < n) (hb : b < n) (hp : p a b = true) (h1 : ∀ a', a' < a → ∀ b', b' < n → p a' b' = false) (h2 : ∀ b', b' < b → p a b' = false) : fst2 n p = some (a, b) := by
  unfold fst2
  have e2 : fstN n (p a) = some b := fstN_stop hb hp h2
  rw [fstN_stop ha (by rw [e2]; rfl) (fun j hj => by rw [fstN_all (h1 j hj)]; rfl), Option.bind_some, e2]
  rfl
theorem fst2_all {n : Nat} {p : Nat → Nat → Bool} (h : ∀ a, a < n → ∀ b, b < n → p a b = false) : fst2 n p = none := by
  unfold fst2
  rw [fstN_all (fun j hj => by rw [fstN_all (h j hj)]; rfl)]
  rfl
theorem fst2_some {n a b : Nat} {p : Nat → Nat → Bool} (h : fst2 n p = some (a, b)) : a < n ∧ b < n ∧ p a b = true ∧ (∀ a', a' < a → ∀ b', b' < n → p a' b' = false) ∧ ∀ b', b' < b → p a b' = false := by
  unfold fst2 at h
  cases h1 : fstN n fun a => (fstN n (p a)).isSome with
  | none => rw [h1] at h; cases h
  | some c =>
    rw [h1, Option.bind_some] at h
    cases h2 : fstN n (p c) with
    | none => rw [h2] at h; cases h
    | some d =>
      rw [h2] at h
      cases h
      obtain ⟨q1, _, q3⟩ := fstN_some h1
      obtain ⟨r1, r2, r3⟩ := fstN_some h2
      refine ⟨q1, r1, r2, fun a' ha' => ?_, r3⟩
      have := q3 a' ha'
      cases h3 : fstN n (p a') with
      | none => exact fstN_none h3
      | some _ => rw [h3] at this; cases this
theorem fst2_none {n : Nat} {p : Nat → Nat → Bool} (h : fst2 n p = none) : ∀ a, a < n → ∀ b, b < n → p a b = false := by
  intro a ha
  unfold fst2 at h
  cases h1 : fstN n fun a => (fstN n (p a)).isSome with
  | none =>
    have := fstN_none h1 a ha
    cases h3 : fstN n (p a) with
    | none => exact fstN_none h3
    | some _ => rw [h3] at this; cases this
  | some c =>
    rw [h1, Option.bind_some] at h
    obtain ⟨_, q, _⟩ := fstN_some h1
    cases h2 : fstN n (p c) with
    | none => rw [h2] at q; cases q
    | some d => rw [h2] at h; cases h
/-- The elements above two, ascending; the least of some; the join. -/
def bnd (t : Tb) (a b : Nat) : List Nat := (List.range t.elems.length).filter fun c => leB t a c && leB t b c
def lst (t : Tb) (l : List Nat) : Option Nat := l.find? fun x => l.all fun y => leB t x y
def jn (t : Tb) (a b : Nat) : Option Nat := lst t (bnd t a b)
theorem mem_bnd {t : Tb} {a b c : Nat} : c ∈ bnd t a b ↔ c < t.elems.length ∧ leB t a c = true ∧ leB t b c = true := by
  unfold bnd
  simp [List.mem_filter, List.mem_range]
theorem jn_some {t : Tb} {a b c : Nat} (h : jn t a b = some c) : c < t.elems.length ∧ leB t a c = true ∧ leB t b c = true ∧ ∀ d, d < t.elems.length → leB t a d = true → leB t b d = true → leB t c d = true := by
  unfold jn lst at h
  have h1 := List.find?_some h
  have h2 := List.mem_of_find?_eq_some h
  obtain ⟨q1, q2, q3⟩ := mem_bnd.1 h2
  refine ⟨q1, q2, q3, fun d hd ha hb => ?_⟩
  rw [List.all_eq_true] at h1
  exact h1 d (mem_bnd.2 ⟨hd, ha, hb⟩)
theorem jn_none {t : Tb} {a b : Nat} (h : jn t a b = none) {c : Nat} (hc : c < t.elems.length) (h1 : leB t a c = true) (h2 : leB t b c = true) : ∃ d, d < t.elems.length ∧ leB t a d = true ∧ leB t b d = true ∧ leB t c d = false := by
  unfold jn lst at h
  rw [List.find?_eq_none] at h
  have := h c (mem_bnd.2 ⟨hc, h1, h2⟩)
  rw [Bool.not_eq_true, List.all_eq_false] at this
  obtain ⟨d, hd, hn⟩ := this
  obtain ⟨q1, q2, q3⟩ := mem_bnd.1 hd
  exact ⟨d, q1, q2, q3, by simpa using hn⟩
/-- The join is the first element above which there is just what is above both. -/
theorem know_both {t : Tb} (hf : form t) {a b c : Nat} (ha : a < t.elems.length) (hb : b < t.elems.length) (hc : c < t.elems.length) :
    know t c = know t a &&& know t b ↔ (leB t a c = true ∧ leB t b c = true ∧ ∀ d, d ∈ bnd t a b → leB t c d = true) := by
  constructor
  · intro h
    have hcc : (know t c).testBit c = true := leB_refl hf hc
    rw [h, Nat.testBit_and, Bool.and_eq_true] at hcc
    refine ⟨hcc.1, hcc.2, fun d hd => ?_⟩
    obtain ⟨_, q2, q3⟩ := mem_bnd.1 hd
    unfold leB at q2 q3 ⊢
    rw [h, Nat.testBit_and, q2, q3]; rfl
  · rintro ⟨h1, h2, h3⟩
    apply Nat.eq_of_testBit_eq
    intro d
    rw [Nat.testBit_and, Bool.eq_iff_iff, Bool.and_eq_true]
    constructor
    · intro h
      exact ⟨leB_trans hf ha h1 h, leB_trans hf hb h2 h⟩
    · rintro ⟨q1, q2⟩
      exact h3 d (mem_bnd.2 ⟨leB_lt hf ha q1, q1, q2⟩)
theorem idx_jn {t : Tb} (hf : form t) {a b : Nat} (ha : a < t.elems.length) (hb : b < t.elems.length) : idxM (know t) (know t a &&& know t b) t.elems.length 0 = match jn t a b with | some c => (c : Int) | none => -1 := by
  cases h : jn t a b with
  | none =>
    refine idxM_all _ _ _ _ fun i _ hi e => ?_
    rw [Nat.zero_add] at hi
    obtain ⟨h1, h2, h3⟩ := (know_both hf ha hb hi).1 e
    obtain ⟨d, q1, q2, q3, q4⟩ := jn_none h hi h1 h2
    have := h3 d (mem_bnd.2 ⟨q1, q2, q3⟩)
    rw [q4] at this; cases this
  | some c =>
    obtain ⟨h1, h2, h3, h4⟩ := jn_some h
    refine idxM_stop _ _ _ _ _ (Nat.zero_le _) (by omega) ((know_both hf ha hb h1).2 ⟨h2, h3, fun d hd => ?_⟩) fun i _ hi e => ?_
    · obtain ⟨q1, q2, q3⟩ := mem_bnd.1 hd
      exact h4 d q1 q2 q3
    · obtain ⟨r1, r2, r3⟩ := (know_both hf ha hb (Nat.lt_trans hi h1)).1 e
      unfold jn lst at h
      rw [List.find?_eq_some_iff_append] at h
      obtain ⟨_, l1, l2, e2, hno⟩ := h
      have hib : i ∈ bnd t a b := mem_bnd.2 ⟨Nat.lt_trans hi h1, r1, r2⟩
      have hp : (bnd t a b).Pairwise (· < ·) := by unfold bnd; exact List.pairwise_lt_range.filter _
      rw [e2] at hp
      rw [e2] at hib
      rcases List.mem_append.1 hib with q | q
      · have := hno i q
        simp only [Bool.not_eq_eq_eq_not, Bool.not_true, List.all_eq_false] at this
        obtain ⟨d, hd, hn⟩ := this
        exact hn (r3 d hd)
      · rcases List.mem_cons.1 q with q | q
        · omega
        · have := (List.pairwise_cons.1 (List.pairwise_append.1 hp).2.1).1 i q
          omega
theorem both_nil {t : Tb} (hf : form t) {a b : Nat} (ha : a < t.elems.length) : (know t a &&& know t b = 0) ↔ bnd t a b = [] := by
  constructor
  · intro h
    rw [List.eq_nil_iff_forall_not_mem]
    intro c hc
    obtain ⟨_, h1, h2⟩ := mem_bnd.1 hc
    have : (know t a &&& know t b).testBit c = true := by
      unfold leB at h1 h2
      rw [Nat.testBit_and, h1, h2]; rfl
    rw [h] at this; simp at this
  · intro h
    apply Nat.eq_of_testBit_eq
    intro c
    rw [Nat.zero_testBit]
    cases hq : (know t a &&& know t b).testBit c with
    | false => rfl
    | true =>
      rw [Nat.testBit_and, Bool.and_eq_true] at hq
      have : c ∈ bnd t a b := mem_bnd.2 ⟨leB_lt hf ha hq.1, hq.1, hq.2⟩
      rw [h] at this; simp at this
theorem jn_nil {t : Tb} {a b : Nat} (h : bnd t a b = []) : jn t a b = none := by unfold jn lst; rw [h]; rfl
/-- The kind of the break that two elements without a join are. -/
def kindM (t : Tb) (a b : Nat) : Nat := if bnd t a b = [] then 3 else 4
theorem joinM_jn {t : Tb} (hf : form t) {a b : Nat} (ha : a < t.elems.length) (hb : b < t.elems.length) : joinM (know t) t.elems.length a b = match jn t a b with | some c => ((c : Int), 0) | none => (0, kindM t a b) := by
  unfold joinM kindM
  rw [idx_jn hf ha hb]
  by_cases h : know t a &&& know t b = 0
  · rw [if_pos h]
    have h2 := (both_nil hf ha).1 h
    rw [jn_nil h2, if_pos h2]
  · rw [if_neg h]
    have h2 : ¬ bnd t a b = [] := fun q => h ((both_nil hf ha).2 q)
    cases hj : jn t a b with
    | none => simp only; rw [if_pos (by omega), if_neg h2]
    | some c => simp only; rw [if_neg (by omega)]
/-- Whether an element is wrong. -/
def wr (t : Tb) (a : Nat) : Bool := t.wrong.getD a false
/-- The break of a table: its kind, and two elements; of kind 0 if there is none. -/
def brk (t : Tb) : Nat × Nat × Nat :=
  match fstN t.elems.length fun a => stB t a a with
  | some a => (1, a, 0)
  | none =>
    match fstN t.elems.length fun a => !leB t 0 a with
    | some a => (2, a, 0)
    | none =>
      match fst2 t.elems.length fun a b => decide (a < b) && (jn t a b).isNone with
      | some (a, b) => (kindM t a b, a, b)
      | none =>
        if wr t 0 = true then (5, 0, 0)
        else match fst2 t.elems.length fun a b => wr t a && !wr t b && leB t a b with
          | some (a, b) => (5, a, b)
          | none => (0, 0, 0)
theorem brk_cycle {t : Tb} {a : Nat} (ha : a < t.elems.length) (h : stB t a a = true) (hb : ∀ j, j < a → stB t j j = false) : brk t = (1, a, 0) := by
  unfold brk; rw [fstN_stop (p := fun a => stB t a a) ha h hb]
theorem brk_base {t : Tb} {a : Nat} (h1 : ∀ j, j < t.elems.length → stB t j j = false) (ha : a < t.elems.length) (h : leB t 0 a = false) (hb : ∀ j, j < a → leB t 0 j = true) : brk t = (2, a, 0) := by
  unfold brk
  rw [fstN_all (p := fun a => stB t a a) h1]
  simp only
  rw [fstN_stop (p := fun a => !leB t 0 a) ha (by simp [h]) (fun j hj => by simp [hb j hj])]
theorem brk_pair {t : Tb} {a b : Nat} (h1 : ∀ j, j < t.elems.length → stB t j j = false) (h2 : ∀ j, j < t.elems.length → leB t 0 j = true) (hab : a < b) (hb : b < t.elems.length) (h : jn t a b = none)
    (h3 : ∀ a', a' < a → ∀ b', a' < b' → b' < t.elems.length → jn t a' b' ≠ none) (h4 : ∀ b', a < b' → b' < b → jn t a b' ≠ none) : brk t = (kindM t a b, a, b) := by
  unfold brk
  rw [fstN_all (p := fun a => stB t a a) h1]
  simp only
  rw [fstN_all (p := fun a => !leB t 0 a) (fun j hj => by simp [h2 j hj])]
  simp only
  rw [fst2_stop (a := a) (b := b) (p := fun a b => decide (a < b) && (jn t a b).isNone) (by omega) hb (by simp [hab, h]) (fun a' ha' b' hb' => by
    by_cases q : a' < b'
    · have := h3 a' ha' b' q hb'
      cases hj : jn t a' b' with
      | none => exact absurd hj this
      | some _ => simp
    · simp [q]) (fun b' hb' => by
    by_cases q : a < b'
    · have := h4 b' q hb'
      cases hj : jn t a b' with
      | none => exact absurd hj this
      | some _ => simp
    · simp [q])]
/-- Whether all pairs have joins, and nothing else breaks a table but wrong elements. -/
structure noBrk (t : Tb) : Prop where
  cyc : ∀ j, j < t.elems.length → stB t j j = false
  base : ∀ j, j < t.elems.length → leB t 0 j = true
  pair : ∀ a, a < t.elems.length → ∀ b, a < b → b < t.elems.length → jn t a b ≠ none
theorem brk_rest {t : Tb} (h : noBrk t) : brk t = if wr t 0 = true then (5, 0, 0) else match fst2 t.elems.length fun a b => wr t a && !wr t b && leB t a b with | some (a, b) => (5, a, b) | none => (0, 0, 0) := by
  rw [brk, fstN_all (p := fun a => stB t a a) h.cyc]
  simp only
  rw [fstN_all (p := fun a => !leB t 0 a) (fun j hj => by simp [h.base j hj])]
  simp only
  rw [fst2_all (p := fun a b => decide (a < b) && (jn t a b).isNone) (fun a ha b hb => by
    by_cases q : a < b
    · have := h.pair a ha b q hb
      cases hj : jn t a b with
      | none => exact absurd hj this
      | some _ => simp
    · simp [q])]
theorem brk_zero {t : Tb} (h : noBrk t) (h0 : wr t 0 = true) : brk t = (5, 0, 0) := by rw [brk_rest h, if_pos h0]
theorem brk_wrong {t : Tb} (h : noBrk t) (h0 : wr t 0 = false) {a b : Nat} (ha : a < t.elems.length) (hb : b < t.elems.length) (hw : wr t a = true) (hn : wr t b = false) (hl : leB t a b = true)
    (h1 : ∀ a', a' < a → ∀ b', b' < t.elems.length → wr t a' = true → leB t a' b' = true → wr t b' = true) (h2 : ∀ b', b' < b → leB t a b' = true → wr t b' = true) : brk t = (5, a, b) := by
  rw [brk_rest h, if_neg (by rw [h0]; simp), fst2_stop (p := fun a b => wr t a && !wr t b && leB t a b) ha hb (by simp [hw, hn, hl]) (fun a' ha' b' hb' => by
    cases e1 : wr t a' with
    | false => simp
    | true =>
      cases e2 : leB t a' b' with
      | false => simp
      | true => simp [h1 a' ha' b' hb' e1 e2]) (fun b' hb' => by
    cases e2 : leB t a b' with
    | false => simp
    | true => simp [h2 b' hb' e2])]
theorem brk_ok {t : Tb} (h : noBrk t) (h0 : wr t 0 = false) (h1 : ∀ a, a < t.elems.length → ∀ b, b < t.elems.length → wr t a = true → leB t a b = true → wr t b = true) : brk t = (0, 0, 0) := by
  rw [brk_rest h, if_neg (by rw [h0]; simp), fst2_all (p := fun a b => wr t a && !wr t b && leB t a b) (fun a' ha' b' hb' => by
    cases e1 : wr t a' with
    | false => simp
    | true =>
      cases e2 : leB t a' b' with
      | false => simp
      | true => simp [h1 a' ha' b' hb' e1 e2])]
/-- All pairs of elements in their order, the smaller number first. -/
def prs (n : Nat) : List (Nat × Nat) := (List.range n).flatMap fun a => ((List.range n).filter fun b => decide (a < b)).map fun b => (a, b)
theorem mem_prs {n : Nat} {x : Nat × Nat} : x ∈ prs n ↔ x.1 < x.2 ∧ x.2 < n := by
  obtain ⟨a, b⟩ := x
  unfold prs
  simp only [List.mem_flatMap, List.mem_map, List.mem_filter, List.mem_range, decide_eq_true_eq, Prod.mk.injEq]
  constructor
  · rintro ⟨a', h1, b', ⟨h2, h3⟩, rfl, rfl⟩; exact ⟨h3, h2⟩
  · rintro ⟨h1, h2⟩; exact ⟨a, by omega, b, ⟨h2, h1⟩, rfl, rfl⟩
def lexB (x y : Nat × Nat) : Prop := x.1 < y.1 ∨ (x.1 = y.1 ∧ x.2 < y.2)
theorem prs_sorted (n : Nat) : (prs n).Pairwise lexB := by
  unfold prs
  rw [List.pairwise_flatMap]
  refine ⟨fun a _ => ?_, ?_⟩
  · rw [List.pairwise_map]
    exact (List.pairwise_lt_range.filter _).imp fun h => Or.inr ⟨rfl, h⟩
  · exact List.pairwise_lt_range.imp fun h x hx y hy => by
      obtain ⟨_, _, rfl⟩ := List.mem_map.1 hx
      obtain ⟨_, _, rfl⟩ := List.mem_map.1 hy
      exact Or.inl h
theorem prs_before {n : Nat} {pre : List (Nat × Nat)} {x y : Nat × Nat} (h : pre ++ [x] <+: prs n) (hy : y ∈ prs n) (hl : lexB y x) : y ∈ pre := by
  obtain ⟨r, e⟩ := h
  have hs := prs_sorted n
  rw [← e] at hs hy
  rw [List.append_assoc] at hs hy
  rcases List.mem_append.1 hy with q | q
  · exact q
  · exfalso
    have h2 := (List.pairwise_append.1 hs).2.1
    rcases List.mem_cons.1 q with q | q
    · subst q
      unfold lexB at hl; omega
    · have := (List.pairwise_cons.1 h2).1 y q
      unfold lexB at hl this; omega
end M
end Go.Proofs.Ytnhnjfoboepffaa
