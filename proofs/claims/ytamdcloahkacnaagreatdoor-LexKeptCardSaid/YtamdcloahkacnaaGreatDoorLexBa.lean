/- DERIVED. Plain: what the document's own words on texts come to: numbers, signs, and comments that are passed by. -/
import Derived.Test.YtamdcloahkacnaaGreatDoorLexTn0
namespace Go.Proofs.YtamdcloahkacnaaGreatDoor
namespace M
/-- Whether digits are a number, as the document says it. -/
def isNumber (t : List UInt8) : Bool := decide (t = [48]) || (!decide (t = []) && !decide (t.head? = some 48) && (decide (t.length < 10) || decide (t = [49, 48, 48, 48, 48, 48, 48, 48, 48, 48])))
theorem numAcc_lin (t : List UInt8) : ∀ a, numAcc a t = a * 10 ^ t.length + numAcc 0 t := by
  induction t with
  | nil => intro a; simp [numAcc]
  | cons c t ih =>
    intro a
    have h1 : numAcc a (c :: t) = numAcc (a * 10 + (c.toNat - 48)) t := rfl
    have h2 : numAcc 0 (c :: t) = numAcc (0 * 10 + (c.toNat - 48)) t := rfl
    rw [h1, h2, ih (a * 10 + (c.toNat - 48)), ih (0 * 10 + (c.toNat - 48)), List.length_cons, Nat.pow_succ]
    simp only [Nat.add_mul, Nat.zero_mul, Nat.zero_add, Nat.mul_assoc, Nat.mul_comm 10]
    omega
theorem numAcc_lt (t : List UInt8) (hd : allDig t) : numAcc 0 t < 10 ^ t.length := by
  induction t with
  | nil => simp [numAcc]
  | cons c t ih =>
    have h2 : numAcc 0 (c :: t) = numAcc (0 * 10 + (c.toNat - 48)) t := rfl
    have hc := hd c List.mem_cons_self
    have hi := ih (fun x hx => hd x (List.mem_cons_of_mem _ hx))
    rw [h2, numAcc_lin, List.length_cons, Nat.pow_succ]
    have h3 : (0 * 10 + (c.toNat - 48)) * 10 ^ t.length ≤ 9 * 10 ^ t.length := Nat.mul_le_mul_right _ (by omega)
    omega
theorem numAcc_zero (t : List UInt8) (hd : allDig t) (h : numAcc 0 t = 0) : ∀ c, c ∈ t → c = 48 := by
  induction t with
  | nil => intro c hc; simp at hc
  | cons x t ih =>
    have h2 : numAcc 0 (x :: t) = numAcc (0 * 10 + (x.toNat - 48)) t := rfl
    have hx := hd x List.mem_cons_self
    rw [h2, numAcc_lin] at h
    have hp : 0 < 10 ^ t.length := Nat.pow_pos (by decide)
    have h3 : (0 * 10 + (x.toNat - 48)) * 10 ^ t.length = 0 := by omega
    have h4 : numAcc 0 t = 0 := by omega
    have h5 : 0 * 10 + (x.toNat - 48) = 0 := by
      rcases Nat.mul_eq_zero.1 h3 with h | h
      · exact h
      · omega
    intro c hc
    rcases List.mem_cons.1 hc with rfl | hc
    · exact UInt8.toNat_inj.1 (by show c.toNat = 48; omega)
    · exact ih (fun y hy => hd y (List.mem_cons_of_mem _ hy)) h4 c hc
theorem isNumber_kind (t : List UInt8) (hd : allDig t) (hn : t ≠ []) : numberKind t = if isNumber t = true then 2 else 0 := by
  unfold numberKind isNumber
  cases t with
  | nil => exact absurd rfl hn
  | cons c u =>
    by_cases h0 : c :: u = [48]
    · rw [h0]; decide
    by_cases hc : c = 48
    · subst hc
      rw [if_pos (Or.inr ⟨rfl, h0⟩)]
      simp [h0]
    have hcd := hd c List.mem_cons_self
    have hud : allDig u := fun x hx => hd x (List.mem_cons_of_mem _ hx)
    have hc2 : c.toNat ≠ 48 := fun h => hc (UInt8.toNat_inj.1 h)
    have hv : numVal (c :: u) = (c.toNat - 48) * 10 ^ u.length + numAcc 0 u := by
      have : numVal (c :: u) = numAcc (0 * 10 + (c.toNat - 48)) u := rfl
      rw [this, numAcc_lin]; simp
    have hlt := numAcc_lt u hud
    have hhd : ¬ ((c :: u).head? = some 48 ∧ c :: u ≠ [48]) := by simp [hc]
    have hl : (c :: u).length = u.length + 1 := rfl
    have e1 : decide (c :: u = [48]) = false := by simpa using h0
    have e2 : decide (c :: u = []) = false := by simp
    have e3 : decide ((c :: u).head? = some 48) = false := by simp [hc]
    rw [e1, e2, e3, hv]
    simp only [hhd, or_false, Bool.not_false, Bool.true_and, Bool.false_or, Bool.or_eq_true, decide_eq_true_eq, hl]
    have hp : 10 ^ u.length ≤ (c.toNat - 48) * 10 ^ u.length := Nat.le_mul_of_pos_left _ (by omega)
    rcases Nat.lt_trichotomy u.length 9 with h | h | h
    · have h8 : 10 ^ u.length ≤ 10 ^ 8 := Nat.pow_le_pow_right (by decide) (by omega)
      have h9 : (c.toNat - 48) * 10 ^ u.length ≤ 9 * 10 ^ u.length := Nat.mul_le_mul_right _ (by omega)
      have : (10 : Nat) ^ 8 = 100000000 := by decide
      rw [if_neg (by omega), if_pos (Or.inl (by omega))]
    · have e9 : (10 : Nat) ^ u.length = 1000000000 := by rw [h]
      rw [e9] at hlt hp ⊢
      by_cases hone : c :: u = [49, 48, 48, 48, 48, 48, 48, 48, 48, 48]
      · rw [if_neg ?_, if_pos (Or.inr hone)]
        have hu : u = [48, 48, 48, 48, 48, 48, 48, 48, 48] := (List.cons.inj hone).2
        have hcc : c = 49 := (List.cons.inj hone).1
        rw [hu, hcc]; decide
      · have hno : ¬ (u.length + 1 < 10 ∨ c :: u = [49, 48, 48, 48, 48, 48, 48, 48, 48, 48]) := by
          rintro (h1 | h1)
          · omega
          · exact hone h1
        rw [if_pos ?_, if_neg hno]
        rcases Nat.lt_or_ge 1000000000 ((c.toNat - 48) * 1000000000 + numAcc 0 u) with q | q
        · exact q
        · exfalso
          have hz : numAcc 0 u = 0 := by omega
          have hc1 : c = 49 := UInt8.toNat_inj.1 (by show c.toNat = 49; omega)
          refine hone ?_
          rw [hc1]
          congr 1
          have hz2 := numAcc_zero u hud hz
          have : u = List.replicate 9 48 := List.eq_replicate_iff.2 ⟨h, hz2⟩
          exact this
    · have h10 : (10 : Nat) ^ 10 ≤ 10 ^ u.length := Nat.pow_le_pow_right (by decide) (by omega)
      have : (10 : Nat) ^ 10 = 10000000000 := by decide
      rw [if_pos (by omega), if_neg (by
        rintro (h1 | h1)
        · omega
        · have := congrArg List.length h1
          simp at this; omega)]

/-- The best of the first k signs with which a text begins. -/
def bestK (s : List UInt8) (k : Nat) : List UInt8 := ((signs.take k).find? fun g => g.isPrefixOf s).getD []
theorem bestK_all (s : List UInt8) : bestK s 22 = sign s := rfl
theorem sg_sorted : ∀ i, (hi : i < signs.length) → ∀ j, (hj : j < signs.length) → i < j → signs[j].length ≤ signs[i].length := by decide
theorem sg_pos : ∀ i, (hi : i < signs.length) → 0 < signs[i].length := by decide
theorem bestK_len (s : List UInt8) (k : Nat) : (bestK s k).length ≤ 2 := by
  unfold bestK
  cases h : (signs.take k).find? fun g => g.isPrefixOf s with
  | none => simp
  | some g =>
    have hm := List.mem_of_mem_take (List.mem_of_find?_eq_some h)
    obtain ⟨i, hi, e⟩ := List.getElem_of_mem hm
    have := sg_short i hi
    rw [e] at this; exact this
theorem bestK_succ (s : List UInt8) (k : Nat) (hk : k < signs.length) : bestK s (k + 1) = if (bestK s k).length < signs[k].length ∧ signs[k].isPrefixOf s = true then signs[k] else bestK s k := by
  unfold bestK
  rw [List.take_succ_eq_append_getElem hk, List.find?_append]
  cases h : (signs.take k).find? fun g => g.isPrefixOf s with
  | none =>
    have hp := sg_pos k hk
    cases hg : signs[k].isPrefixOf s
    · simp [hg]
    · simp [hg, hp]
  | some g =>
    have hm := List.mem_of_find?_eq_some h
    obtain ⟨i, hi, e⟩ := List.getElem_of_mem hm
    rw [List.length_take] at hi
    rw [List.getElem_take] at e
    have := sg_sorted i (by omega) k hk (by omega)
    rw [e] at this
    simp only [Option.some_or, Option.getD_some]
    rw [if_neg (by omega)]

/-- Whether one is in a comment behind a byte. -/
def st1 (b : Bool) (c : UInt8) : Bool := !(c == 10) && (b || c == 37)
def bl (b : Bool) : List UInt8 → List UInt8
  | [] => []
  | c :: l => (if st1 b c = true then 32 else c) :: bl (st1 b c) l
def stK (s : List UInt8) (k : Nat) : Bool := (s.take k).foldl st1 false
theorem stK_zero (s : List UInt8) : stK s 0 = false := rfl
theorem stK_succ (s : List UInt8) (k : Nat) (h : k < s.length) : stK s (k + 1) = st1 (stK s k) s[k] := by
  unfold stK; rw [List.take_succ_eq_append_getElem h, List.foldl_append]; rfl
theorem bl_len (l : List UInt8) : ∀ b, (bl b l).length = l.length := by
  induction l with
  | nil => intro b; rfl
  | cons c l ih => intro b; simp [bl, ih]
theorem bl_app (x y : List UInt8) : ∀ b, bl b (x ++ y) = bl b x ++ bl (x.foldl st1 b) y := by
  induction x with
  | nil => intro b; rfl
  | cons c x ih => intro b; simp [bl, ih]
theorem bl_drop (s : List UInt8) (k : Nat) (h : k ≤ s.length) : (bl false s).drop k = bl (stK s k) (s.drop k) := by
  have e : bl false s = bl false (s.take k) ++ bl (stK s k) (s.drop k) := by
    have := bl_app (s.take k) (s.drop k) false
    rw [List.take_append_drop] at this; exact this
  rw [e, List.drop_left' (by rw [bl_len, List.length_take]; omega)]
theorem bl_at (s : List UInt8) (i : Nat) (h : i < s.length) : (bl false s)[i]'(by rw [bl_len]; exact h) = if stK s (i + 1) = true then 32 else s[i] := by
  have h1 : ((bl false s).drop i)[0]? = (bl (stK s i) (s.drop i))[0]? := by rw [bl_drop s i (by omega)]
  rw [List.drop_eq_getElem_cons h] at h1
  rw [List.getElem?_drop, Nat.add_zero, List.getElem?_eq_getElem (by rw [bl_len]; exact h)] at h1
  simp only [bl, List.getElem?_cons_zero, Option.some.injEq] at h1
  rw [h1, stK_succ s i h]
theorem stK_iff (s : List UInt8) : ∀ n, n ≤ s.length → (stK s n = true ↔ ∃ j, j < n ∧ s[j]? = some 37 ∧ ∀ k, j ≤ k → k < n → s[k]? ≠ some 10) := by
  intro n
  induction n with
  | zero => intro _; simp [stK]
  | succ n ih =>
    intro h
    have hn : n < s.length := by omega
    have hi := ih (by omega)
    have hgn : s[n]? = some s[n] := List.getElem?_eq_getElem hn
    rw [stK_succ s n hn]
    unfold st1
    constructor
    · intro hh
      simp only [Bool.and_eq_true, Bool.not_eq_eq_eq_not, Bool.not_true, beq_eq_false_iff_ne, Bool.or_eq_true, beq_iff_eq] at hh
      obtain ⟨h10, hb⟩ := hh
      by_cases h37 : s[n] = 37
      · refine ⟨n, by omega, by rw [hgn, h37], fun k h1 h2 => ?_⟩
        obtain rfl : k = n := by omega
        rw [hgn]; simpa using h10
      · rcases hb with hb | hb
        · obtain ⟨j, h1, h2, h3⟩ := hi.1 hb
          refine ⟨j, by omega, h2, fun k k1 k2 => ?_⟩
          by_cases e : k = n
          · subst e; rw [hgn]; simpa using h10
          · exact h3 k k1 (by omega)
        · exact absurd hb h37
    · rintro ⟨j, h1, h2, h3⟩
      have h10 : s[n] ≠ 10 := by have := h3 n (by omega) (by omega); rw [hgn] at this; simpa using this
      simp only [Bool.and_eq_true, Bool.not_eq_eq_eq_not, Bool.not_true, beq_eq_false_iff_ne, Bool.or_eq_true, beq_iff_eq]
      refine ⟨h10, ?_⟩
      by_cases e : j = n
      · subst e; right; rw [hgn] at h2; simpa using h2
      · left; exact hi.2 ⟨j, by omega, h2, fun k k1 k2 => h3 k k1 (by omega)⟩
theorem comments_begin (f : Nat) (s : List UInt8) : ∀ k, (∀ h : k < s.length, s[k] = 37) → ∀ x ∈ commentsF f s k, s[x.1]? = some 37 ∧ x.2 = find s x.1 10 := by
  induction f with
  | zero => intro k _ x hx; simp [commentsF] at hx
  | succ f ih =>
    intro k hk37 x hx
    unfold commentsF at hx
    by_cases hk : k < s.length
    · rw [if_pos hk] at hx
      rcases List.mem_cons.1 hx with rfl | hx
      · exact ⟨by rw [List.getElem?_eq_getElem hk, hk37 hk], rfl⟩
      · exact ih _ (fun h => find_at _ _ _ h) x hx
    · rw [if_neg hk] at hx; simp at hx
theorem cover_iff (s : List UInt8) (i : Nat) (hi : i < s.length) : (∃ x ∈ comments s, x.1 ≤ i ∧ i < x.2) ↔ stK s (i + 1) = true := by
  rw [stK_iff s (i + 1) (by omega)]
  constructor
  · rintro ⟨x, hx, h1, h2⟩
    have hb := comments_begin (s.length + 1) s (find s 0 37) (fun h => find_at _ _ _ h) x hx
    refine ⟨x.1, by omega, hb.1, fun k k1 k2 => ?_⟩
    have hk : k < s.length := by omega
    have := comments_no10 (s.length + 1) s (find s 0 37) x hx k hk k1 (by omega)
    rw [List.getElem?_eq_getElem hk]; simpa using this
  · rintro ⟨j, h1, h2, h3⟩
    have hj : j < s.length := by omega
    have h37 : s[j] = 37 := by rw [List.getElem?_eq_getElem hj] at h2; simpa using h2
    obtain ⟨x, hx, q1, q2⟩ := comments_cover (s.length + 1) s (find s 0 37) (fun h => find_at _ _ _ h) (by omega) j hj (find_min s 0 37 j (by omega) hj h37) h37
    refine ⟨x, hx, by omega, ?_⟩
    have hb := comments_begin (s.length + 1) s (find s 0 37) (fun h => find_at _ _ _ h) x hx
    rcases Nat.lt_or_ge i x.2 with q | q
    · exact q
    · exfalso
      have hx2 : find s x.1 10 < s.length := by rw [← hb.2]; omega
      have := find_at s x.1 10 hx2
      refine h3 x.2 (by omega) (by omega) ?_
      rw [hb.2, List.getElem?_eq_getElem hx2, this]
theorem blank_bl (s : List UInt8) : blank s = bl false s := by
  apply List.ext_getElem (by rw [blank_len, bl_len])
  intro i h1 h2
  rw [blank_len] at h1
  rw [bl_at s i h1]
  rcases blankBy_at (comments s) s i (by rw [blankBy_len]; exact h1) h1 with ⟨q, k⟩ | ⟨q, k⟩
  · rw [if_pos ((cover_iff s i h1).1 q)]; exact k
  · rw [if_neg (fun z => q ((cover_iff s i h1).2 z))]; exact k
end M
end Go.Proofs.YtamdcloahkacnaaGreatDoor
