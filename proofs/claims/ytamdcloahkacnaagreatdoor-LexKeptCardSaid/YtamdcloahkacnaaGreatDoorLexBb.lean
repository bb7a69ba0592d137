/- DERIVED. Plain: gaps and tokens of a text, and of the same text with its comments blanked. -/
import Derived.Test.YtamdcloahkacnaaGreatDoorLexBa
namespace Go.Proofs.YtamdcloahkacnaaGreatDoor
namespace M
theorem behind_stop (P : List Nat) (s : List UInt8) (k i : Nat) (hk : k + i < s.length) (h : ∀ j, (hj : k + j < s.length) → j < i → P.contains (cls s[k + j]) = true) (hn : P.contains (cls s[k + i]) = false) : behind P s k = k + i := by
  have e := leadI_stop (fun _ c => P.contains (cls c)) (s.drop k) 0 i (by rw [List.length_drop]; omega)
    (fun j hj => by have := h j (by omega) hj; rw [List.getElem_drop]; exact this) (by rw [List.getElem_drop]; exact hn)
  unfold behind
  rw [e]; omega
theorem behind_all (P : List Nat) (s : List UInt8) (k i : Nat) (hk : k ≤ s.length) (hi : s.length ≤ k + i) (h : ∀ j, (hj : k + j < s.length) → j < i → P.contains (cls s[k + j]) = true) : behind P s k = s.length := by
  have e := leadI_all (fun _ c => P.contains (cls c)) (s.drop k) 0 (fun j hj => by
    rw [List.length_drop] at hj
    have := h j (by omega) (by omega)
    rw [List.getElem_drop]; exact this)
  unfold behind
  rw [e, List.length_drop]; omega
theorem behind_end (P : List Nat) (s : List UInt8) (k : Nat) (h : behind P s k < s.length) : P.contains (cls s[behind P s k]) = false := by
  have h0 := behind_ge P s k
  have e : leadI (fun _ c => P.contains (cls c)) 0 (s.drop k) = 0 + (behind P s k - k) := by unfold behind; omega
  have h2 := leadI_at (fun _ c => P.contains (cls c)) (s.drop k) 0 (behind P s k - k) (by rw [List.length_drop]; omega) e
  simp only [List.getElem_drop] at h2
  have e2 : k + (behind P s k - k) = behind P s k := by omega
  simp only [e2] at h2
  exact h2

theorem blank_at2 (s : List UInt8) (i : Nat) (h : i < s.length) : (blank s)[i]'(by rw [blank_len]; exact h) = if stK s (i + 1) = true then 32 else s[i] := by
  have := bl_at s i h
  simp only [← blank_bl] at this
  exact this
theorem blank_drop (s : List UInt8) (k : Nat) (h : k ≤ s.length) (hs : stK s k = false) : (blank s).drop k = bl false (s.drop k) := by
  rw [blank_bl, bl_drop s k h, hs]
/-- A place is in a gap just if it is a blank, a line feed, or in a comment. -/
theorem gap_yes (s : List UInt8) (i : Nat) (h : i < s.length) (hg : s[i] = 10 ∨ s[i] = 32 ∨ s[i] = 37 ∨ stK s i = true) : cls ((blank s)[i]'(by rw [blank_len]; exact h)) = 3 := by
  rw [blank_at2 s i h, stK_succ s i h]
  unfold st1
  by_cases h10 : s[i] = 10
  · have e10 : (s[i] == 10) = true := by simpa using h10
    rw [e10]
    simp only [Bool.not_true, Bool.false_and, Bool.false_eq_true, if_false]
    rw [h10]; decide
  · have e10 : (s[i] == 10) = false := by simpa using h10
    rw [e10]
    by_cases hb : stK s i = true
    · rw [hb]; simp; decide
    · have hb' : stK s i = false := by simpa using hb
      rw [hb']
      rcases hg with q | q | q | q
      · exact absurd q h10
      · simp only [q]; decide
      · simp only [q]; decide
      · exact absurd q hb
theorem gap_no (s : List UInt8) (i : Nat) (h : i < s.length) (h1 : s[i] ≠ 10) (h2 : s[i] ≠ 32) (h3 : s[i] ≠ 37) (h4 : stK s i = false) : cls ((blank s)[i]'(by rw [blank_len]; exact h)) ≠ 3 := by
  have e : (blank s)[i]'(by rw [blank_len]; exact h) = s[i] := by
    rw [blank_at2 s i h, stK_succ s i h, h4]
    unfold st1
    have e2 : (s[i] == 37) = false := by simpa using h3
    rw [e2]; simp
  rw [e]
  have n1 : s[i].toNat ≠ 10 := fun q => h1 (UInt8.toNat_inj.1 q)
  have n2 : s[i].toNat ≠ 32 := fun q => h2 (UInt8.toNat_inj.1 q)
  unfold cls
  (repeat' split) <;> omega
/-- Where a gap ends one is outside of comments. -/
theorem gap_out (s : List UInt8) (k : Nat) (h : behind [3] (blank s) k < s.length) : stK s (behind [3] (blank s) k) = false ∧ s[behind [3] (blank s) k] ≠ 37 := by
  have h2 := behind_end [3] (blank s) k (by rw [blank_len]; exact h)
  have h3 : cls ((blank s)[behind [3] (blank s) k]'(by rw [blank_len]; exact h)) ≠ 3 := by intro q; rw [q] at h2; exact absurd h2 (by decide)
  refine ⟨?_, fun q => h3 (gap_yes s _ h (Or.inr (Or.inr (Or.inl q))))⟩
  cases hb : stK s (behind [3] (blank s) k)
  · rfl
  · exact absurd (gap_yes s _ h (Or.inr (Or.inr (Or.inr hb)))) h3

theorem bl_cons (c : UInt8) (l : List UInt8) (h : c ≠ 37) : bl false (c :: l) = c :: bl false l := by
  have e2 : (c == 37) = false := by simpa using h
  have e : st1 false c = false := by unfold st1; rw [e2]; simp
  simp [bl, e]
theorem bl_lead (P : List Nat) (h3 : P.contains 3 = false) (h0 : P.contains 0 = false) (l : List UInt8) : ∀ i, leadI (fun _ c => P.contains (cls c)) i (bl false l) = leadI (fun _ c => P.contains (cls c)) i l ∧ (bl false l).take (leadI (fun _ c => P.contains (cls c)) i l - i) = l.take (leadI (fun _ c => P.contains (cls c)) i l - i) := by
  induction l with
  | nil => intro i; simp [bl, leadI]
  | cons c l ih =>
    intro i
    by_cases h37 : c = 37
    · subst h37
      have e1 : bl false (37 :: l) = 32 :: bl true l := rfl
      have c1 : P.contains (cls 32) = false := h3
      have c2 : P.contains (cls 37) = false := h0
      have g1 : leadI (fun _ c => P.contains (cls c)) i (32 :: bl true l) = i := by rw [leadI, if_neg (by rw [c1]; decide)]
      have g2 : leadI (fun _ c => P.contains (cls c)) i (37 :: l) = i := by rw [leadI, if_neg (by rw [c2]; decide)]
      rw [e1, g1, g2]; simp
    · rw [bl_cons c l h37]
      by_cases hp : P.contains (cls c) = true
      · have g1 : ∀ m : List UInt8, leadI (fun _ c => P.contains (cls c)) i (c :: m) = leadI (fun _ c => P.contains (cls c)) (i + 1) m := fun m => by rw [leadI, if_pos hp]
        rw [g1, g1]
        obtain ⟨k1, k2⟩ := ih (i + 1)
        refine ⟨k1, ?_⟩
        have hge := leadI_ge (fun _ c => P.contains (cls c)) l (i + 1)
        obtain ⟨m, hm⟩ : ∃ m, leadI (fun _ c => P.contains (cls c)) (i + 1) l = i + 1 + m := ⟨_, (Nat.add_sub_cancel' hge).symm⟩
        rw [hm] at k2 ⊢
        have e1 : i + 1 + m - (i + 1) = m := by omega
        have e2 : i + 1 + m - i = m + 1 := by omega
        rw [e1] at k2
        rw [e2, List.take_succ_cons, List.take_succ_cons, k2]
      · have g1 : ∀ m : List UInt8, leadI (fun _ c => P.contains (cls c)) i (c :: m) = i := fun m => by rw [leadI, if_neg hp]
        rw [g1, g1]; simp
theorem bl_prefix (g : List UInt8) (hg : ∀ x, x ∈ g → x ≠ 10 ∧ x ≠ 37 ∧ x ≠ 32) : ∀ l, g.isPrefixOf (bl false l) = g.isPrefixOf l := by
  induction g with
  | nil => intro l; simp
  | cons x g ih =>
    intro l
    have hx := hg x List.mem_cons_self
    cases l with
    | nil => rfl
    | cons c l =>
      by_cases h37 : c = 37
      · subst h37
        have e1 : bl false (37 :: l) = 32 :: bl true l := rfl
        rw [e1]
        have e2 : (x == 32) = false := by simpa using hx.2.2
        have e3 : (x == 37) = false := by simpa using hx.2.1
        simp [List.isPrefixOf, e2, e3]
      · rw [bl_cons c l h37]
        simp only [List.isPrefixOf]
        rw [ih (fun y hy => hg y (List.mem_cons_of_mem _ hy)) l]
theorem sg_bytes : ∀ g, g ∈ signs → ∀ x, x ∈ g → x ≠ 10 ∧ x ≠ 37 ∧ x ≠ 32 := by decide
theorem find_congr {α : Type} (p q : α → Bool) (l : List α) (h : ∀ x, x ∈ l → p x = q x) : l.find? p = l.find? q := by
  induction l with
  | nil => rfl
  | cons x l ih =>
    rw [List.find?_cons, List.find?_cons, h x List.mem_cons_self, ih (fun y hy => h y (List.mem_cons_of_mem _ hy))]
theorem sign_bl (l : List UInt8) : sign (bl false l) = sign l := by
  unfold sign
  rw [find_congr (fun g => g.isPrefixOf (bl false l)) (fun g => g.isPrefixOf l) signs (fun g hg => bl_prefix g (sg_bytes g hg) l)]
theorem take_drop_sub {α : Type} (s : List α) (n k : Nat) : (s.take n).drop k = (s.drop k).take (n - k) := by rw [List.drop_take]
theorem token_bl (s : List UInt8) (k : Nat) (hk : k < s.length) (hst : stK s k = false) (h37 : s[k] ≠ 37) : tokText (blank s) k = tokText s k ∧ tokKind (blank s) k = tokKind s k := by
  have hd := blank_drop s k (by omega) hst
  have hc : (blank s).getD k 0 = s.getD k 0 := by
    have h1 : (blank s)[k]'(by rw [blank_len]; exact hk) = s[k] := by
      rw [blank_at2 s k hk, stK_succ s k hk, hst]
      unfold st1
      have e2 : (s[k] == 37) = false := by simpa using h37
      rw [e2]; simp
    rw [List.getD_eq_getElem?_getD, List.getD_eq_getElem?_getD, List.getElem?_eq_getElem hk, List.getElem?_eq_getElem (by rw [blank_len]; exact hk), h1]
  have hrun : ∀ P : List Nat, P.contains 3 = false → P.contains 0 = false → ((blank s).take (behind P (blank s) k)).drop k = (s.take (behind P s k)).drop k := by
    intro P h3 h0
    obtain ⟨k1, k2⟩ := bl_lead P h3 h0 (s.drop k) 0
    rw [take_drop_sub, take_drop_sub]
    unfold behind
    rw [hd, k1]
    have e : k + leadI (fun _ c => P.contains (cls c)) 0 (s.drop k) - k = leadI (fun _ c => P.contains (cls c)) 0 (s.drop k) - 0 := by omega
    rw [e, k2]
  have ht : tokText (blank s) k = tokText s k := by
    unfold tokText
    rw [hc, hrun [1, 2] (by decide) (by decide), hrun [2] (by decide) (by decide), hd, sign_bl]
  refine ⟨ht, ?_⟩
  unfold tokKind
  rw [hc, ht]
theorem token_blank (s : List UInt8) (k : Nat) (hk : k < s.length) (hst : stK s k = false) (h37 : s[k] ≠ 37) : token (blank s) k = if tokKind s k = 0 then none else some ⟨tokKind s k, str (tokText s k), k⟩ := by
  obtain ⟨h1, h2⟩ := token_bl s k hk hst h37
  unfold token
  rw [h1, h2]

/-- A token's text is a stretch of the text, none of whose bytes is a percent sign. -/
theorem prefix_take (g l : List UInt8) (h : g.isPrefixOf l = true) : g = l.take g.length := by
  obtain ⟨t, rfl⟩ := List.isPrefixOf_iff_prefix.1 h
  simp
theorem sign_pre2 (l : List UInt8) : sign l = l.take (sign l).length ∧ ∀ x, x ∈ sign l → x ≠ 37 := by
  unfold sign
  cases h : signs.find? fun g => g.isPrefixOf l with
  | none => simp
  | some g =>
    have h1 := List.find?_some h
    have h2 := List.mem_of_find?_eq_some h
    exact ⟨prefix_take g l h1, fun x hx => (sg_bytes g h2 x hx).2.1⟩
theorem run_text (P : List Nat) (h0 : P.contains 0 = false) (s : List UInt8) (k : Nat) (hk : k ≤ s.length) : (s.take (behind P s k)).drop k = (s.drop k).take ((s.take (behind P s k)).drop k).length ∧ ∀ x, x ∈ (s.take (behind P s k)).drop k → x ≠ 37 := by
  refine ⟨?_, fun x hx q => ?_⟩
  · have h1 := behind_le P s k hk
    have h2 : ((s.take (behind P s k)).drop k).length = behind P s k - k := by rw [List.length_drop, List.length_take]; omega
    rw [h2, take_drop_sub]
  · have := behind_in P s k x hx
    rw [q] at this
    have c2 : P.contains (cls 37) = false := h0
    rw [c2] at this; cases this
theorem tok_text (s : List UInt8) (k : Nat) (hk : k ≤ s.length) : tokText s k = (s.drop k).take (tokText s k).length ∧ ∀ x, x ∈ tokText s k → x ≠ 37 := by
  unfold tokText
  split
  · exact run_text [1, 2] (by decide) s k hk
  · exact run_text [2] (by decide) s k hk
  · exact sign_pre2 _
theorem st_run (s : List UInt8) (k : Nat) (hst : stK s k = false) : ∀ n, k + n ≤ s.length → (∀ x, x ∈ (s.drop k).take n → x ≠ 37) → stK s (k + n) = false := by
  intro n
  induction n with
  | zero => intro _ _; exact hst
  | succ n ih =>
    intro h hx
    have hd : n < (s.drop k).length := by rw [List.length_drop]; omega
    have h1 := ih (by omega) (fun x q => hx x (by rw [List.take_succ_eq_append_getElem hd]; exact List.mem_append_left _ q))
    have h2 := hx s[k + n] (by rw [List.take_succ_eq_append_getElem hd, List.getElem_drop]; simp)
    show stK s (k + n + 1) = false
    rw [stK_succ s (k + n) (by omega), h1]
    unfold st1
    have e2 : (s[k + n] == 37) = false := by simpa using h2
    rw [e2]; simp
theorem tok_out (s : List UInt8) (k : Nat) (hk : k ≤ s.length) (hst : stK s k = false) (hl : k + (tokText s k).length ≤ s.length) : stK s (k + (tokText s k).length) = false := by
  obtain ⟨h1, h2⟩ := tok_text s k hk
  exact st_run s k hst _ hl (fun x hx => h2 x (by rw [h1]; exact hx))
theorem tok_len (s : List UInt8) (k : Nat) (hk : k ≤ s.length) : k + (tokText s k).length ≤ s.length := by
  have h := congrArg List.length (tok_text s k hk).1
  rw [List.length_take, List.length_drop] at h
  omega
end M
end Go.Proofs.YtamdcloahkacnaaGreatDoor
