/- DERIVED. Plain: tokens by what is left of a text; the bare text of tokens. -/
import Derived.Test.YtamdcloahkacnaaGreatDoorLexBb
import Derived.Test.YtamdcloahkacnaaGreatDoorLexRb
namespace Go.Proofs.YtamdcloahkacnaaGreatDoor
namespace M
theorem tok_drop (s : List UInt8) (k : Nat) : tokText s k = tokText (s.drop k) 0 ∧ tokKind s k = tokKind (s.drop k) 0 := by
  have hc : s.getD k 0 = (s.drop k).getD 0 0 := by simp [List.getD_eq_getElem?_getD, List.getElem?_drop]
  have hrun : ∀ P : List Nat, (s.take (behind P s k)).drop k = ((s.drop k).take (behind P (s.drop k) 0)).drop 0 := by
    intro P
    rw [take_drop_sub]
    unfold behind
    simp
  have ht : tokText s k = tokText (s.drop k) 0 := by
    unfold tokText
    rw [hc, hrun [1, 2], hrun [2]]; simp
  refine ⟨ht, ?_⟩
  unfold tokKind
  rw [hc, ht]
/-- The tokens of a text without comments, from a place on at which no gap begins. -/
def Toks (s : List UInt8) : Nat → List Lx → Prop
  | k, [] => s.length ≤ k
  | k, x :: l => k < s.length ∧ token s k = some x ∧ Toks s (behind [3] s (k + x.text.size)) l
theorem tokensF_toks (s : List UInt8) : ∀ f k acc m p, s.length < k + f → tokensF f s k acc = (m, p, 0) → p = 0 ∧ ∃ l, m = acc ++ l ∧ Toks s k l := by
  intro f
  induction f with
  | zero => intro k acc m p hf h; cases h; exact ⟨rfl, [], by simp, by show s.length ≤ k; omega⟩
  | succ f ih =>
    intro k acc m p hf h
    unfold tokensF at h
    by_cases hk : k < s.length
    · rw [if_pos hk] at h
      cases ht : token s k with
      | none => rw [ht] at h; cases h
      | some x =>
        rw [ht] at h
        dsimp only at h
        by_cases h9 : acc.length = 900
        · rw [if_pos h9] at h; cases h
        · rw [if_neg h9] at h
          have hfit := token_fits s k x hk ht
          have hge := behind_ge [3] s (k + x.text.size)
          obtain ⟨hp, l, e, hl⟩ := ih _ _ m p (by omega) h
          exact ⟨hp, x :: l, by rw [e]; simp, hk, ht, hl⟩
    · rw [if_neg hk] at h
      cases h
      exact ⟨rfl, [], by simp, by show s.length ≤ k; omega⟩
theorem toks_tokensF (s : List UInt8) : ∀ l f k acc, s.length < k + f → Toks s k l → acc.length + l.length ≤ 900 → tokensF f s k acc = (acc ++ l, 0, 0) := by
  intro l
  induction l with
  | nil =>
    intro f k acc hf h _
    have h' : s.length ≤ k := h
    cases f with
    | zero => simp [tokensF]
    | succ f => unfold tokensF; rw [if_neg (by omega)]; simp
  | cons x l ih =>
    intro f k acc hf h hl
    obtain ⟨hk, ht, h2⟩ := h
    cases f with
    | zero => omega
    | succ f =>
      have hfit := token_fits s k x hk ht
      have hge := behind_ge [3] s (k + x.text.size)
      unfold tokensF
      rw [if_pos hk, ht]
      dsimp only
      rw [List.length_cons] at hl
      rw [if_neg (by omega), ih f _ _ (by omega) h2 (by rw [List.length_append, List.length_singleton]; omega)]
      simp
theorem scan_toks (s : List UInt8) (l : List Lx) (p : Nat) (h : scan s = (l, p, 0)) : (fault s).2 = 0 ∧ p = 0 ∧ Toks (blank s) (behind [3] (blank s) 0) l ∧ l.length ≤ 900 := by
  have hf := scan_fine s
  rw [h] at hf
  unfold scan at h
  by_cases h0 : (fault s).2 = 0
  · rw [if_pos h0] at h
    obtain ⟨hp, l', e, ht⟩ := tokensF_toks (blank s) _ _ [] l p (by omega) h
    subst hp
    rw [List.nil_append] at e
    subst e
    exact ⟨h0, rfl, ht, hf.2.1⟩
  · rw [if_neg h0] at h
    have := congrArg (fun x => x.2.2) h
    exact absurd this h0
theorem toks_scan (s : List UInt8) (l : List Lx) (h0 : (fault s).2 = 0) (h : Toks (blank s) (behind [3] (blank s) 0) l) (hl : l.length ≤ 900) : scan s = (l, 0, 0) := by
  unfold scan tokens
  rw [if_pos h0, toks_tokensF (blank s) l _ _ [] (by omega) h (by simpa using hl)]
  simp

/-- A token's own text, with its kind. -/
def IsTok (a : List UInt8) (kd : Int) : Prop := a ≠ [] ∧ tokText a 0 = a ∧ (tokKind a 0 : Int) = kd ∧ kd ≠ 0
theorem lead_stop_iff (P : List Nat) (a : List UInt8) (c : UInt8) (r : List UInt8) : leadI (fun _ c => P.contains (cls c)) 0 (a ++ c :: r) = a.length ↔ leadI (fun _ c => P.contains (cls c)) 0 (a ++ [c]) = a.length := by
  have key : ∀ (a : List UInt8) (i : Nat) (r r' : List UInt8), leadI (fun _ c => P.contains (cls c)) i (a ++ c :: r) = i + a.length → leadI (fun _ c => P.contains (cls c)) i (a ++ c :: r') = i + a.length := by
    intro a
    induction a with
    | nil =>
      intro i r r' h
      simp only [List.nil_append, leadI, List.length_nil, Nat.add_zero] at h ⊢
      split at h
      · have := leadI_ge (fun _ c => P.contains (cls c)) r (i + 1); omega
      · rename_i hc; rw [if_neg hc]
    | cons x a ih =>
      intro i r r' h
      simp only [List.cons_append, leadI, List.length_cons] at h ⊢
      split at h
      · rename_i hc; rw [if_pos hc]; have := ih (i + 1) r r' (by omega); omega
      · omega
  constructor
  · intro h; have := key a 0 r [] (by omega); omega
  · intro h; have := key a 0 [] r (by omega); omega
theorem take_eq_left {α : Type} (a r : List α) (n : Nat) : (a ++ r).take n = a ↔ n = a.length ∨ (r = [] ∧ a.length ≤ n) := by
  constructor
  · intro h
    have hl := congrArg List.length h
    rw [List.length_take, List.length_append] at hl
    rcases Nat.lt_or_ge n a.length with q | q
    · omega
    · rcases Nat.eq_or_lt_of_le q with q | q
      · exact Or.inl q.symm
      · refine Or.inr ⟨List.length_eq_zero_iff.1 (by omega), by omega⟩
  · rintro (rfl | ⟨rfl, h⟩)
    · simp
    · rw [List.append_nil]; exact List.take_of_length_le h
theorem prefix_long (g a b : List UInt8) (h : g.length ≤ a.length) (r : List UInt8) (e : b = a ++ r) : g.isPrefixOf b = g.isPrefixOf a := by
  subst e
  rw [Bool.eq_iff_iff, List.isPrefixOf_iff_prefix, List.isPrefixOf_iff_prefix]
  constructor
  · intro hp; exact List.prefix_of_prefix_length_le hp (List.prefix_append a r) h
  · intro hp; exact hp.trans (List.prefix_append a r)
theorem sg_short2 : ∀ g, g ∈ signs → g.length ≤ 2 := by decide
theorem sign_long (a r : List UInt8) (h : 2 ≤ a.length) : sign (a ++ r) = sign a := by
  unfold sign
  rw [find_congr (fun g => g.isPrefixOf (a ++ r)) (fun g => g.isPrefixOf a) signs (fun g hg => prefix_long g a _ (Nat.le_trans (sg_short2 g hg) h) r rfl)]
/-- Whether a token's text stands by itself is told by the one byte behind it. -/
theorem tok_loc (a : List UInt8) (ha : a ≠ []) (c : UInt8) (r : List UInt8) : tokText (a ++ c :: r) 0 = a ↔ tokText (a ++ [c]) 0 = a := by
  obtain ⟨x, a', rfl⟩ := List.exists_cons_of_ne_nil ha
  have hrun : ∀ P : List Nat, ∀ r : List UInt8, ((((x :: a') ++ c :: r).take (behind P ((x :: a') ++ c :: r) 0)).drop 0 = x :: a') ↔ leadI (fun _ c => P.contains (cls c)) 0 ((x :: a') ++ c :: r) = (x :: a').length := by
    intro P r
    unfold behind
    rw [List.drop_zero, List.drop_zero, Nat.zero_add, take_eq_left]
    simp
  have g1 : ∀ r : List UInt8, ((x :: a') ++ r).getD 0 0 = x := fun r => rfl
  unfold tokText
  rw [g1, g1]
  split
  · rw [hrun, hrun, lead_stop_iff]
  · rw [hrun, hrun, lead_stop_iff]
  · have e : (x :: a') ++ c :: r = ((x :: a') ++ [c]) ++ r := by simp
    rw [List.drop_zero, List.drop_zero, e, sign_long _ r (by simp)]
theorem tok_kind_eq (a r : List UInt8) (ha : a ≠ []) (h : tokText (a ++ r) 0 = a) (h2 : tokText a 0 = a) : tokKind (a ++ r) 0 = tokKind a 0 := by
  obtain ⟨x, a', rfl⟩ := List.exists_cons_of_ne_nil ha
  have g1 : ∀ r : List UInt8, ((x :: a') ++ r).getD 0 0 = x := fun r => rfl
  have g2 : (x :: a').getD 0 0 = x := rfl
  unfold tokKind
  rw [g1, g2, h, h2]
/-- What a token is by itself it is with what stood behind it. -/
theorem tok_self (a r : List UInt8) (ha : a ≠ []) (h : tokText (a ++ r) 0 = a) : tokText a 0 = a := by
  cases r with
  | nil => rw [List.append_nil] at h; exact h
  | cons c r =>
    obtain ⟨x, a', rfl⟩ := List.exists_cons_of_ne_nil ha
    have g1 : ∀ r : List UInt8, ((x :: a') ++ r).getD 0 0 = x := fun r => rfl
    have g2 : (x :: a').getD 0 0 = x := rfl
    have hrun : ∀ P : List Nat, ((((x :: a') ++ c :: r).take (behind P ((x :: a') ++ c :: r) 0)).drop 0 = x :: a') → ((x :: a').take (behind P (x :: a') 0)).drop 0 = x :: a' := by
      intro P hh
      unfold behind at hh ⊢
      rw [List.drop_zero, List.drop_zero, Nat.zero_add, take_eq_left] at hh
      rw [List.drop_zero, List.drop_zero, Nat.zero_add]
      have hh2 : leadI (fun _ c => P.contains (cls c)) 0 ((x :: a') ++ c :: r) = (x :: a').length := by
        rcases hh with hh | ⟨hh, _⟩
        · exact hh
        · cases hh
      have hall : leadI (fun _ c => P.contains (cls c)) 0 (x :: a') = 0 + (x :: a').length := by
        apply leadI_all
        intro j hj
        have := leadI_before (fun _ c => P.contains (cls c)) ((x :: a') ++ c :: r) 0 j (by rw [List.length_append]; omega) (by rw [hh2]; omega)
        rw [List.getElem_append_left hj] at this
        exact this
      rw [hall]; simp
    unfold tokText at h ⊢
    rw [g1] at h
    rw [g2]
    split
    · rename_i e; rw [e] at h; exact hrun [1, 2] h
    · rename_i e; rw [e] at h; exact hrun [2] h
    · rename_i e1 e2
      have h' : sign ((x :: a') ++ c :: r) = x :: a' := by
        rw [List.drop_zero] at h
        split at h
        · rename_i e; exact absurd e e1
        · rename_i e; exact absurd e e2
        · exact h
      rw [List.drop_zero]
      unfold sign at h' ⊢
      cases hf : signs.find? (fun g => g.isPrefixOf ((x :: a') ++ c :: r)) with
      | none => rw [hf] at h'; cases h'
      | some g =>
        rw [hf, Option.getD_some] at h'
        subst h'
        obtain ⟨_, l1, l2, hs, hno⟩ := List.find?_eq_some_iff_append.1 hf
        have : signs.find? (fun g => g.isPrefixOf (x :: a')) = some (x :: a') := by
          rw [List.find?_eq_some_iff_append]
          refine ⟨by simp, l1, l2, hs, fun b hb => ?_⟩
          have hn := hno b hb
          rw [Bool.not_eq_true'] at hn ⊢
          cases hq : b.isPrefixOf (x :: a')
          · rfl
          · have := List.isPrefixOf_iff_prefix.2 ((List.isPrefixOf_iff_prefix.1 hq).trans (List.prefix_append (x :: a') (c :: r)))
            rw [this] at hn; cases hn
        rw [this]; rfl
theorem isTok_of (s : List UInt8) (k : Nat) (x : Lx) (hk : k < s.length) (h : token s k = some x) : IsTok x.text.data.toList x.kind ∧ x.pos = k ∧ tokText (s.drop k) 0 = x.text.data.toList ∧ s.drop k = x.text.data.toList ++ s.drop (k + x.text.size) := by
  have hfit := token_fits s k x hk h
  unfold token at h
  split at h
  · cases h
  · rename_i hkd
    cases h
    have hl : (str (tokText s k)).size = (tokText s k).length := str_size _
    show IsTok (tokText s k) (tokKind s k) ∧ (k : Int) = k ∧ tokText (s.drop k) 0 = tokText s k ∧ s.drop k = tokText s k ++ s.drop (k + (str (tokText s k)).size)
    have hfit2 : 1 ≤ (str (tokText s k)).size := hfit.1
    clear hfit
    have hpre := (tok_text s k (by omega)).1
    have hne : tokText s k ≠ [] := by intro e; rw [hl, e] at hfit2; simp at hfit2
    have hsp : s.drop k = tokText s k ++ s.drop (k + (tokText s k).length) := by
      conv => lhs; rw [← List.take_append_drop (tokText s k).length (s.drop k)]
      rw [← hpre, List.drop_drop]
    have ht := (tok_drop s k).1.symm
    have h2 : tokText (tokText s k) 0 = tokText s k := by
      have := ht
      rw [hsp] at this
      exact tok_self _ _ hne this
    refine ⟨⟨hne, h2, ?_, by omega⟩, rfl, ht, by rw [hl]; exact hsp⟩
    have h3 := (tok_drop s k).2
    rw [h3]
    have h4 : tokKind (s.drop k) 0 = tokKind (tokText s k ++ s.drop (k + (tokText s k).length)) 0 := by rw [← hsp]
    rw [h4]
    have h5 := tok_kind_eq (tokText s k) (s.drop (k + (tokText s k).length)) hne (by rw [← hsp]; exact ht) h2
    rw [h5]
theorem token_of (s : List UInt8) (k : Nat) (a : List UInt8) (kd : Int) (r : List UInt8) (hs : s.drop k = a ++ r) (h : IsTok a kd) (ht : tokText (a ++ r) 0 = a) : k < s.length ∧ token s k = some ⟨kd, str a, k⟩ := by
  obtain ⟨h1, h2, h3, h4⟩ := h
  have hl := congrArg List.length hs
  rw [List.length_drop, List.length_append] at hl
  have := List.length_pos_iff.2 h1
  refine ⟨by omega, ?_⟩
  have e1 : tokText s k = a := by rw [(tok_drop s k).1, hs, ht]
  have e2 : tokKind s k = tokKind a 0 := by rw [(tok_drop s k).2, hs]; exact tok_kind_eq a r h1 ht h2
  unfold token
  rw [e1, e2, if_neg (by omega), h3]
theorem sign_gap (c : UInt8) (l : List UInt8) (h : cls c = 3) : sign (c :: l) = [] := by
  have hc : c = 32 ∨ c = 10 := by
    unfold cls at h
    split at h
    · cases h
    · split at h
      · cases h
      · split at h
        · rename_i q
          rcases q with q | q
          · exact Or.inl (UInt8.toNat_inj.1 q)
          · exact Or.inr (UInt8.toNat_inj.1 q)
        · cases h
  rcases hc with rfl | rfl
  · simp [sign, signs, List.isPrefixOf]
  · simp [sign, signs, List.isPrefixOf]
theorem isTok_first (a : List UInt8) (kd : Int) (h : IsTok a kd) : ∃ c r, a = c :: r ∧ cls c ≠ 3 := by
  obtain ⟨h1, h2, h3, h4⟩ := h
  obtain ⟨c, r, rfl⟩ := List.exists_cons_of_ne_nil h1
  refine ⟨c, r, rfl, fun q => ?_⟩
  have g2 : (c :: r).getD 0 0 = c := rfl
  unfold tokText at h2
  rw [g2, q] at h2
  have h5 : sign ((c :: r).drop 0) = c :: r := h2
  rw [List.drop_zero, sign_gap c r q] at h5
  cases h5
end M
end Go.Proofs.YtamdcloahkacnaaGreatDoor
