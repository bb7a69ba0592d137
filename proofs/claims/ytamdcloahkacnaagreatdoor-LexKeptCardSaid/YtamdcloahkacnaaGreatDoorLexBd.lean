/- DERIVED. Plain: the bare text of a text's tokens has the same tokens, and none of its blanks can go. -/
import Derived.Test.YtamdcloahkacnaaGreatDoorLexBc
namespace Go.Proofs.YtamdcloahkacnaaGreatDoor
namespace M
def okTok (c : UInt8) : Prop := c ≠ 37 ∧ c ≠ 32 ∧ c ≠ 10 ∧ okByte c = true
theorem okTok_cls (c : UInt8) (h : cls c = 1 ∨ cls c = 2) : okTok c := by
  have hr : (97 ≤ c.toNat ∧ c.toNat ≤ 122) ∨ (48 ≤ c.toNat ∧ c.toNat ≤ 57) := by
    unfold cls at h
    split at h
    · left; assumption
    · split at h
      · right; assumption
      · split at h <;> omega
  refine ⟨?_, ?_, ?_, ?_⟩
  · rintro rfl; revert hr; decide
  · rintro rfl; revert hr; decide
  · rintro rfl; revert hr; decide
  · unfold okByte
    simp only [Bool.or_eq_true, beq_iff_eq, Bool.and_eq_true, decide_eq_true_eq]
    right; omega
theorem sg_okTok : ∀ g, g ∈ signs → ∀ x, x ∈ g → x ≠ 37 ∧ x ≠ 32 ∧ x ≠ 10 ∧ okByte x = true := by decide
theorem tok_bytes (s : List UInt8) (k : Nat) : ∀ x, x ∈ tokText s k → okTok x := by
  have hrun : ∀ P : List Nat, (∀ n, P.contains n = true → n = 1 ∨ n = 2) → ∀ x, x ∈ (s.take (behind P s k)).drop k → okTok x := fun P hP x hx => okTok_cls x (hP _ (behind_in P s k x hx))
  unfold tokText
  split
  · exact hrun [1, 2] (fun n h => by simpa using h)
  · exact hrun [2] (fun n h => by right; simpa using h)
  · intro x hx
    unfold sign at hx
    cases h : signs.find? fun g => g.isPrefixOf (s.drop k) with
    | none => rw [h] at hx; simp at hx
    | some g => rw [h] at hx; exact sg_okTok g (List.mem_of_find?_eq_some h) x hx
theorem isTok_bytes (a : List UInt8) (kd : Int) (h : IsTok a kd) : ∀ x, x ∈ a → okTok x := fun x hx => tok_bytes a 0 x (by rw [h.2.1]; exact hx)

/-- The blank before a token of a bare text; the bare text of tokens behind another one. -/
def gapB (p : Option Lx) (x : Lx) : List UInt8 := match p with
  | some a => if mustPart a.text.data.toList x.text.data.toList = true then [32] else []
  | none => []
def bareR : Option Lx → List Lx → List UInt8
  | _, [] => []
  | p, x :: l => gapB p x ++ x.text.data.toList ++ bareR (some x) l
def prevK (l : List Lx) (k : Nat) : Option Lx := match k with
  | 0 => none
  | k + 1 => l[k]?
theorem bare_split (l : List Lx) : ∀ k, k ≤ l.length → bareK l k ++ bareR (prevK l k) (l.drop k) = bareR none l := by
  intro k
  induction k with
  | zero => intro _; rfl
  | succ k ih =>
    intro h
    have hk : k < l.length := by omega
    rw [← ih (by omega), List.drop_eq_getElem_cons hk]
    have e1 : l[k]? = some l[k] := List.getElem?_eq_getElem hk
    have e2 : prevK l (k + 1) = some l[k] := e1
    have e3 : bareK l (k + 1) = bareK l k ++ (if gapK l k = true then [32] else []) ++ l[k].text.data.toList := by
      show bareK l k ++ (if gapK l k = true then [32] else []) ++ (match l[k]? with | some x => x.text.data.toList | none => []) = _
      rw [e1]
    have e4 : gapB (prevK l k) l[k] = if gapK l k = true then [32] else [] := by
      cases k with
      | zero => rfl
      | succ j =>
        have e5 : l[j]? = some l[j] := List.getElem?_eq_getElem (by omega)
        show gapB l[j]? l[j + 1] = if (match l[j]?, l[j + 1]? with | some a, some b => mustPart a.text.data.toList b.text.data.toList | _, _ => false) = true then [32] else []
        rw [e5, e1]; rfl
    rw [e2, e3]
    show _ = bareK l k ++ (gapB (prevK l k) l[k] ++ l[k].text.data.toList ++ bareR (some l[k]) (l.drop (k + 1)))
    rw [e4]; simp [List.append_assoc]
theorem bareK_eq (l : List Lx) : bareK l l.length = bareR none l := by
  have h := bare_split l l.length (Nat.le_refl _)
  rw [List.drop_length] at h
  have e : bareR (prevK l l.length) [] = [] := rfl
  rw [e, List.append_nil] at h
  exact h
def AllTok (l : List Lx) : Prop := ∀ x, x ∈ l → IsTok x.text.data.toList x.kind
theorem toks_all (s : List UInt8) : ∀ l k, Toks s k l → AllTok l := by
  intro l
  induction l with
  | nil => intro k _ x hx; simp at hx
  | cons y l ih =>
    intro k h x hx
    obtain ⟨hk, ht, h2⟩ := h
    rcases List.mem_cons.1 hx with rfl | hx
    · exact (isTok_of s k x hk ht).1
    · exact ih _ h2 x hx
theorem must_iff (a b : List UInt8) (kd : Int) (ha : IsTok a kd) (c : UInt8) (r : List UInt8) (hb : b = c :: r) : mustPart a b = false ↔ tokText (a ++ [c]) 0 = a := by
  rw [← tok_loc a ha.1 c r, ← hb]
  unfold mustPart token
  by_cases hk : tokKind (a ++ b) 0 = 0
  · rw [if_pos hk]
    constructor
    · intro h; cases h
    · intro h
      have := tok_kind_eq a b ha.1 h ha.2.1
      have h3 := ha.2.2.1
      have h4 := ha.2.2.2
      omega
  · rw [if_neg hk]
    dsimp only
    rw [str_list]
    simp
theorem pre_blank (g : List UInt8) (hg : ∀ x, x ∈ g → x ≠ 32) : ∀ a : List UInt8, g.isPrefixOf (a ++ [32]) = g.isPrefixOf a := by
  induction g with
  | nil => intro a; simp
  | cons x g ih =>
    intro a
    cases a with
    | nil =>
      have : (x == 32) = false := by simpa using hg x List.mem_cons_self
      simp [List.isPrefixOf, this]
    | cons c a =>
      rw [List.cons_append]
      simp only [List.isPrefixOf]
      rw [ih (fun y hy => hg y (List.mem_cons_of_mem _ hy)) a]
theorem tok_blank (a : List UInt8) (kd : Int) (h : IsTok a kd) : tokText (a ++ [32]) 0 = a := by
  obtain ⟨h1, h2, _, _⟩ := h
  obtain ⟨x, a', rfl⟩ := List.exists_cons_of_ne_nil h1
  have g1 : ∀ r : List UInt8, ((x :: a') ++ r).getD 0 0 = x := fun r => rfl
  have g2 : (x :: a').getD 0 0 = x := rfl
  have hrun : ∀ P : List Nat, P.contains 3 = false → ((x :: a').take (behind P (x :: a') 0)).drop 0 = x :: a' → (((x :: a') ++ [32]).take (behind P ((x :: a') ++ [32]) 0)).drop 0 = x :: a' := by
    intro P h3 hh
    unfold behind at hh ⊢
    rw [List.drop_zero, List.drop_zero, Nat.zero_add] at hh ⊢
    have hle := leadI_le (fun _ c => P.contains (cls c)) (x :: a') 0
    have hlen := congrArg List.length hh
    rw [List.length_take] at hlen
    have hst := leadI_stop (fun _ c => P.contains (cls c)) ((x :: a') ++ [32]) 0 (x :: a').length (by simp) (fun j hj => by
      rw [List.getElem_append_left hj]
      exact leadI_before (fun _ c => P.contains (cls c)) (x :: a') 0 j hj (by omega)) (by
      rw [List.getElem_append_right (Nat.le_refl _)]
      simp only [Nat.sub_self, List.getElem_cons_zero]
      exact h3)
    rw [hst]; simp
  unfold tokText at h2 ⊢
  rw [g2] at h2
  rw [g1]
  split
  · rename_i e; rw [e] at h2; exact hrun [1, 2] (by decide) h2
  · rename_i e; rw [e] at h2; exact hrun [2] (by decide) h2
  · rename_i e1 e2
    have h' : sign (x :: a') = x :: a' := by
      rw [List.drop_zero] at h2
      split at h2
      · rename_i e; exact absurd e e1
      · rename_i e; exact absurd e e2
      · exact h2
    rw [List.drop_zero]
    unfold sign at h' ⊢
    rw [find_congr (α := List UInt8) (fun g => g.isPrefixOf ((x :: a') ++ [32])) (fun g => g.isPrefixOf (x :: a')) signs (fun g hg => pre_blank g (fun y hy => (sg_okTok g hg y hy).2.1) _)]
    exact h'
/-- A token of a bare text is read as it is. -/
theorem bare_next (x : Lx) (l : List Lx) (h : AllTok (x :: l)) : tokText (x.text.data.toList ++ bareR (some x) l) 0 = x.text.data.toList := by
  have hx := h x List.mem_cons_self
  cases l with
  | nil =>
    have e : bareR (some x) [] = [] := rfl
    rw [e, List.append_nil]; exact hx.2.1
  | cons y l =>
    have hy := h y (List.mem_cons_of_mem _ List.mem_cons_self)
    obtain ⟨c, r, hc, _⟩ := isTok_first _ _ hy
    have e : bareR (some x) (y :: l) = gapB (some x) y ++ y.text.data.toList ++ bareR (some y) l := rfl
    cases hm : mustPart x.text.data.toList y.text.data.toList
    · have e2 : gapB (some x) y = [] := by unfold gapB; dsimp only; rw [hm]; rfl
      rw [e, e2, hc, List.nil_append, List.cons_append]
      rw [tok_loc _ hx.1]
      exact (must_iff _ _ _ hx c r hc).1 hm
    · have e2 : gapB (some x) y = [32] := by unfold gapB; dsimp only; rw [hm]; rfl
      rw [e, e2, List.append_assoc, List.cons_append, List.nil_append]
      rw [tok_loc _ hx.1]
      exact tok_blank _ _ hx
theorem gapB_two (o : Option Lx) (x : Lx) : gapB o x = [] ∨ gapB o x = [32] := by
  unfold gapB
  split
  · split
    · exact Or.inr rfl
    · exact Or.inl rfl
  · exact Or.inl rfl
theorem gap_end (t : List UInt8) (q : Nat) (g : List UInt8) (hg : g = [] ∨ g = [32]) (c : UInt8) (r : List UInt8) (h : t.drop q = g ++ c :: r) (hc : cls c ≠ 3) : behind [3] t q = q + g.length := by
  have hc2 : ([3].contains (cls c)) = false := by simpa using fun e => hc e
  unfold behind
  rw [h]
  rcases hg with rfl | rfl
  · rw [List.nil_append, leadI, if_neg (by rw [hc2]; decide)]; rfl
  · rw [List.cons_append, List.nil_append, leadI, if_pos (by decide), leadI, if_neg (by rw [hc2]; decide)]; rfl
/-- Tokens with the places that they have in the bare text. -/
def placed : Nat → Option Lx → List Lx → List Lx
  | _, _, [] => []
  | p, o, x :: l => ⟨x.kind, x.text, ((p + (gapB o x).length : Nat) : Int)⟩ :: placed (p + (gapB o x).length + x.text.size) (some x) l
theorem bare_toks (t : List UInt8) : ∀ l o p, AllTok l → p ≤ t.length → t.drop p = bareR o l → Toks t (behind [3] t p) (placed p o l) := by
  intro l
  induction l with
  | nil =>
    intro o p _ hp h
    have h' : t.drop p = [] := h
    have := behind_ge [3] t p
    have hl := congrArg List.length h'
    rw [List.length_drop, List.length_nil] at hl
    show t.length ≤ _
    omega
  | cons x l ih =>
    intro o p ha hp h
    have hx := ha x List.mem_cons_self
    obtain ⟨c, r, hc, hcl⟩ := isTok_first _ _ hx
    have h' : t.drop p = gapB o x ++ x.text.data.toList ++ bareR (some x) l := h
    have hg : behind [3] t p = p + (gapB o x).length := gap_end t p (gapB o x) (gapB_two o x) c (r ++ bareR (some x) l) (by rw [h', hc]; simp) hcl
    have hd : t.drop (p + (gapB o x).length) = x.text.data.toList ++ bareR (some x) l := by
      rw [← List.drop_drop, h', List.append_assoc, List.drop_left]
    obtain ⟨k1, k2⟩ := token_of t (p + (gapB o x).length) x.text.data.toList x.kind (bareR (some x) l) hd hx (bare_next x l ha)
    have hz := size_list x.text
    have hlen := congrArg List.length hd
    rw [List.length_drop, List.length_append] at hlen
    rw [hg]
    refine ⟨k1, by rw [k2, list_str], ?_⟩
    refine ih (some x) (p + (gapB o x).length + x.text.size) (fun y hy => ha y (List.mem_cons_of_mem _ hy)) (by omega) ?_
    rw [← List.drop_drop, hd, ← hz, List.drop_left]

/-- Whether two lists of tokens are the same but for places. -/
def alikeK (l : List Lx) : List (Int × ByteArray) := l.map fun x => (x.kind, x.text)
theorem placed_alike (l : List Lx) : ∀ p o, alikeK (placed p o l) = alikeK l := by
  induction l with
  | nil => intro p o; rfl
  | cons x l ih =>
    intro p o
    show (x.kind, x.text) :: alikeK (placed _ (some x) l) = (x.kind, x.text) :: alikeK l
    rw [ih]
theorem bare_short (s : List UInt8) : ∀ l x k, Toks s k (x :: l) → k + x.text.size + (bareR (some x) l).length ≤ s.length := by
  intro l
  induction l with
  | nil =>
    intro x k h
    have := token_fits s k x h.1 h.2.1
    have e : bareR (some x) [] = [] := rfl
    rw [e, List.length_nil]; omega
  | cons y l ih =>
    intro x k h
    obtain ⟨hk, ht, h2⟩ := h
    have hi := ih y _ h2
    have hge := behind_ge [3] s (k + x.text.size)
    obtain ⟨hx, _, h3, h4⟩ := isTok_of s k x hk ht
    have hzy := size_list y.text
    have e : (bareR (some x) (y :: l)).length = (gapB (some x) y).length + y.text.size + (bareR (some y) l).length := by
      show (gapB (some x) y ++ y.text.data.toList ++ bareR (some y) l).length = _
      rw [List.length_append, List.length_append, hzy]
    rw [e]
    have hkey : (gapB (some x) y).length ≤ behind [3] s (k + x.text.size) - (k + x.text.size) := by
      cases hm : mustPart x.text.data.toList y.text.data.toList
      · have e2 : gapB (some x) y = [] := by unfold gapB; dsimp only; rw [hm]; rfl
        rw [e2]; simp
      · have e2 : gapB (some x) y = [32] := by unfold gapB; dsimp only; rw [hm]; rfl
        rw [e2]
        rcases Nat.eq_or_lt_of_le hge with q | q
        · exfalso
          obtain ⟨hk2, ht2, _⟩ := h2
          rw [← q] at hk2 ht2
          obtain ⟨hy, _, _, g4⟩ := isTok_of s _ y hk2 ht2
          obtain ⟨c, r, hc, _⟩ := isTok_first _ _ hy
          rw [h4, g4, hc, List.cons_append] at h3
          have := (must_iff _ _ _ hx c r hc).2 ((tok_loc _ hx.1 c _).1 h3)
          rw [hm] at this; cases this
        · rw [List.length_singleton]; omega
    omega
theorem bare_le (s : List UInt8) (l : List Lx) (k : Nat) (h : Toks s k l) : (bareR none l).length ≤ s.length := by
  cases l with
  | nil => show 0 ≤ _; omega
  | cons x l =>
    have := bare_short s l x k h
    have hz := size_list x.text
    show (gapB none x ++ x.text.data.toList ++ bareR (some x) l).length ≤ _
    have e : gapB none x = [] := rfl
    rw [e, List.nil_append, List.length_append, hz]; omega
theorem bare_many (l : List Lx) : ∀ o, AllTok l → l.length ≤ (bareR o l).length := by
  induction l with
  | nil => intro o _; simp
  | cons x l ih =>
    intro o h
    have hx := h x List.mem_cons_self
    have h1 := List.length_pos_iff.2 hx.1
    have h2 := ih (some x) (fun y hy => h y (List.mem_cons_of_mem _ hy))
    show l.length + 1 ≤ (gapB o x ++ x.text.data.toList ++ bareR (some x) l).length
    rw [List.length_append, List.length_append]; omega
theorem bare_bytes (l : List Lx) : ∀ o, AllTok l → ∀ c, c ∈ bareR o l → c = 32 ∨ okTok c := by
  induction l with
  | nil => intro o _ c hc; exact absurd hc (by show ¬ c ∈ ([] : List UInt8); simp)
  | cons x l ih =>
    intro o h c hc
    have hc' : c ∈ gapB o x ++ x.text.data.toList ++ bareR (some x) l := hc
    rw [List.mem_append, List.mem_append] at hc'
    rcases hc' with (hc' | hc') | hc'
    · rcases gapB_two o x with e | e
      · rw [e] at hc'; simp at hc'
      · rw [e] at hc'; left; simpa using hc'
    · exact Or.inr (isTok_bytes _ _ (h x List.mem_cons_self) c hc')
    · exact ih (some x) (fun y hy => h y (List.mem_cons_of_mem _ hy)) c hc'
theorem bl_id (l : List UInt8) (h : ∀ c, c ∈ l → c ≠ 37) : bl false l = l := by
  induction l with
  | nil => rfl
  | cons c l ih => rw [bl_cons c l (h c List.mem_cons_self), ih (fun x hx => h x (List.mem_cons_of_mem _ hx))]
theorem fault_none (l : List UInt8) (hl : l.length ≤ 2500) (h : ∀ c, c ∈ l → okByte c = true) : (fault l).2 = 0 := by
  have hb : badAt l = l.length := by
    unfold badAt
    rw [leadI_all (fun _ c => okByte c) l 0 (fun j hj => h _ (List.getElem_mem hj)), Nat.zero_add]
  unfold fault
  rw [if_neg (by omega), hb, if_neg (by omega)]
theorem isTok_kindOf (a : List UInt8) (kd : Int) (h : IsTok a kd) : kindOf a = kd := by
  obtain ⟨h1, h2, h3, h4⟩ := h
  unfold kindOf token
  rw [if_neg h1, if_neg (by omega)]
  dsimp only
  rw [str_list, h2, if_pos rfl, h3]
theorem okLx_of (l : List Lx) (h : AllTok l) : l.all okLx = true := by
  rw [List.all_eq_true]
  intro x hx
  have hx' := h x hx
  unfold okLx
  rw [isTok_kindOf _ _ hx']
  have := hx'.2.2.2
  simp [this]
/-- The bare text of a text's tokens: it is joined without error, is not longer, and has the same tokens. -/
theorem again_ok (s : List UInt8) (l : List Lx) (p : Nat) (h : scan s = (l, p, 0)) :
    join l = (str (bareR none l), 0) ∧ (bareR none l).length ≤ s.length ∧ l.length ≤ s.length ∧ s.length ≤ 2500 ∧ scan (bareR none l) = (placed 0 none l, 0, 0) ∧ AllTok l := by
  obtain ⟨h0, _, ht, hl⟩ := scan_toks s l p h
  have hs := fault_small s h0
  have ha := toks_all _ _ _ ht
  have hle := bare_le _ _ _ ht
  rw [blank_len] at hle
  have hm := bare_many l none ha
  have hby := bare_bytes l none ha
  have hf : (fault (bareR none l)).2 = 0 := fault_none _ (by omega) (fun c hc => by
    rcases hby c hc with rfl | q
    · decide
    · exact q.2.2.2)
  have hbl : blank (bareR none l) = bareR none l := by
    rw [blank_bl]
    exact bl_id _ (fun c hc => by
      rcases hby c hc with rfl | q
      · decide
      · exact q.1)
  refine ⟨?_, hle, by omega, hs, ?_, ha⟩
  · unfold join
    rw [if_neg (by omega), okLx_of l ha, if_neg (by decide), bareK_eq, if_neg (by omega)]
  · refine toks_scan _ _ hf ?_ ?_
    · rw [hbl]
      exact bare_toks _ l none 0 ha (by omega) (by rw [List.drop_zero])
    · have := congrArg List.length (placed_alike l 0 none)
      unfold alikeK at this
      rw [List.length_map, List.length_map] at this
      omega
theorem erase_left (a b : List UInt8) (i : Nat) (h : a.length ≤ i) : (a ++ b).eraseIdx i = a ++ b.eraseIdx (i - a.length) := List.eraseIdx_append_of_length_le h b
theorem bare_cut : ∀ (l : List Lx) (x : Lx) (i : Nat) (t : List UInt8) (p : Nat) (n : List Lx), AllTok (x :: l) → (x.text.data.toList ++ bareR (some x) l)[i]? = some 32 → t.drop p = (x.text.data.toList ++ bareR (some x) l).eraseIdx i → Toks t p n → alikeK n = alikeK (x :: l) → False := by
  intro l
  induction l with
  | nil =>
    intro x i t p n ha hi _ _ _
    have e : bareR (some x) [] = [] := rfl
    rw [e, List.append_nil] at hi
    exact (isTok_bytes _ _ (ha x List.mem_cons_self) 32 (List.mem_of_getElem? hi)).2.1 rfl
  | cons y l ih =>
    intro x i t p n ha hi ht hn hal
    have hx := ha x List.mem_cons_self
    have hy := ha y (List.mem_cons_of_mem _ List.mem_cons_self)
    obtain ⟨c, r, hc, hcl⟩ := isTok_first _ _ hy
    have e : bareR (some x) (y :: l) = gapB (some x) y ++ (y.text.data.toList ++ bareR (some y) l) := by
      show gapB (some x) y ++ y.text.data.toList ++ bareR (some y) l = _
      rw [List.append_assoc]
    rw [e] at hi ht
    have hix : x.text.data.toList.length ≤ i := by
      rcases Nat.lt_or_ge i x.text.data.toList.length with q | q
      · exfalso
        rw [List.getElem?_append_left q] at hi
        exact (isTok_bytes _ _ hx 32 (List.mem_of_getElem? hi)).2.1 rfl
      · exact q
    rw [List.getElem?_append_right hix] at hi
    rw [erase_left _ _ _ hix] at ht
    cases n with
    | nil => cases hal
    | cons x' n =>
      have hal2 : (x'.kind, x'.text) :: alikeK n = (x.kind, x.text) :: alikeK (y :: l) := hal
      obtain ⟨hh1, hh2⟩ := List.cons.inj hal2
      have hxt : x'.text = x.text := (Prod.mk.inj hh1).2
      obtain ⟨hk, htk, hn2⟩ := hn
      obtain ⟨_, _, h3, _⟩ := isTok_of t p x' hk htk
      rw [hxt, ht] at h3
      cases hm : mustPart x.text.data.toList y.text.data.toList
      · have e2 : gapB (some x) y = [] := by unfold gapB; dsimp only; rw [hm]; rfl
        rw [e2, List.nil_append] at hi ht
        have hi0 : i - x.text.data.toList.length ≠ 0 := by
          intro q
          rw [q, hc, List.cons_append, List.getElem?_cons_zero] at hi
          cases hi
          exact hcl (by decide)
        have hd : t.drop (p + x.text.size) = (y.text.data.toList ++ bareR (some y) l).eraseIdx (i - x.text.data.toList.length) := by
          rw [← List.drop_drop, ht, ← size_list x.text, List.drop_left]
        have hb : behind [3] t (p + x'.text.size) = p + x.text.size := by
          rw [hxt]
          obtain ⟨m, hm2⟩ : ∃ m, i - x.text.data.toList.length = m + 1 := ⟨_, (Nat.succ_pred hi0).symm⟩
          have := gap_end t (p + x.text.size) [] (Or.inl rfl) c ((r ++ bareR (some y) l).eraseIdx m) (by rw [hd, hm2, hc, List.cons_append, List.eraseIdx_cons_succ]; rfl) hcl
          rw [this]; simp
        rw [hb] at hn2
        exact ih y _ t _ n (fun z hz => ha z (List.mem_cons_of_mem _ hz)) hi hd hn2 hh2
      · have e2 : gapB (some x) y = [32] := by unfold gapB; dsimp only; rw [hm]; rfl
        rw [e2, List.cons_append, List.nil_append] at hi ht h3
        rcases Nat.eq_zero_or_pos (i - x.text.data.toList.length) with q | q
        · rw [q, List.eraseIdx_cons_zero, hc, List.cons_append] at h3
          have := (must_iff _ _ _ hx c r hc).2 ((tok_loc _ hx.1 c _).1 h3)
          rw [hm] at this; cases this
        · obtain ⟨m, hm2⟩ : ∃ m, i - x.text.data.toList.length = m + 1 := ⟨_, (Nat.succ_pred (Nat.pos_iff_ne_zero.1 q)).symm⟩
          rw [hm2, List.getElem?_cons_succ] at hi
          rw [hm2, List.eraseIdx_cons_succ] at ht
          have hm0 : m ≠ 0 := by
            intro q
            rw [q, hc, List.cons_append, List.getElem?_cons_zero] at hi
            cases hi
            exact hcl (by decide)
          have hd : t.drop (p + x.text.size) = 32 :: (y.text.data.toList ++ bareR (some y) l).eraseIdx m := by
            rw [← List.drop_drop, ht, ← size_list x.text, List.drop_left]
          obtain ⟨m', hm3⟩ : ∃ m', m = m' + 1 := ⟨_, (Nat.succ_pred hm0).symm⟩
          have hb : behind [3] t (p + x'.text.size) = p + x.text.size + 1 := by
            rw [hxt]
            have := gap_end t (p + x.text.size) [32] (Or.inr rfl) c ((r ++ bareR (some y) l).eraseIdx m') (by rw [hd, hm3, hc, List.cons_append, List.eraseIdx_cons_succ]; rfl) hcl
            rw [this]; simp
          rw [hb] at hn2
          have hd2 : t.drop (p + x.text.size + 1) = (y.text.data.toList ++ bareR (some y) l).eraseIdx m := by
            rw [← List.drop_drop, hd]; rfl
          exact ih y _ t _ n (fun z hz => ha z (List.mem_cons_of_mem _ hz)) hi hd2 hn2 hh2
/-- Without any one of its blanks a bare text has other tokens, or none. -/
theorem again_cut (l : List Lx) (ha : AllTok l) (i : Nat) (hi : (bareR none l)[i]? = some 32) (n : List Lx) (p : Nat) (h : scan ((bareR none l).eraseIdx i) = (n, p, 0)) : alikeK n ≠ alikeK l := by
  intro hal
  cases l with
  | nil => have : ([] : List UInt8)[i]? = some 32 := hi; simp at this
  | cons x l =>
    have hx := ha x List.mem_cons_self
    obtain ⟨c, r, hc, hcl⟩ := isTok_first _ _ hx
    have e : bareR none (x :: l) = x.text.data.toList ++ bareR (some x) l := by
      show gapB none x ++ x.text.data.toList ++ bareR (some x) l = _
      rfl
    obtain ⟨_, _, ht, _⟩ := scan_toks _ n p h
    have hbl : blank ((bareR none (x :: l)).eraseIdx i) = (bareR none (x :: l)).eraseIdx i := by
      rw [blank_bl]
      exact bl_id _ (fun d hd => by
        rcases bare_bytes (x :: l) none ha d (List.mem_of_mem_eraseIdx hd) with rfl | q
        · decide
        · exact q.1)
    rw [hbl] at ht
    have hi0 : i ≠ 0 := by
      intro q
      rw [q, e, hc, List.cons_append, List.getElem?_cons_zero] at hi
      cases hi
      exact hcl (by decide)
    obtain ⟨m, rfl⟩ : ∃ m, i = m + 1 := ⟨_, (Nat.succ_pred hi0).symm⟩
    have hb : behind [3] ((bareR none (x :: l)).eraseIdx (m + 1)) 0 = 0 := by
      have := gap_end ((bareR none (x :: l)).eraseIdx (m + 1)) 0 [] (Or.inl rfl) c ((r ++ bareR (some x) l).eraseIdx m) (by rw [List.drop_zero, e, hc, List.cons_append, List.eraseIdx_cons_succ]; rfl) hcl
      rw [this]; rfl
    rw [hb] at ht
    exact bare_cut l x (m + 1) _ 0 n ha (by rw [← e]; exact hi) (by rw [List.drop_zero, e]) ht hal
end M
end Go.Proofs.YtamdcloahkacnaaGreatDoor
