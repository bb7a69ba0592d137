/- DERIVED. Plain: what an edit leaves of the tokens of a text. -/
import Derived.Test.YtamdcloahkacnaaGreatDoorLexBd
import Derived.Test.YtamdcloahkacnaaGreatDoorLexBu
namespace Go.Proofs.YtamdcloahkacnaaGreatDoor
namespace M
theorem toks_ge (s : List UInt8) : ∀ l k, Toks s k l → ∀ y, y ∈ l → (k : Int) ≤ y.pos := by
  intro l
  induction l with
  | nil => intro k _ y hy; simp at hy
  | cons x l ih =>
    intro k h y hy
    obtain ⟨hk, ht, h2⟩ := h
    have hp := (isTok_of s k x hk ht).2.1
    rcases List.mem_cons.1 hy with rfl | hy
    · omega
    · have h3 := ih _ h2 y hy
      have h4 := behind_ge [3] s (k + x.text.size)
      omega
theorem toks_sorted (s : List UInt8) : ∀ l k, Toks s k l → ∀ i j, (hi : i < l.length) → (hj : j < l.length) → i < j → l[i].pos + (l[i].text.size : Int) ≤ l[j].pos := by
  intro l
  induction l with
  | nil => intro k _ i j hi; simp at hi
  | cons x l ih =>
    intro k h i j hi hj hij
    obtain ⟨hk, ht, h2⟩ := h
    have hp := (isTok_of s k x hk ht).2.1
    cases j with
    | zero => omega
    | succ j =>
      have hj' : j < l.length := by simpa using hj
      cases i with
      | zero =>
        have h3 := toks_ge s l _ h2 l[j] (List.getElem_mem hj')
        have h4 := behind_ge [3] s (k + x.text.size)
        show x.pos + (x.text.size : Int) ≤ l[j].pos
        omega
      | succ i => exact ih _ h2 i j (by simpa using hi) hj' (by omega)
theorem toks_same (s : List UInt8) : ∀ l m k, Toks s k l → Toks s k m → l = m := by
  intro l
  induction l with
  | nil =>
    intro m k h1 h2
    cases m with
    | nil => rfl
    | cons y m =>
      have h3 : s.length ≤ k := h1
      have := h2.1
      omega
  | cons x l ih =>
    intro m k h1 h2
    cases m with
    | nil =>
      have h3 : s.length ≤ k := h2
      have := h1.1
      omega
    | cons y m =>
      obtain ⟨_, e1, r1⟩ := h1
      obtain ⟨_, e2, r2⟩ := h2
      have e : x = y := Option.some.inj (e1.symm.trans e2)
      subst e
      rw [ih m _ r1 r2]
theorem toks_shift (s t : List UInt8) (i i' : Nat) (d : Int) (hd : d = (i' : Int) - (i : Int)) (h : s.drop i = t.drop i') : ∀ l n, Toks s (i + n) l → Toks t (i' + n) (l.map fun x => moved x d) := by
  have hdr : ∀ n, s.drop (i + n) = t.drop (i' + n) := fun n => by
    have := congrArg (fun z => z.drop n) h
    simpa [List.drop_drop] using this
  have hlen : ∀ n, (s.length ≤ i + n ↔ t.length ≤ i' + n) := fun n => by
    have := congrArg List.length (hdr n)
    rw [List.length_drop, List.length_drop] at this
    omega
  intro l
  induction l with
  | nil => intro n h; exact (hlen n).1 h
  | cons x l ih =>
    intro n h
    obtain ⟨hk, ht, h2⟩ := h
    have hk' : i' + n < t.length := by have := hlen n; omega
    have htt : tokText t (i' + n) = tokText s (i + n) := by rw [(tok_drop t (i' + n)).1, (tok_drop s (i + n)).1, hdr n]
    have htk : tokKind t (i' + n) = tokKind s (i + n) := by rw [(tok_drop t (i' + n)).2, (tok_drop s (i + n)).2, hdr n]
    have hx : token t (i' + n) = some (moved x d) := by
      unfold token at ht ⊢
      rw [htt, htk]
      split at ht
      · cases ht
      · rename_i hz
        rw [if_neg hz]
        cases ht
        unfold moved
        simp only [Option.some.injEq, Lx.mk.injEq, true_and]
        rw [hd]; simp only [Int.natCast_add]; omega
    refine ⟨hk', hx, ?_⟩
    have hb : ∀ m, behind [3] t (i' + m) = i' + (behind [3] s (i + m) - i) ∧ i ≤ behind [3] s (i + m) := fun m => by
      unfold behind
      rw [hdr m]; omega
    have e1 : i + n + x.text.size = i + (n + x.text.size) := by omega
    rw [e1] at h2
    have e2 : i' + n + (moved x d).text.size = i' + (n + x.text.size) := by show i' + n + x.text.size = i' + (n + x.text.size); omega
    rw [e2, (hb _).1]
    refine ih _ ?_
    have e3 : i + (behind [3] s (i + (n + x.text.size)) - i) = behind [3] s (i + (n + x.text.size)) := by have := (hb (n + x.text.size)).2; omega
    rw [e3]; exact h2
theorem behind_mem (P : List Nat) (s : List UInt8) (e i : Nat) (h1 : e ≤ i) (h2 : i < behind P s e) (h3 : i < s.length) : P.contains (cls s[i]) = true := by
  have h4 := leadI_before (fun _ c => P.contains (cls c)) (s.drop e) 0 (i - e) (by rw [List.length_drop]; omega) (by unfold behind at h2; omega)
  rw [List.getElem_drop] at h4
  have q : e + (i - e) = i := by omega
  simp only [q] at h4
  exact h4
theorem behind_mid (P : List Nat) (s : List UInt8) (e f : Nat) (he : e ≤ s.length) (h1 : e ≤ f) (h2 : f ≤ behind P s e) : behind P s f = behind P s e := by
  have hle := behind_le P s e he
  rcases Nat.lt_or_ge (behind P s e) s.length with h | h
  · have h3 := behind_end P s e h
    have e1 : f + (behind P s e - f) = behind P s e := by omega
    rw [behind_stop P s f (behind P s e - f) (by omega) (fun j hj hj2 => behind_mem P s e (f + j) (by omega) (by omega) hj) (by simp only [e1]; exact h3)]
    exact e1
  · rw [behind_all P s f (s.length - f) (by omega) (by omega) (fun j hj hj2 => behind_mem P s e (f + j) (by omega) (by omega) hj)]
    omega
theorem get_agree {s t : List UInt8} {a i : Nat} (hag : ∀ i, i < a → s[i]? = t[i]?) (hi : i < a) (h1 : i < s.length) (h2 : i < t.length) : s[i] = t[i] := by
  have h := hag i hi
  rw [List.getElem?_eq_getElem h1, List.getElem?_eq_getElem h2] at h
  exact Option.some.inj h
theorem behind_agree (P : List Nat) (s t : List UInt8) (e a : Nat) (ht : a ≤ t.length) (hag : ∀ i, i < a → s[i]? = t[i]?) (h : behind P s e < a) (hs : behind P s e < s.length) : behind P t e = behind P s e := by
  have hge := behind_ge P s e
  have e1 : e + (behind P s e - e) = behind P s e := by omega
  have h3 := behind_end P s e hs
  have h4 := behind_stop P t e (behind P s e - e) (by omega) (fun j hj hj2 => by
    rw [← get_agree hag (i := e + j) (by omega) (by omega) hj]
    exact behind_mem P s e (e + j) (by omega) (by omega) (by omega)) (by
    simp only [e1]
    rw [← get_agree hag h hs (by omega)]; exact h3)
  rw [h4]; exact e1
theorem token_agree (s t : List UInt8) (k a : Nat) (x : Lx) (hk : k < s.length) (h : token s k = some x) (hs : a ≤ s.length) (ht : a ≤ t.length) (hag : ∀ i, i < a → s[i]? = t[i]?) (he : k + x.text.size < a) : token t k = some x := by
  obtain ⟨h1, h2, h3, h4⟩ := isTok_of s k x hk h
  have hsz := size_list x.text
  have hne := h1.1
  have e1 : s.drop (k + x.text.size) = s[k + x.text.size] :: s.drop (k + x.text.size + 1) := List.drop_eq_getElem_cons (by omega)
  have e2 : t.drop k = x.text.data.toList ++ t[k + x.text.size] :: t.drop (k + x.text.size + 1) := by
    have e3 : t.drop (k + x.text.size) = t[k + x.text.size] :: t.drop (k + x.text.size + 1) := List.drop_eq_getElem_cons (by omega)
    have e4 : (t.drop k).take x.text.size = x.text.data.toList := by
      have e5 : (s.drop k).take x.text.size = x.text.data.toList := by rw [h4, List.take_left' hsz]
      rw [← e5]
      apply List.ext_getElem?
      intro i
      rw [List.getElem?_take, List.getElem?_take]
      by_cases hi : i < x.text.size
      · rw [if_pos hi, if_pos hi, List.getElem?_drop, List.getElem?_drop, hag (k + i) (by omega)]
      · rw [if_neg hi, if_neg hi]
    rw [← e3, ← e4]
    have e6 : (t.drop k).drop x.text.size = t.drop (k + x.text.size) := by rw [List.drop_drop]
    rw [← e6, List.take_append_drop]
  have h5 : tokText (x.text.data.toList ++ s[k + x.text.size] :: s.drop (k + x.text.size + 1)) 0 = x.text.data.toList := by
    rw [← e1, ← h4]; exact h3
  have h6 : tokText (x.text.data.toList ++ t[k + x.text.size] :: t.drop (k + x.text.size + 1)) 0 = x.text.data.toList := by
    rw [tok_loc _ hne] at h5 ⊢
    rw [← get_agree hag (i := k + x.text.size) he (by omega) (by omega)]; exact h5
  rw [(token_of t k x.text.data.toList x.kind _ e2 h1 h6).2, list_str, ← h2]
theorem keep_head (s t : List UInt8) (a : Nat) (hs : a ≤ s.length) (ht : a ≤ t.length) (hag : ∀ i, i < a → s[i]? = t[i]?) : ∀ l m e, Toks s (behind [3] s e) l → Toks t (behind [3] t e) m → ∀ j, (h : j < l.length) → l[j].pos + (l[j].text.size : Int) < a → m[j]? = some l[j] := by
  intro l
  induction l with
  | nil => intro m e _ _ j h; simp at h
  | cons x l ih =>
    intro m e h1 h2 j hj hlt
    obtain ⟨hk, htok, hrest⟩ := h1
    have hp := (isTok_of s _ x hk htok).2.1
    have hx : behind [3] s e + x.text.size < a := by
      cases j with
      | zero =>
        have : x.pos + (x.text.size : Int) < a := hlt
        omega
      | succ j =>
        have hj' : j < l.length := by simpa using hj
        have h3 := toks_ge s l _ hrest l[j] (List.getElem_mem hj')
        have h4 := behind_ge [3] s (behind [3] s e + x.text.size)
        have h5 : l[j].pos + (l[j].text.size : Int) < a := hlt
        omega
    have hb := behind_agree [3] s t e a ht hag (by omega) hk
    rw [hb] at h2
    cases m with
    | nil =>
      have : t.length ≤ behind [3] s e := h2
      omega
    | cons y m =>
      obtain ⟨_, e1, r1⟩ := h2
      have e2 := token_agree s t _ a x hk htok hs ht hag hx
      have e : y = x := Option.some.inj (e1.symm.trans e2)
      subst e
      cases j with
      | zero => rfl
      | succ j =>
        have h3 := ih m _ hrest r1 j (by simpa using hj) hlt
        simpa using h3
theorem cls_gap (c : UInt8) (h : cls c = 3) : c = 32 ∨ c = 10 := by
  unfold cls at h
  split at h
  · cases h
  · split at h
    · cases h
    · split at h
      · rename_i q
        rcases q with q | q
        · exact Or.inl (UInt8.toNat_inj.1 q)
        · exact Or.inr (UInt8.toNat_inj.1 q)
      · cases h
theorem tail_split (s : List UInt8) (f : Nat) (hf : f < s.length) (hg : cls s[f] = 3) : ∀ l e, e ≤ f → Toks s (behind [3] s e) l → ∃ l1 l2, l = l1 ++ l2 ∧ (∀ y, y ∈ l1 → y.pos ≤ f) ∧ Toks s (behind [3] s (f + 1)) l2 := by
  intro l
  induction l with
  | nil =>
    intro e he h
    have h' : s.length ≤ behind [3] s e := h
    refine ⟨[], [], rfl, fun y hy => by simp at hy, ?_⟩
    rw [behind_mid [3] s e (f + 1) (by omega) (by omega) (by omega)]; exact h
  | cons x l ih =>
    intro e he h
    obtain ⟨hk, htok, hrest⟩ := h
    obtain ⟨h1, h2, h3, h4⟩ := isTok_of s _ x hk htok
    have hsz := size_list x.text
    by_cases hkf : behind [3] s e ≤ f
    · have he2 : behind [3] s e + x.text.size ≤ f := by
        rcases Nat.lt_or_ge f (behind [3] s e + x.text.size) with q | q
        · exfalso
          have hm : s[f] ∈ x.text.data.toList := by
            have e1 : (s.drop (behind [3] s e))[f - behind [3] s e]? = some s[f] := by
              rw [List.getElem?_drop, show behind [3] s e + (f - behind [3] s e) = f from by omega, List.getElem?_eq_getElem hf]
            rw [h4, List.getElem?_append_left (by omega)] at e1
            exact List.mem_of_getElem? e1
          have hok := isTok_bytes _ _ h1 _ hm
          rcases cls_gap _ hg with q2 | q2
          · exact hok.2.1 q2
          · exact hok.2.2.1 q2
        · exact q
      obtain ⟨l1, l2, e1, e2, e3⟩ := ih _ he2 hrest
      refine ⟨x :: l1, l2, by rw [e1]; rfl, fun y hy => ?_, e3⟩
      rcases List.mem_cons.1 hy with rfl | hy
      · omega
      · exact e2 y hy
    · refine ⟨[], x :: l, rfl, fun y hy => by simp at hy, ?_⟩
      rw [behind_mid [3] s e (f + 1) (by omega) (by omega) (by omega)]
      exact ⟨hk, htok, hrest⟩
theorem keep_tail (s t : List UInt8) (f g : Nat) (d : Int) (hdd : d = (g : Int) - (f : Int)) (hf : f < s.length) (hfg : cls s[f] = 3) (hg : g < t.length) (hgg : cls t[g] = 3) (hd : s.drop (f + 1) = t.drop (g + 1)) (l m : List Lx)
    (hl : Toks s (behind [3] s 0) l) (hm : Toks t (behind [3] t 0) m) : ∃ l1 l2 m1, l = l1 ++ l2 ∧ (∀ y, y ∈ l1 → y.pos ≤ f) ∧ (∀ y, y ∈ l2 → (f : Int) < y.pos) ∧ m = m1 ++ l2.map fun x => moved x d := by
  obtain ⟨l1, l2, e1, e2, e3⟩ := tail_split s f hf hfg l 0 (by omega) hl
  obtain ⟨m1, m2, q1, _, q3⟩ := tail_split t g hg hgg m 0 (by omega) hm
  have hb : behind [3] s (f + 1) = (f + 1) + leadI (fun _ c => [3].contains (cls c)) 0 (t.drop (g + 1)) := by unfold behind; rw [hd]
  have hb2 : behind [3] t (g + 1) = (g + 1) + leadI (fun _ c => [3].contains (cls c)) 0 (t.drop (g + 1)) := rfl
  refine ⟨l1, l2, m1, e1, e2, fun y hy => ?_, ?_⟩
  · have h1 := toks_ge s l2 _ e3 y hy
    have h2 := behind_ge [3] s (f + 1)
    omega
  · rw [hb] at e3
    rw [hb2] at q3
    have h1 := toks_shift s t (f + 1) (g + 1) d (by omega) hd l2 _ e3
    rw [q1, toks_same t m2 _ _ q3 h1]

theorem eqLx_eq {a b : Lx} (h : eqLx a b = true) : a = b := by
  unfold eqLx at h
  rw [decide_eq_true_eq] at h
  obtain ⟨h1, h2, h3⟩ := h
  cases a
  cases b
  simp only at h1 h2 h3
  rw [h1, ba_ext h2, h3]
theorem eqLx_self (a : Lx) : eqLx a a = true := by unfold eqLx; simp
/-- The tokens at the head are alike. -/
theorem head_same (x : Ed) (l m : List Lx) (i : Nat) (h : i < head x l m) : ∃ hl : i < l.length, m[i]? = some l[i] ∧ l[i].pos < x.from_ := by
  have hl : i < l.length := by have := leadI_le (headP x m) l 0; unfold head at h; omega
  have hp := leadI_before (headP x m) l 0 i hl (by unfold head at h; omega)
  unfold headP at hp
  rw [Nat.zero_add, Bool.and_eq_true, decide_eq_true_eq] at hp
  obtain ⟨h1, h2⟩ := hp
  refine ⟨hl, ?_, h1⟩
  cases hn : m[i]? with
  | none => rw [hn] at h2; cases h2
  | some y =>
    rw [hn] at h2
    dsimp only at h2
    rw [eqLx_eq h2]
theorem tail_same (x : Ed) (d : Int) (l m : List Lx) (j : Nat) (h : j < tail x d l m) : ∃ hl : j < l.reverse.length, m.reverse[j]? = some (moved l.reverse[j] d) ∧ x.to_ ≤ l.reverse[j].pos := by
  have hl : j < l.reverse.length := by have := leadI_le (tailP x d m.reverse) l.reverse 0; unfold tail at h; omega
  have hp := leadI_before (tailP x d m.reverse) l.reverse 0 j hl (by unfold tail at h; omega)
  unfold tailP at hp
  rw [Nat.zero_add, Bool.and_eq_true, decide_eq_true_eq] at hp
  obtain ⟨h1, h2⟩ := hp
  refine ⟨hl, ?_, h1⟩
  cases hn : m.reverse[j]? with
  | none => rw [hn] at h2; cases h2
  | some y =>
    rw [hn] at h2
    dsimp only at h2
    rw [eqLx_eq h2]
theorem head_tail_old (x : Ed) (d : Int) (hx : x.from_ ≤ x.to_) (l m : List Lx) : head x l m + tail x d l m ≤ l.length := by
  have hn : head x l m ≤ l.length := by have := leadI_le (headP x m) l 0; unfold head; omega
  have ht : tail x d l m ≤ l.length := by have := leadI_le (tailP x d m.reverse) l.reverse 0; rw [List.length_reverse] at this; unfold tail; omega
  rcases Nat.lt_or_ge l.length (head x l m + tail x d l m) with h1 | h1
  · obtain ⟨_, _, hp⟩ := head_same x l m (l.length - tail x d l m) (by omega)
    obtain ⟨hz, _, hq⟩ := tail_same x d l m (tail x d l m - 1) (by omega)
    rw [List.getElem_reverse] at hq
    have e : l.length - 1 - (tail x d l m - 1) = l.length - tail x d l m := by omega
    simp only [e] at hq
    omega
  · exact h1
theorem head_part (x : Ed) (l m : List Lx) : l.take (head x l m) = m.take (head x l m) := by
  apply List.ext_getElem?
  intro i
  rw [List.getElem?_take, List.getElem?_take]
  by_cases hi : i < head x l m
  · rw [if_pos hi, if_pos hi]
    obtain ⟨hl, hm, _⟩ := head_same x l m i hi
    rw [hm, List.getElem?_eq_getElem hl]
  · rw [if_neg hi, if_neg hi]
theorem tail_part (x : Ed) (d : Int) (l m : List Lx) : (l.drop (l.length - tail x d l m)).map (fun t => moved t d) = m.drop (m.length - tail x d l m) := by
  have h : (l.reverse.take (tail x d l m)).map (fun t => moved t d) = m.reverse.take (tail x d l m) := by
    apply List.ext_getElem?
    intro i
    rw [List.getElem?_map, List.getElem?_take, List.getElem?_take]
    by_cases hi : i < tail x d l m
    · rw [if_pos hi, if_pos hi]
      obtain ⟨hl, hm, _⟩ := tail_same x d l m i hi
      rw [hm, List.getElem?_eq_getElem hl]; rfl
    · rw [if_neg hi, if_neg hi]; rfl
  rw [List.take_reverse, List.take_reverse, List.map_reverse] at h
  have h2 := congrArg List.reverse h
  rw [List.reverse_reverse, List.reverse_reverse] at h2
  exact h2

/-- A patch by what an edit changes leads to the tokens behind it. -/
theorem patch_kept (s : ByteArray) (x : Ed) (hx : isEdit s x) (hp : x.put.size ≤ 2500) (l m : List Lx) (p q : Nat) (h1 : scan s.data.toList = (l, p, 0)) (h2 : scan (after s x).data.toList = (m, q, 0)) :
    patch l x (head x l m) (tail x (((after s x).size : Int) - (s.size : Int)) l m) ((m.take (m.length - tail x (((after s x).size : Int) - (s.size : Int)) l m)).drop (head x l m)) = (m, 0) := by
  have hf1 := scan_fine s.data.toList
  have hf2 := scan_fine (after s x).data.toList
  rw [h1] at hf1
  rw [h2] at hf2
  dsimp only at hf1 hf2
  have hsz := hf1.2.2 rfl
  rw [size_list] at hsz
  have hby : patchBy x = ((after s x).size : Int) - (s.size : Int) := by have := after_size s x hx; unfold patchBy; omega
  obtain ⟨d, hd⟩ : ∃ d, ((after s x).size : Int) - (s.size : Int) = d := ⟨_, rfl⟩
  have hht := head_tail s x hx l m
  rw [hd] at hht hby ⊢
  have hold := head_tail_old x d hx.2.1 l m
  have hhp := head_part x l m
  have htp := tail_part x d l m
  obtain ⟨H, hH⟩ : ∃ H, head x l m = H := ⟨_, rfl⟩
  obtain ⟨T, hT⟩ : ∃ T, tail x d l m = T := ⟨_, rfl⟩
  rw [hH, hT] at hht hold
  rw [hH] at hhp
  rw [hT] at htp
  rw [hH, hT]
  have hnl : ((m.take (m.length - T)).drop H).length = m.length - T - H := by rw [List.length_drop, List.length_take]; omega
  have hr : inRangeB l x H T ((m.take (m.length - T)).drop H) = true := by
    obtain ⟨z1, z2, z3⟩ := hx
    unfold inRangeB placedB isPlaceB
    simp only [Bool.and_eq_true, decide_eq_true_eq, List.all_eq_true]
    refine ⟨⟨⟨⟨⟨⟨⟨⟨⟨z1, by omega⟩, ⟨by omega, by omega⟩⟩, z2⟩, by omega⟩, by omega⟩, by omega⟩, by omega⟩, fun t ht => ?_⟩, fun t ht => ?_⟩
    · have := hf1.1 t ht
      unfold fine at this
      exact ⟨this.1, by omega⟩
    · have := hf2.1 t (List.mem_of_mem_take (List.mem_of_mem_drop ht))
      unfold fine at this
      exact ⟨this.1, by omega⟩
  unfold patch
  rw [hnl, if_neg (by omega), if_neg (by rw [hr]; decide), if_neg (by omega), hby, Int.toNat_natCast, Int.toNat_natCast, hhp, htp]
  have e1 : m.take H = (m.take (m.length - T)).take H := by rw [List.take_take]; congr 1; omega
  rw [e1, List.take_append_drop, List.take_append_drop]

theorem after_parts (s : ByteArray) (x : Ed) (h : isEdit s x) : (after s x).data.toList = s.data.toList.take x.from_.toNat ++ x.put.data.toList ++ s.data.toList.drop x.to_.toNat := by
  have hs := size_list s
  obtain ⟨h1, h2, h3⟩ := h
  unfold after
  simp only [ByteArray.data_append, Array.toList_append, sub_list, List.drop_zero]
  have e : s.data.toList.take s.size = s.data.toList := List.take_of_length_le (by omega)
  rw [e]
theorem blank_agree (s t : List UInt8) (a : Nat) (hs : a ≤ s.length) (ht : a ≤ t.length) (h : s.take a = t.take a) : ∀ i, i < a → (blank s)[i]? = (blank t)[i]? := by
  intro i hi
  have h1 : i < s.length := by omega
  have h2 : i < t.length := by omega
  rw [List.getElem?_eq_getElem (by rw [blank_len]; exact h1), List.getElem?_eq_getElem (by rw [blank_len]; exact h2), blank_at2 s i h1, blank_at2 t i h2]
  have e1 : s.take (i + 1) = t.take (i + 1) := by
    have := congrArg (List.take (i + 1)) h
    rw [List.take_take, List.take_take] at this
    rw [Nat.min_eq_left (by omega)] at this; exact this
  have e2 : s[i] = t[i] := by
    have := congrArg (fun z => z[i]?) h
    simp only [List.getElem?_take, if_pos hi] at this
    rw [List.getElem?_eq_getElem h1, List.getElem?_eq_getElem h2] at this
    exact Option.some.inj this
  unfold stK
  rw [e1, e2]
/-- Tokens that end before the edit stay. -/
theorem kept_head (s : ByteArray) (x : Ed) (hx : isEdit s x) (l m : List Lx) (p q : Nat) (h1 : scan s.data.toList = (l, p, 0)) (h2 : scan (after s x).data.toList = (m, q, 0))
    (k : Nat) (hk : k < l.length) (he : l[k].pos + (l[k].text.size : Int) < x.from_) : k < head x l m := by
  obtain ⟨_, _, t1, _⟩ := scan_toks _ _ _ h1
  obtain ⟨_, _, t2, _⟩ := scan_toks _ _ _ h2
  have hs := size_list s
  have hat := size_list (after s x)
  have hasz := after_size s x hx
  have hpa := after_parts s x hx
  have hx' := hx
  obtain ⟨z1, z2, z3⟩ := hx'
  have hag := blank_agree s.data.toList (after s x).data.toList x.from_.toNat (by omega) (by omega) (by
    rw [hpa, List.append_assoc, List.take_append_of_le_length (by rw [List.length_take]; omega), List.take_take, Nat.min_self])
  rcases Nat.lt_or_ge k (head x l m) with h3 | h3
  · exact h3
  · exfalso
    have hhl : head x l m < l.length := by omega
    have hend : l[head x l m].pos + (l[head x l m].text.size : Int) < x.from_ := by
      rcases Nat.lt_or_eq_of_le h3 with q | q
      · have := toks_sorted _ l _ t1 (head x l m) k hhl hk q
        omega
      · simp only [q]; exact he
    have hm := keep_head _ _ x.from_.toNat (by rw [blank_len]; omega) (by rw [blank_len]; omega) hag l m 0 t1 t2 (head x l m) hhl (by omega)
    have hf := leadI_at (headP x m) l 0 (head x l m) hhl (by unfold head; omega)
    unfold headP at hf
    rw [Nat.zero_add, hm] at hf
    dsimp only at hf
    rw [eqLx_self, decide_eq_true (by omega)] at hf
    cases hf
theorem feed_gap (s : List UInt8) (f : Nat) (hf : f < s.length) (h : s[f] = 10) : cls ((blank s)[f]'(by rw [blank_len]; exact hf)) = 3 ∧ (blank s).drop (f + 1) = bl false (s.drop (f + 1)) := by
  have hst : stK s (f + 1) = false := by rw [stK_succ s f hf, h]; rfl
  exact ⟨gap_yes s f hf (Or.inl h), blank_drop s (f + 1) (by omega) hst⟩
/-- Tokens behind a line feed that stands behind the edit stay. -/
theorem kept_tail (s : ByteArray) (x : Ed) (hx : isEdit s x) (l m : List Lx) (p q : Nat) (h1 : scan s.data.toList = (l, p, 0)) (h2 : scan (after s x).data.toList = (m, q, 0))
    (f : Nat) (hxf : x.to_ ≤ f) (hf : f < s.data.toList.length) (h10 : s.data.toList[f] = 10) (k : Nat) (hk : k < l.length) (he : (f : Int) < l[k].pos) : l.length - tail x (((after s x).size : Int) - (s.size : Int)) l m ≤ k := by
  obtain ⟨_, _, t1, _⟩ := scan_toks _ _ _ h1
  obtain ⟨_, _, t2, _⟩ := scan_toks _ _ _ h2
  have hs := size_list s
  have hat := size_list (after s x)
  have hasz := after_size s x hx
  have hpa := after_parts s x hx
  have hps := size_list x.put
  obtain ⟨z1, z2, z3⟩ := hx
  obtain ⟨d, hd⟩ : ∃ d, ((after s x).size : Int) - (s.size : Int) = d := ⟨_, rfl⟩
  rw [hd]
  obtain ⟨g, hg⟩ : ∃ g : Nat, (g : Int) = f + d := ⟨(f + d).toNat, by omega⟩
  have hgt : g < (after s x).data.toList.length := by omega
  have hga : g = (s.data.toList.take x.from_.toNat ++ x.put.data.toList).length + (f - x.to_.toNat) := by rw [List.length_append, List.length_take]; omega
  have hg10 : (after s x).data.toList[g] = 10 := by
    have e1 : (after s x).data.toList[g]? = some 10 := by
      rw [hpa, List.getElem?_append_right (by omega), hga, Nat.add_sub_cancel_left, List.getElem?_drop, show x.to_.toNat + (f - x.to_.toNat) = f from by omega, List.getElem?_eq_getElem hf, h10]
    rw [List.getElem?_eq_getElem hgt] at e1
    exact Option.some.inj e1
  have hdr : s.data.toList.drop (f + 1) = (after s x).data.toList.drop (g + 1) := by
    have z : (s.data.toList.take x.from_.toNat ++ x.put.data.toList).drop (g + 1) = [] := List.drop_eq_nil_of_le (by omega)
    have z2 : x.to_.toNat + (g + 1 - (s.data.toList.take x.from_.toNat ++ x.put.data.toList).length) = f + 1 := by omega
    rw [hpa, List.drop_append, z, List.nil_append, List.drop_drop, z2]
  obtain ⟨c1, b1⟩ := feed_gap s.data.toList f hf h10
  obtain ⟨c2, b2⟩ := feed_gap (after s x).data.toList g hgt hg10
  obtain ⟨l1, l2, m1, e1, e2, e3, e4⟩ := keep_tail (blank s.data.toList) (blank (after s x).data.toList) f g d (by omega) (by rw [blank_len]; exact hf) c1 (by rw [blank_len]; exact hgt) c2 (by rw [b1, b2, hdr]) l m t1 t2
  have hk1 : l1.length ≤ k := by
    rcases Nat.lt_or_ge k l1.length with q | q
    · exfalso
      have e5 : l[k] = l1[k] := by simp only [e1]; exact List.getElem_append_left q
      have := e2 l1[k] (List.getElem_mem q)
      rw [e5] at he
      omega
    · exact q
  have hll : l.length = l1.length + l2.length := by rw [e1, List.length_append]
  have e1r : l.reverse = l2.reverse ++ l1.reverse := by rw [e1, List.reverse_append]
  have e4r : m.reverse = (l2.reverse.map fun x => moved x d) ++ m1.reverse := by rw [e4, List.reverse_append, List.map_reverse]
  have hle := leadI_le (tailP x d m.reverse) l.reverse 0
  have hend := fun h => leadI_at (tailP x d m.reverse) l.reverse 0 (tail x d l m) h (by unfold tail; omega)
  obtain ⟨T, hT⟩ : ∃ T, tail x d l m = T := ⟨_, rfl⟩
  rw [hT] at hend ⊢
  have htl : l2.length ≤ T := by
    rcases Nat.lt_or_ge T l2.length with q | q
    · exfalso
      have hrl : T < l.reverse.length := by rw [List.length_reverse]; omega
      have hq : T < l2.reverse.length := by rw [List.length_reverse]; exact q
      have hf := hend hrl
      have g1 : l.reverse[T]? = some l2.reverse[T] := by
        rw [e1r, List.getElem?_append_left hq, List.getElem?_eq_getElem hq]
      have g2 : l.reverse[T] = l2.reverse[T] := by
        rw [List.getElem?_eq_getElem hrl] at g1
        exact Option.some.inj g1
      have g3 : m.reverse[T]? = some (moved l2.reverse[T] d) := by
        rw [e4r, List.getElem?_append_left (by rw [List.length_map]; exact hq), List.getElem?_map, List.getElem?_eq_getElem hq]
        rfl
      have g4 := e3 l2.reverse[T] (List.mem_reverse.1 (List.getElem_mem _))
      unfold tailP at hf
      rw [Nat.zero_add, g3, g2] at hf
      dsimp only at hf
      rw [eqLx_self, decide_eq_true (by omega)] at hf
      cases hf
    · exact q
  omega
end M
end Go.Proofs.YtamdcloahkacnaaGreatDoor
