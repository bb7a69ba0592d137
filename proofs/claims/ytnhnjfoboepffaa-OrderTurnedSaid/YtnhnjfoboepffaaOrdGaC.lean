/- DERIVED. Plain: a table with its elements in another order. -/
import Derived.Test.YtnhnjfoboepffaaGr42
import Derived.Test.YtnhnjfoboepffaaGr36
namespace Go.Proofs.Ytnhnjfoboepffaa
namespace M
/-- Two ways through the first numbers that lead back to each other; 0 stays. -/
structure Inv (n : Nat) (f g : Nat → Nat) : Prop where
  fl : ∀ i, i < n → f i < n
  gl : ∀ i, i < n → g i < n
  gf : ∀ i, i < n → g (f i) = i
  fg : ∀ i, i < n → f (g i) = i
  z : f 0 = 0
theorem Inv.start (n : Nat) : Inv n (fun i => i) (fun i => i) := ⟨fun _ h => h, fun _ h => h, fun _ _ => rfl, fun _ _ => rfl, rfl⟩
def swp (f : Nat → Nat) (i k : Nat) : Nat → Nat := fun x => if x = k then f i else if x = i then f k else f x
def swq (g : Nat → Nat) (i k : Nat) : Nat → Nat := fun y => if g y = i then k else if g y = k then i else g y
theorem Inv.swap {n : Nat} {f g : Nat → Nat} (h : Inv n f g) {i k : Nat} (hi : i < n) (hk : k < n) (hi0 : i ≠ 0) (hk0 : k ≠ 0) : Inv n (swp f i k) (swq g i k) := by
  refine ⟨fun x hx => ?_, fun y hy => ?_, fun x hx => ?_, fun y hy => ?_, ?_⟩
  · unfold swp
    split
    · exact h.fl i hi
    · split
      · exact h.fl k hk
      · exact h.fl x hx
  · unfold swq
    split
    · exact hk
    · split
      · exact hi
      · exact h.gl y hy
  · unfold swp swq
    by_cases e1 : x = k
    · subst e1; rw [if_pos rfl, h.gf i hi, if_pos rfl]
    · rw [if_neg e1]
      by_cases e2 : x = i
      · subst e2; rw [if_pos rfl, h.gf k hk, if_neg (fun e => e1 e.symm), if_pos rfl]
      · rw [if_neg e2, h.gf x hx, if_neg e2, if_neg e1]
  · unfold swp swq
    by_cases e1 : g y = i
    · rw [if_pos e1, if_pos rfl, ← e1, h.fg y hy]
    · rw [if_neg e1]
      by_cases e2 : g y = k
      · have e3 : ¬ i = k := fun e => e1 (by rw [e2, e])
        rw [if_pos e2, if_neg e3, if_pos rfl, ← e2, h.fg y hy]
      · rw [if_neg e2, if_neg e2, if_neg e1, h.fg y hy]
  · unfold swp
    rw [if_neg (fun e => hk0 e.symm), if_neg (fun e => hi0 e.symm), h.z]
/-- The numbers of what is above an element, in the new order: the first ones. -/
def trR (t : Tb) (f : Nat → Nat) (j c : Nat) : List Int := nats ((List.range c).filter fun x => (t.above.getD (f j) []).contains ((f x : Nat) : Int))
/-- The table in the new order. -/
def trn (t : Tb) (f : Nat → Nat) : Tb :=
  { name := t.name, elems := (List.range t.elems.length).map fun j => t.elems.getD (f j) ⟨#[]⟩, above := (List.range t.elems.length).map fun j => trR t f j t.elems.length, wrong := (List.range t.elems.length).map fun j => t.wrong.getD (f j) false }
theorem trR_zero (t : Tb) (f : Nat → Nat) (j : Nat) : trR t f j 0 = [] := rfl
theorem trR_yes {t : Tb} {f : Nat → Nat} {j c : Nat} (h : (t.above.getD (f j) []).contains ((f c : Nat) : Int) = true) : trR t f j (c + 1) = trR t f j c ++ [(c : Int)] := by unfold trR nats; rw [List.range_succ, List.filter_append, List.map_append, List.filter_cons_of_pos (p := fun x => (t.above.getD (f j) []).contains ((f x : Nat) : Int)) h]; rfl
theorem trR_no {t : Tb} {f : Nat → Nat} {j c : Nat} (h : (t.above.getD (f j) []).contains ((f c : Nat) : Int) = false) : trR t f j (c + 1) = trR t f j c := by unfold trR nats; rw [List.range_succ, List.filter_append, List.map_append, List.filter_cons_of_neg (p := fun x => (t.above.getD (f j) []).contains ((f x : Nat) : Int)) (by show ¬ (_ = true); rw [h]; simp)]; exact List.append_nil _
theorem trR_len (t : Tb) (f : Nat → Nat) (j c : Nat) : (trR t f j c).length ≤ c := by
  unfold trR
  rw [nats_len]
  exact Nat.le_trans (List.length_filter_le _ _) (by rw [List.length_range]; exact Nat.le_refl _)
theorem trR_mem {t : Tb} {f : Nat → Nat} {j c b : Nat} : (b : Int) ∈ trR t f j c ↔ b < c ∧ ((f b : Nat) : Int) ∈ t.above.getD (f j) [] := by
  unfold trR nats
  simp only [List.mem_map, List.mem_filter, List.mem_range, List.contains_iff_mem]
  constructor
  · rintro ⟨x, ⟨h1, h2⟩, e⟩
    obtain rfl : x = b := by omega
    exact ⟨h1, h2⟩
  · rintro ⟨h1, h2⟩; exact ⟨b, ⟨h1, h2⟩, rfl⟩
theorem getD_map {α : Type} (n : Nat) (h : Nat → α) (d : α) {j : Nat} (hj : j < n) : ((List.range n).map h).getD j d = h j := by
  rw [List.getD_eq_getElem?_getD, List.getElem?_map, List.getElem?_range hj]; rfl
theorem trn_len (t : Tb) (f : Nat → Nat) : (trn t f).elems.length = t.elems.length := by show (List.map _ (List.range _)).length = _; rw [List.length_map, List.length_range]
theorem trn_above (t : Tb) (f : Nat → Nat) {j : Nat} (hj : j < t.elems.length) : (trn t f).above.getD j [] = trR t f j t.elems.length := getD_map _ _ _ hj
theorem trn_wr (t : Tb) (f : Nat → Nat) {j : Nat} (hj : j < t.elems.length) : wr (trn t f) j = wr t (f j) := getD_map _ _ _ hj
theorem trR_asc (t : Tb) (f : Nat → Nat) (j n : Nat) : asc n (trR t f j n) := by
  refine asc_by ?_ fun x hx => ?_
  · unfold trR nats
    rw [List.pairwise_map]
    refine List.Pairwise.imp (fun h => Int.ofNat_lt.2 h) ?_
    exact List.Pairwise.filter _ List.pairwise_lt_range
  · unfold trR nats at hx
    obtain ⟨y, hy, rfl⟩ := List.mem_map.1 hx
    have := List.mem_range.1 (List.mem_filter.1 hy).1
    omega
theorem trn_form {t : Tb} {f g : Nat → Nat} (hf : form t) (h : Inv t.elems.length f g) : form (trn t f) := by
  have e1 : ∀ i, (hi : i < (trn t f).elems.length) → ∃ hj : f i < t.elems.length, (trn t f).elems[i] = t.elems[f i] := fun i hi => by
    have hi' : i < t.elems.length := by rw [trn_len] at hi; exact hi
    refine ⟨h.fl i hi', ?_⟩
    have q : (trn t f).elems.getD i ⟨#[]⟩ = t.elems.getD (f i) ⟨#[]⟩ := getD_map _ _ _ hi'
    rw [getD_in _ _ _ hi, getD_in _ _ _ (h.fl i hi')] at q
    exact q
  refine ⟨hf.name, by rw [trn_len]; exact hf.one, by rw [trn_len]; exact hf.twelve, ?_, ?_, fun i hi => ?_, fun i j hi hj hij e => ?_, fun i hi => ?_⟩
  · rw [trn_len]; show (List.map _ (List.range _)).length = _; rw [List.length_map, List.length_range]
  · rw [trn_len]; show (List.map _ (List.range _)).length = _; rw [List.length_map, List.length_range]
  · obtain ⟨hj, e⟩ := e1 i hi
    rw [e]; exact hf.names _ hj
  · obtain ⟨hi2, q1⟩ := e1 i hi
    obtain ⟨hj2, q2⟩ := e1 j hj
    rw [q1, q2] at e
    have hi' : i < t.elems.length := by rw [trn_len] at hi; exact hi
    have hj' : j < t.elems.length := by rw [trn_len] at hj; exact hj
    rcases Nat.lt_trichotomy (f i) (f j) with q | q | q
    · exact hf.differ _ _ hi2 hj2 q e
    · have := congrArg g q
      rw [h.gf i hi', h.gf j hj'] at this
      omega
    · exact hf.differ _ _ hj2 hi2 q e.symm
  · have hi' : i < t.elems.length := by
      have q : i < (List.map (fun j => trR t f j t.elems.length) (List.range t.elems.length)).length := hi
      rw [List.length_map, List.length_range] at q; exact q
    have q := trn_above t f hi'
    rw [getD_in _ _ _ hi] at q
    rw [q, trn_len]
    exact trR_asc t f i _
theorem trn_iso {t : Tb} {f g : Nat → Nat} (hf : form t) (h : Inv t.elems.length f g) : Iso t (trn t f) g f := by
  refine ⟨trn_len t f, h.gl, h.fl, fun a ha => h.gf a ha, fun a ha => h.fg a ha, ?_, fun a b ha hb => ?_, fun a ha => ?_⟩
  · have := h.gf 0 hf.one
    rw [h.z] at this; exact this
  · unfold up
    rw [trn_above t f (h.gl a ha), trR_mem, h.fg a ha, h.fg b hb]
    exact ⟨fun q => ⟨h.gl b hb, q⟩, fun q => q.2⟩
  · rw [trn_wr t f (h.gl a ha), h.fg a ha]
/-- The first of the elements, and marks, in the new order. -/
def trE (t : Tb) (f : Nat → Nat) (k : Nat) : List ByteArray := (List.range k).map fun j => t.elems.getD (f j) ⟨#[]⟩
def trW (t : Tb) (f : Nat → Nat) (k : Nat) : List Bool := (List.range k).map fun j => t.wrong.getD (f j) false
def trA (t : Tb) (f : Nat → Nat) (k : Nat) : List (List Int) := (List.range k).map fun j => trR t f j t.elems.length
theorem trE_len (t : Tb) (f : Nat → Nat) (k : Nat) : (trE t f k).length = k := by simp [trE]
theorem trW_len (t : Tb) (f : Nat → Nat) (k : Nat) : (trW t f k).length = k := by simp [trW]
theorem trA_len (t : Tb) (f : Nat → Nat) (k : Nat) : (trA t f k).length = k := by simp [trA]
theorem trE_next (t : Tb) (f : Nat → Nat) (k : Nat) : trE t f (k + 1) = trE t f k ++ [t.elems.getD (f k) ⟨#[]⟩] := by simp [trE, List.range_succ]
theorem trW_next (t : Tb) (f : Nat → Nat) (k : Nat) : trW t f (k + 1) = trW t f k ++ [t.wrong.getD (f k) false] := by simp [trW, List.range_succ]
theorem trA_next (t : Tb) (f : Nat → Nat) (k : Nat) : trA t f (k + 1) = trA t f k ++ [trR t f k t.elems.length] := by simp [trA, List.range_succ]
theorem trn_eq (t : Tb) (f : Nat → Nat) : trn t f = ⟨t.name, trE t f t.elems.length, trA t f t.elems.length, trW t f t.elems.length⟩ := rfl
/-- What one round of the innermost loops adds. -/
def trO (L : List Int) (x c k : Nat) : List Int := if (L.take k).contains (x : Int) then [(c : Int)] else []
theorem trO_zero (L : List Int) (x c : Nat) : trO L x c 0 = [] := by simp [trO]
theorem trO_no {L : List Int} {x c k : Nat} (hk : k < L.length) (h : L[k] ≠ (x : Int)) : trO L x c (k + 1) = trO L x c k := by
  unfold trO
  rw [List.take_succ_eq_append_getElem hk]
  have e : ((L.take k ++ [L[k]]).contains (x : Int)) = (L.take k).contains (x : Int) := by
    rw [Bool.eq_iff_iff, List.contains_iff_mem, List.contains_iff_mem, List.mem_append, List.mem_singleton]
    exact ⟨fun q => q.elim id (fun q => absurd q.symm h), Or.inl⟩
  rw [e]
theorem trO_yes {n : Nat} {L : List Int} (ha : asc n L) {x c k : Nat} (hk : k < L.length) (h : L[k] = (x : Int)) : trO L x c k = [] ∧ trO L x c (k + 1) = [(c : Int)] := by
  have hpw := List.pairwise_iff_getElem.1 (asc_pw ha)
  refine ⟨?_, ?_⟩
  · unfold trO
    rw [if_neg]
    rw [List.contains_iff_mem]
    intro hm
    obtain ⟨i, hi, e⟩ := List.getElem_of_mem hm
    rw [List.getElem_take] at e
    have hik : i < k := by rw [List.length_take] at hi; omega
    have := hpw i k (by omega) hk hik
    rw [e, h] at this
    omega
  · unfold trO
    rw [if_pos]
    rw [List.contains_iff_mem, List.take_succ_eq_append_getElem hk, h]
    simp
theorem trO_all (L : List Int) (x c : Nat) : trO L x c L.length = if L.contains (x : Int) then [(c : Int)] else [] := by unfold trO; rw [List.take_length]
end M
end Go.Proofs.Ytnhnjfoboepffaa
