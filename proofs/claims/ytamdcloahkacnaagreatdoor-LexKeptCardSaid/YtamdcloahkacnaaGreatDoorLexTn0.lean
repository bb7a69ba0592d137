/- DERIVED. Plain: a text whose comments are blanked. -/
import Derived.Test.YtamdcloahkacnaaGreatDoorLexS
namespace Go.Proofs.YtamdcloahkacnaaGreatDoor
namespace M
theorem find_before (s : List UInt8) (k : Nat) (c : UInt8) (i : Nat) (h1 : k ≤ i) (h2 : i < find s k c) (h3 : i < s.length) : s[i] ≠ c := by
  have := leadI_before (fun _ x => !(x == c)) (s.drop k) 0 (i - k) (by rw [List.length_drop]; omega) (by unfold find at h2; omega)
  rw [List.getElem_drop] at this
  have e : k + (i - k) = i := by omega
  simp only [e] at this
  simpa using this
theorem find_min (s : List UInt8) (k : Nat) (c : UInt8) (i : Nat) (h1 : k ≤ i) (h3 : i < s.length) (h : s[i] = c) : find s k c ≤ i := by
  rcases Nat.lt_or_ge i (find s k c) with q | q
  · exact absurd h (find_before s k c i h1 q h3)
  · exact q
theorem comments_no10 (f : Nat) (s : List UInt8) : ∀ k, ∀ x ∈ commentsF f s k, ∀ i, (hi : i < s.length) → x.1 ≤ i → i < x.2 → s[i] ≠ 10 := by
  induction f with
  | zero => intro k x hx; simp [commentsF] at hx
  | succ f ih =>
    intro k x hx i hi h1 h2
    unfold commentsF at hx
    by_cases hk : k < s.length
    · rw [if_pos hk] at hx
      rcases List.mem_cons.1 hx with rfl | hx
      · exact find_before s k 10 i h1 h2 hi
      · exact ih _ x hx i hi h1 h2
    · rw [if_neg hk] at hx; simp at hx
theorem comments_cover (f : Nat) (s : List UInt8) : ∀ k, (∀ h : k < s.length, s[k] = 37) → s.length < k + f → ∀ i, (hi : i < s.length) → k ≤ i → s[i] = 37 → ∃ x ∈ commentsF f s k, x.1 ≤ i ∧ i < x.2 := by
  induction f with
  | zero => intro k _ hf i hi h1; omega
  | succ f ih =>
    intro k hk37 hf i hi h1 h37
    have hk : k < s.length := by omega
    unfold commentsF
    rw [if_pos hk]
    by_cases h2 : i < find s k 10
    · exact ⟨_, List.mem_cons_self, h1, h2⟩
    · have g1 : k < find s k 10 := find_gt s k 10 hk (by rw [hk37 hk]; decide)
      have g2 : find s k 10 ≤ find s (find s k 10) 37 := find_ge _ _ _
      have g3 := find_min s (find s k 10) 37 i (by omega) hi h37
      obtain ⟨x, hx, q⟩ := ih (find s (find s k 10) 37) (fun h => find_at _ _ _ h) (by omega) i hi g3 h37
      exact ⟨x, List.mem_cons_of_mem _ hx, q⟩
theorem blankBy_at (cs : List (Nat × Nat)) : ∀ (l : List UInt8) (i : Nat) (h : i < (blankBy l cs).length) (h2 : i < l.length),
    ((∃ x ∈ cs, x.1 ≤ i ∧ i < x.2) ∧ (blankBy l cs)[i] = 32) ∨ ((¬ ∃ x ∈ cs, x.1 ≤ i ∧ i < x.2) ∧ (blankBy l cs)[i] = l[i]) := by
  induction cs with
  | nil => intro l i h h2; exact Or.inr ⟨by simp, rfl⟩
  | cons x cs ih =>
    intro l i h h2
    have e : blankBy l (x :: cs) = blankBy (blankOut l x.1 x.2) cs := rfl
    have hb : i < (blankOut l x.1 x.2).length := by rw [blankOut_len]; exact h2
    have h' : i < (blankBy (blankOut l x.1 x.2) cs).length := h
    have hv : (blankBy l (x :: cs))[i] = (blankBy (blankOut l x.1 x.2) cs)[i]'h' := rfl
    rcases ih (blankOut l x.1 x.2) i h' hb with ⟨⟨y, hy, q⟩, k⟩ | ⟨k1, k2⟩
    · exact Or.inl ⟨⟨y, List.mem_cons_of_mem _ hy, q⟩, hv.trans k⟩
    · by_cases hx : x.1 ≤ i ∧ i < x.2
      · exact Or.inl ⟨⟨x, List.mem_cons_self, hx⟩, hv.trans (k2.trans (by rw [blankOut_at, if_pos hx]))⟩
      · refine Or.inr ⟨?_, hv.trans (k2.trans (by rw [blankOut_at, if_neg hx]))⟩
        rintro ⟨y, hy, q⟩
        rcases List.mem_cons.1 hy with rfl | hy
        · exact hx q
        · exact k1 ⟨y, hy, q⟩
/-- A byte of a text whose comments are blanked: 32 for one that is no line feed, or the byte itself, and then no percent sign. -/
theorem blank_at (l : List UInt8) (i : Nat) (h : i < (blank l).length) (h2 : i < l.length) : ((blank l)[i] = 32 ∧ l[i] ≠ 10) ∨ ((blank l)[i] = l[i] ∧ l[i] ≠ 37) := by
  rcases blankBy_at (comments l) l i h h2 with ⟨⟨x, hx, q1, q2⟩, k⟩ | ⟨k1, k2⟩
  · exact Or.inl ⟨k, comments_no10 _ _ _ x hx i h2 q1 q2⟩
  · refine Or.inr ⟨k2, fun h37 => k1 ?_⟩
    exact comments_cover (l.length + 1) l (find l 0 37) (fun h => find_at _ _ _ h) (by omega) i h2 (find_min l 0 37 i (by omega) h2 h37) h37
theorem find_all (s : List UInt8) (c : UInt8) (h : ∀ i, (hi : i < s.length) → s[i] ≠ c) : s.length ≤ find s 0 c := by
  rcases Nat.lt_or_ge (find s 0 c) s.length with q | q
  · exact absurd (find_at s 0 c q) (h _ q)
  · exact q
theorem blank_blank (l : List UInt8) : blank (blank l) = blank l := by
  have h : (blank l).length ≤ find (blank l) 0 37 := find_all _ _ fun i hi => by
    rcases blank_at l i hi (by rw [blank_len] at hi; exact hi) with ⟨q, _⟩ | ⟨q, q2⟩
    · rw [q]; decide
    · rw [q]; exact q2
  have hc : comments (blank l) = [] := by
    unfold comments commentsF
    rw [if_neg (by omega)]
  show blankBy (blank l) (comments (blank l)) = blank l
  rw [hc]; rfl
theorem fault_blank (l : List UInt8) (h : (fault l).2 = 0) : fault (blank l) = (0, 0) := by
  have hs := fault_small l h
  have hb : badAt l = l.length := by
    unfold fault at h
    rw [if_neg (by omega)] at h
    by_cases q : badAt l < l.length
    · rw [if_pos q] at h; cases h
    · have : badAt l ≤ l.length := by have := leadI_le (fun _ c => okByte c) l 0; unfold badAt; omega
      omega
  have hb2 : badAt (blank l) = (blank l).length := by
    unfold badAt
    rw [leadI_all (fun _ c => okByte c) (blank l) 0, Nat.zero_add]
    intro i hi
    have hi2 : i < l.length := by rw [blank_len] at hi; exact hi
    rcases blank_at l i hi hi2 with ⟨q, _⟩ | ⟨q, _⟩
    · simp only [q]; decide
    · simp only [q]
      exact leadI_before (fun _ c => okByte c) l 0 i hi2 (by show 0 + i < badAt l; omega)
  unfold fault
  rw [if_neg (by rw [blank_len]; omega), hb2, if_neg (by omega)]
end M
end Go.Proofs.YtamdcloahkacnaaGreatDoor
