/- DERIVED. Plain: the comments of a text, as the document finds them. -/
import Derived.Test.YtamdcloahkacnaaDoorLexBb
namespace Go.Proofs.YtamdcloahkacnaaDoor
namespace M
theorem comments_fuel (s : List UInt8) : ∀ f k f', s.length < k + f → s.length < k + f' → commentsF f s k = commentsF f' s k := by
  intro f
  induction f with
  | zero =>
    intro k f' h1 h2
    cases f' with
    | zero => rfl
    | succ f' => unfold commentsF; rw [if_neg (by omega)]
  | succ f ih =>
    intro k f' h1 h2
    cases f' with
    | zero => unfold commentsF; rw [if_neg (by omega)]
    | succ f' =>
      unfold commentsF
      by_cases hk : k < s.length
      · rw [if_pos hk, if_pos hk]
        have hadv : k < find s (find s k 10) 37 := by
          have h3 := find_ge s k 10
          have h4 := find_ge s (find s k 10) 37
          by_cases h10 : s[k] = 10
          · have e : find s k 10 = k := by
              have := find_min s k 10 k (Nat.le_refl _) hk h10
              omega
            rw [e]
            exact find_gt s k 37 hk (by rw [h10]; decide)
          · have := find_gt s k 10 hk h10
            omega
        rw [ih _ f' (by omega) (by omega)]
      · rw [if_neg hk, if_neg hk]
def cm (s : List UInt8) (k : Nat) : List (Nat × Nat) := commentsF (s.length + 1) s k
theorem cm_all (s : List UInt8) : cm s (find s 0 37) = comments s := rfl
theorem cm_none (s : List UInt8) (k : Nat) (h : s.length ≤ k) : cm s k = [] := by unfold cm commentsF; rw [if_neg (by omega)]
theorem cm_step (s : List UInt8) (k : Nat) (h : k < s.length) : cm s k = (k, find s k 10) :: cm s (find s (find s k 10) 37) := by
  unfold cm
  have h3 := find_ge s k 10
  have h4 := find_ge s (find s k 10) 37
  show commentsF (s.length + 1) s k = _
  rw [commentsF, if_pos h]
  by_cases hz : s.length < find s (find s k 10) 37 + s.length
  · rw [comments_fuel s s.length _ (s.length + 1) hz (by omega)]
  · have : find s (find s k 10) 37 = 0 := by omega
    have hk0 : k = 0 := by omega
    have hf : find s k 10 = 0 := by omega
    exfalso
    subst hk0
    by_cases h10 : s[0] = 10
    · rw [hf] at this
      have := find_gt s 0 37 h (by rw [h10]; decide)
      omega
    · have := find_gt s 0 10 h h10
      omega
theorem find_skip (s : List UInt8) (i : Nat) (c : UInt8) (h : i < s.length) (hc : s[i] ≠ c) : find s i c = find s (i + 1) c := by
  unfold find
  rw [List.drop_eq_getElem_cons h]
  have e : ∀ (l : List UInt8) (j : Nat), leadI (fun _ x => !(x == c)) (j + 1) l = leadI (fun _ x => !(x == c)) j l + 1 := by
    intro l
    induction l with
    | nil => intro j; rfl
    | cons x l ih =>
      intro j
      simp only [leadI]
      split
      · exact ih (j + 1)
      · rfl
  rw [leadI, if_pos (by simp [hc]), e]; omega
theorem find_here (s : List UInt8) (i : Nat) (c : UInt8) (h : i < s.length) (hc : s[i] = c) : find s i c = i := by
  have h1 := find_min s i c i (Nat.le_refl _) h hc
  have h2 := find_ge s i c
  omega
theorem find_end (s : List UInt8) (i : Nat) (c : UInt8) (h : i = s.length) : find s i c = i := by
  have h1 := find_le s i c (by omega)
  have h2 := find_ge s i c
  omega
/-- What the document's loop keeps: what is found till here, and where the comment at hand begins, or -1. -/
def CmI (s : List UInt8) (i : Nat) (q : Int) (out : List (Nat × Nat)) : Prop :=
  (q = -1 ∧ (i ≤ s.length → out ++ cm s (find s i 37) = comments s) ∧ (s.length < i → out = comments s)) ∨
  (∃ k : Nat, q = k ∧ k < i ∧ i ≤ s.length ∧ i ≤ find s k 10 ∧ out ++ cm s k = comments s)
theorem cmI_start (s : List UInt8) : CmI s 0 (-1) [] := Or.inl ⟨rfl, fun _ => by rw [List.nil_append, cm_all], fun h => by omega⟩
theorem cmI_done (s : List UInt8) (q : Int) (out : List (Nat × Nat)) (h : CmI s (s.length + 1) q out) : out = comments s := by
  rcases h with ⟨_, _, h⟩ | ⟨k, _, _, h, _⟩
  · exact h (by omega)
  · omega
/-- At a line feed, or the end, a comment ends. -/
theorem cmI_close (s : List UInt8) (i : Nat) (q : Int) (out : List (Nat × Nat)) (h : CmI s i q out) (hi : i ≤ s.length) (h10 : i = s.length ∨ ∃ h : i < s.length, s[i] = 10) :
    (0 ≤ q → ∃ k : Nat, q = k ∧ k ≤ i ∧ CmI s (i + 1) (-1) (out ++ [(k, i)])) ∧ (q < 0 → CmI s (i + 1) (-1) out) := by
  have hnext : ∀ o, o ++ cm s (find s i 37) = comments s → CmI s (i + 1) (-1) o := by
    intro o ho
    refine Or.inl ⟨rfl, fun h1 => ?_, fun h1 => ?_⟩
    · rcases h10 with e | ⟨hlt, e⟩
      · omega
      · rw [← find_skip s i 37 hlt (by rw [e]; decide)]; exact ho
    · have : i = s.length := by omega
      rw [find_end s i 37 this, cm_none s i (by omega), List.append_nil] at ho
      exact ho
  rcases h with ⟨rfl, h1, _⟩ | ⟨k, rfl, h1, h2, h3, h4⟩
  · exact ⟨fun h => absurd h (by decide), fun _ => hnext out (h1 hi)⟩
  · refine ⟨fun _ => ⟨k, rfl, by omega, ?_⟩, fun h => by omega⟩
    have hfe : find s k 10 = i := by
      rcases h10 with e | ⟨hlt, e⟩
      · have := find_le s k 10 (by omega); omega
      · have := find_min s k 10 i (by omega) hlt e; omega
    refine hnext _ ?_
    rw [cm_step s k (by omega), hfe] at h4
    rw [List.append_assoc]; exact h4
/-- At a percent sign outside of comments one begins. -/
theorem cmI_open (s : List UInt8) (i : Nat) (q : Int) (out : List (Nat × Nat)) (h : CmI s i q out) (hi : i < s.length) (h37 : s[i] = 37) (hq : q < 0) : CmI s (i + 1) i out := by
  rcases h with ⟨rfl, h1, _⟩ | ⟨k, rfl, _⟩
  · refine Or.inr ⟨i, rfl, by omega, by omega, ?_, ?_⟩
    · exact find_gt s i 10 hi (by rw [h37]; decide)
    · have := h1 (by omega)
      rw [find_here s i 37 hi h37] at this; exact this
  · omega
/-- At any other byte nothing changes. -/
theorem cmI_skip (s : List UInt8) (i : Nat) (q : Int) (out : List (Nat × Nat)) (h : CmI s i q out) (hi : i < s.length) (h10 : s[i] ≠ 10) (h37 : s[i] ≠ 37 ∨ 0 ≤ q) : CmI s (i + 1) q out := by
  rcases h with ⟨rfl, h1, _⟩ | ⟨k, rfl, h1, h2, h3, h4⟩
  · have hne : s[i] ≠ 37 := by
      rcases h37 with h | h
      · exact h
      · exact absurd h (by decide)
    exact Or.inl ⟨rfl, fun _ => by rw [← find_skip s i 37 hi hne]; exact h1 (by omega), fun h => by omega⟩
  · refine Or.inr ⟨k, rfl, by omega, by omega, ?_, h4⟩
    rcases Nat.eq_or_lt_of_le h3 with e | e
    · exfalso
      have := find_at s k 10 (by omega)
      simp only [← e] at this
      exact h10 this
    · omega
theorem comments_le (s : List UInt8) : ∀ x, x ∈ comments s → x.1 ≤ x.2 ∧ x.2 ≤ s.length := by
  have h : ∀ f k, k ≤ s.length → ∀ x, x ∈ commentsF f s k → x.1 ≤ x.2 ∧ x.2 ≤ s.length := by
    intro f
    induction f with
    | zero => intro k _ x hx; simp [commentsF] at hx
    | succ f ih =>
      intro k hk x hx
      unfold commentsF at hx
      by_cases hlt : k < s.length
      · rw [if_pos hlt] at hx
        have h1 := find_le s k 10 hk
        rcases List.mem_cons.1 hx with rfl | hx
        · exact ⟨find_ge _ _ _, h1⟩
        · exact ih _ (find_le _ _ _ h1) x hx
      · rw [if_neg hlt] at hx; simp at hx
  exact h _ _ (find_le _ _ _ (by omega))
theorem comments_many (s : List UInt8) : ∀ f k, k ≤ s.length → (commentsF f s k).length ≤ f := by
  intro f
  induction f with
  | zero => intro k _; simp [commentsF]
  | succ f ih =>
    intro k hk
    unfold commentsF
    by_cases hlt : k < s.length
    · rw [if_pos hlt, List.length_cons]
      have := ih (find s (find s k 10) 37) (find_le _ _ _ (find_le _ _ _ hk))
      omega
    · rw [if_neg hlt]; simp
theorem comments_len (s : List UInt8) : (comments s).length ≤ s.length + 1 := comments_many s _ _ (find_le _ _ _ (by omega))
end M
end Go.Proofs.YtamdcloahkacnaaDoor
