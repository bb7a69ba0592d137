/- DERIVED. Plain: what a change of tokens is. -/
import Derived.Test.YtamdcloahkacnaaGreatDoorLexZ
namespace Go.Proofs.YtamdcloahkacnaaGreatDoor.M

structure Ch where
  head : Nat
  tail : Nat
  new : List Lx
def rescan (s : ByteArray) (x : Ed) : Ch × Nat × Nat :=
  if (scan s.data.toList).2.2 ≠ 0 then (⟨0, 0, []⟩, (scan s.data.toList).2.1, (scan s.data.toList).2.2) else
  if ¬ isEdit s x then (⟨0, 0, []⟩, 0, 3) else
  if (scan (after s x).data.toList).2.2 ≠ 0 then (⟨0, 0, []⟩, (scan (after s x).data.toList).2.1, (scan (after s x).data.toList).2.2) else
  let old := (scan s.data.toList).1
  let now := (scan (after s x).data.toList).1
  let h := head x old now
  let t := tail x (((after s x).size : Int) - (s.size : Int)) old now
  (⟨h, t, (now.take (now.length - t)).drop h⟩, 0, 0)

/-- A token of a text of n bytes. -/
def fine (n : Nat) (x : Lx) : Prop := 0 ≤ x.pos ∧ x.pos ≤ n ∧ x.text.size ≤ n ∧ 1 ≤ x.text.size
theorem tokensF_fine (s : List UInt8) : ∀ f k acc, (∀ x, x ∈ acc → fine s.length x) → acc.length ≤ 900 → (∀ x, x ∈ (tokensF f s k acc).1 → fine s.length x) ∧ (tokensF f s k acc).1.length ≤ 900 := by
  intro f
  induction f with
  | zero => intro k acc h1 h2; exact ⟨h1, h2⟩
  | succ f ih =>
    intro k acc h1 h2
    unfold tokensF
    by_cases hk : k < s.length
    · rw [if_pos hk]
      cases ht : token s k with
      | none => exact ⟨fun x hx => by simp at hx, by simp⟩
      | some x =>
        dsimp only
        by_cases h9 : acc.length = 900
        · rw [if_pos h9]; exact ⟨fun x hx => by simp at hx, by simp⟩
        · rw [if_neg h9]
          have hf := token_fits s k x hk ht
          have hp : x.pos = k := by
            unfold token at ht
            split at ht
            · cases ht
            · cases ht; rfl
          refine ih _ _ (fun y hy => ?_) (by rw [List.length_append]; simp; omega)
          rcases List.mem_append.1 hy with hy | hy
          · exact h1 y hy
          · rw [List.mem_singleton] at hy
            subst hy
            exact ⟨by omega, by omega, by omega, hf.1⟩
    · rw [if_neg hk]; exact ⟨h1, h2⟩
theorem scan_fine (s : List UInt8) : (∀ x, x ∈ (scan s).1 → fine 2500 x) ∧ (scan s).1.length ≤ 900 ∧ ((scan s).2.2 = 0 → s.length ≤ 2500) := by
  unfold scan
  by_cases h : (fault s).2 = 0
  · rw [if_pos h]
    have h1 := fault_small s h
    have h2 := tokensF_fine (blank s) ((blank s).length + 1) (behind [3] (blank s) 0) [] (fun x hx => by simp at hx) (by simp)
    rw [blank_len] at h2
    refine ⟨fun x hx => ?_, ?_, fun _ => h1⟩
    · have := h2.1 x (by unfold tokens at hx; rw [blank_len] at hx; exact hx)
      exact ⟨this.1, by have := this.2.1; omega, by have := this.2.2.1; omega, this.2.2.2⟩
    · unfold tokens; rw [blank_len]; exact h2.2
  · rw [if_neg h]
    exact ⟨fun x hx => by simp at hx, by simp, fun e => absurd e h⟩

theorem after_size (s : ByteArray) (x : Ed) (h : isEdit s x) : ((after s x).size : Int) = x.from_ + x.put.size + (s.size - x.to_) := by
  obtain ⟨h1, h2, h3⟩ := h
  unfold after
  rw [ByteArray.size_append, ByteArray.size_append, ByteArray.size_extract, ByteArray.size_extract]
  omega

theorem head_at (x : Ed) (old now : List Lx) (i : Nat) (h : i < head x old now) : ∃ y, now[i]? = some y ∧ y.pos < x.from_ := by
  have hl : i < old.length := by have := leadI_le (headP x now) old 0; unfold head at h; omega
  have hp := leadI_before (headP x now) old 0 i hl (by unfold head at h; omega)
  unfold headP at hp
  rw [Nat.zero_add, Bool.and_eq_true, decide_eq_true_eq] at hp
  obtain ⟨h1, h2⟩ := hp
  cases hn : now[i]? with
  | none => rw [hn] at h2; cases h2
  | some y =>
    rw [hn] at h2
    dsimp only at h2
    unfold eqLx at h2
    rw [decide_eq_true_eq] at h2
    exact ⟨y, rfl, by rw [h2.2.2]; exact h1⟩
theorem tail_at (x : Ed) (d : Int) (old now : List Lx) (j : Nat) (h : j < tail x d old now) : ∃ y, now.reverse[j]? = some y ∧ x.to_ + d ≤ y.pos := by
  have hl : j < old.reverse.length := by have := leadI_le (tailP x d now.reverse) old.reverse 0; unfold tail at h; omega
  have hp := leadI_before (tailP x d now.reverse) old.reverse 0 j hl (by unfold tail at h; omega)
  unfold tailP at hp
  rw [Nat.zero_add, Bool.and_eq_true, decide_eq_true_eq] at hp
  obtain ⟨h1, h2⟩ := hp
  cases hn : now.reverse[j]? with
  | none => rw [hn] at h2; cases h2
  | some y =>
    rw [hn] at h2
    dsimp only at h2
    unfold eqLx at h2
    rw [decide_eq_true_eq] at h2
    have h3 : y.pos = (old.reverse[j]).pos + d := h2.2.2
    exact ⟨y, rfl, by rw [h3]; omega⟩
theorem head_tail (s : ByteArray) (x : Ed) (h : isEdit s x) (old now : List Lx) : head x old now + tail x (((after s x).size : Int) - (s.size : Int)) old now ≤ now.length := by
  have ha := after_size s x h
  obtain ⟨d, hd⟩ : ∃ d, ((after s x).size : Int) - (s.size : Int) = d := ⟨_, rfl⟩
  rw [hd]
  have hn : head x old now ≤ now.length := by
    rcases Nat.lt_or_ge now.length (head x old now) with h1 | h1
    · obtain ⟨y, hy, _⟩ := head_at x old now now.length h1
      rw [List.getElem?_eq_none (Nat.le_refl _)] at hy; cases hy
    · exact h1
  have ht : tail x d old now ≤ now.length := by
    rcases Nat.lt_or_ge now.length (tail x d old now) with h1 | h1
    · obtain ⟨y, hy, _⟩ := tail_at x d old now now.length h1
      rw [List.getElem?_eq_none (by simp)] at hy; cases hy
    · exact h1
  rcases Nat.lt_or_ge now.length (head x old now + tail x d old now) with h1 | h1
  · obtain ⟨y, hy, hp⟩ := head_at x old now (now.length - tail x d old now) (by omega)
    obtain ⟨z, hz, hq⟩ := tail_at x d old now (tail x d old now - 1) (by omega)
    rw [List.getElem?_reverse (by omega), show now.length - 1 - (tail x d old now - 1) = now.length - tail x d old now from by omega, hy] at hz
    cases hz
    omega
  · exact h1

end Go.Proofs.YtamdcloahkacnaaGreatDoor.M
