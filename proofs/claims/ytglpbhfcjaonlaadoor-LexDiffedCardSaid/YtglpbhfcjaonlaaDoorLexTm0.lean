/- DERIVED. Plain: the least edit from a text to another one. -/
import Derived.Test.YtglpbhfcjaonlaaDoorLexTk
namespace Go.Proofs.YtglpbhfcjaonlaaDoor
namespace M
theorem alike_take (l m : List UInt8) : l.take (alike l m) = m.take (alike l m) := by
  have h1 := alike_le l m
  have h2 := alike_le' l m
  apply List.ext_getElem
  · rw [List.length_take, List.length_take]; omega
  · intro j q1 q2
    rw [List.length_take] at q1 q2
    rw [List.getElem_take, List.getElem_take]
    have := leadI_before (fun i c => decide (m[i]? = some c)) l 0 j (by omega) (by rw [Nat.zero_add]; show j < alike l m; omega)
    rw [Nat.zero_add, decide_eq_true_iff, List.getElem?_eq_getElem (by omega)] at this
    exact (Option.some.inj this).symm
theorem alike_max (l m : List UInt8) (k : Nat) (h1 : k ≤ l.length) (h2 : k ≤ m.length) (h : l.take k = m.take k) : k ≤ alike l m := by
  rcases Nat.lt_or_ge (alike l m) k with q | q
  · exfalso
    have := leadI_at (fun i c => decide (m[i]? = some c)) l 0 (alike l m) (by omega) (by rw [Nat.zero_add]; rfl)
    rw [Nat.zero_add, decide_eq_false_iff_not, List.getElem?_eq_getElem (by omega)] at this
    apply this
    have e : (l.take k)[alike l m]? = (m.take k)[alike l m]? := by rw [h]
    rw [List.getElem?_take_of_lt q, List.getElem?_take_of_lt q, List.getElem?_eq_getElem (by omega), List.getElem?_eq_getElem (by omega)] at e
    exact e.symm
  · exact q
theorem rev_take (l : List UInt8) (p n : Nat) (h : n ≤ l.length - p) : (l.drop p).reverse.take n = (l.drop (l.length - n)).reverse := by
  rw [List.take_reverse, List.drop_drop, List.length_drop]
  by_cases hp : p ≤ l.length
  · congr 2; omega
  · have : n = 0 := by omega
    subst this
    rw [List.drop_of_length_le (by omega), List.drop_of_length_le (by omega)]
/-- The two numbers of the least edit. -/
theorem diff_core (a b : List UInt8) (p n : Nat) (hp : alike a b = p) (hn : alike (a.drop p).reverse (b.drop p).reverse = n) :
    p + n ≤ a.length ∧ p + n ≤ b.length ∧ a.take p ++ (b.drop p).take (b.length - n - p) ++ a.drop (a.length - n) = b ∧
    ∀ i k, i + k ≤ a.length → i + k ≤ b.length → a.take i = b.take i → a.drop (a.length - k) = b.drop (b.length - k) → i + k ≤ p + n := by
  have l1 := alike_le a b
  have l2 := alike_le' a b
  have l3 := alike_le (a.drop p).reverse (b.drop p).reverse
  have l4 := alike_le' (a.drop p).reverse (b.drop p).reverse
  rw [hp] at l1 l2
  rw [hn, List.length_reverse, List.length_drop] at l3 l4
  have t1 := alike_take a b
  have t2 := alike_take (a.drop p).reverse (b.drop p).reverse
  rw [hp] at t1
  rw [hn, rev_take a p n l3, rev_take b p n l4] at t2
  have t3 := List.reverse_inj.1 t2
  refine ⟨by omega, by omega, ?_, ?_⟩
  · rw [t1, t3]; exact cut4 b (by omega)
  · intro i k h1 h2 h3 h4
    have hi : i ≤ p := hp ▸ alike_max a b i (by omega) (by omega) h3
    obtain ⟨m, hm⟩ : ∃ m, m = min k (min a.length b.length - p) := ⟨_, rfl⟩
    have e1 : a.drop (a.length - m) = b.drop (b.length - m) := by
      have q1 : a.drop (a.length - m) = (a.drop (a.length - k)).drop (k - m) := by rw [List.drop_drop]; congr 1; omega
      have q2 : b.drop (b.length - m) = (b.drop (b.length - k)).drop (k - m) := by rw [List.drop_drop]; congr 1; omega
      rw [q1, q2, h4]
    have hmn : m ≤ n := by
      rw [← hn]
      refine alike_max _ _ m (by rw [List.length_reverse, List.length_drop]; omega) (by rw [List.length_reverse, List.length_drop]; omega) ?_
      rw [rev_take a p m (by omega), rev_take b p m (by omega), e1]
    omega
/-- The least edit does it, and none that does it is shorter. -/
theorem diff_least (a b : ByteArray) (h : (diff a b).2 = 0) :
    (fault a.data.toList).2 = 0 ∧ (fault b.data.toList).2 = 0 ∧ appE a (diff a b).1 = 0 ∧ applyT a (diff a b).1 = b ∧
    ∃ p n : Nat, p + n ≤ a.size ∧ p + n ≤ b.size ∧ (diff a b).1 = ⟨p, ((a.size - n : Nat) : Int), b.extract p (b.size - n)⟩ ∧
      ∀ i k, i + k ≤ a.size → i + k ≤ b.size → a.data.toList.take i = b.data.toList.take i → a.data.toList.drop (a.size - k) = b.data.toList.drop (b.size - k) → i + k ≤ p + n := by
  by_cases fa : (fault a.data.toList).2 = 0
  · by_cases fb : (fault b.data.toList).2 = 0
    · obtain ⟨p, hp⟩ : ∃ p, alike a.data.toList b.data.toList = p := ⟨_, rfl⟩
      obtain ⟨n, hn⟩ : ∃ n, alike (a.data.toList.drop p).reverse (b.data.toList.drop p).reverse = n := ⟨_, rfl⟩
      obtain ⟨k1, k2, k3, k4⟩ := diff_core _ _ p n hp hn
      have hd : (diff a b).1 = ⟨p, ((a.size - n : Nat) : Int), b.extract p (b.size - n)⟩ := by
        unfold diff; rw [if_neg (by rw [fa]; simp), if_neg (by rw [fb]; simp)]
        dsimp only
        rw [hp, hn]
      rw [size_list] at k1 k2
      rw [size_list, size_list] at k3
      have hi : isEdit a ⟨p, ((a.size - n : Nat) : Int), b.extract p (b.size - n)⟩ := ⟨by dsimp only; omega, by dsimp only; omega, by dsimp only; omega⟩
      have haf : after a ⟨p, ((a.size - n : Nat) : Int), b.extract p (b.size - n)⟩ = b := by
        apply bext
        rw [after_list]
        dsimp only
        rw [Int.toNat_natCast, Int.toNat_natCast, ext_list]
        exact k3
      have he : appE a ⟨p, ((a.size - n : Nat) : Int), b.extract p (b.size - n)⟩ = 0 := by
        unfold appE
        rw [if_neg (by rw [fa]; simp), if_neg (by simpa using hi), haf]
        exact fb
      refine ⟨fa, fb, by rw [hd]; exact he, by rw [hd]; unfold applyT; rw [if_pos he, haf], p, n, k1, k2, hd, ?_⟩
      intro i k q1 q2 q3 q4
      exact k4 i k (by rw [size_list]; exact q1) (by rw [size_list]; exact q2) q3 (by rw [size_list, size_list]; exact q4)
    · exfalso; unfold diff at h; rw [if_neg (by rw [fa]; simp), if_pos fb] at h; exact fb h
  · exfalso; unfold diff at h; rw [if_pos fa] at h; exact fa h
end M
end Go.Proofs.YtglpbhfcjaonlaaDoor
