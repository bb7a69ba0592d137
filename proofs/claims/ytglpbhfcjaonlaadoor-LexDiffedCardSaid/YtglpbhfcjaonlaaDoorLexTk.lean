/- DERIVED. Contract of the document's own Diff. -/
import Derived.Test.YtglpbhfcjaonlaaDoorLexTe
namespace Go.Proofs.YtglpbhfcjaonlaaDoor
open Go.RowKit Go.WideMaps Go.Maps Go.Shelf
namespace M
theorem alike_eq (l m : List UInt8) (k : Nat) (hk1 : k ≤ l.length) (hk2 : k ≤ m.length) (hall : ∀ j, (h1 : j < l.length) → (h2 : j < m.length) → j < k → l[j] = m[j])
    (hstop : k = l.length ∨ k = m.length ∨ ∃ h1 h2, l[k]'h1 ≠ m[k]'h2) : alike l m = k := by
  unfold alike
  by_cases h : k = l.length
  · rw [leadI_all _ l 0 (fun j hj => by rw [Nat.zero_add]; rw [decide_eq_true_iff, List.getElem?_eq_getElem (by omega)]; rw [hall j hj (by omega) (by omega)]), Nat.zero_add, h]
  · have hkl : k < l.length := by omega
    rw [leadI_stop _ l 0 k hkl (fun j hj => by rw [Nat.zero_add]; rw [decide_eq_true_iff, List.getElem?_eq_getElem (by omega)]; rw [hall j (by omega) (by omega) hj]) ?_, Nat.zero_add]
    rw [Nat.zero_add, decide_eq_false_iff_not]
    intro q
    rcases hstop with q1 | q1 | ⟨q1, q2, q3⟩
    · exact h q1
    · rw [List.getElem?_eq_none (by omega)] at q; cases q
    · rw [List.getElem?_eq_getElem q2] at q; exact q3 (Option.some.inj q).symm
theorem rev_at (l : List UInt8) (k j : Nat) (hk : k ≤ l.length) (h : j < (l.drop k).reverse.length) (h2 : l.length - 1 - j < l.length) : (l.drop k).reverse[j] = l[l.length - 1 - j] := by
  rw [List.getElem_reverse, List.getElem_drop]
  simp only [List.length_reverse, List.length_drop] at h
  congr 1
  rw [List.length_drop]
  omega
theorem at_of (s : ByteArray) (q : Nat) (h : q < s.size) (i : Nat) (hi : i < s.data.toList.length) (e : i = q) : s.data.toList[i] = s[q] := by subst e; rfl
end M

set_option maxHeartbeats 1000000 in
set_option maxRecDepth 100000 in
theorem refDiff_ok (a b : ByteArray) (w : World) (ha : a.size ≤ 2500) (hb : b.size ≤ 2500) (fa : (M.fault a.data.toList).2 = 0) (fb : (M.fault b.data.toList).2 = 0) :
    Calls Tryd.prog 31 #[.string a, .string b] w fun e w' => e = .returned (.tuple #[edV (M.diff a b).1, .int .i64 (M.diff a b).2]) ∧ Below w.heap.size w w' := by
  have hres : M.diff a b = (⟨M.alike a.data.toList b.data.toList, ((a.size - M.alike (a.data.toList.drop (M.alike a.data.toList b.data.toList)).reverse (b.data.toList.drop (M.alike a.data.toList b.data.toList)).reverse : Nat) : Int), b.extract (M.alike a.data.toList b.data.toList) (b.size - M.alike (a.data.toList.drop (M.alike a.data.toList b.data.toList)).reverse (b.data.toList.drop (M.alike a.data.toList b.data.toList)).reverse)⟩, 0) := by
    unfold M.diff; rw [if_neg (by rw [fa]; simp), if_neg (by rw [fb]; simp)]
  obtain ⟨pa, ca, ga⟩ : ∃ p c, M.fault a.data.toList = (p, c) := ⟨_, _, rfl⟩
  obtain ⟨pb, cb, gb⟩ : ∃ p c, M.fault b.data.toList = (p, c) := ⟨_, _, rfl⟩
  rw [ga] at fa
  rw [gb] at fb
  dsimp only at fa fb
  subst fa fb
  have HRES := Lib.hid hres
  have HA := Lib.hid ga
  have HB := Lib.hid gb
  have hla := M.size_list a
  have hlb := M.size_list b
  clear hres ga gb
  go_enter Tryd.func31, Tryd.ntmps31
  go_wp2_with fail
  refine (refCheck_any a _ (by unfold maxLen; omega)).mono ?_
  rintro e w1 ⟨rfl, hB1⟩
  rw [HA.out]
  go_wp2_with fail
  refine (refCheck_any b _ (by unfold maxLen; omega)).mono ?_
  rintro e w2 ⟨rfl, hB2⟩
  rw [HB.out]
  have hW2 : Below (w.heap.size + 1) (w.alloc (.cells #[.int .i64 0, .int .i64 0, .string ⟨#[]⟩] 39)) w2 := (hB1.mono (by simp)).trans (hB2.mono (by have := hB1.size; simpa using this))
  have hr : w2.heap[w.heap.size]? = some (.cells #[.int .i64 0, .int .i64 0, .string ⟨#[]⟩] 39 (0, 0)) := by rw [hW2.block _ (by omega)]; exact (MapKept.heap_alloc w _).1
  have hBw : Below w.heap.size w w2 := (below1 w _).trans (hW2.mono (by omega))
  have hlt : w.heap.size < w2.heap.size := by have := hW2.size; simp at this; omega
  have HR := Lib.hid hr
  clear hB1 hB2 hW2 hr
  go_wp2_with fail
  go_loopw [10] (fun i wr => ∃ k : Nat, k ≤ a.size ∧ k ≤ b.size ∧ i = .int .i64 k ∧ Hid (∀ j, (h1 : j < a.data.toList.length) → (h2 : j < b.data.toList.length) → j < k → a.data.toList[j] = b.data.toList[j]) ∧ Below w2.heap.size w2 wr) (fun i _ => a.size - (intOf i).toNat)
  case atStart => exact ⟨0, by omega, by omega, rfl, Lib.hid (fun j _ _ h => by omega), Below.refl _ _⟩
  case round =>
    rename_i wr
    obtain ⟨k, hka, hkb, rfl, HALL, hB⟩ := hrel
    by_cases hgo : k < a.size ∧ k < b.size ∧ (∃ h1 h2, a.data.toList[k]'h1 = b.data.toList[k]'h2)
    · obtain ⟨k1, k2, e1, e2, he⟩ := hgo
      obtain ⟨c, hc⟩ : ∃ c, a[k]'k1 = c := ⟨_, rfl⟩
      have hc2 : b[k]'k2 = c := by rw [← hc]; exact he.symm
      have d1 : decide ((k : Int) < (a.size : Int)) = true := by simp; omega
      have d2 : decide ((k : Int) < (b.size : Int)) = true := by simp; omega
      clear he e1 e2
      go_wp2_with fail
      go_quiet (fail)
      go_wp2_with fail
      refine ⟨⟨k + 1, by omega, by omega, by simp, Lib.hid ?_, belowN hB _⟩, by simp [intOf]; omega⟩
      intro j q1 q2 hj
      rcases Nat.lt_succ_iff_lt_or_eq.1 hj with hj | rfl
      · exact HALL.out j q1 q2 hj
      · exact hc.trans hc2.symm
    · have hk : M.alike a.data.toList b.data.toList = k := by
        refine M.alike_eq _ _ k (by omega) (by omega) HALL.out ?_
        rcases Nat.lt_or_ge k a.size with q1 | q1
        · rcases Nat.lt_or_ge k b.size with q2 | q2
          · exact Or.inr (Or.inr ⟨by omega, by omega, fun q => hgo ⟨q1, q2, by omega, by omega, q⟩⟩)
          · exact Or.inr (Or.inl (by omega))
        · exact Or.inl (by omega)
      have HK := Lib.hid hk
      clear hk
      by_cases c1 : k < a.size
      · have d1 : decide ((k : Int) < (a.size : Int)) = true := by simp; omega
        by_cases c2 : k < b.size
        · have d2 : decide ((k : Int) < (b.size : Int)) = true := by simp; omega
          obtain ⟨x, hx⟩ : ∃ c, a[k]'c1 = c := ⟨_, rfl⟩
          obtain ⟨y, hy⟩ : ∃ c, b[k]'c2 = c := ⟨_, rfl⟩
          have hxn : ¬ x.toNat = y.toNat := fun q => hgo ⟨c1, c2, by omega, by omega, hx.trans ((UInt8.toNat_inj.1 q).trans hy.symm)⟩
          have d3 : (((x.toNat : Nat) : Int) == ((y.toNat : Nat) : Int)) = false := by rw [beq_eq_false_iff_ne]; omega
          clear hgo
          go_wp2_with fail
          go_quiet (fail)
          go_wp2_with fail
          go_loopw [11] (fun i wr => ∃ n : Nat, k + n ≤ a.size ∧ k + n ≤ b.size ∧ i = .int .i64 n ∧ Hid (∀ j, (h1 : j < (a.data.toList.drop k).reverse.length) → (h2 : j < (b.data.toList.drop k).reverse.length) → j < n → (a.data.toList.drop k).reverse[j] = (b.data.toList.drop k).reverse[j]) ∧ Below w2.heap.size w2 wr) (fun i _ => a.size - (intOf i).toNat)
          case atStart => exact ⟨0, by omega, by omega, rfl, Lib.hid (fun j _ _ h => by omega), belowN hB _⟩
          case round =>
            clear hB
            rename_i wr
            obtain ⟨n, hna, hnb, rfl, HALL2, hB⟩ := hrel
            have hLa : (a.data.toList.drop k).reverse.length = a.size - k := by rw [List.length_reverse, List.length_drop, hla]
            have hLb : (b.data.toList.drop k).reverse.length = b.size - k := by rw [List.length_reverse, List.length_drop, hlb]
            by_cases c1 : k + n < a.size
            · have e1 : decide ((k : Int) + (n : Int) < (a.size : Int)) = true := by simp; omega
              by_cases c2 : k + n < b.size
              · have e2 : decide ((k : Int) + (n : Int) < (b.size : Int)) = true := by simp; omega
                obtain ⟨qa, hqa⟩ : ∃ q, a.size - 1 - n = q := ⟨_, rfl⟩
                obtain ⟨qb, hqb⟩ : ∃ q, b.size - 1 - n = q := ⟨_, rfl⟩
                have i1 : (a.size : Int) - 1 - (n : Int) = (qa : Int) := by omega
                have i2 : (b.size : Int) - 1 - (n : Int) = (qb : Int) := by omega
                have s1 : qa < a.size := by omega
                have s2 : qb < b.size := by omega
                obtain ⟨x, hx⟩ : ∃ c, a[qa]'s1 = c := ⟨_, rfl⟩
                obtain ⟨y, hy⟩ : ∃ c, b[qb]'s2 = c := ⟨_, rfl⟩
                have rx : ∀ h, (a.data.toList.drop k).reverse[n]'h = x := by
                  intro h
                  rw [M.rev_at _ _ _ (by omega) h (by omega), ← hx]
                  exact M.at_of a qa s1 _ _ (by omega)
                have ry : ∀ h, (b.data.toList.drop k).reverse[n]'h = y := by
                  intro h
                  rw [M.rev_at _ _ _ (by omega) h (by omega), ← hy]
                  exact M.at_of b qb s2 _ _ (by omega)
                have HRX := Lib.hid rx
                have HRY := Lib.hid ry
                clear rx ry hqa hqb
                by_cases hxy : x = y
                · subst hxy
                  go_wp2_with fail
                  go_quiet (fail)
                  go_wp2_with fail
                  refine ⟨⟨n + 1, by omega, by omega, by simp, Lib.hid ?_, belowN hB _⟩, by simp [intOf]; omega⟩
                  intro j q1 q2 hj
                  rcases Nat.lt_succ_iff_lt_or_eq.1 hj with hj | rfl
                  · exact HALL2.out j q1 q2 hj
                  · exact (HRX.out q1).trans (HRY.out q2).symm
                · have hxn : ¬ x.toNat = y.toNat := fun q => hxy (UInt8.toNat_inj.1 q)
                  have e3 : (((x.toNat : Nat) : Int) == ((y.toNat : Nat) : Int)) = false := by rw [beq_eq_false_iff_ne]; omega
                  have hn : M.alike (a.data.toList.drop k).reverse (b.data.toList.drop k).reverse = n := by
                    refine M.alike_eq _ _ n (by rw [List.length_reverse, List.length_drop]; omega) (by rw [List.length_reverse, List.length_drop]; omega) HALL2.out ?_
                    exact Or.inr (Or.inr ⟨by omega, by omega, fun q => hxy ((HRX.out _).symm.trans (q.trans (HRY.out _)))⟩)
                  have i3 : (a.size : Int) - (n : Int) = ((a.size - n : Nat) : Int) := by omega
                  have i4 : (b.size : Int) - (n : Int) = ((b.size - n : Nat) : Int) := by omega
                  have o1 : k ≤ b.size - n := by omega
                  have o2 : b.size - n ≤ b.size := by omega
                  have o3 : (k : Int) ≤ ((b.size - n : Nat) : Int) := by omega
                  have o4 : ((b.size - n : Nat) : Int) ≤ (b.size : Int) := by omega
                  have HR2 := Lib.hid ((hB.block _ hlt).trans HR.out)
                  obtain ⟨⟨q0, q1, q2⟩, f0, f1, f2⟩ := res3 HR2.out
                  have hltr : w.heap.size < wr.heap.size := Nat.lt_of_lt_of_le hlt hB.size
                  have HN := Lib.hid hn
                  clear hn
                  go_wp2_with fail
                  go_quiet (fail)
                  go_wp2_with fail
                  refine bodyPost_ret (v := .tuple #[edV ⟨k, ((a.size - n : Nat) : Int), b.extract k (b.size - n)⟩, .int .i64 0]) (by simp [results, Tryd.results31, go_sem, q0, q1, q2]) rfl ?_
                  exact ⟨by rw [HRES.out, HK.out, HN.out]; rfl, below3 (belowN (below2 hBw hB) _) _ (Nat.le_refl _) _ _ _⟩
              · have e2 : decide ((k : Int) + (n : Int) < (b.size : Int)) = false := by simp; omega
                have hn : M.alike (a.data.toList.drop k).reverse (b.data.toList.drop k).reverse = n := by
                  refine M.alike_eq _ _ n (by rw [List.length_reverse, List.length_drop]; omega) (by rw [List.length_reverse, List.length_drop]; omega) HALL2.out ?_
                  exact Or.inr (Or.inl (by omega))
                have i3 : (a.size : Int) - (n : Int) = ((a.size - n : Nat) : Int) := by omega
                have i4 : (b.size : Int) - (n : Int) = ((b.size - n : Nat) : Int) := by omega
                have o1 : k ≤ b.size - n := by omega
                have o2 : b.size - n ≤ b.size := by omega
                have o3 : (k : Int) ≤ ((b.size - n : Nat) : Int) := by omega
                have o4 : ((b.size - n : Nat) : Int) ≤ (b.size : Int) := by omega
                have HR2 := Lib.hid ((hB.block _ hlt).trans HR.out)
                obtain ⟨⟨q0, q1, q2⟩, f0, f1, f2⟩ := res3 HR2.out
                have hltr : w.heap.size < wr.heap.size := Nat.lt_of_lt_of_le hlt hB.size
                have HN := Lib.hid hn
                clear hn
                go_wp2_with fail
                go_quiet (fail)
                go_wp2_with fail
                refine bodyPost_ret (v := .tuple #[edV ⟨k, ((a.size - n : Nat) : Int), b.extract k (b.size - n)⟩, .int .i64 0]) (by simp [results, Tryd.results31, go_sem, q0, q1, q2]) rfl ?_
                exact ⟨by rw [HRES.out, HK.out, HN.out]; rfl, below3 (belowN (below2 hBw hB) _) _ (Nat.le_refl _) _ _ _⟩
            · have e1 : decide ((k : Int) + (n : Int) < (a.size : Int)) = false := by simp; omega
              have hn : M.alike (a.data.toList.drop k).reverse (b.data.toList.drop k).reverse = n := by
                refine M.alike_eq _ _ n (by rw [List.length_reverse, List.length_drop]; omega) (by rw [List.length_reverse, List.length_drop]; omega) HALL2.out ?_
                exact Or.inl (by omega)
              have i3 : (a.size : Int) - (n : Int) = ((a.size - n : Nat) : Int) := by omega
              have i4 : (b.size : Int) - (n : Int) = ((b.size - n : Nat) : Int) := by omega
              have o1 : k ≤ b.size - n := by omega
              have o2 : b.size - n ≤ b.size := by omega
              have o3 : (k : Int) ≤ ((b.size - n : Nat) : Int) := by omega
              have o4 : ((b.size - n : Nat) : Int) ≤ (b.size : Int) := by omega
              have HR2 := Lib.hid ((hB.block _ hlt).trans HR.out)
              obtain ⟨⟨q0, q1, q2⟩, f0, f1, f2⟩ := res3 HR2.out
              have hltr : w.heap.size < wr.heap.size := Nat.lt_of_lt_of_le hlt hB.size
              have HN := Lib.hid hn
              clear hn
              go_wp2_with fail
              go_quiet (fail)
              go_wp2_with fail
              refine bodyPost_ret (v := .tuple #[edV ⟨k, ((a.size - n : Nat) : Int), b.extract k (b.size - n)⟩, .int .i64 0]) (by simp [results, Tryd.results31, go_sem, q0, q1, q2]) rfl ?_
              exact ⟨by rw [HRES.out, HK.out, HN.out]; rfl, below3 (belowN (below2 hBw hB) _) _ (Nat.le_refl _) _ _ _⟩

        · have d2 : decide ((k : Int) < (b.size : Int)) = false := by simp; omega
          clear hgo
          go_wp2_with fail
          go_quiet (fail)
          go_wp2_with fail
          go_loopw [11] (fun i wr => ∃ n : Nat, k + n ≤ a.size ∧ k + n ≤ b.size ∧ i = .int .i64 n ∧ Hid (∀ j, (h1 : j < (a.data.toList.drop k).reverse.length) → (h2 : j < (b.data.toList.drop k).reverse.length) → j < n → (a.data.toList.drop k).reverse[j] = (b.data.toList.drop k).reverse[j]) ∧ Below w2.heap.size w2 wr) (fun i _ => a.size - (intOf i).toNat)
          case atStart => exact ⟨0, by omega, by omega, rfl, Lib.hid (fun j _ _ h => by omega), belowN hB _⟩
          case round =>
            clear hB
            rename_i wr
            obtain ⟨n, hna, hnb, rfl, HALL2, hB⟩ := hrel
            have hLa : (a.data.toList.drop k).reverse.length = a.size - k := by rw [List.length_reverse, List.length_drop, hla]
            have hLb : (b.data.toList.drop k).reverse.length = b.size - k := by rw [List.length_reverse, List.length_drop, hlb]
            have e1 : decide ((k : Int) + (n : Int) < (a.size : Int)) = true := by simp; omega
            have e2 : decide ((k : Int) + (n : Int) < (b.size : Int)) = false := by simp; omega
            have hn : M.alike (a.data.toList.drop k).reverse (b.data.toList.drop k).reverse = n := by
              refine M.alike_eq _ _ n (by rw [List.length_reverse, List.length_drop]; omega) (by rw [List.length_reverse, List.length_drop]; omega) HALL2.out ?_
              exact Or.inr (Or.inl (by omega))
            have i3 : (a.size : Int) - (n : Int) = ((a.size - n : Nat) : Int) := by omega
            have i4 : (b.size : Int) - (n : Int) = ((b.size - n : Nat) : Int) := by omega
            have o1 : k ≤ b.size - n := by omega
            have o2 : b.size - n ≤ b.size := by omega
            have o3 : (k : Int) ≤ ((b.size - n : Nat) : Int) := by omega
            have o4 : ((b.size - n : Nat) : Int) ≤ (b.size : Int) := by omega
            have HR2 := Lib.hid ((hB.block _ hlt).trans HR.out)
            obtain ⟨⟨q0, q1, q2⟩, f0, f1, f2⟩ := res3 HR2.out
            have hltr : w.heap.size < wr.heap.size := Nat.lt_of_lt_of_le hlt hB.size
            have HN := Lib.hid hn
            clear hn
            go_wp2_with fail
            go_quiet (fail)
            go_wp2_with fail
            refine bodyPost_ret (v := .tuple #[edV ⟨k, ((a.size - n : Nat) : Int), b.extract k (b.size - n)⟩, .int .i64 0]) (by simp [results, Tryd.results31, go_sem, q0, q1, q2]) rfl ?_
            exact ⟨by rw [HRES.out, HK.out, HN.out]; rfl, below3 (belowN (below2 hBw hB) _) _ (Nat.le_refl _) _ _ _⟩

      · have d1 : decide ((k : Int) < (a.size : Int)) = false := by simp; omega
        clear hgo
        go_wp2_with fail
        go_quiet (fail)
        go_wp2_with fail
        go_loopw [11] (fun i wr => ∃ n : Nat, k + n ≤ a.size ∧ k + n ≤ b.size ∧ i = .int .i64 n ∧ Hid (∀ j, (h1 : j < (a.data.toList.drop k).reverse.length) → (h2 : j < (b.data.toList.drop k).reverse.length) → j < n → (a.data.toList.drop k).reverse[j] = (b.data.toList.drop k).reverse[j]) ∧ Below w2.heap.size w2 wr) (fun i _ => a.size - (intOf i).toNat)
        case atStart => exact ⟨0, by omega, by omega, rfl, Lib.hid (fun j _ _ h => by omega), belowN hB _⟩
        case round =>
          clear hB
          rename_i wr
          obtain ⟨n, hna, hnb, rfl, HALL2, hB⟩ := hrel
          have hLa : (a.data.toList.drop k).reverse.length = a.size - k := by rw [List.length_reverse, List.length_drop, hla]
          have hLb : (b.data.toList.drop k).reverse.length = b.size - k := by rw [List.length_reverse, List.length_drop, hlb]
          have e1 : decide ((k : Int) + (n : Int) < (a.size : Int)) = false := by simp; omega
          have hn : M.alike (a.data.toList.drop k).reverse (b.data.toList.drop k).reverse = n := by
            refine M.alike_eq _ _ n (by rw [List.length_reverse, List.length_drop]; omega) (by rw [List.length_reverse, List.length_drop]; omega) HALL2.out ?_
            exact Or.inl (by omega)
          have i3 : (a.size : Int) - (n : Int) = ((a.size - n : Nat) : Int) := by omega
          have i4 : (b.size : Int) - (n : Int) = ((b.size - n : Nat) : Int) := by omega
          have o1 : k ≤ b.size - n := by omega
          have o2 : b.size - n ≤ b.size := by omega
          have o3 : (k : Int) ≤ ((b.size - n : Nat) : Int) := by omega
          have o4 : ((b.size - n : Nat) : Int) ≤ (b.size : Int) := by omega
          have HR2 := Lib.hid ((hB.block _ hlt).trans HR.out)
          obtain ⟨⟨q0, q1, q2⟩, f0, f1, f2⟩ := res3 HR2.out
          have hltr : w.heap.size < wr.heap.size := Nat.lt_of_lt_of_le hlt hB.size
          have HN := Lib.hid hn
          clear hn
          go_wp2_with fail
          go_quiet (fail)
          go_wp2_with fail
          refine bodyPost_ret (v := .tuple #[edV ⟨k, ((a.size - n : Nat) : Int), b.extract k (b.size - n)⟩, .int .i64 0]) (by simp [results, Tryd.results31, go_sem, q0, q1, q2]) rfl ?_
          exact ⟨by rw [HRES.out, HK.out, HN.out]; rfl, below3 (belowN (below2 hBw hB) _) _ (Nat.le_refl _) _ _ _⟩

end Go.Proofs.YtglpbhfcjaonlaaDoor
