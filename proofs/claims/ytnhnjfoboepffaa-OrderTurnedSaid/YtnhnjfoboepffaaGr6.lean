/- Texts of one's own, joined: OrdG. -/
import Derived.Test.YtnhnjfoboepffaaGr4
namespace Go.Proofs.Ytnhnjfoboepffaa
open Go.RowKit

namespace M
theorem getD_at (l : List Int) (k : Nat) (h : k < l.length) : l.getD k 0 = l[k] := by simp [List.getD, h]
def lowN (l : List Int) : Nat → Int
  | 0 => 0
  | k + 1 => l.getD k 0 + 1
theorem lowN_succ (l : List Int) (k : Nat) (h : k < l.length) : lowN l (k + 1) = l[k] + 1 := by
  show l.getD k 0 + 1 = _
  rw [getD_at l k h]
def ascTo (n : Nat) (l : List Int) (k : Nat) : Prop := ∀ j, (h : j < l.length) → j < k → 0 ≤ l[j] ∧ l[j] < n ∧ (0 < j → l[j - 1]'(by omega) < l[j])
noncomputable def ascB (n : Nat) (l : List Int) : Bool := @decide (asc n l) (Classical.propDecidable _)
theorem ascB_iff (n : Nat) (l : List Int) : ascB n l = true ↔ asc n l := by unfold ascB; exact @decide_eq_true_iff _ (Classical.propDecidable _)
theorem ascB_no {n : Nat} {l : List Int} (h : ¬ asc n l) : ascB n l = false := by
  cases hb : ascB n l
  · rfl
  · exact absurd ((ascB_iff n l).1 hb) h
theorem lowN_in {n : Nat} {l : List Int} {k : Nat} (h : ascTo n l k) (hk : k ≤ l.length) : 0 ≤ lowN l k ∧ lowN l k ≤ n := by
  cases k with
  | zero => exact ⟨Int.le_refl _, by show (0 : Int) ≤ n; omega⟩
  | succ k =>
    have := h k (by omega) (by omega)
    rw [lowN_succ l k (by omega)]
    omega
theorem asc_next {n : Nat} {l : List Int} {k : Nat} (h : ascTo n l k) (hk : k < l.length) (h1 : lowN l k ≤ l[k]) (h2 : l[k] < n) : ascTo n l (k + 1) := by
  intro j hj hjk
  rcases Nat.lt_succ_iff_lt_or_eq.1 hjk with h' | rfl
  · exact h j hj h'
  · have := lowN_in h (by omega)
    refine ⟨by omega, h2, fun h0 => ?_⟩
    cases j with
    | zero => omega
    | succ j =>
      rw [lowN_succ l j (by omega)] at h1
      show l[j] < _
      omega
theorem asc_low {n : Nat} {l : List Int} (h : asc n l) (k : Nat) (hk : k < l.length) : lowN l k ≤ l[k] ∧ l[k] < n := by
  have := h k hk
  refine ⟨?_, this.2.1⟩
  cases k with
  | zero => exact this.1
  | succ k =>
    have h2 := this.2.2 (by omega)
    rw [lowN_succ l k (by omega)]
    have h3 : l[k] < l[k + 1] := h2
    omega
def diff (l : List ByteArray) : Prop := ∀ i j, (hi : i < l.length) → (hj : j < l.length) → i < j → l[i] ≠ l[j]
noncomputable def diffB (l : List ByteArray) : Bool := @decide (diff l) (Classical.propDecidable _)
theorem diffB_iff (l : List ByteArray) : diffB l = true ↔ diff l := by unfold diffB; exact @decide_eq_true_iff _ (Classical.propDecidable _)
theorem diffB_no {l : List ByteArray} (h : ¬ diff l) : diffB l = false := by
  cases hb : diffB l
  · rfl
  · exact absurd ((diffB_iff l).1 hb) h
/-- Whether all of some first numbers are as is asked. -/
def allN (p : Nat → Bool) (n : Nat) : Bool := (List.range n).all p
theorem allN_iff (p : Nat → Bool) (n : Nat) : allN p n = true ↔ ∀ k, k < n → p k = true := by unfold allN; rw [List.all_eq_true]; simp
theorem allN_no {p : Nat → Bool} {n k : Nat} (hk : k < n) (h : p k = false) : allN p n = false := by
  cases hb : allN p n
  · rfl
  · rw [(allN_iff p n).1 hb k hk] at h; cases h
end M

set_option maxHeartbeats 1000000 in
set_option maxRecDepth 100000 in
theorem areNumbers_any (n : Nat) (a : Option Addr) (c : Nat) (l : List Int) (w : World) (hn : n ≤ 1000000) (hl : l.length ≤ 1000000) (ho : IntSl w a l) :
    Calls Try.prog 81 #[.int .i64 n, .slice a l.length c] w fun e w' => e = .returned (.bool (M.ascB n l)) ∧ w = w' := by
  have HO := Lib.hid ho
  clear ho
  go_enter Try.func81, Try.ntmps81
  go_wp2_with fail
  go_loop [5, 10] (fun lo i => ∃ k : Nat, ∃ x : Int, k ≤ l.length ∧ i = .int .i64 k ∧ lo = .int .i64 x ∧ 0 ≤ x ∧ x ≤ n ∧ Hid (x = M.lowN l k) ∧ Hid (M.ascTo n l k)) (fun _ i => l.length - (intOf i).toNat)
  case atStart => exact ⟨0, 0, by omega, rfl, rfl, by omega, by omega, Lib.hid rfl, Lib.hid (fun j _ hj => by omega)⟩
  case round =>
    obtain ⟨k, lo, hk, rfl, rfl, hlo0, hlon, HLO, HA⟩ := hrel
    by_cases hkl : k < l.length
    · obtain ⟨b, off, rfl, ha⟩ := HO.out.at hkl
      have c0 := ha.at_ k hkl
      have hno : ¬ (lo ≤ l[k] ∧ l[k] < n) → M.ascB n l = false := fun hf => M.ascB_no fun q => hf (by rw [HLO.out]; exact M.asc_low q k hkl)
      have hnx : lo ≤ l[k] → l[k] < n → M.ascTo n l (k + 1) := fun q1 q2 => M.asc_next HA.out hkl (by rw [← HLO.out]; exact q1) q2
      have hlw : l[k] + 1 = M.lowN l (k + 1) := (M.lowN_succ l k hkl).symm
      obtain ⟨x, hx⟩ : ∃ x, l[k] = x := ⟨_, rfl⟩
      rw [hx] at c0 hno hnx hlw
      have HNO := Lib.hid hno
      have HNX := Lib.hid hnx
      have HLW := Lib.hid hlw
      have n1 : (k : Int) < (l.length : Int) := by omega
      have n2 : (0 : Int) ≤ (k : Int) := by omega
      clear ha hx hno hnx hlw
      by_cases h1 : lo ≤ x
      · have d1 : decide (x < lo) = false := decide_eq_false (by omega)
        by_cases h2 : x < n
        · have d2 : decide ((n : Int) ≤ x) = false := decide_eq_false (by omega)
          have HN := Lib.hid (HNX.out h1 h2)
          go_wp2_with fail
          go_round
          case rel => exact ⟨k + 1, x + 1, by omega, by go_num, by go_num, by omega, by omega, HLW, HN⟩
          case measure => simp [intOf]; omega
        · have d2 : decide ((n : Int) ≤ x) = true := decide_eq_true (by omega)
          have HR := Lib.hid (HNO.out fun q => h2 q.2)
          go_wp2_with fail
          go_ret
          exact ⟨ret_bool HR.out.symm, rfl⟩
      · have d1 : decide (x < lo) = true := decide_eq_true (by omega)
        have HR := Lib.hid (HNO.out fun q => h1 q.1)
        go_wp2_with fail
        go_ret
        exact ⟨ret_bool HR.out.symm, rfl⟩
    · obtain rfl : k = l.length := by omega
      have m1 : decide ((l.length : Int) < (l.length : Int)) = false := decide_eq_false (by omega)
      have HR := Lib.hid ((M.ascB_iff n l).2 fun j hj => HA.out j hj hj)
      go_wp2_with fail
      go_ret
      exact ⟨ret_bool HR.out.symm, rfl⟩

set_option maxHeartbeats 1000000 in
set_option maxRecDepth 100000 in
theorem areDifferent_any (a : Option Addr) (c : Nat) (l : List ByteArray) (w : World) (hl : l.length ≤ 1000000) (hc : l.length ≤ c) (ho : StrSl w a l) :
    Calls Try.prog 78 #[.slice a l.length c] w fun e w' => e = .returned (.bool (M.diffB l)) ∧ w = w' := by
  have HO := Lib.hid ho
  clear ho
  go_enter Try.func78, Try.ntmps78
  go_wp2_with fail
  go_loop [7] (fun i => ∃ k : Nat, k ≤ l.length ∧ i = .int .i64 k ∧ Hid (∀ i j, (hi : i < l.length) → (hj : j < l.length) → i < j → j < k → l[i] ≠ l[j])) (fun i => l.length - (intOf i).toNat)
  case atStart => exact ⟨0, by omega, rfl, Lib.hid (fun _ j _ _ _ hj => by omega)⟩
  case round =>
    obtain ⟨k, hk, rfl, HA⟩ := hrel
    by_cases hkl : k < l.length
    · have hsl := HO.out.upto k
      obtain ⟨b, off, rfl, ha⟩ := HO.out.at hkl
      have c0 := ha.at_ k hkl
      have hcall := contains_any (some ⟨b, off, none⟩) c (l.take k) l[k] w (by rw [List.length_take]; omega) hsl
      rw [show (l.take k).length = k from by rw [List.length_take]; omega] at hcall
      have hyes : M.hasB (l.take k) l[k] = true → M.diffB l = false := fun h => M.diffB_no fun q => by
        obtain ⟨i, hi, he⟩ := List.getElem_of_mem ((M.hasB_iff _ _).1 h)
        rw [List.length_take] at hi
        rw [List.getElem_take] at he
        exact q i k (by omega) hkl (by omega) he
      have hno : M.hasB (l.take k) l[k] = false → ∀ i j, (hi : i < l.length) → (hj : j < l.length) → i < j → j < k + 1 → l[i] ≠ l[j] := fun h i j hi hj hij hjk he => by
        rcases Nat.lt_succ_iff_lt_or_eq.1 hjk with h' | rfl
        · exact HA.out i j hi hj hij h' he
        · have : M.hasB (l.take j) l[j] = true := (M.hasB_iff _ _).2 (by
            rw [← he, show l[i] = (l.take j)[i]'(by rw [List.length_take]; omega) from by rw [List.getElem_take]]
            exact List.getElem_mem _)
          rw [this] at h; cases h
      obtain ⟨x, hx⟩ : ∃ x, l[k] = x := ⟨_, rfl⟩
      rw [hx] at c0 hcall hyes hno
      have n1 : (k : Int) < (l.length : Int) := by omega
      have n2 : (0 : Int) ≤ (k : Int) := by omega
      have n3 : (k : Int) ≤ (c : Int) := by omega
      cases hh : M.hasB (l.take k) x with
      | true =>
        rw [hh] at hcall
        have HC := Lib.hid hcall
        have HR := Lib.hid (hyes hh)
        clear ha hx hyes hno hcall hh hsl
        go_wp2_with fail
        refine HC.out.mono ?_
        rintro e w1 ⟨rfl, rfl⟩
        go_wp2_with fail
        go_ret
        exact ⟨ret_bool HR.out.symm, rfl⟩
      | false =>
        rw [hh] at hcall
        have HC := Lib.hid hcall
        have HN := Lib.hid (hno hh)
        clear ha hx hyes hno hcall hh hsl
        go_wp2_with fail
        refine HC.out.mono ?_
        rintro e w1 ⟨rfl, rfl⟩
        go_wp2_with fail
        go_round
        case rel => exact ⟨k + 1, by omega, by go_num, HN⟩
        case measure => simp [intOf]; omega
    · obtain rfl : k = l.length := by omega
      have m1 : decide ((l.length : Int) < (l.length : Int)) = false := decide_eq_false (by omega)
      have HR := Lib.hid ((M.diffB_iff l).2 fun i j hi hj hij => HA.out i j hi hj hij hj)
      go_wp2_with fail
      go_ret
      exact ⟨ret_bool HR.out.symm, rfl⟩

/-- Cells of a slice, one for each element. -/
def VecSl (w : World) (a : Option Addr) (n : Nat) (v : Nat → Value) : Prop := n = 0 ∨ ∃ b off, a = some ⟨b, off, none⟩ ∧ b < w.heap.size ∧ ∀ i, i < n → w.cell? ⟨b, off + i, none⟩ = some (v i)
theorem VecSl.below {w w' : World} {a : Option Addr} {n : Nat} {v : Nat → Value} (h : VecSl w a n v) (hB : Below w.heap.size w w') : VecSl w' a n v := by
  rcases h with h | ⟨b, off, e, hb, h⟩
  · exact Or.inl h
  · exact Or.inr ⟨b, off, e, Nat.lt_of_lt_of_le hb hB.size, fun i hi => cell_below (h i hi) hB⟩
theorem VecSl.at {w : World} {a : Option Addr} {n : Nat} {v : Nat → Value} (h : VecSl w a n v) {i : Nat} (hi : i < n) : ∃ b off, a = some ⟨b, off, none⟩ ∧ w.cell? ⟨b, off + i, none⟩ = some (v i) := by
  rcases h with h | ⟨b, off, e, _, h⟩
  · omega
  · exact ⟨b, off, e, h i hi⟩
def IdxPost (p : Nat → Bool) (n : Nat) (w : World) (e : Ending) (w' : World) : Prop :=
  ((e = .returned (.int .i64 (-1)) ∧ ∀ j, j < n → p j = false) ∨ ∃ k : Nat, e = .returned (.int .i64 k) ∧ k < n ∧ p k = true) ∧ Below w.heap.size w w'

set_option maxHeartbeats 1000000 in
set_option maxRecDepth 100000 in
theorem idxF_str (a : Option Addr) (n c g : Nat) (lb : Array Value) (v : Nat → Value) (p : Nat → Bool) (w : World) (hn : n ≤ 1000000) (hs : VecSl w a n v)
    (eg : ∀ args w, (callFunc g args).run Try.prog w = .ok (.enter g args) w)
    (hcl : ∀ i, i < n → ∀ w1, Below w.heap.size w w1 → Calls Try.prog g (#[v i] ++ lb) w1 fun e w2 => e = .returned (.bool (p i)) ∧ Below w1.heap.size w1 w2) :
    Calls Try.prog 105 #[.slice a n c, .func (.func g) #[] lb] w (IdxPost p n w) := by
  have HS := Lib.hid hs
  have HCL := Lib.hid hcl
  clear hs hcl
  go_enter Try.func105, Try.ntmps105
  go_wp2_with fail
  go_loopw [5, 8] (fun _ i wr => ∃ k : Nat, k ≤ n ∧ i = .int .i64 k ∧ (∀ j, j < n → j < k → p j = false) ∧ Below w.heap.size w wr) (fun _ i _ => n - (intOf i).toNat)
  case atStart => exact ⟨0, by omega, rfl, fun j _ hj => by omega, Below.refl _ _⟩
  case round =>
    rename_i wr
    obtain ⟨k, hk, rfl, hb, hB⟩ := hrel
    have HB := Lib.hid hb
    clear hb
    by_cases hlt : k < n
    · obtain ⟨b, off, rfl, c0⟩ := (HS.out.below hB).at hlt
      have n1 : (k : Int) < (n : Int) := by omega
      have n2 : (0 : Int) ≤ (k : Int) := by omega
      have hcall := HCL.out k hlt wr hB
      cases hp : p k with
      | true =>
        rw [hp] at hcall
        have HC := Lib.hid hcall
        have HP := Lib.hid hp
        clear hcall hp
        go_wp2_with fail
        refine HC.out.mono ?_
        rintro e w2 ⟨rfl, hB2⟩
        go_wp2_with fail
        go_ret
        exact ⟨Or.inr ⟨k, rfl, hlt, HP.out⟩, below2 hB hB2⟩
      | false =>
        rw [hp] at hcall
        have HC := Lib.hid hcall
        have HP := Lib.hid hp
        clear hcall hp
        go_wp2_with fail
        refine HC.out.mono ?_
        rintro e w2 ⟨rfl, hB2⟩
        go_wp2_with fail
        go_roundw
        case rel => exact ⟨k + 1, by omega, by go_num, fun j hj h => by by_cases e : j = k; · subst e; exact HP.out
                                                                        · exact HB.out j hj (by omega), below2 hB hB2⟩
        case measure => simp [intOf]; omega
    · obtain rfl : k = n := by omega
      have m1 : decide ((k : Int) < (k : Int)) = false := decide_eq_false (by omega)
      go_wp2_with fail
      go_ret
      exact ⟨Or.inl ⟨rfl, fun j hj => HB.out j hj hj⟩, hB⟩

set_option maxHeartbeats 1000000 in
set_option maxRecDepth 100000 in
theorem contF_str (a : Option Addr) (n c g : Nat) (lb : Array Value) (v : Nat → Value) (p : Nat → Bool) (w : World) (hn : n ≤ 1000000) (hs : VecSl w a n v)
    (eg : ∀ args w, (callFunc g args).run Try.prog w = .ok (.enter g args) w)
    (hcl : ∀ i, i < n → ∀ w1, Below w.heap.size w w1 → Calls Try.prog g (#[v i] ++ lb) w1 fun e w2 => e = .returned (.bool (!p i)) ∧ Below w1.heap.size w1 w2) :
    Calls Try.prog 94 #[.slice a n c, .func (.func g) #[] lb] w fun e w' => e = .returned (.bool (!M.allN p n)) ∧ Below w.heap.size w w' := by
  have HC := Lib.hid (idxF_str a n c g lb v (fun i => !p i) w hn hs eg hcl)
  clear hs hcl
  go_enter Try.func94, Try.ntmps94
  go_wp2_with fail
  refine HC.out.mono ?_
  rintro e w1 ⟨⟨rfl, hall⟩ | ⟨k, rfl, hk, hp⟩, hB⟩
  · have hr : M.allN p n = true := (M.allN_iff p n).2 fun k hk => by have := hall k hk; simpa using this
    have HR := Lib.hid hr
    clear hr hall
    go_wp2_with fail
    go_ret
    exact ⟨ret_bool (by rw [HR.out]; rfl), hB⟩
  · have hr : M.allN p n = false := M.allN_no hk (by simpa using hp)
    have HR := Lib.hid hr
    have d1 : decide ((0 : Int) ≤ (k : Int)) = true := decide_eq_true (by omega)
    clear hr hp
    go_wp2_with fail
    go_ret
    exact ⟨ret_bool (by rw [HR.out]; rfl), hB⟩

theorem enters_every_str : ∀ args w, (callFunc 95 args).run Try.prog w = .ok (.enter 95 args) w := enters_of Try.func95 (by kernel_rfl) rfl

set_option maxHeartbeats 1000000 in
set_option maxRecDepth 100000 in
theorem every1_str (x : Value) (b g : Nat) (lb : Array Value) (r : Bool) (w : World) (hc : w.cell? ⟨b, 0, none⟩ = some (.func (.func g) #[] lb))
    (eg : ∀ args w, (callFunc g args).run Try.prog w = .ok (.enter g args) w)
    (hcl : Calls Try.prog g (#[x] ++ lb) w fun e w2 => e = .returned (.bool r) ∧ Below w.heap.size w w2) :
    Calls Try.prog 95 #[x, .pointer (some ⟨b, 0, none⟩)] w fun e w' => e = .returned (.bool (!r)) ∧ Below w.heap.size w w' := by
  have HCL := Lib.hid hcl
  clear hcl
  have hb : b < w.heap.size := World.block_lt_of_cell? w ⟨b, 0, none⟩ hc
  go_enter Try.func95, Try.ntmps95
  go_wp2_with fail
  refine HCL.out.mono ?_
  rintro e w2 ⟨rfl, hB2⟩
  go_wp2_with fail
  go_ret
  exact ⟨rfl, hB2⟩

set_option maxHeartbeats 1000000 in
set_option maxRecDepth 100000 in
theorem every_str (a : Option Addr) (n c g : Nat) (lb : Array Value) (v : Nat → Value) (p : Nat → Bool) (w : World) (hn : n ≤ 1000000) (hs : VecSl w a n v)
    (eg : ∀ args w, (callFunc g args).run Try.prog w = .ok (.enter g args) w)
    (hcl : ∀ i, i < n → ∀ w1, Below w.heap.size w w1 → Calls Try.prog g (#[v i] ++ lb) w1 fun e w2 => e = .returned (.bool (p i)) ∧ Below w1.heap.size w1 w2) :
    Calls Try.prog 76 #[.slice a n c, .func (.func g) #[] lb] w fun e w' => e = .returned (.bool (M.allN p n)) ∧ Below w.heap.size w w' := by
  have HS := Lib.hid hs
  have HCL := Lib.hid hcl
  clear hs hcl
  go_enter Try.func76, Try.ntmps76
  go_wp2_with fail
  refine (contF_str a n c 95 #[.pointer (some ⟨w.heap.size, 0, none⟩)] v p _ hn (HS.out.below (below1 _ _)) enters_every_str (fun i hi w1 hB1 => every1_str (v i) w.heap.size g lb (p i) w1 (by
    rw [hB1.cell (by simp), World.cell?_alloc_at _ _ _ _ rfl]; rfl) eg (HCL.out i hi w1 (below2 (below1 _ _) hB1)))).mono ?_
  rintro e w2 ⟨rfl, hB2⟩
  go_wp2_with fail
  go_ret
  exact ⟨ret_bool (by simp), below2 (below1 _ _) hB2⟩

set_option maxHeartbeats 1000000 in
set_option maxRecDepth 100000 in
theorem idxF_row (a : Option Addr) (n c g : Nat) (lb : Array Value) (v : Nat → Value) (p : Nat → Bool) (w : World) (hn : n ≤ 1000000) (hs : VecSl w a n v)
    (eg : ∀ args w, (callFunc g args).run Try.prog w = .ok (.enter g args) w)
    (hcl : ∀ i, i < n → ∀ w1, Below w.heap.size w w1 → Calls Try.prog g (#[v i] ++ lb) w1 fun e w2 => e = .returned (.bool (p i)) ∧ Below w1.heap.size w1 w2) :
    Calls Try.prog 108 #[.slice a n c, .func (.func g) #[] lb] w (IdxPost p n w) := by
  have HS := Lib.hid hs
  have HCL := Lib.hid hcl
  clear hs hcl
  go_enter Try.func108, Try.ntmps108
  go_wp2_with fail
  go_loopw [5, 8] (fun _ i wr => ∃ k : Nat, k ≤ n ∧ i = .int .i64 k ∧ (∀ j, j < n → j < k → p j = false) ∧ Below w.heap.size w wr) (fun _ i _ => n - (intOf i).toNat)
  case atStart => exact ⟨0, by omega, rfl, fun j _ hj => by omega, Below.refl _ _⟩
  case round =>
    rename_i wr
    obtain ⟨k, hk, rfl, hb, hB⟩ := hrel
    have HB := Lib.hid hb
    clear hb
    by_cases hlt : k < n
    · obtain ⟨b, off, rfl, c0⟩ := (HS.out.below hB).at hlt
      have n1 : (k : Int) < (n : Int) := by omega
      have n2 : (0 : Int) ≤ (k : Int) := by omega
      have hcall := HCL.out k hlt wr hB
      cases hp : p k with
      | true =>
        rw [hp] at hcall
        have HC := Lib.hid hcall
        have HP := Lib.hid hp
        clear hcall hp
        go_wp2_with fail
        refine HC.out.mono ?_
        rintro e w2 ⟨rfl, hB2⟩
        go_wp2_with fail
        go_ret
        exact ⟨Or.inr ⟨k, rfl, hlt, HP.out⟩, below2 hB hB2⟩
      | false =>
        rw [hp] at hcall
        have HC := Lib.hid hcall
        have HP := Lib.hid hp
        clear hcall hp
        go_wp2_with fail
        refine HC.out.mono ?_
        rintro e w2 ⟨rfl, hB2⟩
        go_wp2_with fail
        go_roundw
        case rel => exact ⟨k + 1, by omega, by go_num, fun j hj h => by by_cases e : j = k; · subst e; exact HP.out
                                                                        · exact HB.out j hj (by omega), below2 hB hB2⟩
        case measure => simp [intOf]; omega
    · obtain rfl : k = n := by omega
      have m1 : decide ((k : Int) < (k : Int)) = false := decide_eq_false (by omega)
      go_wp2_with fail
      go_ret
      exact ⟨Or.inl ⟨rfl, fun j hj => HB.out j hj hj⟩, hB⟩

set_option maxHeartbeats 1000000 in
set_option maxRecDepth 100000 in
theorem contF_row (a : Option Addr) (n c g : Nat) (lb : Array Value) (v : Nat → Value) (p : Nat → Bool) (w : World) (hn : n ≤ 1000000) (hs : VecSl w a n v)
    (eg : ∀ args w, (callFunc g args).run Try.prog w = .ok (.enter g args) w)
    (hcl : ∀ i, i < n → ∀ w1, Below w.heap.size w w1 → Calls Try.prog g (#[v i] ++ lb) w1 fun e w2 => e = .returned (.bool (!p i)) ∧ Below w1.heap.size w1 w2) :
    Calls Try.prog 98 #[.slice a n c, .func (.func g) #[] lb] w fun e w' => e = .returned (.bool (!M.allN p n)) ∧ Below w.heap.size w w' := by
  have HC := Lib.hid (idxF_row a n c g lb v (fun i => !p i) w hn hs eg hcl)
  clear hs hcl
  go_enter Try.func98, Try.ntmps98
  go_wp2_with fail
  refine HC.out.mono ?_
  rintro e w1 ⟨⟨rfl, hall⟩ | ⟨k, rfl, hk, hp⟩, hB⟩
  · have hr : M.allN p n = true := (M.allN_iff p n).2 fun k hk => by have := hall k hk; simpa using this
    have HR := Lib.hid hr
    clear hr hall
    go_wp2_with fail
    go_ret
    exact ⟨ret_bool (by rw [HR.out]; rfl), hB⟩
  · have hr : M.allN p n = false := M.allN_no hk (by simpa using hp)
    have HR := Lib.hid hr
    have d1 : decide ((0 : Int) ≤ (k : Int)) = true := decide_eq_true (by omega)
    clear hr hp
    go_wp2_with fail
    go_ret
    exact ⟨ret_bool (by rw [HR.out]; rfl), hB⟩

theorem enters_every_row : ∀ args w, (callFunc 99 args).run Try.prog w = .ok (.enter 99 args) w := enters_of Try.func99 (by kernel_rfl) rfl

set_option maxHeartbeats 1000000 in
set_option maxRecDepth 100000 in
theorem every1_row (x : Value) (b g : Nat) (lb : Array Value) (r : Bool) (w : World) (hc : w.cell? ⟨b, 0, none⟩ = some (.func (.func g) #[] lb))
    (eg : ∀ args w, (callFunc g args).run Try.prog w = .ok (.enter g args) w)
    (hcl : Calls Try.prog g (#[x] ++ lb) w fun e w2 => e = .returned (.bool r) ∧ Below w.heap.size w w2) :
    Calls Try.prog 99 #[x, .pointer (some ⟨b, 0, none⟩)] w fun e w' => e = .returned (.bool (!r)) ∧ Below w.heap.size w w' := by
  have HCL := Lib.hid hcl
  clear hcl
  have hb : b < w.heap.size := World.block_lt_of_cell? w ⟨b, 0, none⟩ hc
  go_enter Try.func99, Try.ntmps99
  go_wp2_with fail
  refine HCL.out.mono ?_
  rintro e w2 ⟨rfl, hB2⟩
  go_wp2_with fail
  go_ret
  exact ⟨rfl, hB2⟩

set_option maxHeartbeats 1000000 in
set_option maxRecDepth 100000 in
theorem every_row (a : Option Addr) (n c g : Nat) (lb : Array Value) (v : Nat → Value) (p : Nat → Bool) (w : World) (hn : n ≤ 1000000) (hs : VecSl w a n v)
    (eg : ∀ args w, (callFunc g args).run Try.prog w = .ok (.enter g args) w)
    (hcl : ∀ i, i < n → ∀ w1, Below w.heap.size w w1 → Calls Try.prog g (#[v i] ++ lb) w1 fun e w2 => e = .returned (.bool (p i)) ∧ Below w1.heap.size w1 w2) :
    Calls Try.prog 79 #[.slice a n c, .func (.func g) #[] lb] w fun e w' => e = .returned (.bool (M.allN p n)) ∧ Below w.heap.size w w' := by
  have HS := Lib.hid hs
  have HCL := Lib.hid hcl
  clear hs hcl
  go_enter Try.func79, Try.ntmps79
  go_wp2_with fail
  refine (contF_row a n c 99 #[.pointer (some ⟨w.heap.size, 0, none⟩)] v p _ hn (HS.out.below (below1 _ _)) enters_every_row (fun i hi w1 hB1 => every1_row (v i) w.heap.size g lb (p i) w1 (by
    rw [hB1.cell (by simp), World.cell?_alloc_at _ _ _ _ rfl]; rfl) eg (HCL.out i hi w1 (below2 (below1 _ _) hB1)))).mono ?_
  rintro e w2 ⟨rfl, hB2⟩
  go_wp2_with fail
  go_ret
  exact ⟨ret_bool (by simp), below2 (below1 _ _) hB2⟩

set_option maxHeartbeats 1000000 in
set_option maxRecDepth 100000 in
theorem idxF_int (a : Option Addr) (n c g : Nat) (lb : Array Value) (v : Nat → Value) (p : Nat → Bool) (w : World) (hn : n ≤ 1000000) (hs : VecSl w a n v)
    (eg : ∀ args w, (callFunc g args).run Try.prog w = .ok (.enter g args) w)
    (hcl : ∀ i, i < n → ∀ w1, Below w.heap.size w w1 → Calls Try.prog g (#[v i] ++ lb) w1 fun e w2 => e = .returned (.bool (p i)) ∧ Below w1.heap.size w1 w2) :
    Calls Try.prog 103 #[.slice a n c, .func (.func g) #[] lb] w (IdxPost p n w) := by
  have HS := Lib.hid hs
  have HCL := Lib.hid hcl
  clear hs hcl
  go_enter Try.func103, Try.ntmps103
  go_wp2_with fail
  go_loopw [5, 8] (fun _ i wr => ∃ k : Nat, k ≤ n ∧ i = .int .i64 k ∧ (∀ j, j < n → j < k → p j = false) ∧ Below w.heap.size w wr) (fun _ i _ => n - (intOf i).toNat)
  case atStart => exact ⟨0, by omega, rfl, fun j _ hj => by omega, Below.refl _ _⟩
  case round =>
    rename_i wr
    obtain ⟨k, hk, rfl, hb, hB⟩ := hrel
    have HB := Lib.hid hb
    clear hb
    by_cases hlt : k < n
    · obtain ⟨b, off, rfl, c0⟩ := (HS.out.below hB).at hlt
      have n1 : (k : Int) < (n : Int) := by omega
      have n2 : (0 : Int) ≤ (k : Int) := by omega
      have hcall := HCL.out k hlt wr hB
      cases hp : p k with
      | true =>
        rw [hp] at hcall
        have HC := Lib.hid hcall
        have HP := Lib.hid hp
        clear hcall hp
        go_wp2_with fail
        refine HC.out.mono ?_
        rintro e w2 ⟨rfl, hB2⟩
        go_wp2_with fail
        go_ret
        exact ⟨Or.inr ⟨k, rfl, hlt, HP.out⟩, below2 hB hB2⟩
      | false =>
        rw [hp] at hcall
        have HC := Lib.hid hcall
        have HP := Lib.hid hp
        clear hcall hp
        go_wp2_with fail
        refine HC.out.mono ?_
        rintro e w2 ⟨rfl, hB2⟩
        go_wp2_with fail
        go_roundw
        case rel => exact ⟨k + 1, by omega, by go_num, fun j hj h => by by_cases e : j = k; · subst e; exact HP.out
                                                                        · exact HB.out j hj (by omega), below2 hB hB2⟩
        case measure => simp [intOf]; omega
    · obtain rfl : k = n := by omega
      have m1 : decide ((k : Int) < (k : Int)) = false := decide_eq_false (by omega)
      go_wp2_with fail
      go_ret
      exact ⟨Or.inl ⟨rfl, fun j hj => HB.out j hj hj⟩, hB⟩

set_option maxHeartbeats 1000000 in
set_option maxRecDepth 100000 in
theorem contF_int (a : Option Addr) (n c g : Nat) (lb : Array Value) (v : Nat → Value) (p : Nat → Bool) (w : World) (hn : n ≤ 1000000) (hs : VecSl w a n v)
    (eg : ∀ args w, (callFunc g args).run Try.prog w = .ok (.enter g args) w)
    (hcl : ∀ i, i < n → ∀ w1, Below w.heap.size w w1 → Calls Try.prog g (#[v i] ++ lb) w1 fun e w2 => e = .returned (.bool (!p i)) ∧ Below w1.heap.size w1 w2) :
    Calls Try.prog 87 #[.slice a n c, .func (.func g) #[] lb] w fun e w' => e = .returned (.bool (!M.allN p n)) ∧ Below w.heap.size w w' := by
  have HC := Lib.hid (idxF_int a n c g lb v (fun i => !p i) w hn hs eg hcl)
  clear hs hcl
  go_enter Try.func87, Try.ntmps87
  go_wp2_with fail
  refine HC.out.mono ?_
  rintro e w1 ⟨⟨rfl, hall⟩ | ⟨k, rfl, hk, hp⟩, hB⟩
  · have hr : M.allN p n = true := (M.allN_iff p n).2 fun k hk => by have := hall k hk; simpa using this
    have HR := Lib.hid hr
    clear hr hall
    go_wp2_with fail
    go_ret
    exact ⟨ret_bool (by rw [HR.out]; rfl), hB⟩
  · have hr : M.allN p n = false := M.allN_no hk (by simpa using hp)
    have HR := Lib.hid hr
    have d1 : decide ((0 : Int) ≤ (k : Int)) = true := decide_eq_true (by omega)
    clear hr hp
    go_wp2_with fail
    go_ret
    exact ⟨ret_bool (by rw [HR.out]; rfl), hB⟩

theorem enters_every_int : ∀ args w, (callFunc 88 args).run Try.prog w = .ok (.enter 88 args) w := enters_of Try.func88 (by kernel_rfl) rfl

set_option maxHeartbeats 1000000 in
set_option maxRecDepth 100000 in
theorem every1_int (x : Value) (b g : Nat) (lb : Array Value) (r : Bool) (w : World) (hc : w.cell? ⟨b, 0, none⟩ = some (.func (.func g) #[] lb))
    (eg : ∀ args w, (callFunc g args).run Try.prog w = .ok (.enter g args) w)
    (hcl : Calls Try.prog g (#[x] ++ lb) w fun e w2 => e = .returned (.bool r) ∧ Below w.heap.size w w2) :
    Calls Try.prog 88 #[x, .pointer (some ⟨b, 0, none⟩)] w fun e w' => e = .returned (.bool (!r)) ∧ Below w.heap.size w w' := by
  have HCL := Lib.hid hcl
  clear hcl
  have hb : b < w.heap.size := World.block_lt_of_cell? w ⟨b, 0, none⟩ hc
  go_enter Try.func88, Try.ntmps88
  go_wp2_with fail
  refine HCL.out.mono ?_
  rintro e w2 ⟨rfl, hB2⟩
  go_wp2_with fail
  go_ret
  exact ⟨rfl, hB2⟩

set_option maxHeartbeats 1000000 in
set_option maxRecDepth 100000 in
theorem every_int (a : Option Addr) (n c g : Nat) (lb : Array Value) (v : Nat → Value) (p : Nat → Bool) (w : World) (hn : n ≤ 1000000) (hs : VecSl w a n v)
    (eg : ∀ args w, (callFunc g args).run Try.prog w = .ok (.enter g args) w)
    (hcl : ∀ i, i < n → ∀ w1, Below w.heap.size w w1 → Calls Try.prog g (#[v i] ++ lb) w1 fun e w2 => e = .returned (.bool (p i)) ∧ Below w1.heap.size w1 w2) :
    Calls Try.prog 61 #[.slice a n c, .func (.func g) #[] lb] w fun e w' => e = .returned (.bool (M.allN p n)) ∧ Below w.heap.size w w' := by
  have HS := Lib.hid hs
  have HCL := Lib.hid hcl
  clear hs hcl
  go_enter Try.func61, Try.ntmps61
  go_wp2_with fail
  refine (contF_int a n c 88 #[.pointer (some ⟨w.heap.size, 0, none⟩)] v p _ hn (HS.out.below (below1 _ _)) enters_every_int (fun i hi w1 hB1 => every1_int (v i) w.heap.size g lb (p i) w1 (by
    rw [hB1.cell (by simp), World.cell?_alloc_at _ _ _ _ rfl]; rfl) eg (HCL.out i hi w1 (below2 (below1 _ _) hB1)))).mono ?_
  rintro e w2 ⟨rfl, hB2⟩
  go_wp2_with fail
  go_ret
  exact ⟨ret_bool (by simp), below2 (below1 _ _) hB2⟩
end Go.Proofs.Ytnhnjfoboepffaa
