/- DERIVED. Plain: what strconv.Atoi comes to at digits. -/
import Derived.Test.YtamdcloahkacnaaGreatDoorLexM
import Derived.Lib.AtoiAll
namespace Go.Proofs.YtamdcloahkacnaaGreatDoor.M
open Go

def numAcc (a : Nat) (t : List UInt8) : Nat := t.foldl (fun n c => n * 10 + (c.toNat - 48)) a
def allDig (t : List UInt8) : Prop := ∀ c, c ∈ t → 48 ≤ c.toNat ∧ c.toNat ≤ 57
theorem numAcc_ge (t : List UInt8) : ∀ a, a ≤ numAcc a t := by
  induction t with
  | nil => intro a; exact Nat.le_refl _
  | cons c t ih => intro a; have := ih (a * 10 + (c.toNat - 48)); unfold numAcc at *; simp only [List.foldl_cons]; omega
theorem parse_dig (t : List UInt8) : ∀ a, allDig t → Lib.parseUint10 a t = if numAcc a t < 18446744073709551616 ∨ t = [] then .ok (numAcc a t) else .range := by
  induction t with
  | nil => intro a _; simp [Lib.parseUint10, numAcc]
  | cons c t ih =>
    intro a hd
    have hc := hd c (by simp)
    have hge := numAcc_ge t (a * 10 + (c.toNat - 48))
    have e : numAcc a (c :: t) = numAcc (a * 10 + (c.toNat - 48)) t := rfl
    have i := ih (a * 10 + (c.toNat - 48)) (fun x hx => hd x (by simp [hx]))
    unfold Lib.parseUint10
    rw [if_pos hc, e, i]
    by_cases h1 : 1844674407370955162 ≤ a
    · rw [if_pos h1, if_neg]
      simp only [reduceCtorEq, or_false]; omega
    · rw [if_neg h1]
      by_cases h2 : 18446744073709551616 ≤ a * 10 + (c.toNat - 48)
      · rw [if_pos h2, if_neg]
        simp only [reduceCtorEq, or_false]; omega
      · rw [if_neg h2]
        by_cases h3 : numAcc (a * 10 + (c.toNat - 48)) t < 18446744073709551616
        · rw [if_pos (Or.inl h3), if_pos (Or.inl h3)]
        · have h3' : ¬ (numAcc (a * 10 + (c.toNat - 48)) t < 18446744073709551616 ∨ c :: t = []) := by simp only [reduceCtorEq, or_false]; exact h3
          rw [if_neg h3']
          by_cases h4 : t = []
          · subst h4; exact absurd (by simp [numAcc]; omega) h3
          · rw [if_neg (by simp only [h4, or_false]; exact h3)]
theorem atoi_dig (c : UInt8) (t : List UInt8) (hd : allDig (c :: t)) : Lib.atoiAll (c :: t) = if numVal (c :: t) < 9223372036854775808 then .ok (numVal (c :: t) : Int) else .range := by
  have hc := hd c (by simp)
  have h43 : ¬ c.toNat = 43 := by omega
  have h45 : ¬ c.toNat = 45 := by omega
  have e : numAcc 0 (c :: t) = numVal (c :: t) := rfl
  unfold Lib.atoiAll
  simp only [h43, h45, or_false, if_false]
  unfold Lib.parseMag
  rw [if_neg (by simp), parse_dig _ 0 hd, e]
  by_cases h1 : numVal (c :: t) < 18446744073709551616
  · rw [if_pos (Or.inl h1)]
    by_cases h2 : numVal (c :: t) < 9223372036854775808
    · rw [if_pos h2]; simp; omega
    · rw [if_neg h2]; simp; omega
  · rw [if_neg (by simp only [reduceCtorEq, or_false]; exact h1), if_neg (by omega)]

end Go.Proofs.YtamdcloahkacnaaGreatDoor.M
