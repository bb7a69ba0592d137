/- DERIVED. Contract of the statements' own thin: tokens that are few and short. -/
import Derived.Test.YtamdcloahkacnaaGreatDoorLexSb
namespace Go.Proofs.YtamdcloahkacnaaGreatDoor
open Go.RowKit Go.WideMaps Go.Maps Go.Shelf

namespace M
def thin (l : List Lx) : Bool := decide (l.length ≤ 1000) && l.all fun x => decide (x.text.size ≤ 3000)
theorem thin_le (l : List Lx) (h : thin l = true) : l.length ≤ 1000 ∧ ∀ x, x ∈ l → x.text.size ≤ 3000 := by
  unfold thin at h
  rw [Bool.and_eq_true, decide_eq_true_eq, List.all_eq_true] at h
  exact ⟨h.1, fun x hx => by simpa using h.2 x hx⟩
end M
def ShTill (l : List M.Lx) (k : Nat) : Prop := ∀ j, (hj : j < l.length) → j < k → l[j].text.size ≤ 3000

set_option maxHeartbeats 1000000 in
set_option maxRecDepth 100000 in
theorem thin_any (a : Option Addr) (c : Nat) (l : List M.Lx) (w : World) (hs : LxSl w a l) :
    Calls Tryz.prog 5 #[.slice a l.length c] w fun e w' => e = .returned (.bool (M.thin l)) ∧ Below w.heap.size w w' := by
  have HS := Lib.hid hs
  clear hs
  by_cases h1 : l.length ≤ 1000
  · go_enter Tryz.func5, Tryz.ntmps5
    go_wp2_with fail
    go_loopw [3] (fun i wr => ∃ k : Nat, k ≤ l.length ∧ i = .int .i64 k ∧ ShTill l k ∧ Below w.heap.size w wr) (fun i _ => l.length - (intOf i).toNat)
    case atStart => exact ⟨0, by omega, rfl, fun j _ hj => by omega, Below.refl _ _⟩
    case round =>
      rename World => wo
      obtain ⟨k, hk, rfl, hall, hB⟩ := hrel
      have HALL := Lib.hid hall
      clear hall
      by_cases hlt : k < l.length
      · obtain ⟨b, off, rfl, ha⟩ := (HS.out.below hB).at hlt
        have c1 := ha.c1 k hlt
        have hno : ¬ l[k].text.size ≤ 3000 → M.thin l = false := by
          intro hn
          cases ht : M.thin l
          · rfl
          · exact absurd ((M.thin_le l ht).2 _ (List.getElem_mem hlt)) hn
        have hnx : l[k].text.size ≤ 3000 → ShTill l (k + 1) := by
          intro hp j hj hjk
          rcases Nat.lt_succ_iff_lt_or_eq.1 hjk with h | rfl
          · exact HALL.out j hj h
          · exact hp
        obtain ⟨x, hx⟩ : ∃ x, l[k] = x := ⟨_, rfl⟩
        rw [hx] at c1 hno hnx
        have HNO := Lib.hid hno
        have HNX := Lib.hid hnx
        clear ha hx hno hnx
        by_cases h3 : x.text.size ≤ 3000
        · have d1 : decide (x.text.size ≤ 3000) = true := decide_eq_true h3
          have HN := Lib.hid (HNX.out h3)
          have D1 := Lib.hid d1
          clear d1
          go_wp2_with fail
          refine (short_any x.text _).mono ?_
          rintro e w1 ⟨rfl, hB1⟩
          rw [D1.out]
          go_wp2_with fail
          exact ⟨⟨k + 1, by omega, by simp, HN.out, below2 hB hB1⟩, by simp [intOf]; omega⟩
        · have d1 : decide (x.text.size ≤ 3000) = false := decide_eq_false h3
          have HN := Lib.hid (HNO.out h3)
          have D1 := Lib.hid d1
          clear d1
          go_wp2_with fail
          refine (short_any x.text _).mono ?_
          rintro e w1 ⟨rfl, hB1⟩
          rw [D1.out]
          go_wp2_with fail
          go_ret
          exact ⟨ret_bool HN.out.symm, below2 hB hB1⟩
      · have hkl' : ¬ (k : Int) < (l.length : Int) := by omega
        have ht : M.thin l = true := by
          unfold M.thin
          rw [Bool.and_eq_true, decide_eq_true_eq, List.all_eq_true]
          refine ⟨h1, fun x hx => ?_⟩
          obtain ⟨j, hj, rfl⟩ := List.getElem_of_mem hx
          exact decide_eq_true (HALL.out j hj (by omega))
        have HTH := Lib.hid ht
        clear ht
        go_wp2_with fail
        go_ret
        exact ⟨ret_bool HTH.out.symm, hB⟩
  · have ht : M.thin l = false := by unfold M.thin; rw [decide_eq_false h1]; rfl
    have HTH := Lib.hid ht
    clear ht
    go_enter Tryz.func5, Tryz.ntmps5
    go_wp2_with fail
    go_ret
    exact ⟨ret_bool HTH.out.symm, Below.refl _ _⟩
end Go.Proofs.YtamdcloahkacnaaGreatDoor
