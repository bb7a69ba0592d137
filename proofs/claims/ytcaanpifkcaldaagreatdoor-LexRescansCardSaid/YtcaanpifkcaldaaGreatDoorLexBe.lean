/- DERIVED. Contracts of the document's own Run, IsKeyword, IsNumber. -/
import Derived.Test.YtcaanpifkcaldaaGreatDoorLexBd
import Derived.Test.YtcaanpifkcaldaaGreatDoorLexSb
namespace Go.Proofs.YtcaanpifkcaldaaGreatDoor
open Go.RowKit Go.WideMaps Go.Maps Go.Shelf

theorem cls1_iff (c : UInt8) : M.cls c = 1 ↔ 97 ≤ c.toNat ∧ c.toNat ≤ 122 := by
  unfold M.cls
  (repeat' split) <;> omega
theorem cls2_iff (c : UInt8) : M.cls c = 2 ↔ 48 ≤ c.toNat ∧ c.toNat ≤ 57 := by
  unfold M.cls
  (repeat' split) <;> omega

set_option maxRecDepth 100000 in
theorem isLetter_any (c : UInt8) (w : World) :
    Calls Tryz.prog 56 #[.int .u8 c.toNat] w fun e w' => e = .returned (.bool (decide (M.cls c = 1))) ∧ w = w' := by
  have hc : (c.toNat : Int) < 256 := by have := c.toNat_lt; omega
  by_cases h1 : 97 ≤ c.toNat
  · by_cases h2 : c.toNat ≤ 122
    · have e : decide (M.cls c = 1) = true := decide_eq_true ((cls1_iff c).2 ⟨h1, h2⟩)
      rw [e]
      clear e
      go_enter Tryz.func56, Tryz.ntmps56
      go_wp2
      go_ret
      exact ⟨ret_bool (by simp; omega), rfl⟩
    · have e : decide (M.cls c = 1) = false := decide_eq_false (fun h => h2 ((cls1_iff c).1 h).2)
      rw [e]
      clear e
      go_enter Tryz.func56, Tryz.ntmps56
      go_wp2
      go_ret
      exact ⟨ret_bool (by simp; omega), rfl⟩
  · have e : decide (M.cls c = 1) = false := decide_eq_false (fun h => h1 ((cls1_iff c).1 h).1)
    rw [e]
    clear e
    go_enter Tryz.func56, Tryz.ntmps56
    go_wp2
    go_ret
    exact ⟨rfl, rfl⟩

set_option maxRecDepth 100000 in
theorem isDigit_any (c : UInt8) (w : World) :
    Calls Tryz.prog 59 #[.int .u8 c.toNat] w fun e w' => e = .returned (.bool (decide (M.cls c = 2))) ∧ w = w' := by
  have hc : (c.toNat : Int) < 256 := by have := c.toNat_lt; omega
  by_cases h1 : 48 ≤ c.toNat
  · by_cases h2 : c.toNat ≤ 57
    · have e : decide (M.cls c = 2) = true := decide_eq_true ((cls2_iff c).2 ⟨h1, h2⟩)
      rw [e]
      clear e
      go_enter Tryz.func59, Tryz.ntmps59
      go_wp2
      go_ret
      exact ⟨ret_bool (by simp; omega), rfl⟩
    · have e : decide (M.cls c = 2) = false := decide_eq_false (fun h => h2 ((cls2_iff c).1 h).2)
      rw [e]
      clear e
      go_enter Tryz.func59, Tryz.ntmps59
      go_wp2
      go_ret
      exact ⟨ret_bool (by simp; omega), rfl⟩
  · have e : decide (M.cls c = 2) = false := decide_eq_false (fun h => h1 ((cls2_iff c).1 h).1)
    rw [e]
    clear e
    go_enter Tryz.func59, Tryz.ntmps59
    go_wp2
    go_ret
    exact ⟨rfl, rfl⟩

/-- The classes that Run counts. -/
def runP (b : Bool) : List Nat := if b = true then [1, 2] else [2]
theorem runP_has (b : Bool) (c : UInt8) : (runP b).contains (M.cls c) = (decide (M.cls c = 2) || (b && decide (M.cls c = 1))) := by
  unfold runP
  cases b
  · rw [if_neg (by decide), Bool.eq_iff_iff]; simp
  · rw [if_pos rfl, Bool.eq_iff_iff]; simp; omega

set_option maxHeartbeats 1000000 in
set_option maxRecDepth 100000 in
theorem run_any (s : ByteArray) (k : Nat) (b : Bool) (w : World) (hs : s.size ≤ maxLen) (hk : k ≤ s.size) :
    Calls Tryz.prog 57 #[.string s, .int .i64 k, .bool b] w fun e w' => e = .returned (.int .i64 (M.behind (runP b) s.data.toList k)) ∧ w = w' := by
  unfold maxLen at hs
  have hz := M.size_list s
  obtain ⟨P, hP⟩ : ∃ P, runP b = P := ⟨_, rfl⟩
  have hpc : ∀ c, P.contains (M.cls c) = (decide (M.cls c = 2) || (b && decide (M.cls c = 1))) := fun c => by rw [← hP]; exact runP_has b c
  rw [hP]
  have HP := Lib.hid hpc
  clear hpc hP
  go_enter Tryz.func57, Tryz.ntmps57
  go_wp2_with fail
  go_loop [1] (fun i => ∃ n : Nat, k + n ≤ s.size ∧ i = .int .i64 ((k + n : Nat) : Int) ∧ InRun P s k n) (fun i => s.size - (intOf i).toNat)
  case atStart => exact ⟨0, by omega, rfl, fun j _ hj => by omega⟩
  case round =>
    obtain ⟨n, hn, rfl, hb⟩ := hrel
    have HB := Lib.hid hb
    clear hb
    by_cases hlt : k + n < s.size
    · obtain ⟨c, hc⟩ : ∃ c, s[k + n]'hlt = c := ⟨_, rfl⟩
      have HC := Lib.hid hc
      clear hc
      by_cases h2 : M.cls c = 2
      · have e2 : decide (M.cls c = 2) = true := decide_eq_true h2
        have hp : P.contains (M.cls s[k + n]) = true := by rw [HC.out, HP.out, e2]; simp
        have HM := Lib.hid hp
        have E2 := Lib.hid e2
        clear hp h2 e2
        go_wp2_with fail
        rw [HC.out]
        refine (isDigit_any c _).mono ?_
        rintro e w' ⟨rfl, rfl⟩
        rw [E2.out]
        go_wp2_with fail
        go_round
        case rel => exact ⟨n + 1, by omega, by go_num, fun j hj h => by by_cases e : j = n; · subst e; exact HM.out
                                                                        · exact HB.out j hj (by omega)⟩
        case measure => simp [intOf]; omega
      · have e2 : decide (M.cls c = 2) = false := decide_eq_false h2
        by_cases h1 : b = true ∧ M.cls c = 1
        · obtain ⟨rfl, h1⟩ := h1
          have e1 : decide (M.cls c = 1) = true := decide_eq_true h1
          have hp : P.contains (M.cls s[k + n]) = true := by rw [HC.out, HP.out, e2, e1]; simp
          have HM := Lib.hid hp
          have E2 := Lib.hid e2
          have E1 := Lib.hid e1
          clear hp h2 e2 h1 e1
          go_wp2_with fail
          rw [HC.out]
          refine (isDigit_any c _).mono ?_
          rintro e w' ⟨rfl, rfl⟩
          rw [E2.out]
          go_wp2_with fail
          rw [HC.out]
          refine (isLetter_any c _).mono ?_
          rintro e w' ⟨rfl, rfl⟩
          rw [E1.out]
          go_wp2_with fail
          go_round
          case rel => exact ⟨n + 1, by omega, by go_num, fun j hj h => by by_cases e : j = n; · subst e; exact HM.out
                                                                          · exact HB.out j hj (by omega)⟩
          case measure => simp [intOf]; omega
        · have hp : P.contains (M.cls s[k + n]) = false := by
            rw [HC.out, HP.out, e2]
            cases b
            · rfl
            · simp; exact fun q => h1 ⟨rfl, q⟩
          have HM := Lib.hid hp
          have E2 := Lib.hid e2
          cases b
          · clear hp h2 e2 h1
            go_wp2_with fail
            rw [HC.out]
            refine (isDigit_any c _).mono ?_
            rintro e w' ⟨rfl, rfl⟩
            rw [E2.out]
            go_wp2_with fail
            go_ret
            exact ⟨ret_int (by rw [run_stop P s k n hlt HB.out HM.out]; omega), rfl⟩
          · have e1 : decide (M.cls c = 1) = false := decide_eq_false fun q => h1 ⟨rfl, q⟩
            have E1 := Lib.hid e1
            clear hp h2 e2 h1 e1
            go_wp2_with fail
            rw [HC.out]
            refine (isDigit_any c _).mono ?_
            rintro e w' ⟨rfl, rfl⟩
            rw [E2.out]
            go_wp2_with fail
            rw [HC.out]
            refine (isLetter_any c _).mono ?_
            rintro e w' ⟨rfl, rfl⟩
            rw [E1.out]
            go_wp2_with fail
            go_ret
            exact ⟨ret_int (by rw [run_stop P s k n hlt HB.out HM.out]; omega), rfl⟩
    · go_wp2
      go_ret
      exact ⟨ret_int (by rw [run_all P s k n hk (by omega) HB.out]; omega), rfl⟩

/-- Whether one of the first k keywords is a text. -/
def KwNo (t : List UInt8) (k : Nat) : Prop := ∀ j, (hj : j < M.kwords.length) → j < k → M.kwords[j] ≠ t
theorem kw_len : M.kwords.length = 28 := by decide

set_option maxHeartbeats 1000000 in
set_option maxRecDepth 100000 in
theorem isKeyword_any (s : ByteArray) (w : World) :
    Calls Tryz.prog 58 #[.string s] w fun e w' => e = .returned (.bool (M.kwords.contains s.data.toList)) ∧ Below w.heap.size w w' := by
  go_enter Tryz.func58, Tryz.ntmps58
  go_wp2_with fail
  refine (keywords_any _).mono ?_
  rintro e w1 ⟨rfl, hs, hB⟩
  have HS := Lib.hid hs
  clear hs
  go_wp2_with fail
  go_loop [4] (fun i => ∃ k : Nat, k ≤ 28 ∧ i = .int .i64 k ∧ KwNo s.data.toList k) (fun i => 28 - (intOf i).toNat)
  case atStart => exact ⟨0, by omega, rfl, fun j _ hj => by omega⟩
  case round =>
    obtain ⟨k, hk, rfl, hb⟩ := hrel
    have HB := Lib.hid hb
    clear hb
    by_cases hlt : k < 28
    · have hkl : k < M.kwords.length := by rw [kw_len]; exact hlt
      have hc := HS.out.2 k hkl
      obtain ⟨g, hg⟩ : ∃ g, M.kwords[k] = g := ⟨_, rfl⟩
      rw [hg] at hc
      have HG := Lib.hid hg
      clear hg
      by_cases he : g = s.data.toList
      · have e1 : ((M.str g).toList == s.toList) = true := by rw [str_ne, M.str_list]; simpa using he
        have hm : M.kwords.contains s.data.toList = true := by rw [List.contains_iff_mem, ← he, ← HG.out]; exact List.getElem_mem hkl
        have HM := Lib.hid hm
        clear hm he
        go_wp2_with fail
        go_ret
        exact ⟨ret_bool (by simpa using HM.out.symm), hB⟩
      · have e1 : ((M.str g).toList == s.toList) = false := by rw [str_ne, M.str_list]; simpa using he
        have HE := Lib.hid he
        clear he
        go_wp2_with fail
        go_round
        case rel => exact ⟨k + 1, by omega, by go_num, fun j hj h => by by_cases e : j = k; · subst e; rw [HG.out]; exact HE.out
                                                                        · exact HB.out j hj (by omega)⟩
        case measure => simp [intOf]; omega
    · have hm : M.kwords.contains s.data.toList = false := by
        cases hq : M.kwords.contains s.data.toList
        · rfl
        · obtain ⟨j, hj, e⟩ := List.getElem_of_mem (List.contains_iff_mem.1 hq)
          exact absurd e (HB.out j hj (by rw [kw_len] at hj; omega))
      have HM := Lib.hid hm
      clear hm
      go_wp2_with fail
      go_ret
      exact ⟨ret_bool (by simpa using HM.out.symm), hB⟩

set_option maxHeartbeats 1000000 in
set_option maxRecDepth 100000 in
theorem isNumber_any (s : ByteArray) (w : World) (hn : 0 < s.size) :
    Calls Tryz.prog 60 #[.string s] w fun e w' => e = .returned (.bool (M.isNumber s.data.toList)) ∧ w = w' := by
  have hne : ¬ s.data.toList = [] := by intro h; have := M.size_list s; rw [h] at this; simp at this; omega
  have hsz := M.size_list s
  have n1 : s.toList = [] ↔ s.data.toList = [] := by rw [ByteArray.toList_eq]
  have q1 : (s.toList == [48]) = decide (s.data.toList = [48]) := by rw [ByteArray.toList_eq, Bool.eq_iff_iff]; simp
  have q2 : (s.toList == [49, 48, 48, 48, 48, 48, 48, 48, 48, 48]) = decide (s.data.toList = [49, 48, 48, 48, 48, 48, 48, 48, 48, 48]) := by rw [ByteArray.toList_eq, Bool.eq_iff_iff]; simp
  have q3 : (!s.toList.isEmpty) = true := by rw [ByteArray.toList_eq]; simpa using hne
  have q4 := nk_head s hn
  unfold M.isNumber
  have e2 : decide (s.data.toList = []) = false := by simpa using hne
  rw [e2, hsz]
  by_cases h1 : s.data.toList = [48]
  · rw [decide_eq_true h1] at q1 ⊢
    clear q2 q3 q4 e2 n1 h1
    go_enter Tryz.func60, Tryz.ntmps60
    go_wp2_with fail
    go_ret
    exact ⟨rfl, rfl⟩
  · rw [decide_eq_false h1] at q1 ⊢
    have hn3 : s.toList ≠ [] := fun h => hne (n1.1 h)
    by_cases h2 : s.data.toList.head? = some 48
    · have e4 := q4.1 h2
      rw [decide_eq_true h2]
      clear q2 q4 e2 n1 h1 h2
      go_enter Tryz.func60, Tryz.ntmps60
      go_wp2_with fail
      go_ret
      exact ⟨rfl, rfl⟩
    · have e4 : ¬ (s[0].toNat : Int) = 48 := fun h => h2 (q4.2 h)
      have e5 : ((s[0].toNat : Int) != 48) = true := by rw [bne_iff_ne]; exact e4
      rw [decide_eq_false h2]
      by_cases h3 : s.size < 10
      · rw [decide_eq_true h3]
        clear q2 q4 e2 n1 h1 h2
        go_enter Tryz.func60, Tryz.ntmps60
        go_wp2_with fail
        go_ret
        exact ⟨rfl, rfl⟩
      · rw [decide_eq_false h3]
        have e6 : decide ((s.size : Int) < 10) = false := by simp; omega
        obtain ⟨b, hb⟩ : ∃ b, decide (s.data.toList = [49, 48, 48, 48, 48, 48, 48, 48, 48, 48]) = b := ⟨_, rfl⟩
        rw [hb] at q2 ⊢
        clear q4 e2 n1 h1 h2 hb
        go_enter Tryz.func60, Tryz.ntmps60
        go_wp2_with fail
        go_ret
        exact ⟨ret_bool (by simp), rfl⟩
end Go.Proofs.YtcaanpifkcaldaaGreatDoor
